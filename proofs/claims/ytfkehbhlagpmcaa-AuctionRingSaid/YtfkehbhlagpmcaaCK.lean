/- The bids that lose only because a buyer is there. -/
import Derived.Test.YtfkehbhlagpmcaaCJ
import Derived.DeepKeys3
set_option linter.unusedSimpArgs false
set_option linter.unusedVariables false
namespace Go.Proofs.Ytfkehbhlagpmcaa
open Go Go.RowKit Go.Shelf
open Au
theorem eq_bd (p q : Bd) (w : World) : (Op.equal 102 (bidV p) (bidV q)).run Try.prog w = .ok (decide (p = q)) w := by
  have he : decide (p = q) = ((p.buyer : Int) == q.buyer && (p.place : Int) == q.place && p.offer == q.offer) := by
    obtain ⟨a, b, c⟩ := p
    obtain ⟨a', b', c'⟩ := q
    by_cases h1 : a = a' <;> by_cases h2 : b = b' <;> by_cases h3 : c = c' <;> simp [h1, h2, h3] <;> omega
  rw [he]
  unfold bidV
  generalize (p.buyer : Int) = a
  generalize (p.place : Int) = b
  generalize (q.buyer : Int) = c
  generalize (q.place : Int) = d
  show (Op.equalIn 10000 102 _ _).run Try.prog w = _
  simp [go_sem]
  by_cases h1 : a = c <;> by_cases h2 : b = d <;> by_cases h3 : p.offer = q.offer <;> simp [h1, h2, h3]
theorem check_int (e : Bool) (n : Nat) (a : Int) (w : World) : (Instr.checkKey e (n + 1) 3 (.int .i64 a)).run Try.prog w = .ok () w := by
  rw [Instr.checkKey]
  simp [go_sem]
theorem check_bd (e : Bool) (p : Bd) (w : World) : (Instr.checkKey e 10000 102 (bidV p)).run Try.prog w = .ok () w := by
  unfold bidV
  show (Instr.checkKey e (9998 + 1 + 1) 102 _).run Try.prog w = _
  rw [Instr.checkKey]
  simp [go_sem, check_int]
/-- A set of bids, as a map. -/
def MapBlk (w : World) (bm : Nat) (m : List Bd) : Prop :=
  ∃ es clock, w.heap[bm]? = some (.map es clock) ∧ es.toList.map (fun e => (e.key, e.val)) = m.map fun b => (bidV b, .bool true)
theorem MapBlk.made (w : World) : MapBlk (w.alloc (.map #[] 0)) w.heap.size [] := ⟨#[], 0, Ext.new (Ext.refl _), rfl⟩
theorem MapBlk.mono {w w' : World} {bm : Nat} {m : List Bd} (h : MapBlk w bm m) (hx : Ext w w') : MapBlk w' bm m := by
  obtain ⟨es, clock, hb, hm⟩ := h; exact ⟨es, clock, hx.block hb, hm⟩
theorem find_asking (p : Bd) (w : World) : ∀ (es : List MapEntry) (m : List Bd) (i : Nat), es.map (fun e => (e.key, e.val)) = m.map (fun b => (bidV b, .bool true)) →
    ∃ r, (Instr.findAsking 102 (bidV p) es i).run Try.prog w = .ok r w ∧ r.map (·.2) = if p ∈ m then some (.bool true) else none
  | [], m, i, h => by
    cases m with
    | nil => exact ⟨none, by simp [Instr.findAsking], rfl⟩
    | cons e m => cases h
  | e :: es, m, i, h => by
    cases m with
    | nil => cases h
    | cons f m =>
      simp only [List.map_cons, List.cons.injEq, Prod.mk.injEq] at h
      obtain ⟨⟨h1, h2⟩, h3⟩ := h
      rw [Instr.findAsking, Sem.run_bind, h1, eq_bd, Result.andThen_ok]
      by_cases hb : p = f
      · refine ⟨some (i, e.val), by simp [hb], ?_⟩
        simp [hb, h2]
      · obtain ⟨r, hr, hf⟩ := find_asking p w es m (i + 1) h3
        refine ⟨r, by simpa [hb] using hr, ?_⟩
        rw [hf]; simp [hb]
theorem find_key (p : Bd) (w : World) (es : List MapEntry) (m : List Bd) (h : es.map (fun e => (e.key, e.val)) = m.map (fun b => (bidV b, .bool true))) :
    ∃ r, (Instr.findKey 102 (bidV p) es).run Try.prog w = .ok r w ∧ r.map (·.2) = if p ∈ m then some (.bool true) else none := by
  cases es with
  | nil =>
    cases m with
    | nil => exact ⟨none, by simp [Instr.findKey, Instr.findNow, go_sem], rfl⟩
    | cons e m => cases h
  | cons e es =>
    obtain ⟨r, hr, hf⟩ := find_asking p w (e :: es) m 0 h
    refine ⟨r, ?_, hf⟩
    rw [← hr]
    have hn : ∀ d, Instr.findNow (.struct d) (bidV p) (e :: es) 0 = none := fun d => by simp [bidV, Instr.findNow, Instr.sameNow]
    simp [Instr.findKey, go_sem, hn]
theorem run_lookup_bd {w : World} {bm : Nat} {m : List Bd} (h : MapBlk w bm m) (p : Bd) :
    (Instr.lookup 117 (.map (some bm)) (bidV p) false).run Try.prog w = .ok (.bool (decide (p ∈ m))) w := by
  obtain ⟨es, clock, hb, hm⟩ := h
  obtain ⟨r, hr, hf⟩ := find_key p w es.toList m hm
  have hg : (getObj bm).run Try.prog w = .ok (.map es clock) w := by simp [getObj, Sem.run, hb]
  unfold Instr.lookup
  simp only [Sem.run_bind, run_underlying Try.underlying117, Result.andThen_ok, Sem.run_pure, hg, check_bd, hr]
  by_cases hp : p ∈ m
  · rw [if_pos hp] at hf
    obtain ⟨i, v, rfl⟩ : ∃ i v, r = some (i, v) := by
      cases r with
      | none => simp at hf
      | some x => exact ⟨x.1, x.2, rfl⟩
    simp at hf
    subst hf
    simp [go_sem, hp]
  · rw [if_neg hp] at hf
    have : r = none := by cases r <;> simp at hf ⊢
    subst this
    simp [go_sem, hp]
theorem run_update_bd {w : World} {bm : Nat} {m : List Bd} (h : MapBlk w bm m) (p : Bd) (hno : p ∉ m) :
    ∃ o, (Instr.mapUpdate 117 (.map (some bm)) (bidV p) (.bool true)).run Try.prog w = .ok () (w.putObj bm o) ∧ MapBlk (w.putObj bm o) bm (m ++ [p]) := by
  obtain ⟨es, clock, hb, hm⟩ := h
  obtain ⟨r, hr, hf⟩ := find_key p w es.toList m hm
  rw [if_neg hno] at hf
  have hrn : r = none := by cases r <;> simp at hf ⊢
  subst hrn
  have hg : (getObj bm).run Try.prog w = .ok (.map es clock) w := by simp [getObj, Sem.run, hb]
  refine ⟨.map (es.push { key := bidV p, val := .bool true, born := clock }) (clock + 1), ?_, _, _, World.putObj_heap_same (lt_of_block hb), ?_⟩
  · unfold Instr.mapUpdate
    simp only [Sem.run_bind, run_underlying Try.underlying117, Result.andThen_ok, Sem.run_pure, hg, check_bd, hr]
    simp [setObj, Sem.run, hb, World.putObj]
  · simp [hm]
theorem PastC.trans {B : Nat} {u v w : World} (h : PastC B u v) (k : PastC B v w) : PastC B u w :=
  ⟨k.os.trans h.os, k.tape.trans h.tape, k.output.trans h.output, Nat.le_trans h.size k.size, fun i o hi ho => k.block i o hi (h.block i o hi ho)⟩
theorem PastC.putMap {B L : Nat} {Y : World} (hL : B ≤ L) {m : List Bd} (hm : MapBlk Y L m) (o : Obj) : PastC B Y (Y.putObj L o) := by
  obtain ⟨es, clock, hr, _⟩ := hm
  exact ⟨rfl, rfl, rfl, by simp, fun k o' hk ho => by
    rw [World.putObj_heap_other (by rintro rfl; rcases hk with hk | hk; omega; rw [hr] at ho; cases ho; cases hk)]; exact ho⟩
theorem PastC.cell {B : Nat} {W W' : World} (h : PastC B W W') {b o : Nat} {v : Value} (hc : W.cell? ⟨b, o, none⟩ = some v) : W'.cell? ⟨b, o, none⟩ = some v := by
  cases hb : W.heap[b]? with
  | none => simp [World.cell?, hb] at hc
  | some ob =>
    cases ob with
    | cells cs t fz =>
      have := h.block b _ (.inr rfl) hb
      simp [World.cell?, hb] at hc
      simp [World.cell?, this, hc]
    | _ => simp [World.cell?, hb] at hc

end Go.Proofs.Ytfkehbhlagpmcaa
