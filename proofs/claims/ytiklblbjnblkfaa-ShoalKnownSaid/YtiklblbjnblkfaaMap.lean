/- The map from places to cells. -/
import Derived.Test.YtiklblbjnblkfaaBase
import Derived.DeepKeys3
set_option linter.unusedSimpArgs false
set_option linter.unusedVariables false
namespace Go.Proofs.Ytiklblbjnblkfaa
open Go Go.RowKit Go.Shelf

def plcV (p : Int × Int) : Value := .agg #[.int .i64 p.1, .int .i64 p.2]
theorem eq_place (p q : Int × Int) (w : World) : (Op.equal 81 (plcV p) (plcV q)).run Try.prog w = .ok (p.1 == q.1 && p.2 == q.2) w := by
  unfold plcV
  show (Op.equalIn 10000 81 _ _).run Try.prog w = _
  simp [go_sem]
  by_cases h1 : p.1 = q.1 <;> by_cases h2 : p.2 = q.2 <;> simp [h1, h2]
theorem check_int (e : Bool) (n : Nat) (a : Int) (w : World) : (Instr.checkKey e (n + 1) 3 (.int .i64 a)).run Try.prog w = .ok () w := by
  rw [Instr.checkKey]
  simp [go_sem]
theorem check_place (e : Bool) (p : Int × Int) (w : World) : (Instr.checkKey e 10000 81 (plcV p)).run Try.prog w = .ok () w := by
  unfold plcV
  show (Instr.checkKey e (9998 + 1 + 1) 81 _).run Try.prog w = _
  rw [Instr.checkKey]
  simp [go_sem, check_int]

/-- A map as the list of its entries. -/
abbrev PMap := List ((Int × Int) × Int)
def PMap.find (m : PMap) (p : Int × Int) : Option Int := (List.find? (fun e => p.1 == e.1.1 && p.2 == e.1.2) m).map (·.2)
def MapBlk (w : World) (bm : Nat) (m : PMap) : Prop :=
  ∃ es clock, w.heap[bm]? = some (.map es clock) ∧ es.toList.map (fun e => (e.key, e.val)) = m.map fun e => (plcV e.1, .int .i64 e.2)

theorem find_asking (p : Int × Int) (w : World) : ∀ (es : List MapEntry) (m : PMap) (i : Nat), es.map (fun e => (e.key, e.val)) = m.map (fun e => (plcV e.1, .int .i64 e.2)) →
    ∃ r, (Instr.findAsking 81 (plcV p) es i).run Try.prog w = .ok r w ∧ r.map (·.2) = (m.find p).map (Value.int .i64)
  | [], m, i, h => by
    cases m with
    | nil => exact ⟨none, by simp [Instr.findAsking], rfl⟩
    | cons e m => cases h
  | e :: es, m, i, h => by
    cases m with
    | nil => cases h
    | cons f m =>
      simp only [List.map_cons, List.cons.injEq, Prod.mk.injEq] at h
      obtain ⟨⟨h1, h2⟩, h3⟩ := h
      rw [Instr.findAsking, Sem.run_bind, h1, eq_place, Result.andThen_ok]
      cases hb : (p.1 == f.1.1 && p.2 == f.1.2) with
      | true =>
        refine ⟨some (i, e.val), by simp, ?_⟩
        simp [PMap.find, hb, h2]
      | false =>
        obtain ⟨r, hr, hf⟩ := find_asking p w es m (i + 1) h3
        refine ⟨r, by simpa using hr, ?_⟩
        rw [hf]; simp [PMap.find, hb]
theorem find_key (p : Int × Int) (w : World) (es : List MapEntry) (m : PMap) (h : es.map (fun e => (e.key, e.val)) = m.map (fun e => (plcV e.1, .int .i64 e.2))) :
    ∃ r, (Instr.findKey 81 (plcV p) es).run Try.prog w = .ok r w ∧ r.map (·.2) = (m.find p).map (Value.int .i64) := by
  cases es with
  | nil =>
    cases m with
    | nil => exact ⟨none, by simp [Instr.findKey, Instr.findNow, go_sem], rfl⟩
    | cons e m => cases h
  | cons e es =>
    obtain ⟨r, hr, hf⟩ := find_asking p w (e :: es) m 0 h
    refine ⟨r, ?_, hf⟩
    rw [← hr]
    have hn : ∀ d, Instr.findNow (.struct d) (plcV p) (e :: es) 0 = none := fun d => by simp [Instr.findNow, Instr.sameNow]
    simp [Instr.findKey, go_sem, hn]

theorem run_lookup_place {w : World} {bm : Nat} {m : PMap} (h : MapBlk w bm m) (p : Int × Int) :
    (Instr.lookup 110 (.map (some bm)) (plcV p) true).run Try.prog w = .ok (.tuple #[.int .i64 ((m.find p).getD 0), .bool (m.find p).isSome]) w := by
  obtain ⟨es, clock, hb, hm⟩ := h
  obtain ⟨r, hr, hf⟩ := find_key p w es.toList m hm
  have hg : (getObj bm).run Try.prog w = .ok (.map es clock) w := by simp [getObj, Sem.run, hb]
  unfold Instr.lookup
  simp only [Sem.run_bind, run_underlying Try.underlying110, Result.andThen_ok, Sem.run_pure, hg, check_place, hr]
  cases hfind : m.find p with
  | none =>
    rw [hfind] at hf
    have : r = none := by cases r <;> simp at hf ⊢
    subst this
    simp [go_sem]
  | some c =>
    rw [hfind] at hf
    obtain ⟨i, v⟩ : ∃ i v, r = some (i, v) := by
      cases r with
      | none => simp at hf
      | some x => exact ⟨x.1, x.2, rfl⟩
    obtain ⟨v, rfl⟩ := v
    simp at hf
    subst hf
    simp [go_sem]

theorem run_update_place {w : World} {bm : Nat} {m : PMap} (h : MapBlk w bm m) (p : Int × Int) (c : Int) (hno : m.find p = none) :
    ∃ o, (Instr.mapUpdate 110 (.map (some bm)) (plcV p) (.int .i64 c)).run Try.prog w = .ok () (w.putObj bm o) ∧ MapBlk (w.putObj bm o) bm (m ++ [(p, c)]) := by
  obtain ⟨es, clock, hb, hm⟩ := h
  obtain ⟨r, hr, hf⟩ := find_key p w es.toList m hm
  rw [hno] at hf
  have hrn : r = none := by cases r <;> simp at hf ⊢
  subst hrn
  have hg : (getObj bm).run Try.prog w = .ok (.map es clock) w := by simp [getObj, Sem.run, hb]
  refine ⟨.map (es.push { key := plcV p, val := .int .i64 c, born := clock }) (clock + 1), ?_, _, _, World.putObj_heap_same (lt_of_block hb), ?_⟩
  · unfold Instr.mapUpdate
    simp only [Sem.run_bind, run_underlying Try.underlying110, Result.andThen_ok, Sem.run_pure, hg, check_place, hr]
    simp [setObj, Sem.run, hb, World.putObj]
  · simp [hm]
end Go.Proofs.Ytiklblbjnblkfaa
