/- Boxes that are made and filled in any order in a region that draws its order: one invariant for any number of them. -/
import Derived.Test.YtmjelgonhpgmbaaGreatInv
import Derived.Deep.WholeRow
set_option linter.unusedSimpArgs false
set_option linter.unusedVariables false
namespace Go.Proofs.YtmjelgonhpgmbaaGreat
open Go Go.RowKit Go.Shelf

/-- A box: the operation that makes it, the one that fills it, its type, what it holds at first, and then. -/
structure BX where
  at1 : Nat
  fl : Nat
  T : TypeId
  zs : Array Value
  as' : Array Value
def bxJ (w0 : World) (bs : List BX) : InvJ := fun L x u => Ext w0 u ∧
  (∀ (i : Nat) (b : BX), bs[i]? = some b → L b.at1 = true → ∃ g, x b.at1 = .pointer (some ⟨g, 0, none⟩) ∧ w0.heap.size ≤ g ∧ u.heap[g]? = some (.cells (if L b.fl = true then b.as' else b.zs) b.T (0, 0))) ∧
  (∀ (i j : Nat) (b c : BX), bs[i]? = some b → bs[j]? = some c → i ≠ j → L b.at1 = true → L c.at1 = true → x b.at1 ≠ x c.at1) ∧
  (∀ (i : Nat) (b : BX), bs[i]? = some b → L b.fl = true → L b.at1 = true)
/-- No operation makes one box and fills another one; each makes one, and fills one. -/
def bxG (l : List (Nat × Nat)) : Bool := (List.range l.length).all fun i => (List.range l.length).all fun j =>
  (l.getD i (0, 0)).1 != (l.getD j (0, 0)).2 && (i == j || ((l.getD i (0, 0)).1 != (l.getD j (0, 0)).1 && (l.getD i (0, 0)).2 != (l.getD j (0, 0)).2))
theorem bxG_spec {bs : List BX} (h : bxG (bs.map fun b => (b.at1, b.fl)) = true) {i j : Nat} {b c : BX} (hb : bs[i]? = some b) (hc : bs[j]? = some c) : b.at1 ≠ c.fl ∧ (i ≠ j → b.at1 ≠ c.at1 ∧ b.fl ≠ c.fl) := by
  obtain ⟨hi, rfl⟩ := List.getElem?_eq_some_iff.1 hb
  obtain ⟨hj, rfl⟩ := List.getElem?_eq_some_iff.1 hc
  unfold bxG at h
  have h1 := List.all_eq_true.1 h i (List.mem_range.2 (by simpa using hi))
  have h2 := List.all_eq_true.1 h1 j (List.mem_range.2 (by simpa using hj))
  have e1 : (bs.map fun b => (b.at1, b.fl)).getD i (0, 0) = (bs[i].at1, bs[i].fl) := by simp [hi]
  have e2 : (bs.map fun b => (b.at1, b.fl)).getD j (0, 0) = (bs[j].at1, bs[j].fl) := by simp [hj]
  rw [e1, e2] at h2
  simp only [Bool.and_eq_true, bne_iff_ne, ne_eq, Bool.or_eq_true, beq_iff_eq] at h2
  exact ⟨h2.1, fun hne => h2.2.resolve_left hne⟩
section
variable {w0 u u' : World} {bs : List BX} {L : Nat → Bool} {x : Nat → Value}
theorem bx_start (w0 : World) (bs : List BX) : bxJ w0 bs (fun _ => false) (fun _ => undef) { w0 with drawn := w0.drawn + 1 } :=
  ⟨Ext.drawn _, fun _ _ _ h => (by cases h), fun _ _ _ _ _ _ _ h => (by cases h), fun _ _ _ h => (by cases h)⟩
theorem bx_lt (h : bxJ w0 bs L x u) {i : Nat} {b : BX} (hb : bs[i]? = some b) (hL : L b.at1 = true) : ∃ g, x b.at1 = .pointer (some ⟨g, 0, none⟩) ∧ g < u.heap.size := by
  obtain ⟨g, h1, h2, h3⟩ := h.2.1 i b hb hL
  exact ⟨g, h1, lt_of_block h3⟩
theorem bx_skip {k : Nat} (hk : bs.all (fun b => b.at1 != k && b.fl != k) = true) (h : bxJ w0 bs L x u) : bxJ w0 bs (updL L k) x u := by
  have hh : ∀ (i : Nat) (b : BX), bs[i]? = some b → updL L k b.at1 = L b.at1 ∧ updL L k b.fl = L b.fl := fun i b hb => by
    have := List.all_eq_true.1 hk b (List.mem_of_getElem? hb)
    simp only [Bool.and_eq_true, bne_iff_ne, ne_eq] at this
    exact ⟨if_neg this.1, if_neg this.2⟩
  refine ⟨h.1, fun i b hb hL => ?_, fun i j b c hb hc hne h1 h2 => ?_, fun i b hb hL => ?_⟩
  · rw [(hh i b hb).1] at hL
    rw [(hh i b hb).2]
    exact h.2.1 i b hb hL
  · rw [(hh i b hb).1] at h1
    rw [(hh j c hc).1] at h2
    exact h.2.2.1 i j b c hb hc hne h1 h2
  · rw [(hh i b hb).2] at hL
    rw [(hh i b hb).1]
    exact h.2.2.2 i b hb hL
theorem bx_ext (h : bxJ w0 bs L x u) (hx : Ext u u') : bxJ w0 bs L x u' :=
  ⟨h.1.trans hx, fun i b hb hL => (h.2.1 i b hb hL).elim fun g hg => ⟨g, hg.1, hg.2.1, hx.block hg.2.2⟩, h.2.2.1, h.2.2.2⟩
theorem bx_make (i : Nat) {b : BX} (hb : bs[i]? = some b) (hG : bxG (bs.map fun b => (b.at1, b.fl)) = true) (h : bxJ w0 bs L x u) (hL : L b.at1 = false) :
    bxJ w0 bs (updL L b.at1) (updX x b.at1 (.pointer (some ⟨u.heap.size, 0, none⟩))) (u.alloc (.cells b.zs b.T)) := by
  have hx : Ext u (u.alloc (.cells b.zs b.T)) := (Ext.refl _).alloc _
  have hfl : ∀ (j : Nat) (c : BX), bs[j]? = some c → updL L b.at1 c.fl = L c.fl := fun j c hc => if_neg (fun e => (bxG_spec hG hb hc).1 e.symm)
  have hmk : ∀ (j : Nat) (c : BX), bs[j]? = some c → j ≠ i → updL L b.at1 c.at1 = L c.at1 ∧ updX x b.at1 (.pointer (some ⟨u.heap.size, 0, none⟩)) c.at1 = x c.at1 := fun j c hc hne => ⟨if_neg ((bxG_spec hG hc hb).2 hne).1, if_neg ((bxG_spec hG hc hb).2 hne).1⟩
  have hself : updX x b.at1 (.pointer (some ⟨u.heap.size, 0, none⟩)) b.at1 = .pointer (some ⟨u.heap.size, 0, none⟩) := if_pos rfl
  have hLf : L b.fl = false := by
    cases q : L b.fl with
    | false => rfl
    | true => rw [h.2.2.2 i b hb q] at hL; cases hL
  have hnew : ∀ (j : Nat) (c : BX), bs[j]? = some c → L c.at1 = true → x c.at1 ≠ .pointer (some ⟨u.heap.size, 0, none⟩) := fun j c hc h1 e => by
    obtain ⟨g, h2, h3⟩ := bx_lt h hc h1
    rw [h2] at e; cases e; omega
  refine ⟨h.1.trans hx, fun j c hc hLc => ?_, fun j k c d hc hd hne h1 h2 => ?_, fun j c hc hLc => ?_⟩
  · by_cases e : j = i
    · subst e
      obtain rfl : c = b := by rw [hb] at hc; exact (Option.some.inj hc).symm
      exact ⟨u.heap.size, hself, h.1.size, by rw [hfl j c hc, hLf]; exact Ext.new (Ext.refl _)⟩
    · rw [(hmk j c hc e).1] at hLc
      rw [(hmk j c hc e).2, hfl j c hc]
      obtain ⟨g, h1, h2, h3⟩ := h.2.1 j c hc hLc
      exact ⟨g, h1, h2, hx.block h3⟩
  · by_cases e : j = i
    · subst e
      obtain rfl : c = b := by rw [hb] at hc; exact (Option.some.inj hc).symm
      rw [(hmk k d hd (Ne.symm hne)).1] at h2
      rw [(hmk k d hd (Ne.symm hne)).2, hself]
      exact fun q => hnew k d hd h2 q.symm
    · rw [(hmk j c hc e).1] at h1
      rw [(hmk j c hc e).2]
      by_cases e2 : k = i
      · subst e2
        obtain rfl : d = b := by rw [hb] at hd; exact (Option.some.inj hd).symm
        rw [hself]
        exact hnew j c hc h1
      · rw [(hmk k d hd e2).1] at h2
        rw [(hmk k d hd e2).2]
        exact h.2.2.1 j k c d hc hd hne h1 h2
  · rw [hfl j c hc] at hLc
    have := h.2.2.2 j c hc hLc
    unfold updL; split <;> first | rfl | exact this
theorem bx_fill (i : Nat) {b : BX} (hb : bs[i]? = some b) (hG : bxG (bs.map fun b => (b.at1, b.fl)) = true) (h : bxJ w0 bs L x u) (hL : L b.at1 = true) {g : Nat} (hg : x b.at1 = .pointer (some ⟨g, 0, none⟩)) (hw : w0.heap.size ≤ g) {old : Array Value} (ho : u.heap[g]? = some (.cells old b.T (0, 0))) :
    bxJ w0 bs (updL L b.fl) x (u.setRow g b.as') := by
  have hmk : ∀ (j : Nat) (c : BX), bs[j]? = some c → updL L b.fl c.at1 = L c.at1 := fun j c hc => if_neg (bxG_spec hG hc hb).1
  have hfl : ∀ (j : Nat) (c : BX), bs[j]? = some c → j ≠ i → updL L b.fl c.fl = L c.fl := fun j c hc hne => if_neg ((bxG_spec hG hc hb).2 hne).2
  refine ⟨Below.trans h.1 ⟨rfl, rfl, rfl, by simp, fun k hk => setRow_other u g k _ (by have := h.1.size; omega)⟩, fun j c hc hLc => ?_, fun j k c d hc hd hne h1 h2 => ?_, fun j c hc hLc => ?_⟩
  · rw [hmk j c hc] at hLc
    obtain ⟨g', h1, h2, h3⟩ := h.2.1 j c hc hLc
    by_cases e : j = i
    · subst e
      obtain rfl : c = b := by rw [hb] at hc; exact (Option.some.inj hc).symm
      rw [hg] at h1
      cases h1
      refine ⟨g, hg, hw, ?_⟩
      rw [show updL L c.fl c.fl = true from if_pos rfl, if_pos rfl]
      exact setRow_heap u g old c.as' c.T (0, 0) ho
    · refine ⟨g', h1, h2, ?_⟩
      have hne : g' ≠ g := fun q => h.2.2.1 j i c b hc hb e hLc hL (by rw [h1, hg, q])
      rw [hfl j c hc e, setRow_other u g g' _ hne]
      exact h3
  · rw [hmk j c hc] at h1
    rw [hmk k d hd] at h2
    exact h.2.2.1 j k c d hc hd hne h1 h2
  · rw [hmk j c hc]
    by_cases e : j = i
    · subst e
      obtain rfl : c = b := by rw [hb] at hc; exact (Option.some.inj hc).symm
      exact hL
    · rw [hfl j c hc e] at hLc
      exact h.2.2.2 j c hc hLc
end
/-- A box that is there already, and is filled by one operation: its block, the operation, its type, what it holds before, and then. -/
structure OX where
  g : Nat
  fl : Nat
  T : TypeId
  zs : Array Value
  as' : Array Value
def oxJ (w0 : World) (bs : List OX) (ks : List (Nat × Obj)) : InvJ := fun L x u => Ext w0 u ∧
  (∀ (i : Nat) (b : OX), bs[i]? = some b → u.heap[b.g]? = some (.cells (if L b.fl = true then b.as' else b.zs) b.T (0, 0))) ∧
  (∀ (i : Nat) (k : Nat × Obj), ks[i]? = some k → u.heap[k.1]? = some k.2)
structure OxG (w0 : World) (bs : List OX) (ks : List (Nat × Obj)) : Prop where
  low : ∀ (i : Nat) (b : OX), bs[i]? = some b → w0.heap.size ≤ b.g
  two : ∀ (i j : Nat) (b c : OX), bs[i]? = some b → bs[j]? = some c → i ≠ j → b.g ≠ c.g ∧ b.fl ≠ c.fl
  off : ∀ (i j : Nat) (b : OX) (k : Nat × Obj), bs[i]? = some b → ks[j]? = some k → b.g ≠ k.1
section
variable {w0 u u' : World} {bs : List OX} {ks : List (Nat × Obj)} {L : Nat → Bool} {x : Nat → Value}
theorem ox_start {W : World} (hx : Ext w0 W) (h1 : ∀ (i : Nat) (b : OX), bs[i]? = some b → W.heap[b.g]? = some (.cells b.zs b.T (0, 0))) (h2 : ∀ (i : Nat) (k : Nat × Obj), ks[i]? = some k → W.heap[k.1]? = some k.2) :
    oxJ w0 bs ks (fun _ => false) (fun _ => undef) { W with drawn := W.drawn + 1 } :=
  ⟨hx.trans (Ext.drawn _), fun i b hb => h1 i b hb, fun i k hk => h2 i k hk⟩
theorem ox_skip {k : Nat} (hk : bs.all (fun b => b.fl != k) = true) (h : oxJ w0 bs ks L x u) : oxJ w0 bs ks (updL L k) x u :=
  ⟨h.1, fun i b hb => by
    have := List.all_eq_true.1 hk b (List.mem_of_getElem? hb)
    simp only [bne_iff_ne, ne_eq] at this
    rw [show updL L k b.fl = L b.fl from if_neg this]
    exact h.2.1 i b hb, h.2.2⟩
theorem ox_ext (h : oxJ w0 bs ks L x u) (hx : Ext u u') : oxJ w0 bs ks L x u' :=
  ⟨h.1.trans hx, fun i b hb => hx.block (h.2.1 i b hb), fun i k hk => hx.block (h.2.2 i k hk)⟩
theorem ox_fill (i : Nat) {b : OX} (hb : bs[i]? = some b) (hG : OxG w0 bs ks) (h : oxJ w0 bs ks L x u) : oxJ w0 bs ks (updL L b.fl) x (u.setRow b.g b.as') := by
  have hw := hG.low i b hb
  refine ⟨Below.trans h.1 ⟨rfl, rfl, rfl, by simp, fun k hk => setRow_other u b.g k _ (by have := h.1.size; omega)⟩, fun j c hc => ?_, fun j k hk => ?_⟩
  · by_cases e : j = i
    · subst e
      obtain rfl : c = b := by rw [hb] at hc; exact (Option.some.inj hc).symm
      rw [show updL L c.fl c.fl = true from if_pos rfl, if_pos rfl]
      exact setRow_heap u c.g _ c.as' c.T (0, 0) (h.2.1 j c hc)
    · have hd := hG.two j i c b hc hb e
      rw [show updL L b.fl c.fl = L c.fl from if_neg hd.2, setRow_other u b.g c.g _ hd.1]
      exact h.2.1 j c hc
  · rw [setRow_other u b.g k.1 _ (Ne.symm (hG.off i j b k hb hk))]
    exact h.2.2 j k hk
end
/-- A store of a whole struct into a block, within a region. -/
theorem gives_store_row {F : Fence} {n : Nat} {R : World → World → Prop} {o : Oper} {a : Act} {w : World} {V : Value → World → Prop} (ty : TypeId) (x y : Operand) (ho : o.op = .store ty x y) {g : Nat} (hx : a.eval x = .pointer (some ⟨g, 0, none⟩)) {t : TypeId} {cells old : Array Value}
    (hy : a.eval y = .agg cells) (hg : w.heap[g]? = some (.cells old t (0, 0))) (hi : (Tryz.prog.info? ty).map (·.size) = some cells.size) (hold : old.size = cells.size) (h1 : cells.all (·.oneCell') = true)
    (h : V undef (w.setRow g cells) ∧ R w (w.setRow g cells)) : gives F n Tryz.prog R o a w V := by
  have hl : (storeVar ty ⟨g, 0, none⟩ (.agg cells)).run Tryz.prog w = .ok () (w.setRow g cells) := run_storeVar_row w _ t ty _ _ hg hi hold h1
  unfold gives
  rw [Oper.semAt_eq _ _ _ (by rw [ho]; intro c h; cases h)]
  unfold execOp
  simp only [ho, hx, hy, Instr.storeAt, Instr.sureAddr, Sem.run_bind, Sem.run_pure, Result.andThen_ok, hl]
  exact h
end Go.Proofs.YtmjelgonhpgmbaaGreat
