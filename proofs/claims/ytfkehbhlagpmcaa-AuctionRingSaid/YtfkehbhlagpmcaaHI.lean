/- Ranges over functions whose rounds append. -/
import Derived.Test.YtfkehbhlagpmcaaMe
set_option linter.unusedSimpArgs false
set_option linter.unusedVariables false
namespace Go.Proofs.Ytfkehbhlagpmcaa
open Go Go.RowKit Go.Shelf

/-- The boxes of some types lie as they lay. -/
def KeepP (p : TypeId → Prop) (W W' : World) : Prop := ∀ (k : Nat) (cs : Array Value) (t : TypeId), p t → W.heap[k]? = some (.cells cs t (0, 0)) → W'.heap[k]? = some (.cells cs t (0, 0))
section
variable {p : TypeId → Prop}
theorem KeepP.nothing (W W' : World) : KeepP (fun _ => False) W W' := fun _ _ _ h => h.elim
theorem KeepP.refl (W : World) : KeepP p W W := fun _ _ _ _ h => h
theorem KeepP.trans {u v w : World} (h : KeepP p u v) (k : KeepP p v w) : KeepP p u w := fun _ _ _ ht hb => k _ _ _ ht (h _ _ _ ht hb)
theorem KeepP.of_ext {W W' : World} (h : Ext W W') : KeepP p W W' := fun _ _ _ _ hb => h.block hb
theorem KeepP.put {W : World} {L : Nat} {r : Loop} (h : W.heap[L]? = some (.loop r)) (o : Obj) : KeepP p W (W.putObj L o) := fun k cs t _ hb => by
  rw [World.putObj_heap_other (by rintro rfl; rw [h] at hb; cases hb)]; exact hb
theorem KeepP.set {W : World} {g : Nat} {cs : Array Value} {t : TypeId} (h : W.heap[g]? = some (.cells cs t (0, 0))) (h1 : ¬ p t) (o : Nat) (v : Value) : KeepP p W (W.setCell ⟨g, o, none⟩ v) := fun k cs' t' ht hb => by
  rw [set_other (by rintro rfl; rw [h] at hb; cases hb; exact h1 ht)]; exact hb
end
/-- What an iterator does: its rounds leave the boxes of some types be. -/
def IterP (p : TypeId → Prop) (gf : Nat) (fst lb : Array Value) (elems : List (Array Value)) (Foot : World → Prop) : Prop :=
  ∀ (l : Nat) (J Jx : Nat → World → Prop) (W : World), (∀ i W, J i W → Foot W) → (∀ i W W', J i W → Ext W W' → J i W') → (∀ i W W', Jx i W → Ext W W' → Jx i W') →
    (∀ i (h : i < elems.length) W1, J i W1 → YieldAt Fence.wide 0 Try.prog l elems[i] W1 fun e W' =>
      KeepP p W1 W' ∧ ((e = .returned (.bool true) ∧ J (i + 1) W') ∨ (e = .returned (.bool false) ∧ Jx i W'))) →
    J 0 W → Cal gf (fst ++ #[.func (.yield l) #[] #[]] ++ lb) W fun e W' => (∃ v, e = .returned v) ∧ (J elems.length W' ∨ ∃ i, i < elems.length ∧ Jx i W')

/-- Of what lies below B, and of what cells hold, nothing has turned. -/
structure PastC (B : Nat) (W W' : World) : Prop where
  os : W'.os = W.os
  tape : W'.tape = W.tape
  output : W'.output = W.output
  size : W.heap.size ≤ W'.heap.size
  block : ∀ k o, (k < B ∨ o.isCells = true) → W.heap[k]? = some o → W'.heap[k]? = some o
theorem PastC.of_ext {B : Nat} {W W' : World} (h : Ext W W') : PastC B W W' := ⟨h.os, h.tape, h.output, h.size, fun _ _ _ hk => h.block hk⟩
theorem PastC.put {B L : Nat} {Y : World} (hL : B ≤ L) {r : Loop} (hr : Y.heap[L]? = some (.loop r)) (o : Obj) : PastC B Y (Y.putObj L o) :=
  ⟨rfl, rfl, rfl, by simp, fun k o' hk ho => by
    rw [World.putObj_heap_other (by rintro rfl; rcases hk with hk | hk; omega; rw [hr] at ho; cases ho; cases hk)]; exact ho⟩
theorem PastC.past {B : Nat} {W W' : World} (h : PastC B W W') : Past B W W' := ⟨h.os, h.tape, h.output, h.size, fun k o hk ho => h.block k o (.inl hk) ho⟩
theorem PastC.cells {B : Nat} {W W' : World} (h : PastC B W W') {k : Nat} {cs : Array Value} {T : TypeId} {fz : Nat × Nat} (ho : W.heap[k]? = some (.cells cs T fz)) : W'.heap[k]? = some (.cells cs T fz) := h.block _ _ (.inr rfl) ho
theorem Row.pastC {B : Nat} {w w' : World} {T : TypeId} {sz : Nat} {v : Value} {n : Nat} {xs : List Value} (h : Row w T sz v n xs) (hp : PastC B w w') : Row w' T sz v n xs := h.kept fun k o hk ho => hp.block k o (.inr (h.isCells hk ho)) ho
/-- All rounds, behind the record that has been laid at L. -/
theorem rounds_coreC {p : TypeId → Prop} {ps : Array Tmp} {assign body : Code} {tmps : Array Value} {gf fn : Nat} {fst lb : Array Value} {elems : List (Array Value)} {Foot : World → Prop} (hit : IterP p gf fst lb elems Foot)
    (B L D : Nat) (hL : B ≤ L) (rec : LoopState → Option Code → Loop) (hrec : rec = fun st pe => { state := st, pending := pe, fn, tmps, params := ps, assign, body, defers := D })
    (X : World → Prop) (hX : ∀ W W', X W → Past L W W' → X W') (hXk : ∀ W W', X W → KeepsFrom B W W' → X W')
    (I : Nat → World → Prop) (Ix : Code → Nat → World → Prop) (hI : ∀ s W W', I s W → PastC B W W' → I s W') (hIx : ∀ c s W W', Ix c s W → PastC B W W' → Ix c s W') (hFoot : ∀ i W, I i W → Foot W)
    (hps : ∀ (i : Nat) (h : i < elems.length), elems[i].size = ps.size)
    (fr : Nat → Nat → Act) (bx : Nat → Array Value) (T : TypeId)
    (hassign : ∀ (l i : Nat) (h : i < elems.length) (W : World) (K' : Act → World → Prop), K' (fr i W.heap.size) (W.alloc (.cells (bx i) T)) →
      assign.wpIn (Fence.wide.inRound l) 0 Try.prog (Exit.then K' (fun _ _ _ => False)) { tmps := (ps.zip elems[i]).foldl (fun t (p, v) => t.setIfInBounds p v) tmps, defers := [] } W)
    (hbody : ∀ (l i Bx : Nat) (W : World), i < elems.length → B ≤ l → (∃ r, W.heap[l]? = some (.loop r)) → I i W → B ≤ Bx → W.heap[Bx]? = some (.cells (bx i) T (0, 0)) →
      body.wpIn (Fence.wide.inRound l) 0 Try.prog (fun e a W' => roundEnd B I Ix i W e a W' ∧ KeepP p W W') (fr i Bx) W)
    (W1 : World) (hB : B ≤ W1.heap.size) (h0 : I 0 W1) (hX0 : X W1) (hL1 : W1.heap[L]? = some (.loop (rec .ready none))) :
    Cal gf (fst ++ #[.func (.yield L) #[] #[]] ++ lb) W1 fun e W2 => (∃ v, e = .returned v) ∧
      ((I elems.length W2 ∧ X W2 ∧ W2.heap[L]? = some (.loop (rec .ready none))) ∨ ∃ i c, i < elems.length ∧ Ix c i W2 ∧ X W2 ∧ W2.heap[L]? = some (.loop (rec .done (some c)))) := by
  refine (hit L (fun i W => I i W ∧ B ≤ W.heap.size ∧ X W ∧ W.heap[L]? = some (.loop (rec .ready none)))
    (fun i W => ∃ c, Ix c i W ∧ X W ∧ W.heap[L]? = some (.loop (rec .done (some c)))) W1 (fun i W h => hFoot i W h.1)
    (fun i W W' h hx => ⟨hI _ _ _ h.1 (PastC.of_ext hx), Nat.le_trans h.2.1 hx.size, hX _ _ h.2.2.1 (Past.of_ext hx), hx.block h.2.2.2⟩)
    (fun i W W' h hx => by obtain ⟨c, h1, h2, h3⟩ := h; exact ⟨c, hIx _ _ _ _ h1 (PastC.of_ext hx), hX _ _ h2 (Past.of_ext hx), hx.block h3⟩) ?_ ⟨h0, hB, hX0, hL1⟩).mono ?_
  · rintro i hi W ⟨hIW, hBW, hXW, hl⟩
    have hy := run_yield (P := Try.prog) (args := elems[i]) hl (by rw [hrec]; exact hps i hi)
    rw [hrec] at hy
    refine ⟨fn, _, assign, body, hy, roundIn_of_wpIn trivial (hassign _ i hi W _ ?_)⟩
    clear hy
    -- behind the box, the record is made busy
    have hxa : Ext W (W.alloc (.cells (bx i) T)) := (Ext.refl W).alloc _
    have hla := hxa.block hl
    have hlt := lt_of_block hla
    have hbx : (W.alloc (.cells (bx i) T)).heap[W.heap.size]? = some (.cells (bx i) T (0, 0)) := Ext.new (Ext.refl _)
    have hne : W.heap.size ≠ L := fun e => by have := lt_of_block hl; omega
    refine ⟨_, run_beginRound hla (by rw [hrec]), ?_⟩
    have hpast : ∀ (Y : World) (o : Obj), Past L Y (Y.putObj L o) := fun Y o => ⟨rfl, rfl, rfl, by simp, fun k o' hk ho => by rw [World.putObj_heap_other (by omega)]; exact ho⟩
    have hpastB : ∀ (Y : World) (o : Obj) (r : Loop), Y.heap[L]? = some (.loop r) → PastC B Y (Y.putObj L o) := fun Y o r hr => PastC.put hL hr o
    have hl2 : ((W.alloc (.cells (bx i) T)).putObj L (.loop { rec .ready none with state := .busy })).heap[L]? = some (.loop { rec .ready none with state := .busy }) := World.putObj_heap_same hlt
    refine wpIn_mono (hbody L i W.heap.size _ hi hL ⟨_, hl2⟩ (hI _ _ _ (hI _ _ _ hIW (PastC.of_ext hxa)) (hpastB _ _ _ hla)) hBW (by rw [World.putObj_heap_other hne]; exact hbx)) ?_
    have hX2 : X ((W.alloc (.cells (bx i) T)).putObj L (.loop { rec .ready none with state := .busy })) := hX _ _ (hX _ _ hXW (Past.of_ext hxa)) (hpast _ _)
    have hB2 : B ≤ ((W.alloc (.cells (bx i) T)).putObj L (.loop { rec .ready none with state := .busy })).heap.size := by simp; omega
    have fin : ∀ (jump : Option Code) (W3 : World), KeepsFrom B ((W.alloc (.cells (bx i) T)).putObj L (.loop { rec .ready none with state := .busy })) W3 →
        (Instr.endRound L jump).run Try.prog W3 = .ok (.bool jump.isNone) (W3.putObj L (.loop (rec (if jump.isNone then .ready else .done) jump))) ∧
        X (W3.putObj L (.loop (rec (if jump.isNone then .ready else .done) jump))) ∧
        (W3.putObj L (.loop (rec (if jump.isNone then .ready else .done) jump))).heap[L]? = some (.loop (rec (if jump.isNone then .ready else .done) jump)) ∧ B ≤ W3.heap.size ∧ KeepP p W3 (W3.putObj L (.loop (rec (if jump.isNone then .ready else .done) jump))) ∧ PastC B W3 (W3.putObj L (.loop (rec (if jump.isNone then .ready else .done) jump))) := fun jump W3 hk3 => by
      have hl3 := hk3.same _ _ hL hl2 rfl
      have := run_endRound (P := Try.prog) jump hl3
      rw [hrec] at this ⊢
      exact ⟨this, hX _ _ (hXk _ _ hX2 hk3) (hpast _ _), World.putObj_heap_same (lt_of_block hl3), Nat.le_trans hB2 hk3.size, KeepP.put hl3 _, hpastB _ _ _ hl3⟩
    have hk0 : KeepP p W ((W.alloc (.cells (bx i) T)).putObj L (.loop { rec .ready none with state := .busy })) := (KeepP.of_ext hxa).trans (KeepP.put hla _)
    rintro e a3 W3 ⟨hp, hkt⟩
    cases e with
    | normal =>
      obtain ⟨hr, hx3, hl4, hb3, hk4, hpc⟩ := fin none W3 hp.1
      exact ⟨_, _, hr, hk0.trans (hkt.trans hk4), .inl ⟨rfl, hI _ _ _ hp.2 hpc, by simp; omega, hx3, hl4⟩⟩
    | ret =>
      obtain ⟨hr, hx3, hl4, hb3, hk4, hpc⟩ := fin (some .ret) W3 hp.1
      exact ⟨_, _, hr, hk0.trans (hkt.trans hk4), .inr ⟨rfl, .ret, hIx _ _ _ _ hp.2 hpc, hx3, hl4⟩⟩
    | exit id =>
      obtain ⟨hr, hx3, hl4, hb3, hk4, hpc⟩ := fin (some (.exit id)) W3 hp.1
      exact ⟨_, _, hr, hk0.trans (hkt.trans hk4), .inr ⟨rfl, .exit id, hIx _ _ _ _ hp.2 hpc, hx3, hl4⟩⟩
    | goto t =>
      obtain ⟨hr, hx3, hl4, hb3, hk4, hpc⟩ := fin (some (.goto t)) W3 hp.1
      exact ⟨_, _, hr, hk0.trans (hkt.trans hk4), .inr ⟨rfl, .goto t, hIx _ _ _ _ hp.2 hpc, hx3, hl4⟩⟩
    | panic ch => exact hp.elim
    | outgrown => exact hp.elim
  · rintro e W2 ⟨hv, h⟩
    refine ⟨hv, ?_⟩
    rcases h with ⟨h1, _, h2, h3⟩ | ⟨i, hi, c, h1, h2, h3⟩
    · exact .inl ⟨h1, h2, h3⟩
    · exact .inr ⟨i, c, hi, h1, h2, h3⟩


section
variable {g : Operand} {ps : Array Tmp} {assign body : Code} {Q : Exit → Act → World → Prop} {a : Act} {w : World} {gf : Nat} {fst lb : Array Value} {elems : List (Array Value)} {Foot : World → Prop} {p : TypeId → Prop}

/-- A RANGE OVER A FUNCTION, one of whose loop variables lies in a box of its own. -/
theorem range_boxedC (hg : a.eval g = .func (.func gf) fst lb) (eg : ∀ args w, (callFunc gf args).run Try.prog w = .ok (.enter gf args) w) (hit : IterP p gf fst lb elems Foot)
    (I : Nat → World → Prop) (Ix : Code → Nat → World → Prop) (hI : ∀ s W W', I s W → PastC w.heap.size W W' → I s W') (hIx : ∀ c s W W', Ix c s W → PastC w.heap.size W W' → Ix c s W') (hFoot : ∀ i W, I i W → Foot W)
    (hps : ∀ (i : Nat) (h : i < elems.length), elems[i].size = ps.size) (h0 : I 0 w)
    (fr : Nat → Nat → Act) (bx : Nat → Array Value) (T : TypeId)
    (hassign : ∀ (l i : Nat) (h : i < elems.length) (W : World) (K' : Act → World → Prop), K' (fr i W.heap.size) (W.alloc (.cells (bx i) T)) →
      assign.wpIn (Fence.wide.inRound l) 0 Try.prog (Exit.then K' (fun _ _ _ => False)) { tmps := (ps.zip elems[i]).foldl (fun t (p, v) => t.setIfInBounds p v) a.tmps, defers := [] } W)
    (hbody : ∀ (l i Bx : Nat) (W : World), i < elems.length → w.heap.size ≤ l → (∃ r, W.heap[l]? = some (.loop r)) → I i W → w.heap.size ≤ Bx → W.heap[Bx]? = some (.cells (bx i) T (0, 0)) →
      body.wpIn (Fence.wide.inRound l) 0 Try.prog (fun e a W' => roundEnd w.heap.size I Ix i W e a W' ∧ KeepP p W W') (fr i Bx) W)
    (hdone : ∀ (D : Nat) (W : World), w.heap.size ≤ D → I elems.length W → W.heap[D]? = some (.deferred (some [])) → Q .normal { a with defers := { target := .collected D, args := #[] } :: a.defers } W)
    (hstop : ∀ (D i : Nat) (c : Code) (W : World), w.heap.size ≤ D → i < elems.length → Ix c i W → W.heap[D]? = some (.deferred (some [])) → c.wpIn Fence.wide 0 Try.prog Q { a with defers := { target := .collected D, args := #[] } :: a.defers } W) :
    (Code.rangeFunc g ps assign body).wpIn Fence.wide 0 Try.prog Q a w := by
  refine wpIn_rangeFunc fun fn _ => ?_
  obtain ⟨rec, hrec⟩ : ∃ rec : LoopState → Option Code → Loop, rec = fun st pe => { state := st, pending := pe, fn, tmps := a.tmps, params := ps, assign, body, defers := w.heap.size } := ⟨_, rfl⟩
  have hx1 : Ext w (w.alloc (.deferred (some []))) := (Ext.refl w).alloc _
  have hx2 : Ext w ((w.alloc (.deferred (some []))).alloc (.loop (rec .ready none))) := hx1.alloc _
  have hL1 : ((w.alloc (.deferred (some []))).alloc (.loop (rec .ready none))).heap[w.heap.size + 1]? = some (.loop (rec .ready none)) := by
    have := World.alloc_heap_new (w.alloc (.deferred (some []))) (.loop (rec .ready none)); rwa [World.size_alloc] at this
  have hcore := rounds_coreC (fn := fn) (tmps := a.tmps) hit w.heap.size (w.heap.size + 1) w.heap.size (by omega) rec hrec (fun W => W.heap[w.heap.size]? = some (.deferred (some [])))
    (fun W W' h hp => hp.block _ _ (by omega) h) (fun W W' h hk => hk.same _ _ (Nat.le_refl _) h rfl) I Ix hI hIx hFoot hps fr bx T hassign hbody
    ((w.alloc (.deferred (some []))).alloc (.loop (rec .ready none))) hx2.size (hI _ _ _ h0 (PastC.of_ext hx2)) two_new hL1
  refine ⟨w.heap.size + 1, [{ target := .collected w.heap.size, args := #[] }], (w.alloc (.deferred (some []))).alloc (.loop (rec .ready none)), { target := .fn (.func gf) lb, args := fst ++ #[.func (.yield (w.heap.size + 1)) #[] #[]] },
    (w.alloc (.deferred (some []))).alloc (.loop (rec .ready none)), gf, fst ++ #[.func (.yield (w.heap.size + 1)) #[] #[]] ++ lb, (w.alloc (.deferred (some []))).alloc (.loop (rec .ready none)), ?_, ?_, fun f' _ => trivial, ?_, fun h => (by cases h), ?_⟩
  · rw [hrec]; exact run_enterLoop_outer _ _ _ _ _
  · simp only [resolve, hg]
    simp [go_sem]
  · simp [invoke, go_sem, eg]
  · refine hcore.mono ?_
    rintro e W2 ⟨⟨v, rfl⟩, h⟩
    have hput : ∀ (Y : World) (o : Obj) (r : Loop), Y.heap[w.heap.size + 1]? = some (.loop r) → PastC w.heap.size Y (Y.putObj (w.heap.size + 1) o) := fun Y o r hr => PastC.put (by omega) hr o
    rcases h with ⟨h1, h2, h3⟩ | ⟨i, c, hi, h1, h2, h3⟩
    · exact ⟨none, _, by have := run_endLoop (P := Try.prog) h3 (by rw [hrec]; simp); rw [hrec] at this; exact this, hdone _ _ (Nat.le_refl _) (hI _ _ _ h1 (hput _ _ _ h3)) ((World.putObj_heap_other (by omega)).trans h2)⟩
    · exact ⟨some c, _, by have := run_endLoop (P := Try.prog) h3 (by rw [hrec]; simp); rw [hrec] at this; exact this, hstop _ i c _ (Nat.le_refl _) hi (hIx _ _ _ _ h1 (hput _ _ _ h3)) ((World.putObj_heap_other (by omega)).trans h2)⟩

end

end Go.Proofs.Ytfkehbhlagpmcaa
