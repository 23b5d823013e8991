/- Ranges over functions: the laws of the library's, at the fence that lets all in, with what this program asks. -/
import Derived.Test.YtfkehbhlagpmcaaBase
set_option linter.unusedSimpArgs false
set_option linter.unusedVariables false
namespace Go.Proofs.Ytfkehbhlagpmcaa
open Go Go.RowKit Go.Shelf

section
variable {F : Fence} {P : Program}
theorem room_none (hn : F.depth = none) (k : Nat) : F.room k := fun d h => by rw [hn] at h; cases h
theorem wpIn_n {n m : Nat} (hn : F.depth = none) {c : Code} {Q : Exit → Act → World → Prop} {a : Act} {w : World} (h : c.wpIn F n P Q a w) : c.wpIn F m P Q a w :=
  fun b k cs hro hb _ => h b k cs hro hb (room_none hn _)
theorem callsIn_n {n m : Nat} (hn : F.depth = none) {f : FuncId} {args : Array Value} {w : World} {R : Ending → World → Prop} (h : CallsIn F n P f args w R) : CallsIn F m P f args w R :=
  ⟨h.1, fun cs _ => h.2 cs (room_none hn _)⟩
theorem roundIn_n {n m : Nat} (hn : F.depth = none) {l : Nat} {f : FuncId} {tmps : Array Value} {assign body : Code} {w : World} {R : Ending → World → Prop}
    (h : RoundIn F n P l f tmps assign body w R) : RoundIn F m P l f tmps assign body w R := ⟨h.1, fun c cs _ => h.2 c cs (room_none hn _)⟩
theorem seq_n {α : Type} {n m : Nat} (hn : F.depth = none) {g : Nat} {lb : Array Value} {encs : α → Array Value} {Kp : World → World → Prop} {S Sp : List α → Prop} {N : Nat} {w : World}
    (h : SeqStopsK F n P g lb encs Kp S Sp N w) : SeqStopsK F m P g lb encs Kp S Sp N w := fun l J Jx W hW hJ hJx hY h0 =>
  callsIn_n hn (h l J Jx W hW hJ hJx (fun pre x W1 hj hl => by
    obtain ⟨fn, tmps, assign, body, hy, hR⟩ := hY pre x W1 hj hl
    exact ⟨fn, tmps, assign, body, hy, roundIn_n hn hR⟩) h0)
end

/-- Of what lies below B nothing has turned. -/
structure Past (B : Nat) (W W' : World) : Prop where
  os : W'.os = W.os
  tape : W'.tape = W.tape
  output : W'.output = W.output
  size : W.heap.size ≤ W'.heap.size
  block : ∀ k o, k < B → W.heap[k]? = some o → W'.heap[k]? = some o
theorem Past.of_ext {B : Nat} {W W' : World} (h : Ext W W') : Past B W W' := ⟨h.os, h.tape, h.output, h.size, fun _ _ _ hk => h.block hk⟩
theorem Past.below {B n : Nat} {w W W' : World} (h : Past B W W') (hb : Below n w W) (hn : n ≤ B) (hn' : n ≤ w.heap.size) : Below n w W' :=
  hb.trans ⟨h.os, h.tape, h.output, h.size, fun k hk => by
    have hlt : k < W.heap.size := by have := hb.size; omega
    obtain ⟨o, ho⟩ : ∃ o, W.heap[k]? = some o := ⟨W.heap[k], by simp [hlt]⟩
    rw [ho]; exact h.block k o (by omega) ho⟩


/-- WHAT AN ITERATOR DOES: it calls its round with each of its elements, one after the other, till a round says 'no more'; it only adds to the world itself. -/
def Iter (gf : Nat) (fst lb : Array Value) (elems : List (Array Value)) (Foot : World → Prop) : Prop :=
  ∀ (l : Nat) (J Jx : Nat → World → Prop) (W : World), (∀ i W, J i W → Foot W) → (∀ i W W', J i W → Ext W W' → J i W') → (∀ i W W', Jx i W → Ext W W' → Jx i W') →
    (∀ i (h : i < elems.length) W1, J i W1 → YieldAt Fence.wide 0 Try.prog l elems[i] W1 fun e W' =>
      (e = .returned (.bool true) ∧ J (i + 1) W') ∨ (e = .returned (.bool false) ∧ Jx i W')) →
    J 0 W → Cal gf (fst ++ #[.func (.yield l) #[] #[]] ++ lb) W fun e W' => (∃ v, e = .returned v) ∧ (J elems.length W' ∨ ∃ i, i < elems.length ∧ Jx i W')

/-- How a round's body may be left: what is not cells, from block B on, lies as it lay. -/
def roundEnd (B : Nat) (I : Nat → World → Prop) (Ix : Code → Nat → World → Prop) (i : Nat) (W : World) : Exit → Act → World → Prop
  | .normal, _, W' => KeepsFrom B W W' ∧ I (i + 1) W'
  | .ret, _, W' => KeepsFrom B W W' ∧ Ix .ret i W'
  | .exit id, _, W' => KeepsFrom B W W' ∧ Ix (.exit id) i W'
  | .goto t, _, W' => KeepsFrom B W W' ∧ Ix (.goto t) i W'
  | .panic _, _, _ => False
  | .outgrown, _, _ => False

/-- All rounds, behind the record that has been laid at L. -/
theorem rounds_core {ps : Array Tmp} {assign body : Code} {tmps : Array Value} {gf fn : Nat} {fst lb : Array Value} {elems : List (Array Value)} {Foot : World → Prop} (hit : Iter gf fst lb elems Foot)
    (B L D : Nat) (hL : B ≤ L) (rec : LoopState → Option Code → Loop) (hrec : rec = fun st pe => { state := st, pending := pe, fn, tmps, params := ps, assign, body, defers := D })
    (X : World → Prop) (hX : ∀ W W', X W → Past L W W' → X W') (hXk : ∀ W W', X W → KeepsFrom B W W' → X W')
    (I : Nat → World → Prop) (Ix : Code → Nat → World → Prop) (hI : ∀ s W W', I s W → Past B W W' → I s W') (hIx : ∀ c s W W', Ix c s W → Past B W W' → Ix c s W') (hFoot : ∀ i W, I i W → Foot W)
    (hps : ∀ (i : Nat) (h : i < elems.length), elems[i].size = ps.size)
    (fr : Nat → Nat → Act) (bx : Nat → Array Value) (T : TypeId)
    (hassign : ∀ (l i : Nat) (h : i < elems.length) (W : World) (K' : Act → World → Prop), K' (fr i W.heap.size) (W.alloc (.cells (bx i) T)) →
      assign.wpIn (Fence.wide.inRound l) 0 Try.prog (Exit.then K' (fun _ _ _ => False)) { tmps := (ps.zip elems[i]).foldl (fun t (p, v) => t.setIfInBounds p v) tmps, defers := [] } W)
    (hbody : ∀ (l i Bx : Nat) (W : World), i < elems.length → B ≤ l → (∃ r, W.heap[l]? = some (.loop r)) → I i W → B ≤ Bx → W.heap[Bx]? = some (.cells (bx i) T (0, 0)) →
      body.wpIn (Fence.wide.inRound l) 0 Try.prog (roundEnd B I Ix i W) (fr i Bx) W)
    (W1 : World) (hB : B ≤ W1.heap.size) (h0 : I 0 W1) (hX0 : X W1) (hL1 : W1.heap[L]? = some (.loop (rec .ready none))) :
    Cal gf (fst ++ #[.func (.yield L) #[] #[]] ++ lb) W1 fun e W2 => (∃ v, e = .returned v) ∧
      ((I elems.length W2 ∧ X W2 ∧ W2.heap[L]? = some (.loop (rec .ready none))) ∨ ∃ i c, i < elems.length ∧ Ix c i W2 ∧ X W2 ∧ W2.heap[L]? = some (.loop (rec .done (some c)))) := by
  refine (hit L (fun i W => I i W ∧ B ≤ W.heap.size ∧ X W ∧ W.heap[L]? = some (.loop (rec .ready none)))
    (fun i W => ∃ c, Ix c i W ∧ X W ∧ W.heap[L]? = some (.loop (rec .done (some c)))) W1 (fun i W h => hFoot i W h.1)
    (fun i W W' h hx => ⟨hI _ _ _ h.1 (Past.of_ext hx), Nat.le_trans h.2.1 hx.size, hX _ _ h.2.2.1 (Past.of_ext hx), hx.block h.2.2.2⟩)
    (fun i W W' h hx => by obtain ⟨c, h1, h2, h3⟩ := h; exact ⟨c, hIx _ _ _ _ h1 (Past.of_ext hx), hX _ _ h2 (Past.of_ext hx), hx.block h3⟩) ?_ ⟨h0, hB, hX0, hL1⟩).mono ?_
  · rintro i hi W ⟨hIW, hBW, hXW, hl⟩
    have hy := run_yield (P := Try.prog) (args := elems[i]) hl (by rw [hrec]; exact hps i hi)
    rw [hrec] at hy
    refine ⟨fn, _, assign, body, hy, roundIn_of_wpIn trivial (hassign _ i hi W _ ?_)⟩
    clear hy
    -- behind the box, the record is made busy
    have hxa : Ext W (W.alloc (.cells (bx i) T)) := (Ext.refl W).alloc _
    have hla := hxa.block hl
    have hlt := lt_of_block hla
    have hbx : (W.alloc (.cells (bx i) T)).heap[W.heap.size]? = some (.cells (bx i) T (0, 0)) := Ext.new (Ext.refl _)
    have hne : W.heap.size ≠ L := fun e => by have := lt_of_block hl; omega
    refine ⟨_, run_beginRound hla (by rw [hrec]), ?_⟩
    have hpast : ∀ (Y : World) (o : Obj), Past L Y (Y.putObj L o) := fun Y o => ⟨rfl, rfl, rfl, by simp, fun k o' hk ho => by rw [World.putObj_heap_other (by omega)]; exact ho⟩
    have hpastB : ∀ (Y : World) (o : Obj), Past B Y (Y.putObj L o) := fun Y o => ⟨rfl, rfl, rfl, by simp, fun k o' hk ho => by rw [World.putObj_heap_other (by omega)]; exact ho⟩
    have hl2 : ((W.alloc (.cells (bx i) T)).putObj L (.loop { rec .ready none with state := .busy })).heap[L]? = some (.loop { rec .ready none with state := .busy }) := World.putObj_heap_same hlt
    refine wpIn_mono (hbody L i W.heap.size _ hi hL ⟨_, hl2⟩ (hI _ _ _ (hI _ _ _ hIW (Past.of_ext hxa)) (hpastB _ _)) hBW (by rw [World.putObj_heap_other hne]; exact hbx)) ?_
    have hX2 : X ((W.alloc (.cells (bx i) T)).putObj L (.loop { rec .ready none with state := .busy })) := hX _ _ (hX _ _ hXW (Past.of_ext hxa)) (hpast _ _)
    have hB2 : B ≤ ((W.alloc (.cells (bx i) T)).putObj L (.loop { rec .ready none with state := .busy })).heap.size := by simp; omega
    have fin : ∀ (jump : Option Code) (W3 : World), KeepsFrom B ((W.alloc (.cells (bx i) T)).putObj L (.loop { rec .ready none with state := .busy })) W3 →
        (Instr.endRound L jump).run Try.prog W3 = .ok (.bool jump.isNone) (W3.putObj L (.loop (rec (if jump.isNone then .ready else .done) jump))) ∧
        X (W3.putObj L (.loop (rec (if jump.isNone then .ready else .done) jump))) ∧
        (W3.putObj L (.loop (rec (if jump.isNone then .ready else .done) jump))).heap[L]? = some (.loop (rec (if jump.isNone then .ready else .done) jump)) ∧ B ≤ W3.heap.size := fun jump W3 hk3 => by
      have hl3 := hk3.same _ _ hL hl2 rfl
      have := run_endRound (P := Try.prog) jump hl3
      rw [hrec] at this ⊢
      exact ⟨this, hX _ _ (hXk _ _ hX2 hk3) (hpast _ _), World.putObj_heap_same (lt_of_block hl3), Nat.le_trans hB2 hk3.size⟩
    rintro e a3 W3 hp
    cases e with
    | normal =>
      obtain ⟨hr, hx3, hl4, hb3⟩ := fin none W3 hp.1
      exact ⟨_, _, hr, .inl ⟨rfl, hI _ _ _ hp.2 (hpastB _ _), by simp; omega, hx3, hl4⟩⟩
    | ret =>
      obtain ⟨hr, hx3, hl4, hb3⟩ := fin (some .ret) W3 hp.1
      exact ⟨_, _, hr, .inr ⟨rfl, .ret, hIx _ _ _ _ hp.2 (hpastB _ _), hx3, hl4⟩⟩
    | exit id =>
      obtain ⟨hr, hx3, hl4, hb3⟩ := fin (some (.exit id)) W3 hp.1
      exact ⟨_, _, hr, .inr ⟨rfl, .exit id, hIx _ _ _ _ hp.2 (hpastB _ _), hx3, hl4⟩⟩
    | goto t =>
      obtain ⟨hr, hx3, hl4, hb3⟩ := fin (some (.goto t)) W3 hp.1
      exact ⟨_, _, hr, .inr ⟨rfl, .goto t, hIx _ _ _ _ hp.2 (hpastB _ _), hx3, hl4⟩⟩
    | panic ch => exact hp.elim
    | outgrown => exact hp.elim
  · rintro e W2 ⟨hv, h⟩
    refine ⟨hv, ?_⟩
    rcases h with ⟨h1, _, h2, h3⟩ | ⟨i, hi, c, h1, h2, h3⟩
    · exact .inl ⟨h1, h2, h3⟩
    · exact .inr ⟨i, c, hi, h1, h2, h3⟩

section
variable {g : Operand} {ps : Array Tmp} {assign body : Code} {Q : Exit → Act → World → Prop} {a : Act} {w : World} {gf : Nat} {fst lb : Array Value} {elems : List (Array Value)} {Foot : World → Prop}

/-- A RANGE OVER A FUNCTION, one of whose loop variables lies in a box of its own. -/
theorem range_boxed (hg : a.eval g = .func (.func gf) fst lb) (eg : ∀ args w, (callFunc gf args).run Try.prog w = .ok (.enter gf args) w) (hit : Iter gf fst lb elems Foot)
    (I : Nat → World → Prop) (Ix : Code → Nat → World → Prop) (hI : ∀ s W W', I s W → Past w.heap.size W W' → I s W') (hIx : ∀ c s W W', Ix c s W → Past w.heap.size W W' → Ix c s W') (hFoot : ∀ i W, I i W → Foot W)
    (hps : ∀ (i : Nat) (h : i < elems.length), elems[i].size = ps.size) (h0 : I 0 w)
    (fr : Nat → Nat → Act) (bx : Nat → Array Value) (T : TypeId)
    (hassign : ∀ (l i : Nat) (h : i < elems.length) (W : World) (K' : Act → World → Prop), K' (fr i W.heap.size) (W.alloc (.cells (bx i) T)) →
      assign.wpIn (Fence.wide.inRound l) 0 Try.prog (Exit.then K' (fun _ _ _ => False)) { tmps := (ps.zip elems[i]).foldl (fun t (p, v) => t.setIfInBounds p v) a.tmps, defers := [] } W)
    (hbody : ∀ (l i Bx : Nat) (W : World), i < elems.length → w.heap.size ≤ l → (∃ r, W.heap[l]? = some (.loop r)) → I i W → w.heap.size ≤ Bx → W.heap[Bx]? = some (.cells (bx i) T (0, 0)) →
      body.wpIn (Fence.wide.inRound l) 0 Try.prog (roundEnd w.heap.size I Ix i W) (fr i Bx) W)
    (hdone : ∀ (D : Nat) (W : World), w.heap.size ≤ D → I elems.length W → W.heap[D]? = some (.deferred (some [])) → Q .normal { a with defers := { target := .collected D, args := #[] } :: a.defers } W)
    (hstop : ∀ (D i : Nat) (c : Code) (W : World), w.heap.size ≤ D → i < elems.length → Ix c i W → W.heap[D]? = some (.deferred (some [])) → c.wpIn Fence.wide 0 Try.prog Q { a with defers := { target := .collected D, args := #[] } :: a.defers } W) :
    (Code.rangeFunc g ps assign body).wpIn Fence.wide 0 Try.prog Q a w := by
  refine wpIn_rangeFunc fun fn _ => ?_
  obtain ⟨rec, hrec⟩ : ∃ rec : LoopState → Option Code → Loop, rec = fun st pe => { state := st, pending := pe, fn, tmps := a.tmps, params := ps, assign, body, defers := w.heap.size } := ⟨_, rfl⟩
  have hx1 : Ext w (w.alloc (.deferred (some []))) := (Ext.refl w).alloc _
  have hx2 : Ext w ((w.alloc (.deferred (some []))).alloc (.loop (rec .ready none))) := hx1.alloc _
  have hL1 : ((w.alloc (.deferred (some []))).alloc (.loop (rec .ready none))).heap[w.heap.size + 1]? = some (.loop (rec .ready none)) := by
    have := World.alloc_heap_new (w.alloc (.deferred (some []))) (.loop (rec .ready none)); rwa [World.size_alloc] at this
  have hcore := rounds_core (fn := fn) (tmps := a.tmps) hit w.heap.size (w.heap.size + 1) w.heap.size (by omega) rec hrec (fun W => W.heap[w.heap.size]? = some (.deferred (some [])))
    (fun W W' h hp => hp.block _ _ (by omega) h) (fun W W' h hk => hk.same _ _ (Nat.le_refl _) h rfl) I Ix hI hIx hFoot hps fr bx T hassign hbody
    ((w.alloc (.deferred (some []))).alloc (.loop (rec .ready none))) hx2.size (hI _ _ _ h0 (Past.of_ext hx2)) two_new hL1
  refine ⟨w.heap.size + 1, [{ target := .collected w.heap.size, args := #[] }], (w.alloc (.deferred (some []))).alloc (.loop (rec .ready none)), { target := .fn (.func gf) lb, args := fst ++ #[.func (.yield (w.heap.size + 1)) #[] #[]] },
    (w.alloc (.deferred (some []))).alloc (.loop (rec .ready none)), gf, fst ++ #[.func (.yield (w.heap.size + 1)) #[] #[]] ++ lb, (w.alloc (.deferred (some []))).alloc (.loop (rec .ready none)), ?_, ?_, fun f' _ => trivial, ?_, fun h => (by cases h), ?_⟩
  · rw [hrec]; exact run_enterLoop_outer _ _ _ _ _
  · simp only [resolve, hg]
    simp [go_sem]
  · simp [invoke, go_sem, eg]
  · refine hcore.mono ?_
    rintro e W2 ⟨⟨v, rfl⟩, h⟩
    have hput : ∀ (Y : World) (o : Obj), Past w.heap.size Y (Y.putObj (w.heap.size + 1) o) := fun Y o => ⟨rfl, rfl, rfl, by simp, fun k o' hk ho => by rw [World.putObj_heap_other (by omega)]; exact ho⟩
    rcases h with ⟨h1, h2, h3⟩ | ⟨i, c, hi, h1, h2, h3⟩
    · exact ⟨none, _, by have := run_endLoop (P := Try.prog) h3 (by rw [hrec]; simp); rw [hrec] at this; exact this, hdone _ _ (Nat.le_refl _) (hI _ _ _ h1 (hput _ _)) ((World.putObj_heap_other (by omega)).trans h2)⟩
    · exact ⟨some c, _, by have := run_endLoop (P := Try.prog) h3 (by rw [hrec]; simp); rw [hrec] at this; exact this, hstop _ i c _ (Nat.le_refl _) hi (hIx _ _ _ _ h1 (hput _ _)) ((World.putObj_heap_other (by omega)).trans h2)⟩

/-- The same in a round of another range over a function. -/
theorem range_inner {l₀ : Nat} {r₀ : Loop} (hl₀ : w.heap[l₀]? = some (.loop r₀)) (hg : a.eval g = .func (.func gf) fst lb) (eg : ∀ args w, (callFunc gf args).run Try.prog w = .ok (.enter gf args) w) (hit : Iter gf fst lb elems Foot)
    (I : Nat → World → Prop) (Ix : Code → Nat → World → Prop) (hI : ∀ s W W', I s W → Past w.heap.size W W' → I s W') (hIx : ∀ c s W W', Ix c s W → Past w.heap.size W W' → Ix c s W') (hFoot : ∀ i W, I i W → Foot W)
    (hps : ∀ (i : Nat) (h : i < elems.length), elems[i].size = ps.size) (h0 : I 0 w)
    (fr : Nat → Nat → Act) (bx : Nat → Array Value) (T : TypeId)
    (hassign : ∀ (l i : Nat) (h : i < elems.length) (W : World) (K' : Act → World → Prop), K' (fr i W.heap.size) (W.alloc (.cells (bx i) T)) →
      assign.wpIn (Fence.wide.inRound l) 0 Try.prog (Exit.then K' (fun _ _ _ => False)) { tmps := (ps.zip elems[i]).foldl (fun t (p, v) => t.setIfInBounds p v) a.tmps, defers := [] } W)
    (hbody : ∀ (l i Bx : Nat) (W : World), i < elems.length → w.heap.size ≤ l → (∃ r, W.heap[l]? = some (.loop r)) → I i W → w.heap.size ≤ Bx → W.heap[Bx]? = some (.cells (bx i) T (0, 0)) →
      body.wpIn (Fence.wide.inRound l) 0 Try.prog (roundEnd w.heap.size I Ix i W) (fr i Bx) W)
    (hdone : ∀ (W : World), I elems.length W → Q .normal a W)
    (hstop : ∀ (i : Nat) (c : Code) (W : World), i < elems.length → Ix c i W → c.wpIn (Fence.wide.inRound l₀) 0 Try.prog Q a W) :
    (Code.rangeFunc g ps assign body).wpIn (Fence.wide.inRound l₀) 0 Try.prog Q a w := by
  refine wpIn_rangeFunc fun fn _ => ?_
  obtain ⟨rec, hrec⟩ : ∃ rec : LoopState → Option Code → Loop, rec = fun st pe => { state := st, pending := pe, fn, tmps := a.tmps, params := ps, assign, body, defers := r₀.defers } := ⟨_, rfl⟩
  have hx2 : Ext w (w.alloc (.loop (rec .ready none))) := (Ext.refl w).alloc _
  have hL1 : (w.alloc (.loop (rec .ready none))).heap[w.heap.size]? = some (.loop (rec .ready none)) := World.alloc_heap_new w _
  have hcore := rounds_core (fn := fn) (tmps := a.tmps) hit w.heap.size w.heap.size r₀.defers (Nat.le_refl _) rec hrec (fun _ => True)
    (fun _ _ _ _ => trivial) (fun _ _ _ _ => trivial) I Ix hI hIx hFoot hps fr bx T hassign hbody
    (w.alloc (.loop (rec .ready none))) hx2.size (hI _ _ _ h0 (Past.of_ext hx2)) trivial hL1
  refine ⟨w.heap.size, [], w.alloc (.loop (rec .ready none)), { target := .fn (.func gf) lb, args := fst ++ #[.func (.yield w.heap.size) #[] #[]] },
    w.alloc (.loop (rec .ready none)), gf, fst ++ #[.func (.yield w.heap.size) #[] #[]] ++ lb, w.alloc (.loop (rec .ready none)), ?_, ?_, fun f' _ => trivial, ?_, fun h => (by cases h), ?_⟩
  · rw [hrec]; exact run_enterLoop_inner hl₀ _ _ _ _ _
  · simp only [resolve, hg]
    simp [go_sem]
  · simp [invoke, go_sem, eg]
  · refine hcore.mono ?_
    rintro e W2 ⟨⟨v, rfl⟩, h⟩
    have hput : ∀ (Y : World) (o : Obj), Past w.heap.size Y (Y.putObj w.heap.size o) := fun Y o => ⟨rfl, rfl, rfl, by simp, fun k o' hk ho => by rw [World.putObj_heap_other (by omega)]; exact ho⟩
    rcases h with ⟨h1, h2, h3⟩ | ⟨i, c, hi, h1, h2, h3⟩
    · exact ⟨none, _, by have := run_endLoop (P := Try.prog) h3 (by rw [hrec]; simp); rw [hrec] at this; exact this, hdone _ (hI _ _ _ h1 (hput _ _))⟩
    · exact ⟨some c, _, by have := run_endLoop (P := Try.prog) h3 (by rw [hrec]; simp); rw [hrec] at this; exact this, hstop i c _ hi (hIx _ _ _ _ h1 (hput _ _))⟩
end

/-- At the end of a function in which one range over a function has run. -/
theorem leave_mark {fn : Func} {R : Ending → World → Prop} {tmps : Array Value} {D : Nat} {W : World} {v : Value} (hK : W.heap[D]? = some (.deferred (some [])))
    (hr : (results fn tmps).run Try.prog (W.putObj D (.deferred none)) = .ok v (W.putObj D (.deferred none))) (hR : R (.returned v) (W.putObj D (.deferred none))) :
    bodyPostM Fence.wide 0 Try.prog fn R .ret { tmps := tmps, defers := [{ target := .collected D, args := #[] }] } W :=
  ⟨fun h => (by cases h), .inl ⟨_, _, rfl, run_takeDeferred hK, v, hr, hR⟩⟩
theorem put_past {B D : Nat} (W : World) (o : Obj) (h : B ≤ D) : Past B W (W.putObj D o) := ⟨rfl, rfl, rfl, by simp, fun k o' hk ho => by rw [World.putObj_heap_other (by omega)]; exact ho⟩
theorem put_cell {D b : Nat} {W : World} {o : Obj} {cs : Array Value} {t : TypeId} (h : W.heap[b]? = some (.cells cs t (0, 0))) (hne : b ≠ D) (i : Nat) : (W.putObj D o).cell? ⟨b, i, none⟩ = cs[i]? :=
  cell_of (by rw [World.putObj_heap_other hne]; exact h) i
end Go.Proofs.Ytfkehbhlagpmcaa
