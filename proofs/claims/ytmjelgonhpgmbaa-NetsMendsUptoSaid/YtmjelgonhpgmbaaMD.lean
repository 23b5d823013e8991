/- Ranges over an iterator that has boxes of its own. -/
import Derived.Test.YtmjelgonhpgmbaaMC
set_option linter.unusedSimpArgs false
set_option linter.unusedVariables false
namespace Go.Proofs.Ytmjelgonhpgmbaa
open Go Go.RowKit Go.Shelf

/-- The boxes of fleets and of nets lie as they lay. -/
def KeepT (W W' : World) : Prop := ∀ (k : Nat) (cs : Array Value) (t : TypeId), (t = 108 ∨ t = 125) → W.heap[k]? = some (.cells cs t (0, 0)) → W'.heap[k]? = some (.cells cs t (0, 0))
theorem KeepT.refl (W : World) : KeepT W W := fun _ _ _ _ h => h
theorem KeepT.trans {u v w : World} (h : KeepT u v) (k : KeepT v w) : KeepT u w := fun _ _ _ ht hb => k _ _ _ ht (h _ _ _ ht hb)
theorem KeepT.of_ext {W W' : World} (h : Ext W W') : KeepT W W' := fun _ _ _ _ hb => h.block hb
theorem KeepT.put {W : World} {L : Nat} {r : Loop} (h : W.heap[L]? = some (.loop r)) (o : Obj) : KeepT W (W.putObj L o) := fun k cs t _ hb => by
  rw [World.putObj_heap_other (by rintro rfl; rw [h] at hb; cases hb)]; exact hb
theorem KeepT.set {W : World} {g : Nat} {cs : Array Value} {t : TypeId} (h : W.heap[g]? = some (.cells cs t (0, 0))) (h1 : t ≠ 108) (h2 : t ≠ 125) (o : Nat) (v : Value) : KeepT W (W.setCell ⟨g, o, none⟩ v) := fun k cs' t' ht hb => by
  rw [set_other (by rintro rfl; rw [h] at hb; cases hb; rcases ht with h' | h'; exact h1 h'; exact h2 h')]; exact hb
theorem KeepT.grown {W W' : World} {T : TypeId} {sz : Nat} {v : Value} {n : Nat} {xs : List Value} (hr : Row W T sz v n xs) (h1 : T ≠ 108) (h2 : T ≠ 125) (hg : W.grownBy W' v.ownBlock) : KeepT W W' := fun k cs t ht hb => by
  refine grownBy_block hg hb fun e => ?_
  rcases hr.2 with ⟨rfl, _⟩ | ⟨g, cap, cur, rfl, hgb, _⟩
  · simp [Value.ownBlock] at e
  · simp [Value.ownBlock] at e
    subst e
    rw [hgb] at hb
    cases hb
    rcases ht with h' | h'
    · exact h1 h'
    · exact h2 h'
/-- What an iterator does that keeps boxes of fleets and nets: its rounds leave them be. -/
def IterT (gf : Nat) (fst lb : Array Value) (elems : List (Array Value)) (Foot : World → Prop) : Prop :=
  ∀ (l : Nat) (J Jx : Nat → World → Prop) (W : World), (∀ i W, J i W → Foot W) → (∀ i W W', J i W → Ext W W' → J i W') → (∀ i W W', Jx i W → Ext W W' → Jx i W') →
    (∀ i (h : i < elems.length) W1, J i W1 → YieldAt Fence.wide 0 Try.prog l elems[i] W1 fun e W' =>
      KeepT W1 W' ∧ ((e = .returned (.bool true) ∧ J (i + 1) W') ∨ (e = .returned (.bool false) ∧ Jx i W'))) →
    J 0 W → Cal gf (fst ++ #[.func (.yield l) #[] #[]] ++ lb) W fun e W' => (∃ v, e = .returned v) ∧ (J elems.length W' ∨ ∃ i, i < elems.length ∧ Jx i W')

/-- All rounds, behind the record that has been laid at L. -/
theorem rounds_coreT {ps : Array Tmp} {assign body : Code} {tmps : Array Value} {gf fn : Nat} {fst lb : Array Value} {elems : List (Array Value)} {Foot : World → Prop} (hit : IterT gf fst lb elems Foot)
    (B L D : Nat) (hL : B ≤ L) (rec : LoopState → Option Code → Loop) (hrec : rec = fun st pe => { state := st, pending := pe, fn, tmps, params := ps, assign, body, defers := D })
    (X : World → Prop) (hX : ∀ W W', X W → Past L W W' → X W') (hXk : ∀ W W', X W → KeepsFrom B W W' → X W')
    (I : Nat → World → Prop) (Ix : Code → Nat → World → Prop) (hI : ∀ s W W', I s W → Past B W W' → I s W') (hIx : ∀ c s W W', Ix c s W → Past B W W' → Ix c s W') (hFoot : ∀ i W, I i W → Foot W)
    (hps : ∀ (i : Nat) (h : i < elems.length), elems[i].size = ps.size)
    (fr : Nat → Nat → Act) (bx : Nat → Array Value) (T : TypeId)
    (hassign : ∀ (l i : Nat) (h : i < elems.length) (W : World) (K' : Act → World → Prop), K' (fr i W.heap.size) (W.alloc (.cells (bx i) T)) →
      assign.wpIn (Fence.wide.inRound l) 0 Try.prog (Exit.then K' (fun _ _ _ => False)) { tmps := (ps.zip elems[i]).foldl (fun t (p, v) => t.setIfInBounds p v) tmps, defers := [] } W)
    (hbody : ∀ (l i Bx : Nat) (W : World), i < elems.length → B ≤ l → (∃ r, W.heap[l]? = some (.loop r)) → I i W → B ≤ Bx → W.heap[Bx]? = some (.cells (bx i) T (0, 0)) →
      body.wpIn (Fence.wide.inRound l) 0 Try.prog (fun e a W' => roundEnd B I Ix i W e a W' ∧ KeepT W W') (fr i Bx) W)
    (W1 : World) (hB : B ≤ W1.heap.size) (h0 : I 0 W1) (hX0 : X W1) (hL1 : W1.heap[L]? = some (.loop (rec .ready none))) :
    Cal gf (fst ++ #[.func (.yield L) #[] #[]] ++ lb) W1 fun e W2 => (∃ v, e = .returned v) ∧
      ((I elems.length W2 ∧ X W2 ∧ W2.heap[L]? = some (.loop (rec .ready none))) ∨ ∃ i c, i < elems.length ∧ Ix c i W2 ∧ X W2 ∧ W2.heap[L]? = some (.loop (rec .done (some c)))) := by
  refine (hit L (fun i W => I i W ∧ B ≤ W.heap.size ∧ X W ∧ W.heap[L]? = some (.loop (rec .ready none)))
    (fun i W => ∃ c, Ix c i W ∧ X W ∧ W.heap[L]? = some (.loop (rec .done (some c)))) W1 (fun i W h => hFoot i W h.1)
    (fun i W W' h hx => ⟨hI _ _ _ h.1 (Past.of_ext hx), Nat.le_trans h.2.1 hx.size, hX _ _ h.2.2.1 (Past.of_ext hx), hx.block h.2.2.2⟩)
    (fun i W W' h hx => by obtain ⟨c, h1, h2, h3⟩ := h; exact ⟨c, hIx _ _ _ _ h1 (Past.of_ext hx), hX _ _ h2 (Past.of_ext hx), hx.block h3⟩) ?_ ⟨h0, hB, hX0, hL1⟩).mono ?_
  · rintro i hi W ⟨hIW, hBW, hXW, hl⟩
    have hy := run_yield (P := Try.prog) (args := elems[i]) hl (by rw [hrec]; exact hps i hi)
    rw [hrec] at hy
    refine ⟨fn, _, assign, body, hy, roundIn_of_wpIn trivial (hassign _ i hi W _ ?_)⟩
    clear hy
    -- behind the box, the record is made busy
    have hxa : Ext W (W.alloc (.cells (bx i) T)) := (Ext.refl W).alloc _
    have hla := hxa.block hl
    have hlt := lt_of_block hla
    have hbx : (W.alloc (.cells (bx i) T)).heap[W.heap.size]? = some (.cells (bx i) T (0, 0)) := Ext.new (Ext.refl _)
    have hne : W.heap.size ≠ L := fun e => by have := lt_of_block hl; omega
    refine ⟨_, run_beginRound hla (by rw [hrec]), ?_⟩
    have hpast : ∀ (Y : World) (o : Obj), Past L Y (Y.putObj L o) := fun Y o => ⟨rfl, rfl, rfl, by simp, fun k o' hk ho => by rw [World.putObj_heap_other (by omega)]; exact ho⟩
    have hpastB : ∀ (Y : World) (o : Obj), Past B Y (Y.putObj L o) := fun Y o => ⟨rfl, rfl, rfl, by simp, fun k o' hk ho => by rw [World.putObj_heap_other (by omega)]; exact ho⟩
    have hl2 : ((W.alloc (.cells (bx i) T)).putObj L (.loop { rec .ready none with state := .busy })).heap[L]? = some (.loop { rec .ready none with state := .busy }) := World.putObj_heap_same hlt
    refine wpIn_mono (hbody L i W.heap.size _ hi hL ⟨_, hl2⟩ (hI _ _ _ (hI _ _ _ hIW (Past.of_ext hxa)) (hpastB _ _)) hBW (by rw [World.putObj_heap_other hne]; exact hbx)) ?_
    have hX2 : X ((W.alloc (.cells (bx i) T)).putObj L (.loop { rec .ready none with state := .busy })) := hX _ _ (hX _ _ hXW (Past.of_ext hxa)) (hpast _ _)
    have hB2 : B ≤ ((W.alloc (.cells (bx i) T)).putObj L (.loop { rec .ready none with state := .busy })).heap.size := by simp; omega
    have fin : ∀ (jump : Option Code) (W3 : World), KeepsFrom B ((W.alloc (.cells (bx i) T)).putObj L (.loop { rec .ready none with state := .busy })) W3 →
        (Instr.endRound L jump).run Try.prog W3 = .ok (.bool jump.isNone) (W3.putObj L (.loop (rec (if jump.isNone then .ready else .done) jump))) ∧
        X (W3.putObj L (.loop (rec (if jump.isNone then .ready else .done) jump))) ∧
        (W3.putObj L (.loop (rec (if jump.isNone then .ready else .done) jump))).heap[L]? = some (.loop (rec (if jump.isNone then .ready else .done) jump)) ∧ B ≤ W3.heap.size ∧ KeepT W3 (W3.putObj L (.loop (rec (if jump.isNone then .ready else .done) jump))) := fun jump W3 hk3 => by
      have hl3 := hk3.same _ _ hL hl2 rfl
      have := run_endRound (P := Try.prog) jump hl3
      rw [hrec] at this ⊢
      exact ⟨this, hX _ _ (hXk _ _ hX2 hk3) (hpast _ _), World.putObj_heap_same (lt_of_block hl3), Nat.le_trans hB2 hk3.size, KeepT.put hl3 _⟩
    have hk0 : KeepT W ((W.alloc (.cells (bx i) T)).putObj L (.loop { rec .ready none with state := .busy })) := (KeepT.of_ext hxa).trans (KeepT.put hla _)
    rintro e a3 W3 ⟨hp, hkt⟩
    cases e with
    | normal =>
      obtain ⟨hr, hx3, hl4, hb3, hk4⟩ := fin none W3 hp.1
      exact ⟨_, _, hr, hk0.trans (hkt.trans hk4), .inl ⟨rfl, hI _ _ _ hp.2 (hpastB _ _), by simp; omega, hx3, hl4⟩⟩
    | ret =>
      obtain ⟨hr, hx3, hl4, hb3, hk4⟩ := fin (some .ret) W3 hp.1
      exact ⟨_, _, hr, hk0.trans (hkt.trans hk4), .inr ⟨rfl, .ret, hIx _ _ _ _ hp.2 (hpastB _ _), hx3, hl4⟩⟩
    | exit id =>
      obtain ⟨hr, hx3, hl4, hb3, hk4⟩ := fin (some (.exit id)) W3 hp.1
      exact ⟨_, _, hr, hk0.trans (hkt.trans hk4), .inr ⟨rfl, .exit id, hIx _ _ _ _ hp.2 (hpastB _ _), hx3, hl4⟩⟩
    | goto t =>
      obtain ⟨hr, hx3, hl4, hb3, hk4⟩ := fin (some (.goto t)) W3 hp.1
      exact ⟨_, _, hr, hk0.trans (hkt.trans hk4), .inr ⟨rfl, .goto t, hIx _ _ _ _ hp.2 (hpastB _ _), hx3, hl4⟩⟩
    | panic ch => exact hp.elim
    | outgrown => exact hp.elim
  · rintro e W2 ⟨hv, h⟩
    refine ⟨hv, ?_⟩
    rcases h with ⟨h1, _, h2, h3⟩ | ⟨i, hi, c, h1, h2, h3⟩
    · exact .inl ⟨h1, h2, h3⟩
    · exact .inr ⟨i, c, hi, h1, h2, h3⟩


section
variable {g : Operand} {ps : Array Tmp} {assign body : Code} {Q : Exit → Act → World → Prop} {a : Act} {w : World} {gf : Nat} {fst lb : Array Value} {elems : List (Array Value)} {Foot : World → Prop}

/-- A RANGE OVER A FUNCTION, one of whose loop variables lies in a box of its own. -/
theorem range_boxedT (hg : a.eval g = .func (.func gf) fst lb) (eg : ∀ args w, (callFunc gf args).run Try.prog w = .ok (.enter gf args) w) (hit : IterT gf fst lb elems Foot)
    (I : Nat → World → Prop) (Ix : Code → Nat → World → Prop) (hI : ∀ s W W', I s W → Past w.heap.size W W' → I s W') (hIx : ∀ c s W W', Ix c s W → Past w.heap.size W W' → Ix c s W') (hFoot : ∀ i W, I i W → Foot W)
    (hps : ∀ (i : Nat) (h : i < elems.length), elems[i].size = ps.size) (h0 : I 0 w)
    (fr : Nat → Nat → Act) (bx : Nat → Array Value) (T : TypeId)
    (hassign : ∀ (l i : Nat) (h : i < elems.length) (W : World) (K' : Act → World → Prop), K' (fr i W.heap.size) (W.alloc (.cells (bx i) T)) →
      assign.wpIn (Fence.wide.inRound l) 0 Try.prog (Exit.then K' (fun _ _ _ => False)) { tmps := (ps.zip elems[i]).foldl (fun t (p, v) => t.setIfInBounds p v) a.tmps, defers := [] } W)
    (hbody : ∀ (l i Bx : Nat) (W : World), i < elems.length → w.heap.size ≤ l → (∃ r, W.heap[l]? = some (.loop r)) → I i W → w.heap.size ≤ Bx → W.heap[Bx]? = some (.cells (bx i) T (0, 0)) →
      body.wpIn (Fence.wide.inRound l) 0 Try.prog (fun e a W' => roundEnd w.heap.size I Ix i W e a W' ∧ KeepT W W') (fr i Bx) W)
    (hdone : ∀ (D : Nat) (W : World), w.heap.size ≤ D → I elems.length W → W.heap[D]? = some (.deferred (some [])) → Q .normal { a with defers := { target := .collected D, args := #[] } :: a.defers } W)
    (hstop : ∀ (D i : Nat) (c : Code) (W : World), w.heap.size ≤ D → i < elems.length → Ix c i W → W.heap[D]? = some (.deferred (some [])) → c.wpIn Fence.wide 0 Try.prog Q { a with defers := { target := .collected D, args := #[] } :: a.defers } W) :
    (Code.rangeFunc g ps assign body).wpIn Fence.wide 0 Try.prog Q a w := by
  refine wpIn_rangeFunc fun fn _ => ?_
  obtain ⟨rec, hrec⟩ : ∃ rec : LoopState → Option Code → Loop, rec = fun st pe => { state := st, pending := pe, fn, tmps := a.tmps, params := ps, assign, body, defers := w.heap.size } := ⟨_, rfl⟩
  have hx1 : Ext w (w.alloc (.deferred (some []))) := (Ext.refl w).alloc _
  have hx2 : Ext w ((w.alloc (.deferred (some []))).alloc (.loop (rec .ready none))) := hx1.alloc _
  have hL1 : ((w.alloc (.deferred (some []))).alloc (.loop (rec .ready none))).heap[w.heap.size + 1]? = some (.loop (rec .ready none)) := by
    have := World.alloc_heap_new (w.alloc (.deferred (some []))) (.loop (rec .ready none)); rwa [World.size_alloc] at this
  have hcore := rounds_coreT (fn := fn) (tmps := a.tmps) hit w.heap.size (w.heap.size + 1) w.heap.size (by omega) rec hrec (fun W => W.heap[w.heap.size]? = some (.deferred (some [])))
    (fun W W' h hp => hp.block _ _ (by omega) h) (fun W W' h hk => hk.same _ _ (Nat.le_refl _) h rfl) I Ix hI hIx hFoot hps fr bx T hassign hbody
    ((w.alloc (.deferred (some []))).alloc (.loop (rec .ready none))) hx2.size (hI _ _ _ h0 (Past.of_ext hx2)) two_new hL1
  refine ⟨w.heap.size + 1, [{ target := .collected w.heap.size, args := #[] }], (w.alloc (.deferred (some []))).alloc (.loop (rec .ready none)), { target := .fn (.func gf) lb, args := fst ++ #[.func (.yield (w.heap.size + 1)) #[] #[]] },
    (w.alloc (.deferred (some []))).alloc (.loop (rec .ready none)), gf, fst ++ #[.func (.yield (w.heap.size + 1)) #[] #[]] ++ lb, (w.alloc (.deferred (some []))).alloc (.loop (rec .ready none)), ?_, ?_, fun f' _ => trivial, ?_, fun h => (by cases h), ?_⟩
  · rw [hrec]; exact run_enterLoop_outer _ _ _ _ _
  · simp only [resolve, hg]
    simp [go_sem]
  · simp [invoke, go_sem, eg]
  · refine hcore.mono ?_
    rintro e W2 ⟨⟨v, rfl⟩, h⟩
    have hput : ∀ (Y : World) (o : Obj), Past w.heap.size Y (Y.putObj (w.heap.size + 1) o) := fun Y o => ⟨rfl, rfl, rfl, by simp, fun k o' hk ho => by rw [World.putObj_heap_other (by omega)]; exact ho⟩
    rcases h with ⟨h1, h2, h3⟩ | ⟨i, c, hi, h1, h2, h3⟩
    · exact ⟨none, _, by have := run_endLoop (P := Try.prog) h3 (by rw [hrec]; simp); rw [hrec] at this; exact this, hdone _ _ (Nat.le_refl _) (hI _ _ _ h1 (hput _ _)) ((World.putObj_heap_other (by omega)).trans h2)⟩
    · exact ⟨some c, _, by have := run_endLoop (P := Try.prog) h3 (by rw [hrec]; simp); rw [hrec] at this; exact this, hstop _ i c _ (Nat.le_refl _) hi (hIx _ _ _ _ h1 (hput _ _)) ((World.putObj_heap_other (by omega)).trans h2)⟩

end

section
variable (g : Nat → Nat → Nat → Bool) (N : Nat)
def inTo (h i m : Nat) : List (Nat × Nat × Nat) := (List.range m).flatMap fun k => if g h i (i + 1 + k) then [(h, i, i + 1 + k)] else []
def midTo (h k : Nat) : List (Nat × Nat × Nat) := (List.range k).flatMap fun i => inTo g h i (N - (i + 1))
def outTo (k : Nat) : List (Nat × Nat × Nat) := (List.range k).flatMap fun h => midTo g N h N
def posTo (h i m : Nat) : List (Nat × Nat × Nat) := outTo g N h ++ (midTo g N h i ++ inTo g h i m)
theorem flat_split {α : Type} (f : Nat → List α) {k n : Nat} (h : k < n) : ∃ r, (List.range n).flatMap f = (List.range k).flatMap f ++ (f k ++ r) := by
  induction n with
  | zero => omega
  | succ n ih =>
    rw [List.range_succ, List.flatMap_append]
    rcases Nat.lt_or_ge k n with h' | h'
    · obtain ⟨r, hr⟩ := ih h'
      exact ⟨r ++ [n].flatMap f, by rw [hr]; simp⟩
    · obtain rfl : k = n := by omega
      exact ⟨[], by simp⟩
variable {g N}
theorem pos_get {K h i m : Nat} (hh : h < K) (hi : i < N) (hm : m < N - (i + 1)) (hg : g h i (i + 1 + m) = true) :
    ∃ hl : (posTo g N h i m).length < (outTo g N K).length, (outTo g N K)[(posTo g N h i m).length] = (h, i, i + 1 + m) := by
  obtain ⟨r1, e1⟩ := flat_split (fun h => midTo g N h N) hh
  obtain ⟨r2, e2⟩ := flat_split (fun i => inTo g h i (N - (i + 1))) hi
  obtain ⟨r3, e3⟩ := flat_split (fun k => if g h i (i + 1 + k) then [(h, i, i + 1 + k)] else []) hm
  have e : outTo g N K = posTo g N h i m ++ ((h, i, i + 1 + m) :: (r3 ++ (r2 ++ r1))) := by
    show (List.range K).flatMap (fun h => midTo g N h N) = _
    rw [e1]
    show outTo g N h ++ ((List.range N).flatMap (fun i => inTo g h i (N - (i + 1))) ++ r1) = _
    rw [e2]
    show outTo g N h ++ ((midTo g N h i ++ ((List.range (N - (i + 1))).flatMap (fun k => if g h i (i + 1 + k) then [(h, i, i + 1 + k)] else []) ++ r2)) ++ r1) = _
    rw [e3, if_pos hg]
    show _ = (outTo g N h ++ (midTo g N h i ++ inTo g h i m)) ++ _
    simp [inTo]
  have hl : (posTo g N h i m).length < (outTo g N K).length := by rw [e]; simp
  refine ⟨hl, ?_⟩
  simp only [e]
  simp
theorem pos_yes {h i m : Nat} (hg : g h i (i + 1 + m) = true) : (posTo g N h i (m + 1)).length = (posTo g N h i m).length + 1 := by
  unfold posTo inTo; rw [List.range_succ, List.flatMap_append]; simp [hg]; omega
theorem pos_no {h i m : Nat} (hg : g h i (i + 1 + m) = false) : (posTo g N h i (m + 1)).length = (posTo g N h i m).length := by
  unfold posTo inTo; rw [List.range_succ, List.flatMap_append]; simp [hg]
theorem pos_mid {h i : Nat} : (posTo g N h (i + 1) 0).length = (posTo g N h i (N - (i + 1))).length := by
  unfold posTo midTo; rw [List.range_succ, List.flatMap_append]; simp [inTo]
theorem pos_out {h : Nat} : (posTo g N (h + 1) 0 0).length = (posTo g N h N 0).length := by
  unfold posTo outTo; rw [List.range_succ, List.flatMap_append]; simp [inTo, midTo]
theorem pos_zero : (posTo g N 0 0 0).length = 0 := by simp [posTo, outTo, midTo, inTo]
theorem pos_end {K : Nat} : (posTo g N K 0 0).length = (outTo g N K).length := by simp [posTo, midTo, inTo]
end



def lieG (F : FleetD) (h i j : Nat) : Bool := lieB (F.nets.getD i netZ) h && lieB (F.nets.getD j netZ) h
def trips (F : FleetD) : List (Nat × Nat × Nat) := outTo (lieG F) F.nets.length (F.east.length + 1)
def pairA (a b : NetD) (i j : Int) : Array Value := #[.int .i64 a.east, .int .i64 a.north, .int .i64 a.long, .int .i64 a.along, .int .i64 a.shot, .int .i64 a.haul, .int .i64 a.se.lo, .int .i64 a.se.hi, .int .i64 a.sn.lo, .int .i64 a.sn.hi, .int .i64 i, .int .i64 b.east, .int .i64 b.north, .int .i64 b.long, .int .i64 b.along, .int .i64 b.shot, .int .i64 b.haul, .int .i64 b.se.lo, .int .i64 b.se.hi, .int .i64 b.sn.lo, .int .i64 b.sn.hi, .int .i64 j]
def tripElem (F : FleetD) (t : Nat × Nat × Nat) : Array Value := #[.int .i64 t.1, .agg (pairA (F.nets.getD t.2.1 netZ) (F.nets.getD t.2.2 netZ) t.2.1 t.2.2)]
theorem NetsAt.get {w : World} {a : Option Addr} {n c : Nat} {l : List NetD} (h : NetsAt w (.slice a n c) l) : n = l.length ∧ l.length ≤ c ∧ ∀ i (h : i < l.length), ∃ b off, a = some ⟨b, off, none⟩ ∧ b < w.heap.size ∧
    w.cell? ⟨b, off + i * 11, none⟩ = some (.int .i64 l[i].east) ∧ w.cell? ⟨b, off + i * 11 + 1, none⟩ = some (.int .i64 l[i].north) ∧ w.cell? ⟨b, off + i * 11 + 2, none⟩ = some (.int .i64 l[i].long) ∧ w.cell? ⟨b, off + i * 11 + 3, none⟩ = some (.int .i64 l[i].along) ∧ w.cell? ⟨b, off + i * 11 + 4, none⟩ = some (.int .i64 l[i].shot) ∧ w.cell? ⟨b, off + i * 11 + 5, none⟩ = some (.int .i64 l[i].haul) ∧ w.cell? ⟨b, off + i * 11 + 6, none⟩ = some (.int .i64 l[i].se.lo) ∧ w.cell? ⟨b, off + i * 11 + 7, none⟩ = some (.int .i64 l[i].se.hi) ∧ w.cell? ⟨b, off + i * 11 + 8, none⟩ = some (.int .i64 l[i].sn.lo) ∧ w.cell? ⟨b, off + i * 11 + 9, none⟩ = some (.int .i64 l[i].sn.hi) ∧ w.cell? ⟨b, off + i * 11 + 10, none⟩ = some (.int .i64 i) := by
  obtain ⟨a', c', e, hc, hcs⟩ := h
  cases e
  exact ⟨rfl, hc.1, hcs⟩

set_option maxRecDepth 100000 in
set_option maxHeartbeats 4000000 in
theorem together_iter (F : FleetD) (hF : FleetOk F) (ea ma : Option Addr) (ec mc : Nat) (nv sv : Value) :
    IterT 73 #[.agg #[.slice ea F.east.length ec, nv, .int .i64 F.gap, sv, .slice ma F.nets.length mc]] #[] ((trips F).map (tripElem F)) (fun W => NetsAt W (.slice ma F.nets.length mc) F.nets) := by
  intro l J Jx W hFt hJ hJx hY h0
  show CallsIn Fence.wide 0 Try.prog 73 #[.agg #[.slice ea F.east.length ec, nv, .int .i64 F.gap, sv, .slice ma F.nets.length mc], .func (.yield l) #[] #[]] W _
  have HF := hid hFt
  have HJ := hid hJ
  have HY := hid hY
  have HJx := hid hJx
  have HOK := hid hF
  have hh1 := hF.hours
  have hn1 := hF.count
  obtain ⟨_, hmc, _⟩ := (hFt _ _ h0).get
  have hx1 : Ext W (W.alloc (.cells #[.slice ea F.east.length ec, nv, .int .i64 F.gap, sv, .slice ma F.nets.length mc] 108)) := (Ext.refl _).alloc _
  have hb0 : (W.alloc (.cells #[.slice ea F.east.length ec, nv, .int .i64 F.gap, sv, .slice ma F.nets.length mc] 108)).heap[W.heap.size]? = some (.cells #[.slice ea F.east.length ec, nv, .int .i64 F.gap, sv, .slice ma F.nets.length mc] 108 (0, 0)) := Ext.new (Ext.refl _)
  have HZ := hid (show J (posTo (lieG F) F.nets.length 0 0 0).length (W.alloc (.cells #[.slice ea F.east.length ec, nv, .int .i64 F.gap, sv, .slice ma F.nets.length mc] 108)) by rw [pos_zero]; exact hJ _ _ _ h0 hx1)
  clear hFt hJ hJx hY h0 hF hx1
  gi_enter Try.func73, Try.ntmps73
  gi_upto_region 1 with fail
  generalize W.alloc (.cells #[.slice ea F.east.length ec, nv, .int .i64 F.gap, sv, .slice ma F.nets.length mc] 108) = W1 at *
  generalize W.heap.size = G at *
  have HB := hid hb0
  have hc := cell_of hb0
  clear hb0
  have HQ : wrap64 ((F.east.length : Int) + 1) = (F.east.length : Int) + 1 := by unfold wrap64; omega
  gi_wp2_with fail
  clear hc HQ
  gi_loopw [14] (fun i wr => ∃ t : Nat, t ≤ F.east.length + 1 ∧ i = .int .i64 t ∧ Hid (J (posTo (lieG F) F.nets.length t 0 0).length wr ∧ wr.heap[G]? = some (.cells #[.slice ea F.east.length ec, nv, .int .i64 F.gap, sv, .slice ma F.nets.length mc] 108 (0, 0)))) (fun i _ => F.east.length + 1 - (intOf i).toNat)
  case atStart => exact ⟨0, Nat.zero_le _, rfl, HZ.out, HB.out⟩
  case round =>
    obtain ⟨t, hh, rfl, HK⟩ := hrel
    clear HZ HB
    by_cases hlt : t < F.east.length + 1
    · have hki : (t : Int) < (F.east.length : Int) + 1 := by omega
      have hc := cell_of HK.out.2
      gi_wp2_with fail
      clear hc
      gi_loopw [20] (fun i wr => ∃ k : Nat, k ≤ F.nets.length ∧ i = .int .i64 k ∧ Hid (J (posTo (lieG F) F.nets.length t k 0).length wr ∧ wr.heap[G]? = some (.cells #[.slice ea F.east.length ec, nv, .int .i64 F.gap, sv, .slice ma F.nets.length mc] 108 (0, 0)))) (fun i _ => F.nets.length - (intOf i).toNat)
      case atStart => exact ⟨0, Nat.zero_le _, rfl, HK.out⟩
      case round =>
        obtain ⟨i, hi, rfl, HI⟩ := hrel
        clear HK
        by_cases hlti : i < F.nets.length
        · have hkj : (i : Int) < (F.nets.length : Int) := by omega
          obtain ⟨_, _, hcs⟩ := (HF.out _ _ HI.out.1).get
          obtain ⟨b, off, rfl, hb, c0, c1, c2, c3, c4, c5, c6, c7, c8, c9, c10⟩ := hcs i hlti
          clear hcs
          have hga : F.nets.getD i netZ = F.nets[i] := getD_of hlti
          have HGA := hid hga
          clear hga
          generalize F.nets[i] = a at *
          have hxa : Ext wr (wr.alloc (.cells #[.int .i64 a.east, .int .i64 a.north, .int .i64 a.long, .int .i64 a.along, .int .i64 a.shot, .int .i64 a.haul, .int .i64 a.se.lo, .int .i64 a.se.hi, .int .i64 a.sn.lo, .int .i64 a.sn.hi, .int .i64 i] 125)) := (Ext.refl _).alloc _
          have hc := cell_of (hxa.block HI.out.2)
          have HQ : wrap64 ((i : Int) + 1) = (i : Int) + 1 := by unfold wrap64; omega
          gi_upto_region 7 with fail
          clear c0 c1 c2 c3 c4 c5 c6 c7 c8 c9 c10
          have HA : Hid ((wr.alloc (.cells #[.int .i64 a.east, .int .i64 a.north, .int .i64 a.long, .int .i64 a.along, .int .i64 a.shot, .int .i64 a.haul, .int .i64 a.se.lo, .int .i64 a.se.hi, .int .i64 a.sn.lo, .int .i64 a.sn.hi, .int .i64 i] 125)).heap[wr.heap.size]? = some (.cells #[.int .i64 a.east, .int .i64 a.north, .int .i64 a.long, .int .i64 a.along, .int .i64 a.shot, .int .i64 a.haul, .int .i64 a.se.lo, .int .i64 a.se.hi, .int .i64 a.sn.lo, .int .i64 a.sn.hi, .int .i64 i] 125 (0, 0))) := Ext.new (Ext.refl _)
          have HI := hid (And.intro (HJ.out _ _ _ HI.out.1 hxa) (hxa.block HI.out.2))
          clear hxa
          generalize wr.alloc (.cells #[.int .i64 a.east, .int .i64 a.north, .int .i64 a.long, .int .i64 a.along, .int .i64 a.shot, .int .i64 a.haul, .int .i64 a.se.lo, .int .i64 a.se.hi, .int .i64 a.sn.lo, .int .i64 a.sn.hi, .int .i64 i] 125) = W2 at *
          generalize wr.heap.size = A at *
          gi_wp2_with fail
          clear hc HQ
          case inl =>
            have HMC := hid hmc
            subst h
            clear hmc
            have hsub : F.nets.length - (i + 1) ≤ F.nets.length := Nat.sub_le _ _
            gi_loopw [31] (fun j wr => ∃ m : Nat, m ≤ F.nets.length - (i + 1) ∧ j = .int .i64 m ∧ Hid (J (posTo (lieG F) F.nets.length t i m).length wr ∧ wr.heap[G]? = some (.cells #[.slice ea F.east.length ec, nv, .int .i64 F.gap, sv, .slice (some ⟨b, off, none⟩) F.nets.length (i + 1)] 108 (0, 0)) ∧ wr.heap[A]? = some (.cells #[.int .i64 a.east, .int .i64 a.north, .int .i64 a.long, .int .i64 a.along, .int .i64 a.shot, .int .i64 a.haul, .int .i64 a.se.lo, .int .i64 a.se.hi, .int .i64 a.sn.lo, .int .i64 a.sn.hi, .int .i64 i] 125 (0, 0)))) (fun j _ => F.nets.length - (i + 1) - (intOf j).toNat)
            case atStart => exact ⟨0, Nat.zero_le _, rfl, HI.out.1, HI.out.2, HA.out⟩
            case round =>
              obtain ⟨m, hm, rfl, HM⟩ := hrel
              clear HI HA
              obtain rfl : m = F.nets.length - (i + 1) := by have := HMC.out; omega
              have HE := hid (show J (posTo (lieG F) F.nets.length t (i + 1) 0).length wr by rw [pos_mid]; exact HM.out.1)
              have HE2 := hid HM.out.2.1
              clear HM
              gi_wp2
              go_roundw
              case rel => exact ⟨i + 1, by omega, by go_num, HE.out, HE2.out⟩
              case measure => simp [intOf]; omega
          case inr hmc =>
            have hsub : F.nets.length - (i + 1) ≤ F.nets.length := Nat.sub_le _ _
            gi_loopw [31] (fun j wr => ∃ m : Nat, m ≤ F.nets.length - (i + 1) ∧ j = .int .i64 m ∧ Hid (J (posTo (lieG F) F.nets.length t i m).length wr ∧ wr.heap[G]? = some (.cells #[.slice ea F.east.length ec, nv, .int .i64 F.gap, sv, .slice (some ⟨b, off, none⟩) F.nets.length mc] 108 (0, 0)) ∧ wr.heap[A]? = some (.cells #[.int .i64 a.east, .int .i64 a.north, .int .i64 a.long, .int .i64 a.along, .int .i64 a.shot, .int .i64 a.haul, .int .i64 a.se.lo, .int .i64 a.se.hi, .int .i64 a.sn.lo, .int .i64 a.sn.hi, .int .i64 i] 125 (0, 0)))) (fun j _ => F.nets.length - (i + 1) - (intOf j).toNat)
            case atStart => exact ⟨0, Nat.zero_le _, rfl, HI.out.1, HI.out.2, HA.out⟩
            case round =>
              obtain ⟨m, hm, rfl, HM⟩ := hrel
              clear HI HA
              by_cases hltm : m < F.nets.length - (i + 1)
              · obtain ⟨_, _, hcs⟩ := (HF.out _ _ HM.out.1).get
                have hltj : i + 1 + m < F.nets.length := by omega
                obtain ⟨b', off', e, hb2, c0, c1, c2, c3, c4, c5, c6, c7, c8, c9, c10⟩ := hcs (i + 1 + m) hltj
                cases e
                clear hcs
                have ho : off + (i + 1 + m) * 11 = off + (i + 1) * 11 + m * 11 := by omega
                rw [ho] at c0 c1 c2 c3 c4 c5 c6 c7 c8 c9 c10
                clear ho
                have HGB := hid (show F.nets.getD (i + 1 + m) netZ = F.nets[i + 1 + m] from getD_of hltj)
                have hkm : (m : Int) < ((F.nets.length - (i + 1) : Nat) : Int) := by omega
                generalize F.nets[i + 1 + m] = c at *
                obtain ⟨j, hj⟩ : ∃ j, j = i + 1 + m := ⟨_, rfl⟩
                have hcast : ((i + 1 + m : Nat) : Int) = (j : Int) := by rw [hj]
                rw [hcast] at c10
                have hxb : Ext wr (wr.alloc (.cells #[.int .i64 c.east, .int .i64 c.north, .int .i64 c.long, .int .i64 c.along, .int .i64 c.shot, .int .i64 c.haul, .int .i64 c.se.lo, .int .i64 c.se.hi, .int .i64 c.sn.lo, .int .i64 c.sn.hi, .int .i64 (j : Int)] 125)) := (Ext.refl _).alloc _
                gi_upto_region 10 with fail
                clear c0 c1 c2 c3 c4 c5 c6 c7 c8 c9 c10
                have hB : (wr.alloc (.cells #[.int .i64 c.east, .int .i64 c.north, .int .i64 c.long, .int .i64 c.along, .int .i64 c.shot, .int .i64 c.haul, .int .i64 c.se.lo, .int .i64 c.se.hi, .int .i64 c.sn.lo, .int .i64 c.sn.hi, .int .i64 (j : Int)] 125)).heap[wr.heap.size]? = some (.cells #[.int .i64 c.east, .int .i64 c.north, .int .i64 c.long, .int .i64 c.along, .int .i64 c.shot, .int .i64 c.haul, .int .i64 c.se.lo, .int .i64 c.se.hi, .int .i64 c.sn.lo, .int .i64 c.sn.hi, .int .i64 (j : Int)] 125 (0, 0)) := Ext.new (Ext.refl _)
                have HM := hid (And.intro (HJ.out _ _ _ HM.out.1 hxb) (And.intro (hxb.block HM.out.2.1) (hxb.block HM.out.2.2)))
                clear hxb
                have HBB := hid hB
                clear hB
                generalize wr.alloc (.cells #[.int .i64 c.east, .int .i64 c.north, .int .i64 c.long, .int .i64 c.along, .int .i64 c.shot, .int .i64 c.haul, .int .i64 c.se.lo, .int .i64 c.se.hi, .int .i64 c.sn.lo, .int .i64 c.sn.hi, .int .i64 (j : Int)] 125) = W3 at *
                generalize wr.heap.size = B at *
                have HLA := hid (fun (u : World) => lies_any a i t u)
                have HLC := hid (fun (u : World) => lies_any c j t u)
                have hc := cell_of HM.out.2.2
                have HG : Hid (lieG F t i (i + 1 + m) = (lieB a t && lieB c t)) := by show lieG _ _ _ _ = _; unfold lieG; rw [HGA.out, HGB.out]
                cases ga : lieB a t
                case false =>
                  rw [ga] at HG HLA
                  clear ga HLC
                  gi_wp2_with (gi_at_call 83; ((with_reducible refine (HLA.out _).mono ?_); rintro e u1 ⟨rfl, hu1⟩))
                  go_roundw
                  case rel => exact ⟨m + 1, by omega, by go_num, by rw [pos_no HG.out]; exact HJ.out _ _ _ HM.out.1 hu1, hu1.block HM.out.2.1, hu1.block HM.out.2.2⟩
                  case measure => simp [intOf]; omega
                cases gb : lieB c t
                case false =>
                  rw [ga] at HG HLA
                  rw [gb] at HG HLC
                  clear ga gb
                  gi_wp2_with (first | (have _ := hu1; gi_at_call 83; ((with_reducible refine (HLC.out _).mono ?_); rintro e u2 ⟨rfl, hu2⟩; have hu := hu1.trans hu2)) | (gi_at_call 83; ((with_reducible refine (HLA.out _).mono ?_); rintro e u1 ⟨rfl, hu1⟩; have hc2 := cell_of (hu1.block HBB.out))))
                  go_roundw
                  case rel => exact ⟨m + 1, by omega, by go_num, by rw [pos_no HG.out]; exact HJ.out _ _ _ HM.out.1 hu, hu.block HM.out.2.1, hu.block HM.out.2.2⟩
                  case measure => simp [intOf]; omega
                rw [ga] at HG HLA
                rw [gb] at HG HLC
                clear ga gb
                gi_wp2_with (first | (have _ := hu1; gi_at_call 83; ((with_reducible refine (HLC.out _).mono ?_); rintro e u2 ⟨rfl, hu2⟩; have hu := hu1.trans hu2; have hc3 := cell_of (hu.block HM.out.2.2); have hc4 := cell_of (hu.block HBB.out))) | (gi_at_call 83; ((with_reducible refine (HLA.out _).mono ?_); rintro e u1 ⟨rfl, hu1⟩; have hc2 := cell_of (hu1.block HBB.out))))
                clear hc hc3 hc4
                have HU := hid (And.intro (HJ.out _ _ _ HM.out.1 hu) (And.intro (hu.block HM.out.2.1) (hu.block HM.out.2.2)))
                clear hu hu1 hu2 HM
                obtain ⟨hl', hget⟩ := pos_get (N := F.nets.length) (show t < F.east.length + 1 by omega) hlti hltm HG.out
                obtain ⟨fn, tm, asg, bd, hy, hR⟩ := HY.out _ (by rw [List.length_map]; exact hl') u2 HU.out.1
                rw [show ((trips F).map (tripElem F))[(posTo (lieG F) F.nets.length t i m).length]'(by rw [List.length_map]; exact hl') = #[.int .i64 (t : Int), .agg #[.int .i64 a.east, .int .i64 a.north, .int .i64 a.long, .int .i64 a.along, .int .i64 a.shot, .int .i64 a.haul, .int .i64 a.se.lo, .int .i64 a.se.hi, .int .i64 a.sn.lo, .int .i64 a.sn.hi, .int .i64 i, .int .i64 c.east, .int .i64 c.north, .int .i64 c.long, .int .i64 c.along, .int .i64 c.shot, .int .i64 c.haul, .int .i64 c.se.lo, .int .i64 c.se.hi, .int .i64 c.sn.lo, .int .i64 c.sn.hi, .int .i64 (j : Int)]] by
                  rw [List.getElem_map]; refine (congrArg (tripElem F) hget).trans ?_; rw [hj]; unfold tripElem pairA; simp only [HGA.out, HGB.out]] at hy
                have HR := hid hR
                have HL := hid hl'
                clear hR hl' hget
                rw [hy, Oper.uponIn_round]
                clear hy
                refine ⟨fun h => (by cases h), HR.out.mono ?_⟩
                rintro e W' ⟨hkt, ⟨rfl, hJ'⟩ | ⟨rfl, hJx'⟩⟩
                · have HN := hid (show J (posTo (lieG F) F.nets.length t i (m + 1)).length W' by rw [pos_yes HG.out]; exact hJ')
                  have HN2 := hid (And.intro (hkt _ _ _ (.inl rfl) HU.out.2.1) (hkt _ _ _ (.inr rfl) HU.out.2.2))
                  clear hJ' hkt
                  gi_wp2
                  go_roundw
                  case rel => exact ⟨m + 1, by omega, by go_num, HN.out, HN2.out⟩
                  case measure => simp [intOf]; omega
                · have HX' := hid hJx'
                  clear hJx' hkt
                  gi_wp2
                  exact bodyPost_ret (results_none rfl _ _ _) rfl ⟨⟨_, rfl⟩, .inr ⟨_, (by rw [List.length_map]; exact HL.out), HX'.out⟩⟩
              · obtain rfl : m = F.nets.length - (i + 1) := by omega
                have HE := hid (show J (posTo (lieG F) F.nets.length t (i + 1) 0).length wr by rw [pos_mid]; exact HM.out.1)
                have HE2 := hid HM.out.2.1
                clear HM
                gi_wp2
                go_roundw
                case rel => exact ⟨i + 1, by omega, by go_num, HE.out, HE2.out⟩
                case measure => simp [intOf]; omega
        · obtain rfl : i = F.nets.length := by omega
          have HE := hid (show J (posTo (lieG F) F.nets.length (t + 1) 0 0).length wr by rw [pos_out]; exact HI.out.1)
          have HE2 := hid HI.out.2
          clear HI
          gi_wp2
          go_roundw
          case rel => exact ⟨t + 1, by omega, by go_num, HE.out, HE2.out⟩
          case measure => simp [intOf]; omega
    · obtain rfl : t = F.east.length + 1 := by omega
      have HE := hid (show J ((trips F).map (tripElem F)).length wr by rw [List.length_map]; unfold trips; rw [← pos_end]; exact HK.out.1)
      clear HK
      gi_wp2
      exact bodyPost_end (results_none rfl _ _ _) rfl ⟨⟨_, rfl⟩, .inl HE.out⟩

end Go.Proofs.Ytmjelgonhpgmbaa
