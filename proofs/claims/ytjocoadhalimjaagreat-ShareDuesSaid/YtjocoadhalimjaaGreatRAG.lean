/- Ranges over functions whose rounds append. -/
import Derived.Test.YtjocoadhalimjaaGreatRAF
set_option linter.unusedSimpArgs false
set_option linter.unusedVariables false
namespace Go.Proofs.YtjocoadhalimjaaGreat
section
open Go Go.RowKit Go.Shelf

/-- The boxes of some types lie as they lay. -/
def KeepP (p : TypeId → Prop) (W W' : World) : Prop := ∀ (k : Nat) (cs : Array Value) (t : TypeId), p t → W.heap[k]? = some (.cells cs t (0, 0)) → W'.heap[k]? = some (.cells cs t (0, 0))
section
variable {p : TypeId → Prop}
theorem KeepP.nothing (W W' : World) : KeepP (fun _ => False) W W' := fun _ _ _ h => h.elim
theorem KeepP.refl (W : World) : KeepP p W W := fun _ _ _ _ h => h
theorem KeepP.trans {u v w : World} (h : KeepP p u v) (k : KeepP p v w) : KeepP p u w := fun _ _ _ ht hb => k _ _ _ ht (h _ _ _ ht hb)
theorem KeepP.of_ext {W W' : World} (h : Ext W W') : KeepP p W W' := fun _ _ _ _ hb => h.block hb
theorem KeepP.put {W : World} {L : Nat} {r : Loop} (h : W.heap[L]? = some (.loop r)) (o : Obj) : KeepP p W (W.putObj L o) := fun k cs t _ hb => by
  rw [World.putObj_heap_other (by rintro rfl; rw [h] at hb; cases hb)]; exact hb
theorem KeepP.set {W : World} {g : Nat} {cs : Array Value} {t : TypeId} (h : W.heap[g]? = some (.cells cs t (0, 0))) (h1 : ¬ p t) (o : Nat) (v : Value) : KeepP p W (W.setCell ⟨g, o, none⟩ v) := fun k cs' t' ht hb => by
  rw [set_other (by rintro rfl; rw [h] at hb; cases hb; exact h1 ht)]; exact hb
end
/-- What an iterator does: its rounds leave the boxes of some types be. -/
def IterP (p : TypeId → Prop) (gf : Nat) (fst lb : Array Value) (elems : List (Array Value)) (Foot : World → Prop) : Prop :=
  ∀ (l : Nat) (J Jx : Nat → World → Prop) (W : World), (∀ i W, J i W → Foot W) → (∀ i W W', J i W → Ext W W' → J i W') → (∀ i W W', Jx i W → Ext W W' → Jx i W') →
    (∀ i (h : i < elems.length) W1, J i W1 → YieldAt Fence.wide 0 Tryz.prog l elems[i] W1 fun e W' =>
      KeepP p W1 W' ∧ ((e = .returned (.bool true) ∧ J (i + 1) W') ∨ (e = .returned (.bool false) ∧ Jx i W'))) →
    J 0 W → Cal gf (fst ++ #[.func (.yield l) #[] #[]] ++ lb) W fun e W' => (∃ v, e = .returned v) ∧ (J elems.length W' ∨ ∃ i, i < elems.length ∧ Jx i W')

/-- Of what lies below B, and of what cells hold, nothing has turned. -/
structure PastC (B : Nat) (W W' : World) : Prop where
  os : W'.os = W.os
  tape : W'.tape = W.tape
  output : W'.output = W.output
  size : W.heap.size ≤ W'.heap.size
  block : ∀ k o, (k < B ∨ o.isCells = true) → W.heap[k]? = some o → W'.heap[k]? = some o
theorem PastC.of_ext {B : Nat} {W W' : World} (h : Ext W W') : PastC B W W' := ⟨h.os, h.tape, h.output, h.size, fun _ _ _ hk => h.block hk⟩
theorem PastC.put {B L : Nat} {Y : World} (hL : B ≤ L) {r : Loop} (hr : Y.heap[L]? = some (.loop r)) (o : Obj) : PastC B Y (Y.putObj L o) :=
  ⟨rfl, rfl, rfl, by simp, fun k o' hk ho => by
    rw [World.putObj_heap_other (by rintro rfl; rcases hk with hk | hk; omega; rw [hr] at ho; cases ho; cases hk)]; exact ho⟩
theorem PastC.past {B : Nat} {W W' : World} (h : PastC B W W') : Past B W W' := ⟨h.os, h.tape, h.output, h.size, fun k o hk ho => h.block k o (.inl hk) ho⟩
theorem PastC.cells {B : Nat} {W W' : World} (h : PastC B W W') {k : Nat} {cs : Array Value} {T : TypeId} {fz : Nat × Nat} (ho : W.heap[k]? = some (.cells cs T fz)) : W'.heap[k]? = some (.cells cs T fz) := h.block _ _ (.inr rfl) ho
theorem Row.pastC {B : Nat} {w w' : World} {T : TypeId} {sz : Nat} {v : Value} {n : Nat} {xs : List Value} (h : Row w T sz v n xs) (hp : PastC B w w') : Row w' T sz v n xs := h.kept fun k o hk ho => hp.block k o (.inr (h.isCells hk ho)) ho
/-- All rounds, behind the record that has been laid at L. -/
theorem rounds_coreC {p : TypeId → Prop} {ps : Array Tmp} {assign body : Code} {tmps : Array Value} {gf fn : Nat} {fst lb : Array Value} {elems : List (Array Value)} {Foot : World → Prop} (hit : IterP p gf fst lb elems Foot)
    (B L D : Nat) (hL : B ≤ L) (rec : LoopState → Option Code → Loop) (hrec : rec = fun st pe => { state := st, pending := pe, fn, tmps, params := ps, assign, body, defers := D })
    (X : World → Prop) (hX : ∀ W W', X W → Past L W W' → X W') (hXk : ∀ W W', X W → KeepsFrom B W W' → X W')
    (I : Nat → World → Prop) (Ix : Code → Nat → World → Prop) (hI : ∀ s W W', I s W → PastC B W W' → I s W') (hIx : ∀ c s W W', Ix c s W → PastC B W W' → Ix c s W') (hFoot : ∀ i W, I i W → Foot W)
    (hps : ∀ (i : Nat) (h : i < elems.length), elems[i].size = ps.size)
    (fr : Nat → Nat → Act) (bx : Nat → Array Value) (T : TypeId)
    (hassign : ∀ (l i : Nat) (h : i < elems.length) (W : World) (K' : Act → World → Prop), K' (fr i W.heap.size) (W.alloc (.cells (bx i) T)) →
      assign.wpIn (Fence.wide.inRound l) 0 Tryz.prog (Exit.then K' (fun _ _ _ => False)) { tmps := (ps.zip elems[i]).foldl (fun t (p, v) => t.setIfInBounds p v) tmps, defers := [] } W)
    (hbody : ∀ (l i Bx : Nat) (W : World), i < elems.length → B ≤ l → (∃ r, W.heap[l]? = some (.loop r)) → I i W → B ≤ Bx → W.heap[Bx]? = some (.cells (bx i) T (0, 0)) →
      body.wpIn (Fence.wide.inRound l) 0 Tryz.prog (fun e a W' => roundEnd B I Ix i W e a W' ∧ KeepP p W W') (fr i Bx) W)
    (W1 : World) (hB : B ≤ W1.heap.size) (h0 : I 0 W1) (hX0 : X W1) (hL1 : W1.heap[L]? = some (.loop (rec .ready none))) :
    Cal gf (fst ++ #[.func (.yield L) #[] #[]] ++ lb) W1 fun e W2 => (∃ v, e = .returned v) ∧
      ((I elems.length W2 ∧ X W2 ∧ W2.heap[L]? = some (.loop (rec .ready none))) ∨ ∃ i c, i < elems.length ∧ Ix c i W2 ∧ X W2 ∧ W2.heap[L]? = some (.loop (rec .done (some c)))) := by
  refine (hit L (fun i W => I i W ∧ B ≤ W.heap.size ∧ X W ∧ W.heap[L]? = some (.loop (rec .ready none)))
    (fun i W => ∃ c, Ix c i W ∧ X W ∧ W.heap[L]? = some (.loop (rec .done (some c)))) W1 (fun i W h => hFoot i W h.1)
    (fun i W W' h hx => ⟨hI _ _ _ h.1 (PastC.of_ext hx), Nat.le_trans h.2.1 hx.size, hX _ _ h.2.2.1 (Past.of_ext hx), hx.block h.2.2.2⟩)
    (fun i W W' h hx => by obtain ⟨c, h1, h2, h3⟩ := h; exact ⟨c, hIx _ _ _ _ h1 (PastC.of_ext hx), hX _ _ h2 (Past.of_ext hx), hx.block h3⟩) ?_ ⟨h0, hB, hX0, hL1⟩).mono ?_
  · rintro i hi W ⟨hIW, hBW, hXW, hl⟩
    have hy := run_yield (P := Tryz.prog) (args := elems[i]) hl (by rw [hrec]; exact hps i hi)
    rw [hrec] at hy
    refine ⟨fn, _, assign, body, hy, roundIn_of_wpIn trivial (hassign _ i hi W _ ?_)⟩
    clear hy
    -- behind the box, the record is made busy
    have hxa : Ext W (W.alloc (.cells (bx i) T)) := (Ext.refl W).alloc _
    have hla := hxa.block hl
    have hlt := lt_of_block hla
    have hbx : (W.alloc (.cells (bx i) T)).heap[W.heap.size]? = some (.cells (bx i) T (0, 0)) := Ext.new (Ext.refl _)
    have hne : W.heap.size ≠ L := fun e => by have := lt_of_block hl; omega
    refine ⟨_, run_beginRound hla (by rw [hrec]), ?_⟩
    have hpast : ∀ (Y : World) (o : Obj), Past L Y (Y.putObj L o) := fun Y o => ⟨rfl, rfl, rfl, by simp, fun k o' hk ho => by rw [World.putObj_heap_other (by omega)]; exact ho⟩
    have hpastB : ∀ (Y : World) (o : Obj) (r : Loop), Y.heap[L]? = some (.loop r) → PastC B Y (Y.putObj L o) := fun Y o r hr => PastC.put hL hr o
    have hl2 : ((W.alloc (.cells (bx i) T)).putObj L (.loop { rec .ready none with state := .busy })).heap[L]? = some (.loop { rec .ready none with state := .busy }) := World.putObj_heap_same hlt
    refine wpIn_mono (hbody L i W.heap.size _ hi hL ⟨_, hl2⟩ (hI _ _ _ (hI _ _ _ hIW (PastC.of_ext hxa)) (hpastB _ _ _ hla)) hBW (by rw [World.putObj_heap_other hne]; exact hbx)) ?_
    have hX2 : X ((W.alloc (.cells (bx i) T)).putObj L (.loop { rec .ready none with state := .busy })) := hX _ _ (hX _ _ hXW (Past.of_ext hxa)) (hpast _ _)
    have hB2 : B ≤ ((W.alloc (.cells (bx i) T)).putObj L (.loop { rec .ready none with state := .busy })).heap.size := by simp; omega
    have fin : ∀ (jump : Option Code) (W3 : World), KeepsFrom B ((W.alloc (.cells (bx i) T)).putObj L (.loop { rec .ready none with state := .busy })) W3 →
        (Instr.endRound L jump).run Tryz.prog W3 = .ok (.bool jump.isNone) (W3.putObj L (.loop (rec (if jump.isNone then .ready else .done) jump))) ∧
        X (W3.putObj L (.loop (rec (if jump.isNone then .ready else .done) jump))) ∧
        (W3.putObj L (.loop (rec (if jump.isNone then .ready else .done) jump))).heap[L]? = some (.loop (rec (if jump.isNone then .ready else .done) jump)) ∧ B ≤ W3.heap.size ∧ KeepP p W3 (W3.putObj L (.loop (rec (if jump.isNone then .ready else .done) jump))) ∧ PastC B W3 (W3.putObj L (.loop (rec (if jump.isNone then .ready else .done) jump))) := fun jump W3 hk3 => by
      have hl3 := hk3.same _ _ hL hl2 rfl
      have := run_endRound (P := Tryz.prog) jump hl3
      rw [hrec] at this ⊢
      exact ⟨this, hX _ _ (hXk _ _ hX2 hk3) (hpast _ _), World.putObj_heap_same (lt_of_block hl3), Nat.le_trans hB2 hk3.size, KeepP.put hl3 _, hpastB _ _ _ hl3⟩
    have hk0 : KeepP p W ((W.alloc (.cells (bx i) T)).putObj L (.loop { rec .ready none with state := .busy })) := (KeepP.of_ext hxa).trans (KeepP.put hla _)
    rintro e a3 W3 ⟨hp, hkt⟩
    cases e with
    | normal =>
      obtain ⟨hr, hx3, hl4, hb3, hk4, hpc⟩ := fin none W3 hp.1
      exact ⟨_, _, hr, hk0.trans (hkt.trans hk4), .inl ⟨rfl, hI _ _ _ hp.2 hpc, by simp; omega, hx3, hl4⟩⟩
    | ret =>
      obtain ⟨hr, hx3, hl4, hb3, hk4, hpc⟩ := fin (some .ret) W3 hp.1
      exact ⟨_, _, hr, hk0.trans (hkt.trans hk4), .inr ⟨rfl, .ret, hIx _ _ _ _ hp.2 hpc, hx3, hl4⟩⟩
    | exit id =>
      obtain ⟨hr, hx3, hl4, hb3, hk4, hpc⟩ := fin (some (.exit id)) W3 hp.1
      exact ⟨_, _, hr, hk0.trans (hkt.trans hk4), .inr ⟨rfl, .exit id, hIx _ _ _ _ hp.2 hpc, hx3, hl4⟩⟩
    | goto t =>
      obtain ⟨hr, hx3, hl4, hb3, hk4, hpc⟩ := fin (some (.goto t)) W3 hp.1
      exact ⟨_, _, hr, hk0.trans (hkt.trans hk4), .inr ⟨rfl, .goto t, hIx _ _ _ _ hp.2 hpc, hx3, hl4⟩⟩
    | panic ch => exact hp.elim
    | outgrown => exact hp.elim
  · rintro e W2 ⟨hv, h⟩
    refine ⟨hv, ?_⟩
    rcases h with ⟨h1, _, h2, h3⟩ | ⟨i, hi, c, h1, h2, h3⟩
    · exact .inl ⟨h1, h2, h3⟩
    · exact .inr ⟨i, c, hi, h1, h2, h3⟩


section
variable {g : Operand} {ps : Array Tmp} {assign body : Code} {Q : Exit → Act → World → Prop} {a : Act} {w : World} {gf : Nat} {fst lb : Array Value} {elems : List (Array Value)} {Foot : World → Prop} {p : TypeId → Prop}

/-- A RANGE OVER A FUNCTION, one of whose loop variables lies in a box of its own. -/
theorem range_boxedC (hg : a.eval g = .func (.func gf) fst lb) (eg : ∀ args w, (callFunc gf args).run Tryz.prog w = .ok (.enter gf args) w) (hit : IterP p gf fst lb elems Foot)
    (I : Nat → World → Prop) (Ix : Code → Nat → World → Prop) (hI : ∀ s W W', I s W → PastC w.heap.size W W' → I s W') (hIx : ∀ c s W W', Ix c s W → PastC w.heap.size W W' → Ix c s W') (hFoot : ∀ i W, I i W → Foot W)
    (hps : ∀ (i : Nat) (h : i < elems.length), elems[i].size = ps.size) (h0 : I 0 w)
    (fr : Nat → Nat → Act) (bx : Nat → Array Value) (T : TypeId)
    (hassign : ∀ (l i : Nat) (h : i < elems.length) (W : World) (K' : Act → World → Prop), K' (fr i W.heap.size) (W.alloc (.cells (bx i) T)) →
      assign.wpIn (Fence.wide.inRound l) 0 Tryz.prog (Exit.then K' (fun _ _ _ => False)) { tmps := (ps.zip elems[i]).foldl (fun t (p, v) => t.setIfInBounds p v) a.tmps, defers := [] } W)
    (hbody : ∀ (l i Bx : Nat) (W : World), i < elems.length → w.heap.size ≤ l → (∃ r, W.heap[l]? = some (.loop r)) → I i W → w.heap.size ≤ Bx → W.heap[Bx]? = some (.cells (bx i) T (0, 0)) →
      body.wpIn (Fence.wide.inRound l) 0 Tryz.prog (fun e a W' => roundEnd w.heap.size I Ix i W e a W' ∧ KeepP p W W') (fr i Bx) W)
    (hdone : ∀ (D : Nat) (W : World), w.heap.size ≤ D → I elems.length W → W.heap[D]? = some (.deferred (some [])) → Q .normal { a with defers := { target := .collected D, args := #[] } :: a.defers } W)
    (hstop : ∀ (D i : Nat) (c : Code) (W : World), w.heap.size ≤ D → i < elems.length → Ix c i W → W.heap[D]? = some (.deferred (some [])) → c.wpIn Fence.wide 0 Tryz.prog Q { a with defers := { target := .collected D, args := #[] } :: a.defers } W) :
    (Code.rangeFunc g ps assign body).wpIn Fence.wide 0 Tryz.prog Q a w := by
  refine wpIn_rangeFunc fun fn _ => ?_
  obtain ⟨rec, hrec⟩ : ∃ rec : LoopState → Option Code → Loop, rec = fun st pe => { state := st, pending := pe, fn, tmps := a.tmps, params := ps, assign, body, defers := w.heap.size } := ⟨_, rfl⟩
  have hx1 : Ext w (w.alloc (.deferred (some []))) := (Ext.refl w).alloc _
  have hx2 : Ext w ((w.alloc (.deferred (some []))).alloc (.loop (rec .ready none))) := hx1.alloc _
  have hL1 : ((w.alloc (.deferred (some []))).alloc (.loop (rec .ready none))).heap[w.heap.size + 1]? = some (.loop (rec .ready none)) := by
    have := World.alloc_heap_new (w.alloc (.deferred (some []))) (.loop (rec .ready none)); rwa [World.size_alloc] at this
  have hcore := rounds_coreC (fn := fn) (tmps := a.tmps) hit w.heap.size (w.heap.size + 1) w.heap.size (by omega) rec hrec (fun W => W.heap[w.heap.size]? = some (.deferred (some [])))
    (fun W W' h hp => hp.block _ _ (by omega) h) (fun W W' h hk => hk.same _ _ (Nat.le_refl _) h rfl) I Ix hI hIx hFoot hps fr bx T hassign hbody
    ((w.alloc (.deferred (some []))).alloc (.loop (rec .ready none))) hx2.size (hI _ _ _ h0 (PastC.of_ext hx2)) two_new hL1
  refine ⟨w.heap.size + 1, [{ target := .collected w.heap.size, args := #[] }], (w.alloc (.deferred (some []))).alloc (.loop (rec .ready none)), { target := .fn (.func gf) lb, args := fst ++ #[.func (.yield (w.heap.size + 1)) #[] #[]] },
    (w.alloc (.deferred (some []))).alloc (.loop (rec .ready none)), gf, fst ++ #[.func (.yield (w.heap.size + 1)) #[] #[]] ++ lb, (w.alloc (.deferred (some []))).alloc (.loop (rec .ready none)), ?_, ?_, fun f' _ => trivial, ?_, fun h => (by cases h), ?_⟩
  · rw [hrec]; exact run_enterLoop_outer _ _ _ _ _
  · simp only [resolve, hg]
    simp [go_sem]
  · simp [invoke, go_sem, eg]
  · refine hcore.mono ?_
    rintro e W2 ⟨⟨v, rfl⟩, h⟩
    have hput : ∀ (Y : World) (o : Obj) (r : Loop), Y.heap[w.heap.size + 1]? = some (.loop r) → PastC w.heap.size Y (Y.putObj (w.heap.size + 1) o) := fun Y o r hr => PastC.put (by omega) hr o
    rcases h with ⟨h1, h2, h3⟩ | ⟨i, c, hi, h1, h2, h3⟩
    · exact ⟨none, _, by have := run_endLoop (P := Tryz.prog) h3 (by rw [hrec]; simp); rw [hrec] at this; exact this, hdone _ _ (Nat.le_refl _) (hI _ _ _ h1 (hput _ _ _ h3)) ((World.putObj_heap_other (by omega)).trans h2)⟩
    · exact ⟨some c, _, by have := run_endLoop (P := Tryz.prog) h3 (by rw [hrec]; simp); rw [hrec] at this; exact this, hstop _ i c _ (Nat.le_refl _) hi (hIx _ _ _ _ h1 (hput _ _ _ h3)) ((World.putObj_heap_other (by omega)).trans h2)⟩

end
end
section
open Go Go.RowKit Go.Shelf

theorem keepsFrom_grownS {B : Nat} {W W' : World} {T : TypeId} {sz : Nat} {v : Value} {n : Nat} {xs : List Value} (hr : Row W T sz v n xs) (hg : W.grownBy W' v.ownBlock) : KeepsFrom B W W' :=
  ⟨hg.size, fun k o _ ho hc => grownBy_block hg ho fun e => by have := hr.isCells e.symm ho; rw [this] at hc; cases hc⟩
theorem keepsFrom_extS {B : Nat} {W W' : World} (h : Ext W W') : KeepsFrom B W W' := ⟨h.size, fun k o _ ho _ => h.block ho⟩
/-- The values of a slice of shares, one after the other. -/
theorem values_iter (bx : Nat) (v : Value) (l : List Shr) : IterP (fun _ => False) 122 #[] #[.pointer (some ⟨bx, 0, none⟩)] (l.map fun s => #[shrV s]) (fun W => W.heap[bx]? = some (.cells #[v] 105 (0, 0)) ∧ SharesAt W v l) := by
  intro l0 J Jx W hFt hJ hJx hY h0
  show CallsIn Fence.wide 0 Tryz.prog 122 #[.func (.yield l0) #[] #[], .pointer (some ⟨bx, 0, none⟩)] W _
  have HFt := hid hFt
  have HJ := hid hJ
  have HJx := hid hJx
  have HY := hid hY
  have H0 := hid h0
  have hb := (hFt _ _ h0).1
  obtain ⟨a, cap, rfl, ⟨hcap, hlen⟩, _⟩ := (hFt _ _ h0).2
  have HLM : Hid ((l.map fun s => #[shrV s]).length = l.length) := hid (by simp)
  have cb := cell_of hb
  clear hFt hJ hJx hY h0 hb
  gi_enter Tryz.func122, Tryz.ntmps122
  gi_wp2_with fail
  clear cb
  gi_loopw [4, 7] (fun u4 i wr => ∃ k : Nat, k ≤ l.length ∧ i = .int .i64 k ∧ Hid (J k wr)) (fun _ i _ => l.length - (intOf i).toNat)
  case atStart => exact ⟨0, Nat.zero_le _, rfl, H0⟩
  case round =>
    obtain ⟨k, hk, rfl, HI⟩ := hrel
    clear H0
    by_cases hlt : k < l.length
    · have hki : (k : Int) < (l.length : Int) := by omega
      obtain ⟨a', cap', e, _, hcs⟩ := (HFt.out _ _ HI.out).2
      cases e
      obtain ⟨b, off, rfl, hbb, c0, c1, c2, c3⟩ := hcs k hlt
      have HEL := hid (show (l.map fun s => #[shrV s])[k]'(by rw [HLM.out]; exact hlt) = #[shrV l[k]] by rw [List.getElem_map])
      clear hcs
      generalize hs : l[k] = s at *
      clear hs
      have hx : Ext wr (wr.alloc (.cells #[.string s.name, .int .i64 s.weight, .int .i64 s.pence, .int .i64 s.rest] 146)) := (Ext.refl _).alloc _
      have hn : (wr.alloc (.cells #[.string s.name, .int .i64 s.weight, .int .i64 s.pence, .int .i64 s.rest] 146)).heap[wr.heap.size]? = some (.cells #[.string s.name, .int .i64 s.weight, .int .i64 s.pence, .int .i64 s.rest] 146 (0, 0)) := Ext.new (Ext.refl _)
      gi_upto_region 3 with fail
      have HI := hid (HJ.out _ _ _ HI.out hx)
      clear c0 c1 c2 c3 hx
      generalize wr.alloc (.cells #[.string s.name, .int .i64 s.weight, .int .i64 s.pence, .int .i64 s.rest] 146) = W2 at *
      have cn := cell_of hn
      gi_wp2_with fail
      clear cn
      obtain ⟨fn, tm, asg, bd, hy, hR⟩ := HY.out k (by rw [HLM.out]; exact hlt) W2 HI.out
      rw [HEL.out] at hy
      unfold shrV at hy
      have HR := hid hR
      clear hR
      rw [hy, Oper.uponIn_round]
      clear hy
      refine ⟨fun h => (by cases h), HR.out.mono ?_⟩
      rintro e W' ⟨hkt, ⟨rfl, hJ'⟩ | ⟨rfl, hJx'⟩⟩
      · have HN := hid hJ'
        clear hJ' hkt
        gi_wp2
        go_roundw
        case rel => exact ⟨k + 1, by omega, by go_num, HN⟩
        case measure => simp [intOf]; omega
      · have HX' := hid hJx'
        clear hJx' hkt
        gi_wp2
        exact bodyPost_ret (v := .tuple #[]) (by simp [results, Tryz.results122, go_sem]) rfl ⟨⟨_, rfl⟩, .inr ⟨k, by rw [HLM.out]; exact hlt, HX'.out⟩⟩
    · obtain rfl : k = l.length := by omega
      gi_wp2_with fail
      go_end0
      exact ⟨⟨_, rfl⟩, .inl (by rw [HLM.out]; exact HI.out)⟩
def shrA (x : Shr) : Array Value := #[.string x.name, .int .i64 x.weight, .int .i64 x.pence, .int .i64 x.rest]
set_option maxRecDepth 100000 in
set_option maxHeartbeats 4000000 in
theorem appendSeq_any (bx : Nat) (sv : Value) (l : List Shr) (w : World) (hl : l.length ≤ 1000) (hb : w.heap[bx]? = some (.cells #[sv] 105 (0, 0))) (hs : SharesAt w sv l) :
    Cal 134 #[.slice none 0 0, .func (.func 122) #[] #[.pointer (some ⟨bx, 0, none⟩)]] w fun e w' => ∃ v, e = .returned v ∧ Ext w w' ∧ Row w' 146 4 v l.length (flatS l l.length) ∧ ∀ g, v.ownBlock = some g → w.heap.size ≤ g := by
  have HIT := hid (values_iter bx sv l)
  have HFW := hid (fun (u : World) (hu : Ext w u) => And.intro (hu.block hb) (hs.mono hu))
  have HLM : Hid ((l.map fun s => #[shrV s]).length = l.length) := hid (by simp)
  have HSF := hid (fun (k : Nat) (h : k < l.length) => flatS_succ l h)
  clear hb hs
  refine callsIn_of_wp_marks Tryz.func134 rfl trivial ?_
  simp only [Tryz.ntmps134, List.size_toArray, List.length_cons, List.length_nil, Nat.reduceAdd, Nat.reduceSub, Array.replicate_succ, Array.replicate_zero, List.push_toArray, List.append_toArray, List.nil_append, List.cons_append]
  gi_wp2_with fail
  have hW : Ext w (w.alloc (.cells #[.slice none 0 0] 105)) := (Ext.refl _).alloc _
  have hW0 : (w.alloc (.cells #[.slice none 0 0] 105)).heap[w.heap.size]? = some (.cells #[.slice none 0 0] 105 (0, 0)) := Ext.new (Ext.refl _)
  generalize w.alloc (.cells #[.slice none 0 0] 105) = W at *
  have HWS := hid (show w.heap.size + 1 ≤ W.heap.size by have h := lt_of_block hW0; omega)
  have hbel : Below w.heap.size w W := hW
  refine range_boxedC rfl (enters_of Tryz.func122 (by kernel_rfl) rfl) HIT.out
    (fun r W' => Below w.heap.size w W' ∧ Hid (∃ v, W'.heap[w.heap.size]? = some (.cells #[v] 105 (0, 0)) ∧ Row W' 146 4 v r (flatS l r) ∧ ∀ g, v.ownBlock = some g → W.heap.size ≤ g))
    (fun _ _ _ => False)
    (fun r W' W'' h hp => ⟨hp.past.below h.1 hbel.size (Nat.le_refl _), by obtain ⟨v, h1, h2, h3⟩ := h.2.out; exact ⟨v, hp.cells h1, h2.pastC hp, h3⟩⟩)
    (fun _ _ _ _ h _ => h) (fun r W' h => HFW.out W' h.1) (fun r h => by simp) ⟨hbel, _, hW0, Row.nil _ _ _, fun g hg => by simp [Value.ownBlock] at hg⟩
    (fun r Bx => { tmps := #[.slice none 0 0, .func (.func 122) #[] #[.pointer (some ⟨bx, 0, none⟩)], .pointer (some ⟨w.heap.size, 0, none⟩), undef, .slice none 0 0, .pointer (some ⟨Bx, 0, none⟩), .func (.func 122) #[] #[.pointer (some ⟨bx, 0, none⟩)], .agg (shrA (l.getD r noShr)), undef, undef, undef, undef, undef], defers := [] })
    (fun r => shrA (l.getD r noShr)) 146 ?assign ?body ?done ?stop
  case assign =>
    intro l0 r h W1 K' hK
    have he : (l.map fun s => #[shrV s])[r] = #[.agg (shrA (l.getD r noShr))] := by
      rw [List.getElem_map, getD_of (by rw [← HLM.out]; exact h)]; rfl
    rw [he]
    generalize l.getD r noShr = s at *
    gi_wp2_with (refine wpIn_store_fresh (fun _ => trivial) 146 (.tmp 5) (.tmp 7) rfl (W := W1) (c' := shrA s) rfl rfl rfl size146 rfl (by simp [shrA, Value.oneCell']) ?_)
    exact hK
  case stop =>
    rintro D r c W2 hD hi hf hK
    exact hf.elim
  case body =>
    rintro l0 r Bx W2 hi hl0 hrr ⟨hbelW, HI⟩ hBx hbx
    have hil : r < l.length := by rw [← HLM.out]; exact hi
    have HF1 := hid (HSF.out r hil)
    have hgd : l.getD r noShr = l[r] := getD_of hil
    rw [← hgd] at HF1
    clear hgd HSF
    generalize l.getD r noShr = s at *
    obtain ⟨v, hb2, hrow, hown⟩ := HI.out
    clear HI
    unfold shrA at hbx ⊢
    have hws := HWS.out
    have cB := cell_of hb2
    have c5 := cell_of hbx
    have HBE := hid (show Ext w W2 from hbelW)
    have HB := hid hb2
    have HOWN := hid hown
    have HRW := hid (hrow.mono ((Ext.refl W2).alloc (.cells #[.string s.name, .int .i64 s.weight, .int .i64 s.pence, .int .i64 s.rest] 146)))
    have HB2 := hid (((Ext.refl W2).alloc (.cells #[.string s.name, .int .i64 s.weight, .int .i64 s.pence, .int .i64 s.rest] 146)).block hb2)
    have HNW : Hid (∀ j u, (shrCells s)[j]? = some u → (W2.alloc (.cells #[.string s.name, .int .i64 s.weight, .int .i64 s.pence, .int .i64 s.rest] 146)).cell? ((⟨W2.heap.size, 0, none⟩ : Addr).add j) = some u) := fun j u hj => by rw [Addr.add_mid, Nat.zero_add, new_cell _ _ rfl]; simpa [shrCells] using hj
    obtain ⟨i0, hi0, hz0, hz1, hz2⟩ := info_parts info146
    have HZ := hid (And.intro hi0 (And.intro hz0 (And.intro hz1 hz2)))
    have hmax : r + 1 ≤ 1000000000 := by omega
    have hlb := lt_of_block hb2
    have hBl := lt_of_block hbx
    clear hi0 hz0 hz1 hz2 hrow hown hb2 hbx hbelW hrr
    gi_wp2_with (refine wpIn_append_row (fun _ => trivial) rfl (.tmp 8) (.tmp 10) rfl Tryz.underlying105 HZ.out.1 HZ.out.2.1 HZ.out.2.2.1 HZ.out.2.2.2 (by simp [Value.cells]) (by omega) (v := v) rfl HRW.out ⟨W2.heap.size, 0, none⟩ 1 rfl (shrCells s) rfl HNW.out (fun u hu => by simp [shrCells] at hu; rcases hu with rfl | rfl | rfl | rfl <;> rfl) hmax (by omega) ?_; intro v' w' hrow' hgr' how'; obtain ⟨sa', sn', sc', rfl⟩ := hrow'.isSlice; have hbv' := grownBy_block hgr' HB2.out (fun e => by have := HOWN.out _ e.symm; omega); have hcv' := cell_of hbv'; have hfv' := free_of hbv')
    have hbel' : Ext w w' := Below.trans (HBE.out.alloc _) ⟨hgr'.os, hgr'.tape, hgr'.output, hgr'.size, fun j hj => hgr'.block j (by simp; omega) (fun e => by have := HOWN.out j e.symm; omega)⟩
    have hsz := HBE.out.size
    have hown' : ∀ g, (Value.slice sa' sn' sc').ownBlock = some g → W.heap.size ≤ g := fun g hg => by
      rcases how' with e | e
      · exact HOWN.out g (by rw [← e]; exact hg)
      · rw [hg] at e; cases e; simp; omega
    refine ⟨⟨(keepsFrom_extS ((Ext.refl W2).alloc _)).trans ((keepsFrom_grownS HRW.out hgr').trans ((KeepsOthers.setCell _ _ _).from _)), hbel'.set (Nat.le_refl _) _ _, hid ⟨_, set_same hbv' 0 _, ?_, hown'⟩⟩, KeepP.nothing _ _⟩
    rw [HF1.out]
    exact hrow'.set (fun e => by have := hown' _ e; omega) _ _
  case done =>
    rintro D W2 hD ⟨hbelW, hb2⟩ hK
    obtain ⟨v, e1, e2, e3⟩ := hb2.out
    have hcy := cell_of e1
    have HRW := hid (And.intro e1 (And.intro e2 e3))
    have HBW := hid (show Ext w W2 from hbelW)
    clear e1 e2 e3 hb2 hbelW
    rw [HLM.out] at HRW
    gi_wp2_with fail
    have hws := HWS.out
    refine leave_mark hK (v := v) (by simp [results, Tryz.results134, go_sem]) ⟨v, rfl, ?_, ?_, ?_⟩
    · exact (put_past (B := w.heap.size) _ _ (by omega)).below HBW.out (Nat.le_refl _) (Nat.le_refl _)
    · exact HRW.out.2.1.kept fun k o hk ho => by
        rw [World.putObj_heap_other (by rintro rfl; have h := HRW.out.2.1.isCells hk ho; rw [hK] at ho; cases ho; cases h)]; exact ho
    · intro g hg
      have := HRW.out.2.2 g hg; omega
end
end Go.Proofs.YtjocoadhalimjaaGreat
