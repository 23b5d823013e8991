/- The reference: the claims of all lenders. -/
import Derived.Test.YtjocoadhalimjaaGreatRBV
import Derived.Test.YtjocoadhalimjaaGreatRBO
set_option linter.unusedSimpArgs false
set_option linter.unusedVariables false
namespace Go.Proofs.YtjocoadhalimjaaGreat
open Go Go.RowKit Go.Shelf

/-- One cell is loaded (by operation 3), and stored: first the load. -/
def chJ (w0 wa wb : World) (st : Nat) : InvJ := fun L x u => Ext w0 u ∧ (L st = false → u = wa) ∧ (L st = true → u = wb ∧ L 3 = true)
section
variable {w0 wa wb u : World} {st : Nat} {L : Nat → Bool} {x : Nat → Value}
theorem chJ_start (h : Ext w0 wa) : chJ w0 wa wb st (fun _ => false) (fun _ => undef) wa := ⟨h, fun _ => rfl, fun h => by cases h⟩
theorem chJ_other (h : chJ w0 wa wb st L x u) {q : Nat} (h1 : st ≠ q) (h2 : 3 ≠ q) : chJ w0 wa wb st (updL L q) x u := by
  unfold chJ updL at *
  rw [if_neg h1, if_neg h2]; exact h
theorem chJ_load (h : chJ w0 wa wb st L x u) (hL : L 3 = false) (h1 : st ≠ 3) : u = wa ∧ chJ w0 wa wb st (updL L 3) x u := by
  have hs : L st = false := by
    cases hh : L st with
    | false => rfl
    | true => have := (h.2.2 hh).2; rw [hL] at this; cases this
  refine ⟨h.2.1 hs, ?_⟩
  unfold chJ updL
  rw [if_neg h1, if_pos rfl]
  exact ⟨h.1, h.2.1, fun hh => ⟨(h.2.2 hh).1, rfl⟩⟩
theorem chJ_store (h : chJ w0 wa wb st L x u) (hL : L st = false) (h3 : L 3 = true) (h1 : 3 ≠ st) (hb : Ext w0 wb) : u = wa ∧ chJ w0 wa wb st (updL L st) x wb := by
  refine ⟨h.2.1 hL, ?_⟩
  unfold chJ updL
  rw [if_pos rfl, if_neg h1]
  exact ⟨hb, fun hh => (by cases hh), fun _ => ⟨rfl, h3⟩⟩
theorem chJ_blk (h : chJ w0 wa wb st L x u) {g : Nat} {o : Obj} (ha : wa.heap[g]? = some o) (hb : wb.heap[g]? = some o) : u.heap[g]? = some o := by
  cases hh : L st with
  | false => rw [h.2.1 hh]; exact ha
  | true => rw [(h.2.2 hh).1]; exact hb
end
theorem info59 : (Tryz.prog.info? 59).map (fun i => (i.zero, i.size, i.bytes)) = some (some (.agg #[.string ⟨#[]⟩, .string ⟨#[]⟩, .int .i64 0, .int .i64 0]), 4, 48) := by kernel_rfl
theorem size59 : (Tryz.prog.info? 59).map (·.size) = some 4 := by kernel_rfl
def preG (l : List Stk) (xs : List Ln) (k : Nat) : Bool := decide (xs.length ≤ 12) && allTo (fun j => lnGood l (xs.getD j noLn)) k
theorem allTo_snoc (f : Nat → Bool) (k : Nat) : allTo f (k + 1) = (allTo f k && f k) := by
  unfold allTo; rw [List.range_succ, List.all_append]; simp
theorem preG_succ (l : List Stk) (xs : List Ln) {k : Nat} (h : k < xs.length) (hp : preG l xs k = true) : preG l xs (k + 1) = lnGood l xs[k] := by
  unfold preG at hp ⊢
  rw [Bool.and_eq_true] at hp
  rw [allTo_snoc, hp.1, hp.2, getD_of h]; simp
theorem preG_false {l : List Stk} {xs : List Ln} {k : Nat} (hk : k ≤ xs.length) (hp : preG l xs k = false) : preG l xs xs.length = false := by
  cases h : preG l xs xs.length with
  | false => rfl
  | true =>
    exfalso
    have : preG l xs k = true := by
      unfold preG allTo at h ⊢
      simp only [Bool.and_eq_true, List.all_eq_true, List.mem_range] at h ⊢
      exact ⟨h.1, fun j hj => h.2 j (by omega)⟩
    rw [this] at hp; cases hp
theorem preG_all {l : List Stk} {xs : List Ln} {k : Nat} (hp : preG l xs k = true) : xs.length ≤ 12 ∧ ∀ j, j < k → lnGood l (xs.getD j noLn) = true := by
  unfold preG allTo at hp
  simp only [Bool.and_eq_true, decide_eq_true_eq, List.all_eq_true, List.mem_range] at hp
  exact hp
/-- The last part of the check: whose numbers are not below 0. -/
def endG (l : List Stk) (xs : List Ln) (k : Nat) : Bool := preG l xs xs.length && allTo (fun i => notLess (lentTo l xs xs.length i)) k
theorem endG_all (l : List Stk) (xs : List Ln) : endG l xs l.length = lendB l xs := by
  unfold endG preG lendB
  rw [Bool.and_assoc]
theorem endG_zero (l : List Stk) (xs : List Ln) : endG l xs 0 = preG l xs xs.length := by unfold endG allTo; simp
theorem endG_succ (l : List Stk) (xs : List Ln) (k : Nat) : endG l xs (k + 1) = (endG l xs k && notLess (lentTo l xs xs.length k)) := by
  unfold endG; rw [allTo_snoc, Bool.and_assoc]
/-- Both lists, as far as they are made. -/
structure ClJ (w0 wr : World) (o s : Value) (n : Nat) (S : Nat → Int × Int) : Prop where
  ext : Ext w0 wr
  nets : Row wr 3 1 o n (intsF n fun i => (S i).1)
  out : Row wr 3 1 s n (intsF n fun i => (S i).2)
  oo : ∀ g, o.ownBlock = some g → w0.heap.size ≤ g
  os : ∀ g, s.ownBlock = some g → w0.heap.size ≤ g
  ne : ∀ g, o.ownBlock = some g → s.ownBlock ≠ some g
def updI (f : Nat → Int) (a : Nat) (v : Int) : Nat → Int := fun i => if i = a then v else f i
theorem set_ints (n : Nat) (f : Nat → Int) (a : Nat) (v : Int) : (intsF n f).set a (.int .i64 v) = intsF n (updI f a v) := by
  refine List.ext_getElem (by simp [intsF]) fun i h1 h2 => ?_
  rw [List.getElem_set]
  simp only [intsF, List.getElem_map, List.getElem_range, updI]
  by_cases h : a = i
  · rw [if_pos h, if_pos h.symm]
  · rw [if_neg h, if_neg (Ne.symm h)]
theorem good_num (l : List Stk) (f g : ByteArray) (n r : Int) : lnGood l ⟨f, g, n, r⟩ = (decide (0 ≤ placeN (nmsOf l) f) && (decide (0 ≤ placeN (nmsOf l) g) && (!(placeN (nmsOf l) f == placeN (nmsOf l) g) && (inB n 1 1000 && inB r 0 8)))) := by
  unfold lnGood loanB
  simp only
  by_cases h1 : 0 ≤ placeN (nmsOf l) f
  · by_cases h2 : 0 ≤ placeN (nmsOf l) g
    · have : (f.toList == g.toList) = (placeN (nmsOf l) f == placeN (nmsOf l) g) := by
        rw [Bool.eq_iff_iff, beq_iff_eq, beq_iff_eq]
        constructor
        · intro h; unfold placeN; rw [h]
        · intro h
          rcases placeN_range (nmsOf l) f with h3 | ⟨i, hi, e1, e2⟩
          · omega
          · rcases placeN_range (nmsOf l) g with h3 | ⟨j, hj, e3, e4⟩
            · omega
            · have : i = j := by omega
              subst this
              rw [← e2, ← e4]
      rw [this]
    · rw [decide_eq_false h2]; simp
  · rw [decide_eq_false h1]; simp
theorem step_nets (l : List Stk) (S : LSt) (f g : ByteArray) (n r : Int) (a c : Nat) (hf : placeN (nmsOf l) f = a) (hg : placeN (nmsOf l) g = c) (hne : a ≠ c) : (fun i => (lnStep l S ⟨f, g, n, r⟩ i).1) = updI (updI (fun i => (S i).1) a ((S a).1 - n)) c ((S c).1 + n) := by
  funext i
  unfold lnStep updI
  simp only [hf, hg]
  by_cases h1 : i = c
  · subst h1; simp
  · rw [if_neg (by omega), if_neg h1]
    by_cases h2 : i = a
    · subst h2; simp
    · rw [if_neg (by omega), if_neg h2]
theorem step_outs (l : List Stk) (S : LSt) (f g : ByteArray) (n r : Int) (a c : Nat) (hf : placeN (nmsOf l) f = a) (hg : placeN (nmsOf l) g = c) (hne : a ≠ c) : (fun i => (lnStep l S ⟨f, g, n, r⟩ i).2) = updI (updI (fun i => (S i).2) a ((S a).2 - (8 - r) * n)) c ((S c).2 + (8 - r) * n) := by
  funext i
  unfold lnStep updI
  simp only [hf, hg]
  by_cases h1 : i = c
  · subst h1; simp
  · rw [if_neg (by omega), if_neg h1]
    by_cases h2 : i = a
    · subst h2; simp
    · rw [if_neg (by omega), if_neg h2]
theorem wrap_eight {r : Int} (h : 0 ≤ r ∧ r ≤ 8) : wrap64 (8 - r) = 8 - r := by unfold wrap64; omega
theorem wrapk_eight {r : Int} (h : 0 ≤ r ∧ r ≤ 8) : IntKind.i64.wrap (8 - r) = 8 - r := by rw [IntKind.wrap_i64]; omega

set_option maxRecDepth 100000 in
set_option maxHeartbeats 16000000 in
theorem rclaims_any (V : Voy) (s : VS) (w : World) (h : VoyAt w V s) (hle : stakesB V.le = true) : Cal 56 #[.agg (voyA V s)] w fun e w' => ∃ r, e = .returned (.tuple #[r, .bool (lendB V.le V.lo)]) ∧ Ext w w' ∧ Hid (lendB V.le V.lo = true → Row w' 3 1 r V.le.length (intsF V.le.length fun i => (lentV V i).2)) := by
  have hok := stakes_ok hle
  have HX0 : Hid (Ext w (w.alloc (.cells (voyA V s) 32))) := hid ((Ext.refl _).alloc _)
  have HB0 : Hid ((w.alloc (.cells (voyA V s) 32)).heap[w.heap.size]? = some (.cells (voyA V s) 32 (0, 0))) := hid (Ext.new (Ext.refl _))
  have HPL := hid (fun (u : World) (hu : Ext w u) (nm : ByteArray) => place_any V s nm u (h.mono hu))
  have HST := hid (fun (k : Nat) (hk : k < V.le.length) => (show ∃ b off, s.la = some ⟨b, off, none⟩ ∧ ∀ u, Ext w u → u.cell? ⟨b, off + k * 2 + 1, none⟩ = some (.int .i64 V.le[k].weight) by
    obtain ⟨a1, c1, e, _, hc⟩ := h.le
    obtain ⟨e1, _, _⟩ := Value.slice.inj e
    obtain ⟨b, off, e2, hb, _, h0⟩ := hc k hk
    exact ⟨b, off, e1.trans e2, fun u hu => by rw [hu.cell (p := ⟨b, _, none⟩) hb, h0]⟩))
  have HLO := hid (fun (k : Nat) (hk : k < V.lo.length) => (show ∃ b off, s.xa = some ⟨b, off, none⟩ ∧ ∀ u, Ext w u → (u.cell? ⟨b, off + k * 4, none⟩ = some (.string V.lo[k].f) ∧ u.cell? ⟨b, off + k * 4 + 1, none⟩ = some (.string V.lo[k].g) ∧ u.cell? ⟨b, off + k * 4 + 2, none⟩ = some (.int .i64 V.lo[k].n) ∧ u.cell? ⟨b, off + k * 4 + 3, none⟩ = some (.int .i64 V.lo[k].r)) by
    obtain ⟨a1, c1, e, _, hc⟩ := h.lo
    obtain ⟨e1, _, _⟩ := Value.slice.inj e
    obtain ⟨b, off, e2, hb, h0, h1, h2, h3⟩ := hc k hk
    exact ⟨b, off, e1.trans e2, fun u hu => by rw [hu.cell (p := ⟨b, _, none⟩) hb, hu.cell (p := ⟨b, _, none⟩) hb, hu.cell (p := ⟨b, _, none⟩) hb, hu.cell (p := ⟨b, _, none⟩) hb]; exact ⟨h0, h1, h2, h3⟩⟩))
  have HXL : Hid (V.lo.length ≤ 1000000000000000) := hid (by obtain ⟨a1, c1, e, h1, hc⟩ := h.lo; exact h1.2)
  have HOK := hid hok
  have hl10 := hok.1
  clear h hok hle
  unfold voyA at *
  gi_enter Tryz.func56, Tryz.ntmps56
  gi_wp2_with fail
  generalize w.alloc (.cells _ 32) = wa at *
  obtain ⟨bx, hbx⟩ : ∃ bx, bx = w.heap.size := ⟨_, rfl⟩
  rw [← hbx] at HB0 ⊢
  have HBX := hid hbx
  clear hbx
  gi_loopw [4, 5, 6] (fun o r i wr => ∃ k : Nat, k ≤ V.le.length ∧ i = .int .i64 k ∧ Hid (ClJ wa wr o r k (lent0 V.le))) (fun _ _ i _ => V.le.length - (intOf i).toNat)
  case atStart => exact ⟨0, Nat.zero_le _, rfl, hid ⟨Ext.refl _, Row.nil _ _ _, Row.nil _ _ _, fun g h => by simp [Value.ownBlock] at h, fun g h => by simp [Value.ownBlock] at h, fun g h => by simp [Value.ownBlock] at h⟩⟩
  case round =>
    obtain ⟨k, hk, rfl, HI⟩ := hrel
    by_cases hlt : k < V.le.length
    · have hki : (k : Int) < (V.le.length : Int) := by omega
      obtain ⟨b, off, hsa, hc⟩ := HST.out k hlt
      obtain ⟨hx, ho, hs, hoo, hos, hne⟩ := HI.out
      have HBC := hid (fun (u : World) (hu : Ext wa u) => (cell_of (hu.block HB0.out) 6).trans (show some (Value.slice s.la V.le.length s.lc) = some (Value.slice (some ⟨b, off, none⟩) V.le.length s.lc) by rw [hsa]))
      have HCW := hid (fun (u : World) (hu : Ext wa u) => hc u (HX0.out.trans hu))
      have hwb := (HOK.out.2.1 V.le[k] (List.getElem_mem hlt)).2
      have HI1 := hid (intsF_succ k (fun i => (lent0 V.le i).1))
      have HI2 := hid (intsF_succ k (fun i => (lent0 V.le i).2))
      have e1 : (lent0 V.le k).1 = V.le[k].weight := by unfold lent0; rw [getD_of hlt]
      have e2 : (lent0 V.le k).2 = 8 * V.le[k].weight := by unfold lent0; rw [getD_of hlt]
      rw [e1] at HI1
      rw [e2] at HI2
      generalize V.le[k].weight = x at *
      have hk6 : k ≤ 1000000 := by omega
      have hwx : wrap64 (8 * x) = 8 * x := by unfold wrap64; omega
      have hwk : IntKind.i64.wrap (8 * x) = 8 * x := by rw [IntKind.wrap_i64]; omega
      have HLT := hid hlt
      obtain ⟨na, nc, rfl⟩ := ho.isSliceN
      obtain ⟨sa, sc, rfl⟩ := hs.isSliceN
      have HTW := twoJ_start (i1 := 7) (j1 := 8) (i2 := 17) (j2 := 18) (e1 := .int .i64 x) (e2 := .int .i64 (8 * x)) hx ho hs hoo hos hne
      have c0 := HBC.out wr hx
      clear HI hx ho hs hoo hos hne hc hsa e1 e2 hlt hwb
      gi_upto_region 5 with fail
      clear c0
      refine jj_own 19 [7, 8, 17, 18] _ (by kernel_rfl) (by kernel_rfl) HTW ?_
      simp only [List.take_succ_cons, List.take_zero, List.drop_succ_cons, List.drop_zero]
      clear HTW
      apply jj_fun (by decide)
      · intro L x u hL hd hJ
        have HJ := hid (twoJ_skip (k := 0) (by rfl) hJ)
        clear hJ hd hL
        go_simp
        exact ⟨rfl, HJ.out⟩
      simp only [Act.put, List.setIfInBounds_toArray, List.set_cons_succ, List.set_cons_zero]
      apply jj_fun (by decide)
      · intro L x u hL hd hJ
        have HJ := hid (twoJ_skip (k := 1) (by rfl) hJ)
        clear hJ hd hL
        go_simp
        exact ⟨rfl, HJ.out⟩
      simp only [Act.put, List.setIfInBounds_toArray, List.set_cons_succ, List.set_cons_zero]
      apply jj_fun (by decide)
      · intro L x u hL hd hJ
        have c0 := HBC.out u hJ.1
        have HJ := hid (twoJ_skip (k := 2) (by rfl) hJ)
        clear hJ hd hL
        go_simp
        exact ⟨rfl, HJ.out⟩
      simp only [Act.put, List.setIfInBounds_toArray, List.set_cons_succ, List.set_cons_zero]
      apply jj_fun (by decide)
      · intro L x u hL hd hJ
        have HJ := hid (twoJ_skip (k := 3) (by rfl) hJ)
        clear hJ hd hL
        go_simp
        exact ⟨rfl, HJ.out⟩
      simp only [Act.put, List.setIfInBounds_toArray, List.set_cons_succ, List.set_cons_zero]
      apply jj_fun (by decide)
      · intro L x u hL hd hJ
        have HJ := hid (twoJ_skip (k := 4) (by rfl) hJ)
        clear hJ hd hL
        go_simp
        exact ⟨rfl, HJ.out⟩
      simp only [Act.put, List.setIfInBounds_toArray, List.set_cons_succ, List.set_cons_zero]
      apply jj_fun (by decide)
      · intro L x u hL hd hJ
        have HJ := hid (twoJ_skip (k := 5) (by rfl) hJ)
        clear hJ hd hL
        go_simp
        exact ⟨rfl, HJ.out⟩
      simp only [Act.put, List.setIfInBounds_toArray, List.set_cons_succ, List.set_cons_zero]
      apply jj_fun (by decide)
      · intro L x u hL hd hJ
        have c1 := HCW.out u hJ.1
        have HJ := hid (twoJ_skip (k := 6) (by rfl) hJ)
        clear hJ hd hL
        go_simp
        exact ⟨rfl, HJ.out⟩
      simp only [Act.put, List.setIfInBounds_toArray, List.set_cons_succ, List.set_cons_zero]
      refine jj_inv (by decide) ?_ ?_
      · intro L x u hL hd hJ
        have HJ := hid (twoJ_make1 (by rfl) hJ)
        clear hJ hd hL
        go_simp
        exact HJ.out
      simp only [Act.put, List.setIfInBounds_toArray, List.set_cons_succ, List.set_cons_zero]
      refine jj_inv (by decide) ?_ ?_
      · intro L x u hL hd hJ
        obtain ⟨v', u', h1, h2, h3, h4⟩ := twoJ_run1 hJ (by first | exact hd.1 rfl | exact hd.2.1 rfl) hL hk6 rfl
        rw [if_pos (show Region.wanted _ _ = true from rfl)]
        exact gives_append (.tmp 20) (.tmp 27) 23 rfl rfl rfl h1 ⟨twoJ_app1 (by rfl) hJ hL h2 h3 h4, trivial⟩
      simp only [Act.put, List.setIfInBounds_toArray, List.set_cons_succ, List.set_cons_zero]
      apply jj_fun (by decide)
      · intro L x u hL hd hJ
        have HJ := hid (twoJ_skip (k := 9) (by rfl) hJ)
        clear hJ hd hL
        go_simp
        exact ⟨rfl, HJ.out⟩
      simp only [Act.put, List.setIfInBounds_toArray, List.set_cons_succ, List.set_cons_zero]
      apply jj_fun (by decide)
      · intro L x u hL hd hJ
        have HJ := hid (twoJ_skip (k := 10) (by rfl) hJ)
        clear hJ hd hL
        go_simp
        exact ⟨rfl, HJ.out⟩
      simp only [Act.put, List.setIfInBounds_toArray, List.set_cons_succ, List.set_cons_zero]
      apply jj_fun (by decide)
      · intro L x u hL hd hJ
        have c0 := HBC.out u hJ.1
        have HJ := hid (twoJ_skip (k := 11) (by rfl) hJ)
        clear hJ hd hL
        go_simp
        exact ⟨rfl, HJ.out⟩
      simp only [Act.put, List.setIfInBounds_toArray, List.set_cons_succ, List.set_cons_zero]
      apply jj_fun (by decide)
      · intro L x u hL hd hJ
        have HJ := hid (twoJ_skip (k := 12) (by rfl) hJ)
        clear hJ hd hL
        go_simp
        exact ⟨rfl, HJ.out⟩
      simp only [Act.put, List.setIfInBounds_toArray, List.set_cons_succ, List.set_cons_zero]
      apply jj_fun (by decide)
      · intro L x u hL hd hJ
        have HJ := hid (twoJ_skip (k := 13) (by rfl) hJ)
        clear hJ hd hL
        go_simp
        exact ⟨rfl, HJ.out⟩
      simp only [Act.put, List.setIfInBounds_toArray, List.set_cons_succ, List.set_cons_zero]
      apply jj_fun (by decide)
      · intro L x u hL hd hJ
        have HJ := hid (twoJ_skip (k := 14) (by rfl) hJ)
        clear hJ hd hL
        go_simp
        exact ⟨rfl, HJ.out⟩
      simp only [Act.put, List.setIfInBounds_toArray, List.set_cons_succ, List.set_cons_zero]
      apply jj_fun (by decide)
      · intro L x u hL hd hJ
        have c1 := HCW.out u hJ.1
        have HJ := hid (twoJ_skip (k := 15) (by rfl) hJ)
        clear hJ hd hL
        go_simp
        exact ⟨rfl, HJ.out⟩
      simp only [Act.put, List.setIfInBounds_toArray, List.set_cons_succ, List.set_cons_zero]
      apply jj_fun (by decide)
      · intro L x u hL hd hJ
        have HJ := hid (twoJ_skip (k := 16) (by rfl) hJ)
        clear hJ hd hL
        go_simp
        exact ⟨rfl, HJ.out⟩
      simp only [Act.put, List.setIfInBounds_toArray, List.set_cons_succ, List.set_cons_zero]
      refine jj_inv (by decide) ?_ ?_
      · intro L x u hL hd hJ
        have HJ := hid (twoJ_make2 (by rfl) hJ)
        clear hJ hd hL
        go_simp
        exact HJ.out
      simp only [Act.put, List.setIfInBounds_toArray, List.set_cons_succ, List.set_cons_zero]
      refine jj_inv (by decide) ?_ ?_
      · intro L x u hL hd hJ
        obtain ⟨v', u', h1, h2, h3, h4⟩ := twoJ_run2 hJ (by first | exact hd.1 rfl | exact hd.2.1 rfl) hL hk6 rfl
        rw [if_pos (show Region.wanted _ _ = true from rfl)]
        exact gives_append (.tmp 29) (.tmp 37) 23 rfl rfl rfl h1 ⟨twoJ_app2 (by rfl) hJ hL h2 h3 h4, trivial⟩
      simp only [Act.put, List.setIfInBounds_toArray, List.set_cons_succ, List.set_cons_zero]
      refine jj_nil fun L x u hall hJ => ?_
      obtain ⟨hxu, ho, hs, hoo, hos, hne⟩ := twoJ_end hJ (hall 8 (by omega)) (hall 18 (by omega))
      clear hJ hall hwx hwk L
      simp only [Nat.zero_add, Nat.reduceAdd]
      rw [← HI1.out] at ho
      rw [← HI2.out] at hs
      generalize x 7 = bx1 at *
      generalize x 17 = bx2 at *
      generalize x 8 = o2 at *
      generalize x 18 = s2 at *
      clear x
      have HJ2 := hid (ClJ.mk (S := lent0 V.le) hxu ho hs hoo hos hne)
      clear hxu ho hs hoo hos hne HI1 HI2
      gi_wp2_with fail
      go_roundw
      case rel => exact ⟨k + 1, by have := HLT.out; omega, by go_num, HJ2⟩
      case measure => have := HLT.out; simp [intOf]; omega
    · obtain rfl : k = V.le.length := by omega
      have hki : ¬ (V.le.length : Int) < (V.le.length : Int) := by omega
      have c0 := (cell_of (HI.out.ext.block HB0.out) 6).trans (show some (Value.slice s.la V.le.length s.lc) = some (Value.slice s.la V.le.length s.lc) from rfl)
      have c1 := (cell_of (HI.out.ext.block HB0.out) 8).trans (show some (Value.slice s.xa V.lo.length s.xc) = some (Value.slice s.xa V.lo.length s.xc) from rfl)
      have HJ0 := hid HI.out
      have hpre : decide (V.lo.length ≤ 12) = preG V.le V.lo 0 := by
        unfold preG allTo
        rw [List.range_zero]
        simp only [List.all_nil, Bool.and_true]
      clear HI hlt
      gi_upto_region 7 with fail
      have HN1 := hid (fun (wr : World) (o r : Value) (hj : ClJ wa wr o r V.le.length (lent0 V.le)) => (show ClJ wa wr o r V.le.length (lentTo V.le V.lo 0) from by unfold lentTo; rw [List.take_zero, List.foldl_nil]; exact hj))
      have HJ1 := hid (HN1.out _ _ _ HJ0.out)
      have HPRE := hid hpre
      clear HN1 HJ0 hpre c0 c1
      have HWL := hid (fun (k : Nat) => lentTo_bound (l := V.le) (xs := V.lo) (fun x hx => (HOK.out.2.1 x hx).2) k)
      gi_wp2_with fail
      gi_loopw [7, 8, 9, 10, 11] (fun ok i u9 u10 u11 wr => ∃ k m : Nat, k ≤ V.lo.length ∧ i = .int .i64 k ∧ ok = .bool (preG V.le V.lo k) ∧ (preG V.le V.lo k = true → m = k) ∧ Hid (ClJ wa wr u4 u5 V.le.length (lentTo V.le V.lo m))) (fun _ i _ _ _ _ => V.lo.length - (intOf i).toNat)
      case atStart => exact ⟨0, 0, Nat.zero_le _, rfl, by rw [← HPRE.out]; exact congrArg Value.bool (decide_eq_decide.2 (by omega)), fun _ => rfl, HJ1⟩
      case round =>
        obtain ⟨k, m, hk, rfl, rfl, hmk, HI⟩ := hrel
        clear HJ1
        cases hp : preG V.le V.lo k with
        | false =>
          have hpf := preG_false hk hp
          have HCJ := hid HI.out
          have HPF := hid hpf
          have HSX : Hid (preG V.le V.lo V.lo.length = true → lentTo V.le V.lo m = lentTo V.le V.lo V.lo.length) := hid fun h => by rw [HPF.out] at h; cases h
          have HOKV : Hid (false = endG V.le V.lo 0) := hid (by rw [endG_zero, HPF.out])
          clear HI hp hmk hpf
          have hex : ∃ Sx, Hid (ClJ wa wr u4 u5 V.le.length Sx) ∧ Hid (preG V.le V.lo V.lo.length = true → Sx = lentTo V.le V.lo V.lo.length) := ⟨_, HCJ, HSX⟩
          clear HCJ HSX
          obtain ⟨Sx, HCJ, HSX⟩ := hex
          obtain ⟨ra, rc, e5⟩ := HCJ.out.out.isSliceN
          subst e5
          obtain ⟨na, nc, e4⟩ := HCJ.out.nets.isSliceN
          subst e4
          obtain ⟨we, rfl⟩ : ∃ we, we = wr := ⟨wr, rfl⟩
          gi_wp2_with fail
          gi_loopw [7, 12] (fun ok i wr => wr = we ∧ ∃ k : Nat, k ≤ V.le.length ∧ i = .int .i64 k ∧ ok = .bool (endG V.le V.lo k)) (fun _ i _ => V.le.length - (intOf i).toNat)
          case atStart => exact ⟨rfl, 0, Nat.zero_le _, rfl, by rw [← HOKV.out]⟩
          case round =>
            obtain ⟨hwe, k, hk, rfl, rfl⟩ := hrel
            subst hwe
            by_cases hlt : k < V.le.length
            · have hki : (k : Int) < (V.le.length : Int) := by omega
              have hes := endG_succ V.le V.lo k
              have HLT := hid hlt
              cases he : endG V.le V.lo k with
              | false =>
                rw [he, Bool.false_and] at hes
                have HES := hid hes
                clear hes he hlt
                gi_wp2_with fail
                all_goals first
                  | exact (undef_no' ‹_›).elim
                  | (go_roundw
                     case rel => exact ⟨by first | rfl | trivial, k + 1, by have := HLT.out; omega, by go_num, by rw [HES.out]⟩
                     case measure => have := HLT.out; simp [intOf]; omega)
              | true =>
                rw [he, Bool.true_and] at hes
                have hpf : preG V.le V.lo V.lo.length = true := by
                  unfold endG at he; rw [Bool.and_eq_true] at he; exact he.1
                have hSX := HSX.out hpf
                obtain ⟨g1, p1, q1, e1, hp1, _, hc1, _⟩ := HCJ.out.nets.cells1 hlt
                obtain ⟨g2, p2, q2, e2, hp2, _, hc2, _⟩ := HCJ.out.out.cells1 hlt
                rw [show (intsF V.le.length fun i => (Sx i).1)[k]? = some (.int .i64 (Sx k).1) by simp [intsF, hlt]] at hc1
                rw [show (intsF V.le.length fun i => (Sx i).2)[k]? = some (.int .i64 (Sx k).2) by simp [intsF, hlt]] at hc2
                rw [← hSX] at hes
                unfold notLess at hes
                cases e1
                cases e2
                generalize (Sx k).1 = x1 at *
                generalize (Sx k).2 = x2 at *
                clear hSX hpf he hlt
                by_cases h1 : x1 < 0
                · have hd1 : decide (x1 ≥ 0) = false := decide_eq_false (by omega)
                  have HES : Hid (endG V.le V.lo (k + 1) = false) := hid (by rw [hes]; simp [h1])
                  clear hes h1
                  gi_wp2_with fail
                  all_goals first
                    | exact (undef_no' ‹_›).elim
                    | (go_roundw
                       case rel => exact ⟨by first | rfl | trivial, k + 1, by have := HLT.out; omega, by go_num, by rw [HES.out]⟩
                       case measure => have := HLT.out; simp [intOf]; omega)
                · have hd1 : decide (x1 ≥ 0) = true := decide_eq_true (by omega)
                  by_cases h2 : x2 < 0
                  · have hd2 : decide (x2 ≥ 0) = false := decide_eq_false (by omega)
                    have HES : Hid (endG V.le V.lo (k + 1) = false) := hid (by rw [hes]; simp [h2])
                    clear hes h1 h2
                    gi_wp2_with fail
                    all_goals first
                      | exact (undef_no' ‹_›).elim
                      | (go_roundw
                         case rel => exact ⟨by first | rfl | trivial, k + 1, by have := HLT.out; omega, by go_num, by rw [HES.out]⟩
                         case measure => have := HLT.out; simp [intOf]; omega)
                  · have hd2 : decide (x2 ≥ 0) = true := decide_eq_true (by omega)
                    have HES : Hid (endG V.le V.lo (k + 1) = true) := hid (by rw [hes]; simp; omega)
                    clear hes h1 h2
                    gi_wp2_with fail
                    all_goals first
                      | exact (undef_no' ‹_›).elim
                      | (go_roundw
                         case rel => exact ⟨by first | rfl | trivial, k + 1, by have := HLT.out; omega, by go_num, by rw [HES.out]⟩
                         case measure => have := HLT.out; simp [intOf]; omega)
            · obtain rfl : k = V.le.length := by omega
              have hki : ¬ (V.le.length : Int) < (V.le.length : Int) := by omega
              have HEA := hid (endG_all V.le V.lo)
              have HFIN : Hid (lendB V.le V.lo = true → Row wr 3 1 (.slice ra V.le.length rc) V.le.length (intsF V.le.length fun i => (lentV V i).2)) := hid fun hlb => by
                have hpf : preG V.le V.lo V.lo.length = true := by
                  rw [← HEA.out] at hlb
                  unfold endG at hlb; rw [Bool.and_eq_true] at hlb; exact hlb.1
                have := HCJ.out.out
                rw [HSX.out hpf] at this
                exact this
              have HXF := hid (HX0.out.trans HCJ.out.ext)
              clear hlt
              generalize endG V.le V.lo V.le.length = eb at *
              gi_wp2_with fail
              exact bodyPost_ret (v := .tuple #[.slice ra V.le.length rc, .bool eb]) (by simp [results, Tryz.results56, go_sem]) rfl ⟨_, by rw [HEA.out], HXF.out, HFIN⟩
        | true =>
          obtain rfl : m = k := hmk hp
          by_cases hlt : m < V.lo.length
          · have hki : (m : Int) < (V.lo.length : Int) := by omega
            obtain ⟨b, off, hsa, hc⟩ := HLO.out m hlt
            have HPS := hid (preG_succ V.le V.lo hlt hp)
            have hpa := preG_all hp
            have HBN := hid (HWL.out m (by omega) hpa.2)
            have hm12 : m < 12 := by omega
            have HLS := hid (lentTo_succ V.le (xs := V.lo) hlt)
            have HXC := hid HI.out.ext
            have HCJ := hid HI.out
            have c0 := (cell_of (HXC.out.block HB0.out) 8).trans (show some (Value.slice s.xa V.lo.length s.xc) = some (Value.slice (some ⟨b, off, none⟩) V.lo.length s.xc) by rw [hsa])
            obtain ⟨l0, l1, l2, l3⟩ := hc wr (HX0.out.trans HXC.out)
            have HBC := hid (fun (u : World) (hu : Ext wa u) (i : Nat) => cell_of (hu.block HB0.out) i)
            generalize V.lo[m] = z at *
            obtain ⟨f, g, n, r⟩ := z
            simp only at l0 l1 l2 l3
            have HLT := hid (And.intro hlt hm12)
            have HMK := hid hmk
            clear HI hc hsa hpa hlt hm12 hp hmk
            gi_upto_region 11 with (refine wpIn_store_fresh (fun _ => trivial) 59 (.tmp 9) (.tmp 57) rfl (W := wr) (c' := #[.string f, .string g, .int .i64 n, .int .i64 r]) rfl rfl rfl size59 rfl (by kernel_rfl) ?_)
            have hb := Ext.new (w := wr) (o := .cells #[.string f, .string g, .int .i64 n, .int .i64 r] 59) (Ext.refl _)
            have hxn : Ext wr (wr.alloc (.cells #[.string f, .string g, .int .i64 n, .int .i64 r] 59)) := (Ext.refl _).alloc _
            have HRN0 := hid (HCJ.out.nets.mono hxn)
            have HRO0 := hid (HCJ.out.out.mono hxn)
            have HLBN := hid (fun (q : Nat) (h : u4.ownBlock = some q ∨ u5.ownBlock = some q) => (show wr.heap.size ≠ q by
              rcases h with h | h
              · have := row_blk HCJ.out.nets h; omega
              · have := row_blk HCJ.out.out h; omega))
            have HOO := hid (And.intro HCJ.out.oo (And.intro HCJ.out.os HCJ.out.ne))
            have HXC := hid (HXC.out.trans hxn)
            have HLB := hid hb
            clear c0 l0 l1 l2 l3 hxn hb HCJ
            generalize wr.heap.size = lb at *
            generalize wr.alloc (.cells #[.string f, .string g, .int .i64 n, .int .i64 r] 59) = w1 at *
            refine lex_wide 8 [] (by kernel_rfl) (by kernel_rfl) (nStab_nil) ?_
            simp only [List.take_succ_cons, List.take_zero, List.drop_succ_cons, List.drop_zero]
            apply lex_fun (rfl : psAt _ _ = none)
            · intro x u hR hf
              have c0 := HBC.out u (HXC.out.trans hR)
              clear hR hf
              go_simp
              first | exact ⟨rfl, Ext.refl _⟩ | rfl
            simp only [Act.put, List.setIfInBounds_toArray, List.set_cons_succ, List.set_cons_zero]
            apply lex_fun (rfl : psAt _ _ = none)
            · intro x u hR hf
              clear hR hf
              go_simp
              first | exact ⟨rfl, Ext.refl _⟩ | rfl
            simp only [Act.put, List.setIfInBounds_toArray, List.set_cons_succ, List.set_cons_zero]
            apply lex_fun (rfl : psAt _ _ = none)
            · intro x u hR hf
              have c1 := cell_of (hR.block HLB.out)
              clear hR hf
              go_simp
              first | exact ⟨rfl, Ext.refl _⟩ | rfl
            simp only [Act.put, List.setIfInBounds_toArray, List.set_cons_succ, List.set_cons_zero]
            refine lex_fun (v := .int .i64 (placeN (nmsOf V.le) f)) (rfl : psAt _ _ = none) ?_ ?_
            · intro x u hR hf
              have hcal := hid (HPL.out u (HX0.out.trans (HXC.out.trans hR)) f)
              clear hR hf
              go_simp
              exact hcal.out.mono fun e w'' ⟨he, hx'⟩ => ⟨_, he, rfl, hx'⟩
            simp only [Act.put, List.setIfInBounds_toArray, List.set_cons_succ, List.set_cons_zero]
            apply lex_fun (rfl : psAt _ _ = none)
            · intro x u hR hf
              have c0 := HBC.out u (HXC.out.trans hR)
              clear hR hf
              go_simp
              first | exact ⟨rfl, Ext.refl _⟩ | rfl
            simp only [Act.put, List.setIfInBounds_toArray, List.set_cons_succ, List.set_cons_zero]
            apply lex_fun (rfl : psAt _ _ = none)
            · intro x u hR hf
              clear hR hf
              go_simp
              first | exact ⟨rfl, Ext.refl _⟩ | rfl
            simp only [Act.put, List.setIfInBounds_toArray, List.set_cons_succ, List.set_cons_zero]
            apply lex_fun (rfl : psAt _ _ = none)
            · intro x u hR hf
              have c1 := cell_of (hR.block HLB.out)
              clear hR hf
              go_simp
              first | exact ⟨rfl, Ext.refl _⟩ | rfl
            simp only [Act.put, List.setIfInBounds_toArray, List.set_cons_succ, List.set_cons_zero]
            refine lex_fun (v := .int .i64 (placeN (nmsOf V.le) g)) (rfl : psAt _ _ = none) ?_ ?_
            · intro x u hR hf
              have hcal := hid (HPL.out u (HX0.out.trans (HXC.out.trans hR)) g)
              clear hR hf
              go_simp
              exact hcal.out.mono fun e w'' ⟨he, hx'⟩ => ⟨_, he, rfl, hx'⟩
            simp only [Act.put, List.setIfInBounds_toArray, List.set_cons_succ, List.set_cons_zero]
            refine lex_nil fun x' wc hE hfacts => ?_
            clear hfacts x'
            have HXC := hid (HXC.out.trans hE)
            have HLB := hid (hE.block HLB.out)
            have HRN := hid (HRN0.out.mono hE)
            have HRO := hid (HRO0.out.mono hE)
            clear hE HRN0 HRO0
            have hm12 : m < 12 := HLT.out.2
            have hgd := good_num V.le f g n r
            have hfr := placeN_range (nmsOf V.le) f
            have hgr := placeN_range (nmsOf V.le) g
            have HSN := hid (fun (a c : Nat) h1 h2 h3 => step_nets V.le (lentTo V.le V.lo m) f g n r a c h1 h2 h3)
            have HSO := hid (fun (a c : Nat) h1 h2 h3 => step_outs V.le (lentTo V.le V.lo m) f g n r a c h1 h2 h3)
            obtain ⟨fi, hfi⟩ : ∃ fi, placeN (nmsOf V.le) f = fi := ⟨_, rfl⟩
            obtain ⟨gi, hgi⟩ : ∃ gi, placeN (nmsOf V.le) g = gi := ⟨_, rfl⟩
            rw [hfi] at hfr hgd ⊢
            rw [hgi] at hgr hgd ⊢
            have HFI := hid hfi
            have HGI := hid hgi
            have HCF := hid (ClJ.mk (S := lentTo V.le V.lo m) HXC.out HRN.out HRO.out HOO.out.1 HOO.out.2.1 HOO.out.2.2)
            have c2 : wc.cell? ⟨lb, 2, none⟩ = some (.int .i64 n) := cell_of HLB.out 2
            have c3 : wc.cell? ⟨lb, 3, none⟩ = some (.int .i64 r) := cell_of HLB.out 3
            clear hfi hgi HPL HBC
            by_cases h1 : fi < 0
            · have hd1 : decide (fi ≥ 0) = false := decide_eq_false (by omega)
              have HPF : Hid (preG V.le V.lo (m + 1) = false) := hid (by rw [HPS.out, hgd, decide_eq_false (show ¬ 0 ≤ fi by omega)]; rfl)
              clear hgd hfr hgr h1 c2 c3
              gi_wp2_with fail
              all_goals first
                | exact (undef_no' ‹_›).elim
                | (go_roundw
                   case rel => exact ⟨m + 1, m, by have := HLT.out.1; omega, by go_num, by rw [HPF.out], fun h => (by rw [HPF.out] at h; cases h), HCF⟩
                   case measure => have := HLT.out.1; simp [intOf]; omega)
            have hd1 : decide (fi ≥ 0) = true := decide_eq_true (by omega)
            rw [decide_eq_true (show 0 ≤ fi by omega), Bool.true_and] at hgd
            by_cases h2 : gi < 0
            · have hd2 : decide (gi ≥ 0) = false := decide_eq_false (by omega)
              have HPF : Hid (preG V.le V.lo (m + 1) = false) := hid (by rw [HPS.out, hgd, decide_eq_false (show ¬ 0 ≤ gi by omega)]; rfl)
              clear hgd hfr hgr h1 h2 c2 c3
              gi_wp2_with fail
              all_goals first
                | exact (undef_no' ‹_›).elim
                | (go_roundw
                   case rel => exact ⟨m + 1, m, by have := HLT.out.1; omega, by go_num, by rw [HPF.out], fun h => (by rw [HPF.out] at h; cases h), HCF⟩
                   case measure => have := HLT.out.1; simp [intOf]; omega)
            have hd2 : decide (gi ≥ 0) = true := decide_eq_true (by omega)
            rw [decide_eq_true (show 0 ≤ gi by omega), Bool.true_and] at hgd
            by_cases h3 : fi = gi
            · have hd3 : (fi != gi) = false := by simp [h3]
              have HPF : Hid (preG V.le V.lo (m + 1) = false) := hid (by rw [HPS.out, hgd, h3]; simp)
              subst h3
              clear hgd hfr hgr h1 h2 c2 c3
              gi_wp2_with fail
              all_goals first
                | exact (undef_no' ‹_›).elim
                | (go_roundw
                   case rel => exact ⟨m + 1, m, by have := HLT.out.1; omega, by go_num, by rw [HPF.out], fun h => (by rw [HPF.out] at h; cases h), HCF⟩
                   case measure => have := HLT.out.1; simp [intOf]; omega)
            have hd3 : (fi != gi) = true := by simp [h3]
            rw [show (fi == gi) = false by simp [h3], Bool.not_false, Bool.true_and] at hgd
            cases h4 : inB n 1 1000 with
            | false =>
              have HI1 := hid h4
              have HPF : Hid (preG V.le V.lo (m + 1) = false) := hid (by rw [HPS.out, hgd, h4]; rfl)
              clear hgd hfr hgr h1 h2 h3 h4 c3
              gi_wp2_with (gi_at_call 29; (with_reducible refine (In_b n 1 1000 false _ HI1.out).mono ?_); rintro e w1 ⟨rfl, rfl⟩)
              all_goals first
                | exact (undef_no' ‹_›).elim
                | (go_roundw
                   case rel => exact ⟨m + 1, m, by have := HLT.out.1; omega, by go_num, by rw [HPF.out], fun h => (by rw [HPF.out] at h; cases h), HCF⟩
                   case measure => have := HLT.out.1; simp [intOf]; omega)
            | true =>
              rw [h4, Bool.true_and] at hgd
              cases h5 : inB r 0 8 with
              | false =>
                have HI1 := hid h4
                have HI2 := hid h5
                have HPF : Hid (preG V.le V.lo (m + 1) = false) := hid (by rw [HPS.out, hgd, h5])
                clear hgd hfr hgr h1 h2 h3 h4 h5
                gi_wp2_with (gi_at_call 29; (first | (with_reducible refine (In_b n 1 1000 true _ HI1.out).mono ?_) | (with_reducible refine (In_b r 0 8 false _ HI2.out).mono ?_)); rintro e w1 ⟨rfl, rfl⟩)
                all_goals first
                  | exact (undef_no' ‹_›).elim
                  | (go_roundw
                     case rel => exact ⟨m + 1, m, by have := HLT.out.1; omega, by go_num, by rw [HPF.out], fun h => (by rw [HPF.out] at h; cases h), HCF⟩
                     case measure => have := HLT.out.1; simp [intOf]; omega)
              | true =>
                have HI1 := hid h4
                have HI2 := hid h5
                have HPT : Hid (preG V.le V.lo (m + 1) = true) := hid (by rw [HPS.out, hgd, h5])
                have HNB := hid (And.intro (inB_spec h4) (inB_spec h5))
                obtain ⟨a, ha, hfa, _⟩ : ∃ i, ∃ h : i < (nmsOf V.le).length, fi = i ∧ (nmsOf V.le)[i] = f := by
                  rcases hfr with h | h
                  · omega
                  · exact h
                obtain ⟨c, hc, hgc, _⟩ : ∃ i, ∃ h : i < (nmsOf V.le).length, gi = i ∧ (nmsOf V.le)[i] = g := by
                  rcases hgr with h | h
                  · omega
                  · exact h
                rw [show (nmsOf V.le).length = V.le.length by simp [nmsOf]] at ha hc
                have hac : a ≠ c := by omega
                subst hfa
                subst hgc
                have HNW := hid (HSN.out a c HFI.out HGI.out hac)
                have HOW2 := hid (HSO.out a c HFI.out HGI.out hac)
                rw [← HLS.out] at HNW HOW2
                have HIX := hid (And.intro ha (And.intro hc hac))
                have HB14a := hid (HBN.out a)
                have HB15a := hid (HBN.out c)
                obtain ⟨ng, pn, qn, e4, _, _, _, _⟩ := HRN.out.cells1 (j := a) ha
                obtain ⟨og, po, qo, e5, _, _, _, _⟩ := HRO.out.cells1 (j := a) ha
                subst e4
                subst e5
                have HNO : Hid (ng ≠ og) := hid (fun e => HOO.out.2.2 ng rfl (by rw [e]; rfl))
                have HOW : Hid (wa.heap.size ≤ ng ∧ wa.heap.size ≤ og) := hid ⟨HOO.out.1 ng rfl, HOO.out.2.1 og rfl⟩
                have HNE : Hid (lb ≠ ng ∧ lb ≠ og) := hid ⟨HLBN.out ng (.inl rfl), HLBN.out og (.inr rfl)⟩
                clear hgd hfr hgr h1 h2 h3 h4 h5 ha hc hac HSN HSO HFI HGI HCF HBN
                gi_upto_region 13 with (gi_at_call 29; (first | (with_reducible refine (In_b n 1 1000 true _ HI1.out).mono ?_) | (with_reducible refine (In_b r 0 8 true _ HI2.out).mono ?_)); rintro e w1 ⟨rfl, rfl⟩)
                all_goals first | exact (undef_no' ‹_›).elim | skip
                clear c2 c3 hd1 hd2 hd3
                obtain ⟨FN, hFN⟩ : ∃ F : Nat → Int, (fun i => (lentTo V.le V.lo m i).fst) = F := ⟨_, rfl⟩
                obtain ⟨FO, hFO⟩ : ∃ F : Nat → Int, (fun i => (lentTo V.le V.lo m i).snd) = F := ⟨_, rfl⟩
                have HB14 : Hid (-200000 ≤ FN a ∧ FN a ≤ 200000) := hid (by have := HB14a.out.1; rw [← hFN]; simp only; omega)
                have HBc : Hid (-200000 ≤ FN c ∧ FN c ≤ 200000) := hid (by have := HB15a.out.1; rw [← hFN]; simp only; omega)
                have HB16 : Hid (-200000 ≤ FO a ∧ FO a ≤ 200000) := hid (by have := HB14a.out.2; rw [← hFO]; simp only; omega)
                have HBo : Hid (-200000 ≤ FO c ∧ FO c ≤ 200000) := hid (by have := HB15a.out.2; rw [← hFO]; simp only; omega)
                rw [hFN] at HRN
                rw [hFO] at HRO
                have e1 : (lentTo V.le V.lo m a).1 = FN a := by rw [← hFN]
                have e2 : (lentTo V.le V.lo m c).1 = FN c := by rw [← hFN]
                have e3 : (lentTo V.le V.lo m a).2 = FO a := by rw [← hFO]
                have e4 : (lentTo V.le V.lo m c).2 = FO c := by rw [← hFO]
                rw [hFN, e1, e2] at HNW
                rw [hFO, e3, e4] at HOW2
                obtain ⟨d, hd⟩ : ∃ d, (8 - r) * n = d := ⟨_, rfl⟩
                rw [hd] at HOW2
                have HDD := hid hd
                have HDB : Hid (-10000 ≤ d ∧ d ≤ 10000) := hid (by
                  have h := HNB.out
                  rw [← hd]
                  have : r = 0 ∨ r = 1 ∨ r = 2 ∨ r = 3 ∨ r = 4 ∨ r = 5 ∨ r = 6 ∨ r = 7 ∨ r = 8 := by omega
                  rcases this with h1 | h1 | h1 | h1 | h1 | h1 | h1 | h1 | h1 <;> subst h1 <;> omega)
                clear hFN hFO e1 e2 e3 e4 hd HB14a HB15a HI1 HI2
                have hidn : a < V.le.length := by have := HIX.out; omega
                have hidx : (a : Int) < (V.le.length : Int) := by omega
                obtain ⟨g9, p9, q9, e9, _, _, hc9, hf9⟩ := HRN.out.cells1 (j := a) hidn
                cases e9
                rw [show (intsF V.le.length FN)[a]? = some (.int .i64 (FN a)) by simp [intsF, hidn]] at hc9
                have hfz := hf9 a
                have hy : -200000 ≤ FN a ∧ FN a ≤ 200000 := HB14.out
                obtain ⟨y, hyy⟩ : ∃ y, FN a = y := ⟨_, rfl⟩
                rw [hyy] at hc9 hy
                obtain ⟨FN1, hFn⟩ : ∃ G : Nat → Int, updI FN a (y - n) = G := ⟨_, rfl⟩
                have HG14 := hid (show FN1 = updI FN a (FN a - n) by rw [← hFn, hyy])
                obtain ⟨wd, hwd⟩ : ∃ wd : World, wd = { wc with drawn := wc.drawn + 1 } := ⟨_, rfl⟩
                have hxd : Ext wc wd := by rw [hwd]; exact Ext.drawn _
                have hc0 : wd.cell? ⟨ng, a, none⟩ = some (.int .i64 y) := by rw [hwd]; exact hc9
                have hf0 : wd.frozen? ⟨ng, a, none⟩ = false := by rw [hwd]; exact hfz
                have HLA := hid (hxd.block HLB.out)
                have HLB2 := hid ((set_other (w := wd) HNE.out.1 a (.int .i64 (y - n))).trans HLA.out)
                have hxb : Ext wa (wd.setCell ⟨ng, a, none⟩ (.int .i64 (y - n))) := (HXC.out.trans hxd).set (b := ng) HOW.out.1 _ _
                have hself := (HRN.out.mono hxd).put1 a (.int .i64 (y - n))
                rw [set_ints, hFn] at hself
                have HSELF := hid hself
                have HOTH := hid ((HRO.out.mono hxd).set (g := ng) (fun e => HNO.out ((Option.some.inj e).symm)) a (.int .i64 (y - n)))
                have HXB := hid hxb
                have HSTc : chJ wa wd (wd.setCell ⟨ng, a, none⟩ (.int .i64 (y - n))) 8 (fun _ => false) (fun _ => undef) { wc with drawn := wc.drawn + 1 } := by rw [← hwd]; exact chJ_start (HXC.out.trans hxd)
                have hnb := HNB.out
                have hdb := HDB.out
                have hwv : wrap64 (y - n) = y - n := wrap_mid (by omega) (by omega)
                have hwvk : IntKind.i64.wrap (y - n) = y - n := by rw [IntKind.wrap_i64]; omega
                clear hc9 hf9 hfz hyy hxd hself hFn hidn hy hdb hnb
                gi_upto_region 14 with fail
                refine jj_own 9 [] _ (by kernel_rfl) (by kernel_rfl) HSTc ?_
                simp only [List.take_succ_cons, List.take_zero, List.drop_succ_cons, List.drop_zero]
                clear HSTc hwd
                apply jj_fun (by decide)
                · intro L x u hL hd hJ
                  have HJ := hid hJ
                  clear hJ hd hL
                  go_simp
                  exact ⟨rfl, HJ.out⟩
                simp only [Act.put, List.setIfInBounds_toArray, List.set_cons_succ, List.set_cons_zero]
                apply jj_fun (by decide)
                · intro L x u hL hd hJ
                  have HJ := hid hJ
                  clear hJ hd hL
                  go_simp
                  exact ⟨rfl, HJ.out⟩
                simp only [Act.put, List.setIfInBounds_toArray, List.set_cons_succ, List.set_cons_zero]
                apply jj_fun (by decide)
                · intro L x u hL hd hJ
                  have HJ := hid hJ
                  clear hJ hd hL
                  go_simp
                  exact ⟨rfl, HJ.out⟩
                simp only [Act.put, List.setIfInBounds_toArray, List.set_cons_succ, List.set_cons_zero]
                apply jj_fun (by decide)
                · intro L x u hL hd hJ
                  obtain ⟨hu, hJ2⟩ := chJ_load hJ hL (by decide)
                  have d0 := hc0
                  rw [← hu] at d0
                  clear hu
                  have HJ := hid hJ2
                  clear hJ hd hL hJ2
                  go_simp
                  exact ⟨rfl, HJ.out⟩
                simp only [Act.put, List.setIfInBounds_toArray, List.set_cons_succ, List.set_cons_zero]
                apply jj_fun (by decide)
                · intro L x u hL hd hJ
                  have HJ := hid hJ
                  clear hJ hd hL
                  go_simp
                  exact ⟨rfl, HJ.out⟩
                simp only [Act.put, List.setIfInBounds_toArray, List.set_cons_succ, List.set_cons_zero]
                apply jj_fun (by decide)
                · intro L x u hL hd hJ
                  have c9 := cell_of (chJ_blk hJ HLA.out HLB2.out)
                  have HJ := hid hJ
                  clear hJ hd hL
                  go_simp
                  exact ⟨rfl, HJ.out⟩
                simp only [Act.put, List.setIfInBounds_toArray, List.set_cons_succ, List.set_cons_zero]
                apply jj_fun (by decide)
                · intro L x u hL hd hJ
                  have HJ := hid hJ
                  clear hJ hd hL
                  go_simp
                  exact ⟨rfl, HJ.out⟩
                simp only [Act.put, List.setIfInBounds_toArray, List.set_cons_succ, List.set_cons_zero]
                apply jj_fun (by decide)
                · intro L x u hL hd hJ
                  have HJ := hid hJ
                  clear hJ hd hL
                  go_simp
                  exact ⟨rfl, HJ.out⟩
                simp only [Act.put, List.setIfInBounds_toArray, List.set_cons_succ, List.set_cons_zero]
                refine jj_fun (v := undef) (by decide) ?_ ?_
                · intro L x u hL hd hJ
                  have h3 : L 3 = true := hd.2.2.2.2.2.1 rfl
                  obtain ⟨rfl, hJ2⟩ := chJ_store hJ hL h3 (by decide) hxb
                  have d0 := hc0
                  have d1 := hf0
                  have HJ := hid hJ2
                  clear hJ hJ2 hd hL h3
                  go_simp
                  exact HJ.out
                simp only [Act.put, List.setIfInBounds_toArray, List.set_cons_succ, List.set_cons_zero]
                refine jj_nil fun L x u hall hJ => ?_
                have hub := (hJ.2.2 (hall 8 (by omega))).1
                clear hall hJ x L hwv hwvk hc0 hf0 hxb 
                rw [← hub] at HSELF HOTH HXB HLB2
                clear hub hidx
                obtain ⟨wc, rfl⟩ : ∃ wc, wc = u := ⟨u, rfl⟩
                have HXC := hid HXB.out
                have HLB := hid HLB2.out
                have HRN := hid HSELF.out
                have HRO := hid HOTH.out
                clear HSELF HOTH HXB HLB2 HLA
                have HB15 : Hid (-200000 ≤ FN1 c ∧ FN1 c ≤ 200000) := hid (by rw [HG14.out]; unfold updI; rw [if_neg (by have := HIX.out.2.2; omega)]; exact HBc.out)
                have hidn : c < V.le.length := by have := HIX.out; omega
                have hidx : (c : Int) < (V.le.length : Int) := by omega
                obtain ⟨g9, p9, q9, e9, _, _, hc9, hf9⟩ := HRN.out.cells1 (j := c) hidn
                cases e9
                rw [show (intsF V.le.length FN1)[c]? = some (.int .i64 (FN1 c)) by simp [intsF, hidn]] at hc9
                have hfz := hf9 c
                have hy : -200000 ≤ FN1 c ∧ FN1 c ≤ 200000 := HB15.out
                obtain ⟨y, hyy⟩ : ∃ y, FN1 c = y := ⟨_, rfl⟩
                rw [hyy] at hc9 hy
                obtain ⟨FN2, hFn⟩ : ∃ G : Nat → Int, updI FN1 c (y + n) = G := ⟨_, rfl⟩
                have HG15 := hid (show FN2 = updI FN1 c (FN1 c + n) by rw [← hFn, hyy])
                obtain ⟨wd, hwd⟩ : ∃ wd : World, wd = { wc with drawn := wc.drawn + 1 } := ⟨_, rfl⟩
                have hxd : Ext wc wd := by rw [hwd]; exact Ext.drawn _
                have hc0 : wd.cell? ⟨ng, c, none⟩ = some (.int .i64 y) := by rw [hwd]; exact hc9
                have hf0 : wd.frozen? ⟨ng, c, none⟩ = false := by rw [hwd]; exact hfz
                have HLA := hid (hxd.block HLB.out)
                have HLB2 := hid ((set_other (w := wd) HNE.out.1 c (.int .i64 (y + n))).trans HLA.out)
                have hxb : Ext wa (wd.setCell ⟨ng, c, none⟩ (.int .i64 (y + n))) := (HXC.out.trans hxd).set (b := ng) HOW.out.1 _ _
                have hself := (HRN.out.mono hxd).put1 c (.int .i64 (y + n))
                rw [set_ints, hFn] at hself
                have HSELF := hid hself
                have HOTH := hid ((HRO.out.mono hxd).set (g := ng) (fun e => HNO.out ((Option.some.inj e).symm)) c (.int .i64 (y + n)))
                have HXB := hid hxb
                have HSTc : chJ wa wd (wd.setCell ⟨ng, c, none⟩ (.int .i64 (y + n))) 8 (fun _ => false) (fun _ => undef) { wc with drawn := wc.drawn + 1 } := by rw [← hwd]; exact chJ_start (HXC.out.trans hxd)
                have hnb := HNB.out
                have hdb := HDB.out
                have hwv : wrap64 (y + n) = y + n := wrap_mid (by omega) (by omega)
                have hwvk : IntKind.i64.wrap (y + n) = y + n := by rw [IntKind.wrap_i64]; omega
                clear hc9 hf9 hfz hyy hxd hself hFn hidn hy hdb hnb
                gi_upto_region 15 with fail
                refine jj_own 9 [] _ (by kernel_rfl) (by kernel_rfl) HSTc ?_
                simp only [List.take_succ_cons, List.take_zero, List.drop_succ_cons, List.drop_zero]
                clear HSTc hwd
                apply jj_fun (by decide)
                · intro L x u hL hd hJ
                  have HJ := hid hJ
                  clear hJ hd hL
                  go_simp
                  exact ⟨rfl, HJ.out⟩
                simp only [Act.put, List.setIfInBounds_toArray, List.set_cons_succ, List.set_cons_zero]
                apply jj_fun (by decide)
                · intro L x u hL hd hJ
                  have HJ := hid hJ
                  clear hJ hd hL
                  go_simp
                  exact ⟨rfl, HJ.out⟩
                simp only [Act.put, List.setIfInBounds_toArray, List.set_cons_succ, List.set_cons_zero]
                apply jj_fun (by decide)
                · intro L x u hL hd hJ
                  have HJ := hid hJ
                  clear hJ hd hL
                  go_simp
                  exact ⟨rfl, HJ.out⟩
                simp only [Act.put, List.setIfInBounds_toArray, List.set_cons_succ, List.set_cons_zero]
                apply jj_fun (by decide)
                · intro L x u hL hd hJ
                  obtain ⟨hu, hJ2⟩ := chJ_load hJ hL (by decide)
                  have d0 := hc0
                  rw [← hu] at d0
                  clear hu
                  have HJ := hid hJ2
                  clear hJ hd hL hJ2
                  go_simp
                  exact ⟨rfl, HJ.out⟩
                simp only [Act.put, List.setIfInBounds_toArray, List.set_cons_succ, List.set_cons_zero]
                apply jj_fun (by decide)
                · intro L x u hL hd hJ
                  have HJ := hid hJ
                  clear hJ hd hL
                  go_simp
                  exact ⟨rfl, HJ.out⟩
                simp only [Act.put, List.setIfInBounds_toArray, List.set_cons_succ, List.set_cons_zero]
                apply jj_fun (by decide)
                · intro L x u hL hd hJ
                  have c9 := cell_of (chJ_blk hJ HLA.out HLB2.out)
                  have HJ := hid hJ
                  clear hJ hd hL
                  go_simp
                  exact ⟨rfl, HJ.out⟩
                simp only [Act.put, List.setIfInBounds_toArray, List.set_cons_succ, List.set_cons_zero]
                apply jj_fun (by decide)
                · intro L x u hL hd hJ
                  have HJ := hid hJ
                  clear hJ hd hL
                  go_simp
                  exact ⟨rfl, HJ.out⟩
                simp only [Act.put, List.setIfInBounds_toArray, List.set_cons_succ, List.set_cons_zero]
                apply jj_fun (by decide)
                · intro L x u hL hd hJ
                  have HJ := hid hJ
                  clear hJ hd hL
                  go_simp
                  exact ⟨rfl, HJ.out⟩
                simp only [Act.put, List.setIfInBounds_toArray, List.set_cons_succ, List.set_cons_zero]
                refine jj_fun (v := undef) (by decide) ?_ ?_
                · intro L x u hL hd hJ
                  have h3 : L 3 = true := hd.2.2.2.2.2.1 rfl
                  obtain ⟨rfl, hJ2⟩ := chJ_store hJ hL h3 (by decide) hxb
                  have d0 := hc0
                  have d1 := hf0
                  have HJ := hid hJ2
                  clear hJ hJ2 hd hL h3
                  go_simp
                  exact HJ.out
                simp only [Act.put, List.setIfInBounds_toArray, List.set_cons_succ, List.set_cons_zero]
                refine jj_nil fun L x u hall hJ => ?_
                have hub := (hJ.2.2 (hall 8 (by omega))).1
                clear hall hJ x L hwv hwvk hc0 hf0 hxb 
                rw [← hub] at HSELF HOTH HXB HLB2
                clear hub hidx
                obtain ⟨wc, rfl⟩ : ∃ wc, wc = u := ⟨u, rfl⟩
                have HXC := hid HXB.out
                have HLB := hid HLB2.out
                have HRN := hid HSELF.out
                have HRO := hid HOTH.out
                clear HSELF HOTH HXB HLB2 HLA
                have hidn : a < V.le.length := by have := HIX.out; omega
                have hidx : (a : Int) < (V.le.length : Int) := by omega
                obtain ⟨g9, p9, q9, e9, _, _, hc9, hf9⟩ := HRO.out.cells1 (j := a) hidn
                cases e9
                rw [show (intsF V.le.length FO)[a]? = some (.int .i64 (FO a)) by simp [intsF, hidn]] at hc9
                have hfz := hf9 a
                have hy : -200000 ≤ FO a ∧ FO a ≤ 200000 := HB16.out
                obtain ⟨y, hyy⟩ : ∃ y, FO a = y := ⟨_, rfl⟩
                rw [hyy] at hc9 hy
                obtain ⟨FO1, hFn⟩ : ∃ G : Nat → Int, updI FO a (y - d) = G := ⟨_, rfl⟩
                have HG16 := hid (show FO1 = updI FO a (FO a - d) by rw [← hFn, hyy])
                obtain ⟨wd, hwd⟩ : ∃ wd : World, wd = { wc with drawn := wc.drawn + 1 } := ⟨_, rfl⟩
                have hxd : Ext wc wd := by rw [hwd]; exact Ext.drawn _
                have hc0 : wd.cell? ⟨og, a, none⟩ = some (.int .i64 y) := by rw [hwd]; exact hc9
                have hf0 : wd.frozen? ⟨og, a, none⟩ = false := by rw [hwd]; exact hfz
                have HLA := hid (hxd.block HLB.out)
                have HLB2 := hid ((set_other (w := wd) HNE.out.2 a (.int .i64 (y - d))).trans HLA.out)
                have hxb : Ext wa (wd.setCell ⟨og, a, none⟩ (.int .i64 (y - d))) := (HXC.out.trans hxd).set (b := og) HOW.out.2 _ _
                have hself := (HRO.out.mono hxd).put1 a (.int .i64 (y - d))
                rw [set_ints, hFn] at hself
                have HSELF := hid hself
                have HOTH := hid ((HRN.out.mono hxd).set (g := og) (fun e => HNO.out (Option.some.inj e)) a (.int .i64 (y - d)))
                have HXB := hid hxb
                have HSTc : chJ wa wd (wd.setCell ⟨og, a, none⟩ (.int .i64 (y - d))) 12 (fun _ => false) (fun _ => undef) { wc with drawn := wc.drawn + 1 } := by rw [← hwd]; exact chJ_start (HXC.out.trans hxd)
                have hnb := HNB.out
                have hdb := HDB.out
                have hwv : wrap64 (y - d) = y - d := wrap_mid (by omega) (by omega)
                have hwvk : IntKind.i64.wrap (y - d) = y - d := by rw [IntKind.wrap_i64]; omega
                have hw8 : wrap64 (8 - r) = 8 - r := wrap_eight hnb.2
                have hw8k : IntKind.i64.wrap (8 - r) = 8 - r := wrapk_eight hnb.2
                have hwd1 : wrap64 ((8 - r) * n) = d := by rw [HDD.out]; exact wrap_mid (by omega) (by omega)
                have hwd2 : IntKind.i64.wrap ((8 - r) * n) = d := by rw [HDD.out, IntKind.wrap_i64]; omega
                clear hc9 hf9 hfz hyy hxd hself hFn hidn hy hdb hnb
                gi_upto_region 16 with fail
                refine jj_own 13 [] _ (by kernel_rfl) (by kernel_rfl) HSTc ?_
                simp only [List.take_succ_cons, List.take_zero, List.drop_succ_cons, List.drop_zero]
                clear HSTc hwd
                apply jj_fun (by decide)
                · intro L x u hL hd hJ
                  have HJ := hid hJ
                  clear hJ hd hL
                  go_simp
                  exact ⟨rfl, HJ.out⟩
                simp only [Act.put, List.setIfInBounds_toArray, List.set_cons_succ, List.set_cons_zero]
                apply jj_fun (by decide)
                · intro L x u hL hd hJ
                  have HJ := hid hJ
                  clear hJ hd hL
                  go_simp
                  exact ⟨rfl, HJ.out⟩
                simp only [Act.put, List.setIfInBounds_toArray, List.set_cons_succ, List.set_cons_zero]
                apply jj_fun (by decide)
                · intro L x u hL hd hJ
                  have HJ := hid hJ
                  clear hJ hd hL
                  go_simp
                  exact ⟨rfl, HJ.out⟩
                simp only [Act.put, List.setIfInBounds_toArray, List.set_cons_succ, List.set_cons_zero]
                apply jj_fun (by decide)
                · intro L x u hL hd hJ
                  obtain ⟨hu, hJ2⟩ := chJ_load hJ hL (by decide)
                  have d0 := hc0
                  rw [← hu] at d0
                  clear hu
                  have HJ := hid hJ2
                  clear hJ hd hL hJ2
                  go_simp
                  exact ⟨rfl, HJ.out⟩
                simp only [Act.put, List.setIfInBounds_toArray, List.set_cons_succ, List.set_cons_zero]
                apply jj_fun (by decide)
                · intro L x u hL hd hJ
                  have HJ := hid hJ
                  clear hJ hd hL
                  go_simp
                  exact ⟨rfl, HJ.out⟩
                simp only [Act.put, List.setIfInBounds_toArray, List.set_cons_succ, List.set_cons_zero]
                apply jj_fun (by decide)
                · intro L x u hL hd hJ
                  have c9 := cell_of (chJ_blk hJ HLA.out HLB2.out)
                  have HJ := hid hJ
                  clear hJ hd hL
                  go_simp
                  exact ⟨rfl, HJ.out⟩
                simp only [Act.put, List.setIfInBounds_toArray, List.set_cons_succ, List.set_cons_zero]
                apply jj_fun (by decide)
                · intro L x u hL hd hJ
                  have HJ := hid hJ
                  clear hJ hd hL
                  go_simp
                  exact ⟨rfl, HJ.out⟩
                simp only [Act.put, List.setIfInBounds_toArray, List.set_cons_succ, List.set_cons_zero]
                apply jj_fun (by decide)
                · intro L x u hL hd hJ
                  have HJ := hid hJ
                  clear hJ hd hL
                  go_simp
                  exact ⟨rfl, HJ.out⟩
                simp only [Act.put, List.setIfInBounds_toArray, List.set_cons_succ, List.set_cons_zero]
                apply jj_fun (by decide)
                · intro L x u hL hd hJ
                  have c9 := cell_of (chJ_blk hJ HLA.out HLB2.out)
                  have HJ := hid hJ
                  clear hJ hd hL
                  go_simp
                  exact ⟨rfl, HJ.out⟩
                simp only [Act.put, List.setIfInBounds_toArray, List.set_cons_succ, List.set_cons_zero]
                apply jj_fun (by decide)
                · intro L x u hL hd hJ
                  have HJ := hid hJ
                  clear hJ hd hL
                  go_simp
                  exact ⟨rfl, HJ.out⟩
                simp only [Act.put, List.setIfInBounds_toArray, List.set_cons_succ, List.set_cons_zero]
                apply jj_fun (by decide)
                · intro L x u hL hd hJ
                  have HJ := hid hJ
                  clear hJ hd hL
                  go_simp
                  exact ⟨rfl, HJ.out⟩
                simp only [Act.put, List.setIfInBounds_toArray, List.set_cons_succ, List.set_cons_zero]
                apply jj_fun (by decide)
                · intro L x u hL hd hJ
                  have HJ := hid hJ
                  clear hJ hd hL
                  go_simp
                  exact ⟨rfl, HJ.out⟩
                simp only [Act.put, List.setIfInBounds_toArray, List.set_cons_succ, List.set_cons_zero]
                refine jj_fun (v := undef) (by decide) ?_ ?_
                · intro L x u hL hd hJ
                  have h3 : L 3 = true := hd.2.2.2.2.2.1 rfl
                  obtain ⟨rfl, hJ2⟩ := chJ_store hJ hL h3 (by decide) hxb
                  have d0 := hc0
                  have d1 := hf0
                  have HJ := hid hJ2
                  clear hJ hJ2 hd hL h3
                  go_simp
                  exact HJ.out
                simp only [Act.put, List.setIfInBounds_toArray, List.set_cons_succ, List.set_cons_zero]
                refine jj_nil fun L x u hall hJ => ?_
                have hub := (hJ.2.2 (hall 12 (by omega))).1
                clear hall hJ x L hwv hwvk hc0 hf0 hxb hw8 hw8k hwd1 hwd2
                rw [← hub] at HSELF HOTH HXB HLB2
                clear hub hidx
                obtain ⟨wc, rfl⟩ : ∃ wc, wc = u := ⟨u, rfl⟩
                have HXC := hid HXB.out
                have HLB := hid HLB2.out
                have HRO := hid HSELF.out
                have HRN := hid HOTH.out
                clear HSELF HOTH HXB HLB2 HLA
                have HB17 : Hid (-200000 ≤ FO1 c ∧ FO1 c ≤ 200000) := hid (by rw [HG16.out]; unfold updI; rw [if_neg (by have := HIX.out.2.2; omega)]; exact HBo.out)
                have hidn : c < V.le.length := by have := HIX.out; omega
                have hidx : (c : Int) < (V.le.length : Int) := by omega
                obtain ⟨g9, p9, q9, e9, _, _, hc9, hf9⟩ := HRO.out.cells1 (j := c) hidn
                cases e9
                rw [show (intsF V.le.length FO1)[c]? = some (.int .i64 (FO1 c)) by simp [intsF, hidn]] at hc9
                have hfz := hf9 c
                have hy : -200000 ≤ FO1 c ∧ FO1 c ≤ 200000 := HB17.out
                obtain ⟨y, hyy⟩ : ∃ y, FO1 c = y := ⟨_, rfl⟩
                rw [hyy] at hc9 hy
                obtain ⟨FO2, hFn⟩ : ∃ G : Nat → Int, updI FO1 c (y + d) = G := ⟨_, rfl⟩
                have HG17 := hid (show FO2 = updI FO1 c (FO1 c + d) by rw [← hFn, hyy])
                obtain ⟨wd, hwd⟩ : ∃ wd : World, wd = { wc with drawn := wc.drawn + 1 } := ⟨_, rfl⟩
                have hxd : Ext wc wd := by rw [hwd]; exact Ext.drawn _
                have hc0 : wd.cell? ⟨og, c, none⟩ = some (.int .i64 y) := by rw [hwd]; exact hc9
                have hf0 : wd.frozen? ⟨og, c, none⟩ = false := by rw [hwd]; exact hfz
                have HLA := hid (hxd.block HLB.out)
                have HLB2 := hid ((set_other (w := wd) HNE.out.2 c (.int .i64 (y + d))).trans HLA.out)
                have hxb : Ext wa (wd.setCell ⟨og, c, none⟩ (.int .i64 (y + d))) := (HXC.out.trans hxd).set (b := og) HOW.out.2 _ _
                have hself := (HRO.out.mono hxd).put1 c (.int .i64 (y + d))
                rw [set_ints, hFn] at hself
                have HSELF := hid hself
                have HOTH := hid ((HRN.out.mono hxd).set (g := og) (fun e => HNO.out (Option.some.inj e)) c (.int .i64 (y + d)))
                have HXB := hid hxb
                have HSTc : chJ wa wd (wd.setCell ⟨og, c, none⟩ (.int .i64 (y + d))) 12 (fun _ => false) (fun _ => undef) { wc with drawn := wc.drawn + 1 } := by rw [← hwd]; exact chJ_start (HXC.out.trans hxd)
                have hnb := HNB.out
                have hdb := HDB.out
                have hwv : wrap64 (y + d) = y + d := wrap_mid (by omega) (by omega)
                have hwvk : IntKind.i64.wrap (y + d) = y + d := by rw [IntKind.wrap_i64]; omega
                have hw8 : wrap64 (8 - r) = 8 - r := wrap_eight hnb.2
                have hw8k : IntKind.i64.wrap (8 - r) = 8 - r := wrapk_eight hnb.2
                have hwd1 : wrap64 ((8 - r) * n) = d := by rw [HDD.out]; exact wrap_mid (by omega) (by omega)
                have hwd2 : IntKind.i64.wrap ((8 - r) * n) = d := by rw [HDD.out, IntKind.wrap_i64]; omega
                clear hc9 hf9 hfz hyy hxd hself hFn hidn hy hdb hnb
                gi_upto_region 17 with fail
                refine jj_own 13 [] _ (by kernel_rfl) (by kernel_rfl) HSTc ?_
                simp only [List.take_succ_cons, List.take_zero, List.drop_succ_cons, List.drop_zero]
                clear HSTc hwd
                apply jj_fun (by decide)
                · intro L x u hL hd hJ
                  have HJ := hid hJ
                  clear hJ hd hL
                  go_simp
                  exact ⟨rfl, HJ.out⟩
                simp only [Act.put, List.setIfInBounds_toArray, List.set_cons_succ, List.set_cons_zero]
                apply jj_fun (by decide)
                · intro L x u hL hd hJ
                  have HJ := hid hJ
                  clear hJ hd hL
                  go_simp
                  exact ⟨rfl, HJ.out⟩
                simp only [Act.put, List.setIfInBounds_toArray, List.set_cons_succ, List.set_cons_zero]
                apply jj_fun (by decide)
                · intro L x u hL hd hJ
                  have HJ := hid hJ
                  clear hJ hd hL
                  go_simp
                  exact ⟨rfl, HJ.out⟩
                simp only [Act.put, List.setIfInBounds_toArray, List.set_cons_succ, List.set_cons_zero]
                apply jj_fun (by decide)
                · intro L x u hL hd hJ
                  obtain ⟨hu, hJ2⟩ := chJ_load hJ hL (by decide)
                  have d0 := hc0
                  rw [← hu] at d0
                  clear hu
                  have HJ := hid hJ2
                  clear hJ hd hL hJ2
                  go_simp
                  exact ⟨rfl, HJ.out⟩
                simp only [Act.put, List.setIfInBounds_toArray, List.set_cons_succ, List.set_cons_zero]
                apply jj_fun (by decide)
                · intro L x u hL hd hJ
                  have HJ := hid hJ
                  clear hJ hd hL
                  go_simp
                  exact ⟨rfl, HJ.out⟩
                simp only [Act.put, List.setIfInBounds_toArray, List.set_cons_succ, List.set_cons_zero]
                apply jj_fun (by decide)
                · intro L x u hL hd hJ
                  have c9 := cell_of (chJ_blk hJ HLA.out HLB2.out)
                  have HJ := hid hJ
                  clear hJ hd hL
                  go_simp
                  exact ⟨rfl, HJ.out⟩
                simp only [Act.put, List.setIfInBounds_toArray, List.set_cons_succ, List.set_cons_zero]
                apply jj_fun (by decide)
                · intro L x u hL hd hJ
                  have HJ := hid hJ
                  clear hJ hd hL
                  go_simp
                  exact ⟨rfl, HJ.out⟩
                simp only [Act.put, List.setIfInBounds_toArray, List.set_cons_succ, List.set_cons_zero]
                apply jj_fun (by decide)
                · intro L x u hL hd hJ
                  have HJ := hid hJ
                  clear hJ hd hL
                  go_simp
                  exact ⟨rfl, HJ.out⟩
                simp only [Act.put, List.setIfInBounds_toArray, List.set_cons_succ, List.set_cons_zero]
                apply jj_fun (by decide)
                · intro L x u hL hd hJ
                  have c9 := cell_of (chJ_blk hJ HLA.out HLB2.out)
                  have HJ := hid hJ
                  clear hJ hd hL
                  go_simp
                  exact ⟨rfl, HJ.out⟩
                simp only [Act.put, List.setIfInBounds_toArray, List.set_cons_succ, List.set_cons_zero]
                apply jj_fun (by decide)
                · intro L x u hL hd hJ
                  have HJ := hid hJ
                  clear hJ hd hL
                  go_simp
                  exact ⟨rfl, HJ.out⟩
                simp only [Act.put, List.setIfInBounds_toArray, List.set_cons_succ, List.set_cons_zero]
                apply jj_fun (by decide)
                · intro L x u hL hd hJ
                  have HJ := hid hJ
                  clear hJ hd hL
                  go_simp
                  exact ⟨rfl, HJ.out⟩
                simp only [Act.put, List.setIfInBounds_toArray, List.set_cons_succ, List.set_cons_zero]
                apply jj_fun (by decide)
                · intro L x u hL hd hJ
                  have HJ := hid hJ
                  clear hJ hd hL
                  go_simp
                  exact ⟨rfl, HJ.out⟩
                simp only [Act.put, List.setIfInBounds_toArray, List.set_cons_succ, List.set_cons_zero]
                refine jj_fun (v := undef) (by decide) ?_ ?_
                · intro L x u hL hd hJ
                  have h3 : L 3 = true := hd.2.2.2.2.2.1 rfl
                  obtain ⟨rfl, hJ2⟩ := chJ_store hJ hL h3 (by decide) hxb
                  have d0 := hc0
                  have d1 := hf0
                  have HJ := hid hJ2
                  clear hJ hJ2 hd hL h3
                  go_simp
                  exact HJ.out
                simp only [Act.put, List.setIfInBounds_toArray, List.set_cons_succ, List.set_cons_zero]
                refine jj_nil fun L x u hall hJ => ?_
                have hub := (hJ.2.2 (hall 12 (by omega))).1
                clear hall hJ x L hwv hwvk hc0 hf0 hxb hw8 hw8k hwd1 hwd2
                rw [← hub] at HSELF HOTH HXB HLB2
                clear hub hidx
                obtain ⟨wc, rfl⟩ : ∃ wc, wc = u := ⟨u, rfl⟩
                have HXC := hid HXB.out
                have HLB := hid HLB2.out
                have HRO := hid HSELF.out
                have HRN := hid HOTH.out
                clear HSELF HOTH HXB HLB2 HLA
                have hfn : (fun i => (lentTo V.le V.lo (m + 1) i).1) = FN2 := by
                  rw [HNW.out, HG15.out, HG14.out, show updI FN a (FN a - n) c = FN c by unfold updI; rw [if_neg (by have := HIX.out.2.2; omega)]]
                have hfo : (fun i => (lentTo V.le V.lo (m + 1) i).2) = FO2 := by
                  rw [HOW2.out, HG17.out, HG16.out, show updI FO a (FO a - d) c = FO c by unfold updI; rw [if_neg (by have := HIX.out.2.2; omega)]]
                rw [← hfn] at HRN
                rw [← hfo] at HRO
                have HCF := hid (ClJ.mk (S := lentTo V.le V.lo (m + 1)) HXC.out HRN.out HRO.out HOO.out.1 HOO.out.2.1 HOO.out.2.2)
                clear hfn hfo
                gi_wp2_with fail
                go_roundw
                case rel => exact ⟨m + 1, m + 1, by have := HLT.out.1; omega, by go_num, by rw [HPT.out], fun _ => rfl, HCF⟩
                case measure => have := HLT.out.1; simp [intOf]; omega
          · obtain rfl : m = V.lo.length := by omega
            have HCJ := hid HI.out
            have HPF := hid hp
            have HSX : Hid (preG V.le V.lo V.lo.length = true → lentTo V.le V.lo V.lo.length = lentTo V.le V.lo V.lo.length) := hid fun _ => rfl
            have HOKV : Hid (true = endG V.le V.lo 0) := hid (by rw [endG_zero, HPF.out])
            have hki : ¬ (V.lo.length : Int) < (V.lo.length : Int) := by omega
            have c1 := (cell_of (HI.out.ext.block HB0.out) 8).trans (show some (Value.slice s.xa V.lo.length s.xc) = some (Value.slice s.xa V.lo.length s.xc) from rfl)
            clear HI hp hmk hlt
            have hex : ∃ Sx, Hid (ClJ wa wr u4 u5 V.le.length Sx) ∧ Hid (preG V.le V.lo V.lo.length = true → Sx = lentTo V.le V.lo V.lo.length) := ⟨_, HCJ, HSX⟩
            clear HCJ HSX
            obtain ⟨Sx, HCJ, HSX⟩ := hex
            obtain ⟨ra, rc, e5⟩ := HCJ.out.out.isSliceN
            subst e5
            obtain ⟨na, nc, e4⟩ := HCJ.out.nets.isSliceN
            subst e4
            obtain ⟨we, rfl⟩ : ∃ we, we = wr := ⟨wr, rfl⟩
            gi_wp2_with fail
            gi_loopw [7, 12] (fun ok i wr => wr = we ∧ ∃ k : Nat, k ≤ V.le.length ∧ i = .int .i64 k ∧ ok = .bool (endG V.le V.lo k)) (fun _ i _ => V.le.length - (intOf i).toNat)
            case atStart => exact ⟨rfl, 0, Nat.zero_le _, rfl, by rw [← HOKV.out]⟩
            case round =>
              obtain ⟨hwe, k, hk, rfl, rfl⟩ := hrel
              subst hwe
              by_cases hlt : k < V.le.length
              · have hki : (k : Int) < (V.le.length : Int) := by omega
                have hes := endG_succ V.le V.lo k
                have HLT := hid hlt
                cases he : endG V.le V.lo k with
                | false =>
                  rw [he, Bool.false_and] at hes
                  have HES := hid hes
                  clear hes he hlt
                  gi_wp2_with fail
                  all_goals first
                    | exact (undef_no' ‹_›).elim
                    | (go_roundw
                       case rel => exact ⟨by first | rfl | trivial, k + 1, by have := HLT.out; omega, by go_num, by rw [HES.out]⟩
                       case measure => have := HLT.out; simp [intOf]; omega)
                | true =>
                  rw [he, Bool.true_and] at hes
                  have hpf : preG V.le V.lo V.lo.length = true := by
                    unfold endG at he; rw [Bool.and_eq_true] at he; exact he.1
                  have hSX := HSX.out hpf
                  obtain ⟨g1, p1, q1, e1, hp1, _, hc1, _⟩ := HCJ.out.nets.cells1 hlt
                  obtain ⟨g2, p2, q2, e2, hp2, _, hc2, _⟩ := HCJ.out.out.cells1 hlt
                  rw [show (intsF V.le.length fun i => (Sx i).1)[k]? = some (.int .i64 (Sx k).1) by simp [intsF, hlt]] at hc1
                  rw [show (intsF V.le.length fun i => (Sx i).2)[k]? = some (.int .i64 (Sx k).2) by simp [intsF, hlt]] at hc2
                  rw [← hSX] at hes
                  unfold notLess at hes
                  cases e1
                  cases e2
                  generalize (Sx k).1 = x1 at *
                  generalize (Sx k).2 = x2 at *
                  clear hSX hpf he hlt
                  by_cases h1 : x1 < 0
                  · have hd1 : decide (x1 ≥ 0) = false := decide_eq_false (by omega)
                    have HES : Hid (endG V.le V.lo (k + 1) = false) := hid (by rw [hes]; simp [h1])
                    clear hes h1
                    gi_wp2_with fail
                    all_goals first
                      | exact (undef_no' ‹_›).elim
                      | (go_roundw
                         case rel => exact ⟨by first | rfl | trivial, k + 1, by have := HLT.out; omega, by go_num, by rw [HES.out]⟩
                         case measure => have := HLT.out; simp [intOf]; omega)
                  · have hd1 : decide (x1 ≥ 0) = true := decide_eq_true (by omega)
                    by_cases h2 : x2 < 0
                    · have hd2 : decide (x2 ≥ 0) = false := decide_eq_false (by omega)
                      have HES : Hid (endG V.le V.lo (k + 1) = false) := hid (by rw [hes]; simp [h2])
                      clear hes h1 h2
                      gi_wp2_with fail
                      all_goals first
                        | exact (undef_no' ‹_›).elim
                        | (go_roundw
                           case rel => exact ⟨by first | rfl | trivial, k + 1, by have := HLT.out; omega, by go_num, by rw [HES.out]⟩
                           case measure => have := HLT.out; simp [intOf]; omega)
                    · have hd2 : decide (x2 ≥ 0) = true := decide_eq_true (by omega)
                      have HES : Hid (endG V.le V.lo (k + 1) = true) := hid (by rw [hes]; simp; omega)
                      clear hes h1 h2
                      gi_wp2_with fail
                      all_goals first
                        | exact (undef_no' ‹_›).elim
                        | (go_roundw
                           case rel => exact ⟨by first | rfl | trivial, k + 1, by have := HLT.out; omega, by go_num, by rw [HES.out]⟩
                           case measure => have := HLT.out; simp [intOf]; omega)
              · obtain rfl : k = V.le.length := by omega
                have hki : ¬ (V.le.length : Int) < (V.le.length : Int) := by omega
                have HEA := hid (endG_all V.le V.lo)
                have HFIN : Hid (lendB V.le V.lo = true → Row wr 3 1 (.slice ra V.le.length rc) V.le.length (intsF V.le.length fun i => (lentV V i).2)) := hid fun hlb => by
                  have hpf : preG V.le V.lo V.lo.length = true := by
                    rw [← HEA.out] at hlb
                    unfold endG at hlb; rw [Bool.and_eq_true] at hlb; exact hlb.1
                  have := HCJ.out.out
                  rw [HSX.out hpf] at this
                  exact this
                have HXF := hid (HX0.out.trans HCJ.out.ext)
                clear hlt
                generalize endG V.le V.lo V.le.length = eb at *
                gi_wp2_with fail
                exact bodyPost_ret (v := .tuple #[.slice ra V.le.length rc, .bool eb]) (by simp [results, Tryz.results56, go_sem]) rfl ⟨_, by rw [HEA.out], HXF.out, HFIN⟩

end Go.Proofs.YtjocoadhalimjaaGreat
