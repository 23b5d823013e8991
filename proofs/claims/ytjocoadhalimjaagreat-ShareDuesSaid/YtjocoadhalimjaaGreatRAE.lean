/- A sum that is divided, but for the pence that are left over. -/
import Derived.Test.YtjocoadhalimjaaGreatRAD
set_option linter.unusedSimpArgs false
set_option linter.unusedVariables false
namespace Go.Proofs.YtjocoadhalimjaaGreat
open Go Go.RowKit Go.Shelf

def shrOf (P A : Int) (s : Stk) : Shr := ⟨s.name, s.weight, P * s.weight / A, P * s.weight % A⟩
def shrCells (x : Shr) : List Value := [.string x.name, .int .i64 x.weight, .int .i64 x.pence, .int .i64 x.rest]
def noShr : Shr := ⟨ByteArray.empty, 0, 0, 0⟩
def flatS (l : List Shr) (k : Nat) : List Value := (List.range k).flatMap fun i => shrCells (l.getD i noShr)
theorem flatS_succ (l : List Shr) {k : Nat} (h : k < l.length) : flatS l (k + 1) = flatS l k ++ shrCells l[k] := by
  unfold flatS
  rw [List.range_succ, List.flatMap_append]
  simp [h]
def shrs (P A : Int) (l : List Stk) : List Shr := l.map (shrOf P A)
def leftTo (P A : Int) (l : List Stk) (k : Nat) : Int := P - ((l.take k).map fun s => P * s.weight / A).sum
theorem leftTo_succ (P A : Int) (l : List Stk) {k : Nat} (h : k < l.length) : leftTo P A l (k + 1) = leftTo P A l k - P * l[k].weight / A := by
  unfold leftTo
  rw [List.take_succ_eq_append_getElem h, List.map_append, List.sum_append, List.map_cons, List.map_nil, List.sum_cons, List.sum_nil]; omega
theorem quo_bound {P A x : Int} (hP : 0 ≤ P ∧ P ≤ 10000000) (hA : P = 0 ∨ 0 < A) (hx : 0 ≤ x ∧ x ≤ 1000000) : (0 ≤ P * x ∧ P * x ≤ 10000000000000) ∧ (0 ≤ P * x / A ∧ P * x / A ≤ 10000000000000) ∧ (0 ≤ P * x % A ∧ P * x % A ≤ 10000000000000) := by
  have h0 : 0 ≤ P * x := Int.mul_nonneg hP.1 hx.1
  have h1 : P * x ≤ 10000000 * 1000000 := Int.mul_le_mul hP.2 hx.2 hx.1 (by omega)
  have h2 : (10000000 : Int) * 1000000 = 10000000000000 := by decide
  rcases hA with rfl | hA
  · simp
  · refine ⟨⟨h0, by omega⟩, ⟨Int.ediv_nonneg h0 (by omega), ?_⟩, ⟨Int.emod_nonneg _ (by omega), ?_⟩⟩
    · have := Int.ediv_le_self A h0; omega
    · have h3 := Int.emod_nonneg (P * x) (show A ≠ 0 by omega)
      have h4 := Int.mul_ediv_add_emod (P * x) A
      have h5 : 0 ≤ A * (P * x / A) := Int.mul_nonneg (by omega) (Int.ediv_nonneg h0 (by omega))
      omega
theorem leftTo_bound {P A : Int} {l : List Stk} (hP : 0 ≤ P ∧ P ≤ 10000000) (hA : P = 0 ∨ 0 < A) (hw : ∀ s ∈ l, 0 ≤ s.weight ∧ s.weight ≤ 1000000) (hl : l.length ≤ 10) (k : Nat) : -1000000000000000 ≤ leftTo P A l k ∧ leftTo P A l k ≤ 1000000000000000 := by
  have h1 := sum_within (M := 10000000000000) (by omega) ((l.take k).map fun s => P * s.weight / A) (fun x hx => by
    obtain ⟨s, hs, rfl⟩ := List.mem_map.mp hx
    have := quo_bound hP hA (hw s (List.mem_of_mem_take hs))
    omega)
  have h2 : ((l.take k).map fun s => P * s.weight / A).length ≤ 10 := by rw [List.length_map, List.length_take]; omega
  unfold leftTo
  omega
def DvAt (w : World) (P A : Int) (l : List Stk) (k : Nat) (wr : World) : Prop :=
  Ext w wr ∧ wr.heap[w.heap.size]? = some (.cells #[.slice none 0 0, .int .i64 0, .nilFunc] 108 (0, 0)) ∧ ∃ v, wr.heap[w.heap.size + 1]? = some (.cells #[v, .int .i64 (leftTo P A l k), fnV 92] 108 (0, 0)) ∧ Row wr 146 4 v k (flatS (shrs P A l) k) ∧ ∀ g, v.ownBlock = some g → w.heap.size + 1 < g
/-- What is stored in a share, in whatever order: its pence by 7, its rest by 9. -/
def dvJ (wr : World) (N : Nat) (nm : ByteArray) (wt Q R : Int) : InvJ := fun L x u => Ext wr u ∧ u.heap[N + 1]? = some (.cells #[.string nm, .int .i64 wt, .int .i64 (if L 7 then Q else 0), .int .i64 (if L 9 then R else 0)] 146 (0, 0))
theorem dvJ_7 {wr u : World} {N : Nat} {nm : ByteArray} {wt Q R : Int} {L : Nat → Bool} {x : Nat → Value} (h : dvJ wr N nm wt Q R L x u) (hN : wr.heap.size ≤ N + 1) : dvJ wr N nm wt Q R (updL L 7) x (u.setCell ⟨N + 1, 2, none⟩ (.int .i64 Q)) :=
  ⟨h.1.set hN _ _, set_same h.2 2 _⟩
theorem dvJ_9 {wr u : World} {N : Nat} {nm : ByteArray} {wt Q R : Int} {L : Nat → Bool} {x : Nat → Value} (h : dvJ wr N nm wt Q R L x u) (hN : wr.heap.size ≤ N + 1) : dvJ wr N nm wt Q R (updL L 9) x (u.setCell ⟨N + 1, 3, none⟩ (.int .i64 R)) :=
  ⟨h.1.set hN _ _, set_same h.2 3 _⟩
theorem size108 : (Tryz.prog.info? 108).map (·.size) = some 3 := by kernel_rfl
theorem size146 : (Tryz.prog.info? 146).map (·.size) = some 4 := by kernel_rfl
theorem size49 : (Tryz.prog.info? 49).map (·.size) = some 2 := by kernel_rfl
theorem info146 : (Tryz.prog.info? 146).map (fun i => (i.zero, i.size, i.bytes)) = some (some (.agg #[.string ByteArray.empty, .int .i64 0, .int .i64 0, .int .i64 0]), 4, 40) := by kernel_rfl
set_option maxRecDepth 100000 in
set_option maxHeartbeats 4000000 in
theorem newDivision_any (P : Int) (v : Value) (l : List Stk) (w : World) (hv : StakesAt w v l) (hP : 0 ≤ P ∧ P ≤ 10000000) (hw : ∀ s ∈ l, 0 ≤ s.weight ∧ s.weight ≤ 1000000) (hl : l.length ≤ 10) (hA : P = 0 ∨ 0 < sumW l) :
    Cal 70 #[.int .i64 P, v] w fun e w' => ∃ sv, e = .returned (.agg #[sv, .int .i64 (leftTo P (sumW l) l l.length), fnV 92]) ∧ Ext w w' ∧ Hid (Row w' 146 4 sv l.length (flatS (shrs P (sumW l) l) l.length)) := by
  have HWT := hid (fun (u : World) (hu : Ext w u) => weights_any v l u (hv.mono hu) (fun s hs => by have := hw s hs; omega) (by omega))
  have HLB := hid (fun k => leftTo_bound (A := sumW l) hP hA hw hl k)
  have HQB := hid (fun (s : Stk) (hs : s ∈ l) => quo_bound (A := sumW l) hP hA (hw s hs))
  have HSL := hid (fun (k : Nat) (h : k < l.length) => leftTo_succ P (sumW l) l h)
  have HSF := hid (fun (k : Nat) (h : k < l.length) => show flatS (shrs P (sumW l) l) (k + 1) = flatS (shrs P (sumW l) l) k ++ shrCells (shrOf P (sumW l) l[k]) by
    rw [flatS_succ _ (by simpa [shrs] using h)]; simp [shrs])
  have HA := hid hA
  have hPp : ∀ _ : 0 < P, 0 < sumW l := fun h => by omega
  have HPp := hid hPp
  have HL0 : Hid (leftTo P (sumW l) l 0 = P) := hid (by simp [leftTo])
  obtain ⟨a, cap, rfl, ⟨hcap, hlen⟩, hc⟩ := hv
  have HC := hid hc
  clear hc hw hA hPp
  gi_enter Tryz.func70, Tryz.ntmps70
  generalize hAA : sumW l = A at *
  clear hAA
  have hD0 : Ext w ((w.alloc (.cells #[.slice none 0 0, .int .i64 0, .nilFunc] 108)).alloc (.cells #[.slice none 0 0, .int .i64 P, fnV 92] 108)) := ((Ext.refl _).alloc _).alloc _
  have HD0 := hid hD0
  have HD1 := hid (two_new (w := w) (o1 := .cells #[.slice none 0 0, .int .i64 0, .nilFunc] 108) (o2 := .cells #[.slice none 0 0, .int .i64 P, fnV 92] 108))
  have HD2 : Hid (((w.alloc (.cells #[.slice none 0 0, .int .i64 0, .nilFunc] 108)).alloc (.cells #[.slice none 0 0, .int .i64 P, fnV 92] 108)).heap[w.heap.size + 1]? = some (.cells #[.slice none 0 0, .int .i64 P, fnV 92] 108 (0, 0))) := hid (by
    have := Ext.new (w := w.alloc (.cells #[.slice none 0 0, .int .i64 0, .nilFunc] 108)) (o := .cells #[.slice none 0 0, .int .i64 P, fnV 92] 108) (Ext.refl _); rwa [World.size_alloc] at this)
  clear hD0
  gi_wp2_with (first | (refine wpIn_store_fresh (fun _ => trivial) 108 (.tmp 5) (.tmp 12) rfl (W := w.alloc (.cells #[.slice none 0 0, .int .i64 0, .nilFunc] 108)) (c' := #[.slice none 0 0, .int .i64 P, fnV 92]) (by rw [World.size_alloc]; rfl) rfl rfl size108 rfl (by kernel_rfl) ?_) | (gi_at_call 48; ((with_reducible refine (HWT.out _ HD0.out).mono ?_); rintro e w1 ⟨rfl, hx1⟩)))
  have HJ : Hid (DvAt w P A l 0 w1) := hid ⟨HD0.out.trans hx1, hx1.block HD1.out, _, (by rw [HL0.out]; exact hx1.block HD2.out), Row.nil _ _ _, fun g h => by simp [Value.ownBlock] at h⟩
  clear hx1 HD0 HD1 HD2 HL0 HWT
  gi_loopw [8, 9, 10, 17] (fun u8 u9 u10 i wr => ∃ k : Nat, k ≤ l.length ∧ i = .int .i64 k ∧ Hid (DvAt w P A l k wr)) (fun _ _ _ i _ => l.length - (intOf i).toNat)
  case atStart => exact ⟨0, Nat.zero_le _, rfl, HJ⟩
  case round =>
    obtain ⟨k, hk, rfl, HI⟩ := hrel
    clear HJ
    by_cases hlt : k < l.length
    · obtain ⟨b, off, rfl, hbb, c0, c1⟩ := HC.out k hlt
      have HQ := hid (HQB.out l[k] (List.getElem_mem _))
      have HL1 := hid (HSL.out k hlt)
      have HF1 := hid (HSF.out k hlt)
      have HB1 := hid (HLB.out k)
      have HB2 := hid (HLB.out (k + 1))
      clear HQB HSL HSF HLB
      obtain ⟨hx, hb0, sv, hb1, hrow, hown⟩ := HI.out
      rw [← hx.cell (p := ⟨b, _, none⟩) hbb] at c0 c1
      generalize l[k] = s at *
      generalize hL2 : leftTo P A l (k + 1) = L2 at *
      have HL2 := hid hL2
      clear hL2
      generalize leftTo P A l k = L1 at *
      have HX := hid hx
      have HB0 := hid hb0
      have HBD := hid hb1
      have HROW := hid hrow
      have HOWN := hid hown
      have HLT := hid (lt_of_block hb1)
      clear HI hx hb0 hb1 hrow hown
      gi_upto_region 7 with fail
      have hx1 : Ext wr ((wr.alloc (.cells #[.string s.name, .int .i64 s.weight] 49)).alloc (.cells #[.string s.name, .int .i64 s.weight, .int .i64 0, .int .i64 0] 146)) := ((Ext.refl _).alloc _).alloc _
      have HS8 := hid (two_new (w := wr) (o1 := .cells #[.string s.name, .int .i64 s.weight] 49) (o2 := .cells #[.string s.name, .int .i64 s.weight, .int .i64 0, .int .i64 0] 146))
      have HS9 : Hid (((wr.alloc (.cells #[.string s.name, .int .i64 s.weight] 49)).alloc (.cells #[.string s.name, .int .i64 s.weight, .int .i64 0, .int .i64 0] 146)).heap[wr.heap.size + 1]? = some (.cells #[.string s.name, .int .i64 s.weight, .int .i64 0, .int .i64 0] 146 (0, 0))) := hid (by
        have := Ext.new (w := wr.alloc (.cells #[.string s.name, .int .i64 s.weight] 49)) (o := .cells #[.string s.name, .int .i64 s.weight, .int .i64 0, .int .i64 0] 146) (Ext.refl _); rwa [World.size_alloc] at this)
      have HXw := HX
      have HB0w := HB0
      have HBDw := HBD
      have HX1 := hid hx1
      have HX := hid (HX.out.trans hx1)
      have HB0 := hid (hx1.block HB0.out)
      have HBD := hid (hx1.block HBD.out)
      have HRW0 := HROW
      have HROW := hid (HROW.out.mono hx1)
      have hlt0 := HLT.out
      have HOLT : Hid (∀ g, sv.ownBlock = some g → g < wr.heap.size) := hid (fun g hg => by
        obtain ⟨_, h⟩ := HRW0.out
        rcases h with ⟨e, _⟩ | ⟨g', cap', cur, e, hg', _⟩
        · subst e; simp [Value.ownBlock] at hg
        · subst e; simp [Value.ownBlock] at hg; subst hg; exact lt_of_block hg')
      clear hx1
      generalize (wr.alloc (.cells #[.string s.name, .int .i64 s.weight] 49)).alloc (.cells #[.string s.name, .int .i64 s.weight, .int .i64 0, .int .i64 0] 146) = W1 at *
      generalize hN : wr.heap.size = N at *
      by_cases hP0 : 0 < P
      case' pos =>
        have hA0 := HPp.out hP0
        have hwr : wrap64 (P * s.weight) = P * s.weight := by unfold wrap64; have := HQ.out.1; omega
        have hAne : A ≠ 0 := by omega
        have HTD : Hid (IntKind.i64.wrap ((P * s.weight).tdiv A) = P * s.weight / A) := hid (by
          rw [Int.tdiv_eq_ediv_of_nonneg HQ.out.1.1, IntKind.wrap_i64]; have := HQ.out.2.1; omega)
        have HTM : Hid ((P * s.weight).tmod A = P * s.weight % A) := hid (Int.tmod_eq_emod_of_nonneg HQ.out.1.1)
        have HF1 : Hid (flatS (shrs P A l) (k + 1) = flatS (shrs P A l) k ++ shrCells ⟨s.name, s.weight, P * s.weight / A, P * s.weight % A⟩) := HF1
        have c8 := cell_of HS8.out
        gi_upto_region 9 with fail
        refine jj_own 10 [] (dvJ wr N s.name s.weight (P * s.weight / A) (P * s.weight % A)) (by kernel_rfl) (by kernel_rfl) ⟨HX1.out.trans (Ext.drawn _), HS9.out⟩ ?_
        simp only [List.take_succ_cons, List.take_zero, List.drop_succ_cons, List.drop_zero]
        apply jj_fun (by decide)
        · intro L x u hL hd hJ
          have HJ := hid hJ
          clear hJ hd hL
          go_simp
          exact ⟨rfl, HJ.out⟩
        simp only [Act.put, List.setIfInBounds_toArray, List.set_cons_succ, List.set_cons_zero]
        apply jj_fun (by decide)
        · intro L x u hL hd hJ
          have HJ := hid hJ
          clear hJ hd hL
          go_simp
          exact ⟨rfl, HJ.out⟩
        simp only [Act.put, List.setIfInBounds_toArray, List.set_cons_succ, List.set_cons_zero]
        refine jj_fun (v := .int .i64 (P * s.weight / A)) (by decide) ?_ ?_
        · intro L x u hL hd hJ
          have HJ := hid hJ
          clear hJ hd hL
          go_simp
          exact ⟨HTD.out, HJ.out⟩
        simp only [Act.put, List.setIfInBounds_toArray, List.set_cons_succ, List.set_cons_zero]
        apply jj_fun (by decide)
        · intro L x u hL hd hJ
          have HJ := hid hJ
          clear hJ hd hL
          go_simp
          exact ⟨rfl, HJ.out⟩
        simp only [Act.put, List.setIfInBounds_toArray, List.set_cons_succ, List.set_cons_zero]
        apply jj_fun (by decide)
        · intro L x u hL hd hJ
          have HJ := hid hJ
          clear hJ hd hL
          go_simp
          exact ⟨rfl, HJ.out⟩
        simp only [Act.put, List.setIfInBounds_toArray, List.set_cons_succ, List.set_cons_zero]
        refine jj_fun (v := .int .i64 (P * s.weight % A)) (by decide) ?_ ?_
        · intro L x u hL hd hJ
          have HJ := hid hJ
          clear hJ hd hL
          go_simp
          exact ⟨HTM.out, HJ.out⟩
        simp only [Act.put, List.setIfInBounds_toArray, List.set_cons_succ, List.set_cons_zero]
        apply jj_fun (by decide)
        · intro L x u hL hd hJ
          have HJ := hid hJ
          clear hJ hd hL
          go_simp
          exact ⟨rfl, HJ.out⟩
        simp only [Act.put, List.setIfInBounds_toArray, List.set_cons_succ, List.set_cons_zero]
        refine jj_fun (v := undef) (by decide) ?_ ?_
        · intro L x u hL hd hJ
          have HJ := hid (dvJ_7 hJ (by omega))
          have cb := cell_of hJ.2
          have fb := free_of hJ.2
          clear hJ hd hL
          go_simp
          exact HJ.out
        simp only [Act.put, List.setIfInBounds_toArray, List.set_cons_succ, List.set_cons_zero]
        apply jj_fun (by decide)
        · intro L x u hL hd hJ
          have HJ := hid hJ
          clear hJ hd hL
          go_simp
          exact ⟨rfl, HJ.out⟩
        simp only [Act.put, List.setIfInBounds_toArray, List.set_cons_succ, List.set_cons_zero]
        refine jj_fun (v := undef) (by decide) ?_ ?_
        · intro L x u hL hd hJ
          have HJ := hid (dvJ_9 hJ (by omega))
          have cb := cell_of hJ.2
          have fb := free_of hJ.2
          clear hJ hd hL
          go_simp
          exact HJ.out
        simp only [Act.put, List.setIfInBounds_toArray, List.set_cons_succ, List.set_cons_zero]
        refine jj_nil fun L x W2 hall hJ => ?_
        have hE : Ext wr W2 := hJ.1
        have hs9 := hJ.2
        rw [hall 7 (by omega), hall 9 (by omega)] at hs9
        simp only [if_true] at hs9
        clear hJ hall x
        have HX := hid (HXw.out.trans hE)
        have HB0 := hid (hE.block HB0w.out)
        have HBD := hid (hE.block HBDw.out)
        have HROW := hid (HRW0.out.mono hE)
        have HS9 := hid hs9
        clear hE hs9 c8 HS8 HX1
        generalize P * s.weight / A = Q at *
        generalize P * s.weight % A = R at *
        gi_upto_region 10 with fail
        clear hwr HTD HTM hlt0
      case' neg =>
        obtain rfl : P = 0 := by omega
        gi_upto_region 10 with fail
        obtain ⟨Q, hQ⟩ : ∃ Q, Q = (0 : Int) * s.weight / A := ⟨_, rfl⟩
        obtain ⟨R, hR⟩ : ∃ R, R = (0 : Int) * s.weight % A := ⟨_, rfl⟩
        rw [← hQ] at HL1 HQ
        have HS9 : Hid (W1.heap[N + 1]? = some (.cells #[.string s.name, .int .i64 s.weight, .int .i64 Q, .int .i64 R] 146 (0, 0))) := hid (by
          have e1 : Q = 0 := by rw [hQ]; simp
          have e2 : R = 0 := by rw [hR]; simp
          rw [e1, e2]; exact HS9.out)
        have HF1 : Hid (flatS (shrs 0 A l) (k + 1) = flatS (shrs 0 A l) k ++ shrCells ⟨s.name, s.weight, Q, R⟩) := hid (by rw [HF1.out, hQ, hR]; rfl)
        clear hQ hR HS8 hlt0
        rename World => W2
      all_goals
        have hlt0 := HLT.out
        have hwl : wrap64 (L1 - Q) = L2 := by have := HL1.out; have := HB2.out; unfold wrap64; omega
        have cD := cell_of HBD.out
        have fD := free_of HBD.out
        have c9 := cell_of HS9.out
        gi_upto_region 11 with fail
        have hx3 : Ext w (W2.setCell ⟨w.heap.size + 1, 1, none⟩ (.int .i64 L2)) := HX.out.set (by omega) _ _
        have hb03 : (W2.setCell ⟨w.heap.size + 1, 1, none⟩ (.int .i64 L2)).heap[w.heap.size]? = some (.cells #[.slice none 0 0, .int .i64 0, .nilFunc] 108 (0, 0)) := by rw [set_other (by omega)]; exact HB0.out
        have hbd3 : (W2.setCell ⟨w.heap.size + 1, 1, none⟩ (.int .i64 L2)).heap[w.heap.size + 1]? = some (.cells #[sv, .int .i64 L2, fnV 92] 108 (0, 0)) := set_same HBD.out 1 (.int .i64 L2)
        have hs93 : (W2.setCell ⟨w.heap.size + 1, 1, none⟩ (.int .i64 L2)).heap[N + 1]? = some (.cells #[.string s.name, .int .i64 s.weight, .int .i64 Q, .int .i64 R] 146 (0, 0)) := by rw [set_other (by omega)]; exact HS9.out
        have hrow3 := HROW.out.set (g := w.heap.size + 1) (fun e => by have := HOWN.out _ e; omega) 1 (.int .i64 L2)
        have HX := hid hx3
        have HB0 := hid hb03
        have HBD := hid hbd3
        have HROW := hid hrow3
        have HS9 := hid hs93
        clear hx3 hb03 hbd3 hrow3 hs93 cD fD c9 hwl
        generalize W2.setCell ⟨w.heap.size + 1, 1, none⟩ (.int .i64 L2) = W3 at *
        have cD := cell_of HBD.out
        have c9 := cell_of HS9.out
        obtain ⟨i0, hi0, hz0, hz1, hz2⟩ := info_parts info146
        have HZ := hid (And.intro hi0 (And.intro hz0 (And.intro hz1 hz2)))
        clear hi0 hz0 hz1 hz2
        have HRW := hid (HROW.out.mono ((Ext.refl W3).alloc (.cells #[.string s.name, .int .i64 s.weight, .int .i64 Q, .int .i64 R] 146)))
        have HBD2 := hid (((Ext.refl W3).alloc (.cells #[.string s.name, .int .i64 s.weight, .int .i64 Q, .int .i64 R] 146)).block HBD.out)
        have HNW : Hid (∀ j u, (shrCells ⟨s.name, s.weight, Q, R⟩)[j]? = some u → (W3.alloc (.cells #[.string s.name, .int .i64 s.weight, .int .i64 Q, .int .i64 R] 146)).cell? ((⟨W3.heap.size, 0, none⟩ : Addr).add j) = some u) := fun j u hj => by rw [Addr.add_mid, Nat.zero_add, new_cell _ _ rfl]; simpa [shrCells] using hj
        have hmax : k + 1 ≤ 1000000000 := by omega
        gi_wp2_with (refine wpIn_append_row (fun _ => trivial) rfl (.tmp 44) (.tmp 46) rfl Tryz.underlying105 HZ.out.1 HZ.out.2.1 HZ.out.2.2.1 HZ.out.2.2.2 (by simp [Value.cells]) (by omega) (v := sv) rfl HRW.out ⟨W3.heap.size, 0, none⟩ 1 rfl (shrCells ⟨s.name, s.weight, Q, R⟩) rfl HNW.out (fun u hu => by simp [shrCells] at hu; rcases hu with rfl | rfl | rfl | rfl <;> rfl) hmax (by omega) ?_; intro v' w' hrow' hgr' how'; obtain ⟨sa', sn', sc', rfl⟩ := hrow'.isSlice; have hbv' := grownBy_block hgr' HBD2.out (fun e => by have := HOWN.out _ e.symm; omega); have hcv' := cell_of hbv'; have hfv' := free_of hbv')
        have hsz : w.heap.size ≤ W3.heap.size := HX.out.size
        have hl3 := lt_of_block HBD.out
        have hbel : Ext w w' := Below.trans (HX.out.alloc _) ⟨hgr'.os, hgr'.tape, hgr'.output, hgr'.size, fun j hj => hgr'.block j (by simp; omega) (fun e => by have := HOWN.out j e.symm; omega)⟩
        have hb1' := grownBy_block hgr' (((Ext.refl W3).alloc _).block HB0.out) (fun e => by have := HOWN.out _ e.symm; omega)
        have hown' : ∀ g, (Value.slice sa' sn' sc').ownBlock = some g → w.heap.size + 1 < g := fun g hg => by
          rcases how' with e | e
          · exact HOWN.out g (by rw [← e]; exact hg)
          · rw [hg] at e; cases e; simp; omega
        go_roundw
        case rel =>
          refine ⟨k + 1, by omega, by go_num, hid ⟨hbel.set (by omega) _ _, by rw [set_other (by omega)]; exact hb1', _, by rw [HL2.out]; exact set_same hbv' 0 _, ?_, hown'⟩⟩
          rw [HF1.out]
          exact hrow'.set (fun e => by have := hown' _ e; omega) _ _
        case measure => simp [intOf]; omega
    · obtain rfl : k = l.length := by omega
      clear HQB HSL HSF HLB HC
      obtain ⟨hx, hb0, sv, hb1, hrow, hown⟩ := HI.out
      clear HI
      obtain ⟨ma, mc, rfl⟩ := hrow.isSliceN
      have HX := hid hx
      have HB0 := hid hb0
      have HBD := hid hb1
      have HROW := hid hrow
      have HOWN := hid hown
      have cD := cell_of hb1
      have fD := free_of hb1
      have c0 := cell_of hb0
      have f0 := free_of hb0
      clear hx hb0 hb1 hrow hown
      generalize hLL : leftTo P A l l.length = L at *
      have HLL := hid hLL
      clear hLL
      gi_wp2_with (refine wpIn_store_at 108 (.tmp 4) (.tmp 50) rfl (fun _ => trivial) (g := w.heap.size) (off := 0) rfl rfl HB0.out size108 (by simp) (by simp [Value.oneCell']) ?_; refine Hid.out ?_)
      have hk := setRow_heap wr w.heap.size _ #[.slice ma l.length mc, .int .i64 L, fnV 92] 108 (0, 0) HB0.out
      have hX := ext_setRow (g := w.heap.size) HX.out (by omega) #[.slice ma l.length mc, .int .i64 L, fnV 92]
      have hR : Row (wr.setRow w.heap.size #[.slice ma l.length mc, .int .i64 L, fnV 92]) 146 4 (.slice ma l.length mc) l.length (flatS (shrs P A l) l.length) := HROW.out.kept fun j o hj ho => by
        have := HOWN.out j hj
        rw [setRow_other wr w.heap.size j _ (by omega)]; exact ho
      refine hid ?_
      clear cD fD c0 f0 HX HB0 HBD HROW HOWN
      generalize wr.setRow w.heap.size #[.slice ma l.length mc, .int .i64 L, fnV 92] = WF at *
      have hc := cell_of hk
      gi_wp2
      exact bodyPost_ret (v := .agg #[.slice ma l.length mc, .int .i64 L, fnV 92]) (by simp [results, Tryz.results70, go_sem, hc]) rfl ⟨_, by rw [HLL.out], hX, hid hR⟩

end Go.Proofs.YtjocoadhalimjaaGreat
