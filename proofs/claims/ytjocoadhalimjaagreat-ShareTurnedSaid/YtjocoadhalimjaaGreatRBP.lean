/- The law ShareTurned. -/
import Derived.Test.YtjocoadhalimjaaGreatRBO
import Derived.Test.YtjocoadhalimjaaGreatRBL
set_option linter.unusedSimpArgs false
set_option linter.unusedVariables false
namespace Go.Proofs.YtjocoadhalimjaaGreat
open Go Go.RowKit Go.Shelf

theorem stJ_ext2 {w0 wd wa w1 u : World} {i j : Nat} {L : Nat → Bool} {x : Nat → Value} (h : stJ wd wa w1 i j L x u) (h0 : Ext w0 wd) (ha : Ext w0 wa) (h1 : Ext w0 w1) : Ext w0 u := by
  obtain ⟨a, b, c, d⟩ := h
  cases hi : L i with
  | false => rw [a hi]; exact h0
  | true =>
    cases hj : L j with
    | false => rw [b hi hj]; exact ha
    | true => rw [c hj]; exact h1
set_option maxRecDepth 100000 in
set_option maxHeartbeats 16000000 in
theorem ShareTurned_any (P n0 n1 : Int) (v : Value) (l : List Stk) (w : World) (hv : StakesAt w v l) (hn : nmOk l) : Cal 7 #[.int .i64 P, v, .agg #[.int .i64 n0, .int .i64 n1]] w fun e w' => e = .returned (.bool true) ∧ Ext w w' := by
  have HWK := hid (fun (u : World) => works_any u)
  by_cases he : divE P l = 0
  · obtain ⟨hP, hst, hz⟩ := divE_ok he
    have hok := stakes_ok hst
    have hl1 : 1 ≤ l.length := by
      cases l with
      | nil => exact absurd rfl hz
      | cons => simp
    have HE := hid he
    have HN := hid hn
    have HDV := hid (fun (u : World) (hu : Ext w u) => Divide_ok P v l u (hv.mono hu) hn he)
    have HSM := hid (fun (u : World) (hu : Ext w u) => small_true v l u (hv.mono hu) hok.1 fun s hs => (hok.2.1 s hs).2)
    have HV := hid hv
    have HOK := hid hok
    obtain ⟨a, sc, rfl, ⟨hcap, hqq⟩, hc⟩ := hv
    obtain ⟨b, off, rfl, hb0⟩ := hc 0 (by omega)
    clear hb0 hc hqq
    have hl10 := hok.1
    have hmo := modI_ok n0 (m := (l.length : Int)) (by omega)
    obtain ⟨f, hf⟩ : ∃ f : Nat, modI n0 l.length = f := ⟨(modI n0 l.length).toNat, by omega⟩
    have hfl : f < l.length := by omega
    have HM1 := hid (fun (u : World) => mod_any n0 l.length u (by omega))
    rw [hf] at HM1
    have hmx : max (1 : Int) (l.length : Int) = (l.length : Int) := by omega
    have HFL := hid hfl
    clear hmo hf he hn hst hz hok hP
    have HX0 : Hid (Ext w (w.alloc (.cells #[.int .i64 n0, .int .i64 n1] 46))) := hid ((Ext.refl _).alloc _)
    have HB0 : Hid ((w.alloc (.cells #[.int .i64 n0, .int .i64 n1] 46)).heap[w.heap.size]? = some (.cells #[.int .i64 n0, .int .i64 n1] 46 (0, 0))) := hid (Ext.new (Ext.refl _))
    gi_enter Tryz.func7, Tryz.ntmps7
    gi_upto_region 1 with fail
    obtain ⟨bx, hbx⟩ : ∃ bx, bx = w.heap.size := ⟨_, rfl⟩
    rw [← hbx] at HB0 ⊢
    have HBX := hid hbx
    clear hbx
    generalize w.alloc (.cells #[.int .i64 n0, .int .i64 n1] 46) = wa at *
    gi_upto_region 4 with (first | (gi_at_call 15; ((with_reducible refine (HDV.out _ HX0.out).mono ?_); rintro e w1 ⟨r1, rfl, hx1, HR1⟩; obtain ⟨r1a, r1c, rfl⟩ := HR1.out.isSliceN; have HX1 := hid hx1; clear hx1)) | (gi_at_call 28; ((with_reducible refine (HSM.out _ (HX0.out.trans HX1.out)).mono ?_); rintro e w2 ⟨rfl, rfl⟩)))
    have c0 := cell_of (HX1.out.block HB0.out)
    gi_upto_region 5 with (gi_at_call 32; ((with_reducible refine (HM1.out _).mono ?_); rintro e w3 ⟨rfl, rfl⟩))
    clear c0 hmx
    obtain ⟨w7, hw7⟩ : ∃ wd : World, wd = { w1 with drawn := w1.drawn + 1 } := ⟨_, rfl⟩
    have hx7 : Ext w1 w7 := by rw [hw7]; exact Ext.drawn _
    have HXw1 := hid (HX0.out.trans HX1.out)
    obtain ⟨v1, w8, hrun1, hx8, v2, w9, hrun2, hrow2, hown2, hx9⟩ := turn_stks (c1 := sc - f) (c2 := sc) (HXw1.out.trans hx7) HV.out hfl (by omega)
    have hxa : Ext w7 (w7.alloc (.cells #[] 49)) := (Ext.refl _).alloc _
    have HR1a := hid hrun1
    have HR2a := hid hrun2
    have HXX := hid (And.intro hx7 (And.intro hxa (And.intro hx8 hx9)))
    have HTR := hid (And.intro hrow2 hown2)
    have HST : fewJ w7 (w7.alloc (.cells #[] 49)) w8 w9 0 4 8 (fun _ => false) (fun _ => undef) { w1 with drawn := w1.drawn + 1 } := by rw [← hw7]; exact fewJ_start
    clear hrun1 hrun2 hrow2 hown2 hx8 hx9 hxa hx7
    have hk1 : f ≤ sc := by omega
    have hk2 : (f : Int) ≤ sc := by omega
    have hk3 : f ≤ l.length := by omega
    have hk4 : (f : Int) ≤ l.length := by omega
    have hk5 : ¬ sc = f := by omega
    refine jj_own 9 [] _ (by kernel_rfl) (by kernel_rfl) HST ?_
    simp only [List.take_succ_cons, List.take_zero, List.drop_succ_cons, List.drop_zero]
    clear hw7 HST
    refine jj_fun (v := .slice (some ⟨w7.heap.size, 0, none⟩) 0 0) (by decide) ?_ ?_
    · intro L x u hL hd hJ
      obtain ⟨rfl, hJ2⟩ := fewJ_0 hJ hL (by decide) (by decide)
      have HJ := hid hJ2
      clear hJ hJ2 hd hL
      go_simp
      exact HJ.out
    simp only [Act.put, List.setIfInBounds_toArray, List.set_cons_succ, List.set_cons_zero]
    apply jj_fun (by decide)
    · intro L x u hL hd hJ
      have HJ := hid hJ
      clear hJ hd hL
      go_simp
      exact ⟨rfl, HJ.out⟩
    simp only [Act.put, List.setIfInBounds_toArray, List.set_cons_succ, List.set_cons_zero]
    apply jj_fun (by decide)
    · intro L x u hL hd hJ
      have HJ := hid hJ
      clear hJ hd hL
      go_simp
      exact ⟨rfl, HJ.out⟩
    simp only [Act.put, List.setIfInBounds_toArray, List.set_cons_succ, List.set_cons_zero]
    apply jj_fun (by decide)
    · intro L x u hL hd hJ
      have HJ := hid hJ
      clear hJ hd hL
      go_simp
      exact ⟨rfl, HJ.out⟩
    simp only [Act.put, List.setIfInBounds_toArray, List.set_cons_succ, List.set_cons_zero]
    refine jj_fun (v := v1) (by decide) ?_ ?_
    · intro L x u hL hd hJ
      obtain ⟨rfl, hJ2⟩ := fewJ_1 hJ (hd.1 rfl) hL (by decide) (by decide)
      rw [if_pos (show Region.wanted _ _ = true from rfl)]
      exact gives_append (.tmp 55) (.tmp 58) 22 rfl rfl rfl HR1a.out ⟨⟨rfl, hJ2⟩, trivial⟩
    simp only [Act.put, List.setIfInBounds_toArray, List.set_cons_succ, List.set_cons_zero]
    apply jj_fun (by decide)
    · intro L x u hL hd hJ
      have HJ := hid hJ
      clear hJ hd hL
      go_simp
      exact ⟨rfl, HJ.out⟩
    simp only [Act.put, List.setIfInBounds_toArray, List.set_cons_succ, List.set_cons_zero]
    apply jj_fun (by decide)
    · intro L x u hL hd hJ
      have HJ := hid hJ
      clear hJ hd hL
      go_simp
      exact ⟨rfl, HJ.out⟩
    simp only [Act.put, List.setIfInBounds_toArray, List.set_cons_succ, List.set_cons_zero]
    apply jj_fun (by decide)
    · intro L x u hL hd hJ
      have HJ := hid hJ
      clear hJ hd hL
      go_simp
      exact ⟨rfl, HJ.out⟩
    simp only [Act.put, List.setIfInBounds_toArray, List.set_cons_succ, List.set_cons_zero]
    refine jj_fun (v := v2) (by decide) ?_ ?_
    · intro L x u hL hd hJ
      obtain ⟨rfl, hJ2⟩ := fewJ_2 hJ (hd.1 rfl) hL (by decide) (by decide)
      rw [if_pos (show Region.wanted _ _ = true from rfl)]
      exact gives_append (.tmp 59) (.tmp 62) 22 rfl rfl rfl HR2a.out ⟨⟨rfl, hJ2⟩, trivial⟩
    simp only [Act.put, List.setIfInBounds_toArray, List.set_cons_succ, List.set_cons_zero]
    refine jj_nil fun L x u7 hall hJ => ?_
    have hu7 := hJ.2.2.2.1 (hall 8 (by omega))
    clear hall hJ x L
    subst hu7
    have HX9 := hid (HX1.out.trans (HXX.out.1.trans HXX.out.2.2.2))
    have HXW := hid (HX0.out.trans HX9.out)
    have HX17 := hid (HXX.out.1.trans HXX.out.2.2.2)
    have HRR1 := hid (HR1.out.mono (HXX.out.1.trans HXX.out.2.2.2))
    obtain ⟨tg, tc, e⟩ := row_addr HTR.out.1 (by omega)
    subst e
    have HOW := hid (show w1.heap.size ≤ tg by
      have h1 := HTR.out.2 tg rfl
      have h2 := HXX.out.1.size
      omega)
    have HTN := hid (Turn.start (l := l) f)
    have HTS := hid HTR.out.1
    have HBB := hid (HX1.out.block HB0.out)
    clear HR1a HR2a HXX hk1 hk2 hk3 hk4 hk5 HTR HX1
    have HMD := hid (fun (u : World) => mod_any n0 2 u (by omega))
    gi_wp2_with fail
    gi_loopw [11] (fun i wr => ∃ k : Nat, k ≤ l.length + 1 ∧ i = .int .i64 k ∧ Hid (Ext w1 wr ∧ ∃ T I, Turn l T I ∧ Row wr 49 2 (.slice (some ⟨tg, 0, none⟩) l.length tc) l.length (stkF T))) (fun i _ => l.length + 1 - (intOf i).toNat)
    case atStart => exact ⟨0, by omega, rfl, hid ⟨HX17.out, _, _, HTN.out, HTS.out⟩⟩
    case round =>
      obtain ⟨k, hk, rfl, HI⟩ := hrel
      have c0 := cell_of (HI.out.1.block HBB.out)
      have hn0 := HOK.out.1
      by_cases hkn : k + 1 < l.length
      · have hki : (k : Int) + 1 < (l.length : Int) := by omega
        by_cases hm2 : modI n0 2 = 1
        · have HM2 := hid (fun (u : World) => (show Cal 32 #[.int .i64 n0, .int .i64 2] u fun e w' => e = .returned (.int .i64 1) ∧ u = w' from by have h := HMD.out u; rw [hm2] at h; exact h))
          clear hm2
          obtain ⟨hx, T, I, hT, hrow⟩ := HI.out
          have hTl := hT.len.1
          obtain ⟨cur, hg, hs⟩ := SRow.of_row hrow
          have hka : k < T.length := by omega
          have hkb : k + 1 < T.length := by omega
          obtain ⟨a0, a1⟩ := hs.get hka
          obtain ⟨b0, b1⟩ := hs.get hkb
          obtain ⟨I', hT'⟩ := hT.swap hkb
          have hsA := hs.set (k := k) (by omega) T[k + 1]
          have hsB := hsA.1.set (k := k + 1) (by omega) T[k]
          generalize T[k] = sa at *
          generalize T[k + 1] = sb at *
          obtain ⟨cA, hcA⟩ : ∃ cA, cA = stC cur (k * 2) #[.string sb.name, .int .i64 sb.weight] := ⟨_, rfl⟩
          obtain ⟨cB, hcB⟩ : ∃ cB, cB = stC cA ((k + 1) * 2) #[.string sa.name, .int .i64 sa.weight] := ⟨_, rfl⟩
          rw [← hcA] at hsA hsB
          rw [← hcB] at hsB
          have HCA := hid (And.intro hcA (And.intro hcB (And.intro hsA.2 hsB.2)))
          have HTT := hid (And.intro hT' hsB.1)
          have HCL := hid (And.intro (And.intro a0 a1) (And.intro b0 b1))
          have HST : swJ w1 tg cur cA cB (fun _ => false) (fun _ => undef) { wr with drawn := wr.drawn + 1 } := ⟨hx.trans (Ext.drawn _), hg, fun h => (by cases h), fun h => (by cases h)⟩
          have HKN := hid (And.intro hkn hTl)
          clear HI hx hT hrow hTl hg hs hka hkb a0 a1 b0 b1 hT' hsA hsB hcA hcB hkn
          gi_upto_region 9 with (gi_at_call 32; ((with_reducible refine (HM2.out _).mono ?_); rintro e w3 ⟨rfl, rfl⟩))
          have hw1 : wrap64 ((k : Int) + 1) = (k : Int) + 1 := wrap_mid (by omega) (by omega)
          have hwk1 : IntKind.i64.wrap ((k : Int) + 1) = (k : Int) + 1 := by rw [IntKind.wrap_i64]; have := HKN.out.1; omega
          have hki0 : (k : Int) < (l.length : Int) := by omega
          refine jj_own 18 [] _ (by kernel_rfl) (by kernel_rfl) HST ?_
          simp only [List.take_succ_cons, List.take_zero, List.drop_succ_cons, List.drop_zero]
          clear HST c0
          apply jj_fun (by decide)
          · intro L x u hL hd hJ
            have HJ := hid hJ
            clear hJ hd hL
            go_simp
            exact ⟨rfl, HJ.out⟩
          simp only [Act.put, List.setIfInBounds_toArray, List.set_cons_succ, List.set_cons_zero]
          apply jj_fun (by decide)
          · intro L x u hL hd hJ
            have HJ := hid hJ
            clear hJ hd hL
            go_simp
            exact ⟨rfl, HJ.out⟩
          simp only [Act.put, List.setIfInBounds_toArray, List.set_cons_succ, List.set_cons_zero]
          apply jj_fun (by decide)
          · intro L x u hL hd hJ
            have HJ := hid hJ
            clear hJ hd hL
            go_simp
            exact ⟨rfl, HJ.out⟩
          simp only [Act.put, List.setIfInBounds_toArray, List.set_cons_succ, List.set_cons_zero]
          apply jj_fun (by decide)
          · intro L x u hL hd hJ
            have HJ := hid hJ
            clear hJ hd hL
            go_simp
            exact ⟨rfl, HJ.out⟩
          simp only [Act.put, List.setIfInBounds_toArray, List.set_cons_succ, List.set_cons_zero]
          apply jj_fun (by decide)
          · intro L x u hL hd hJ
            have HJ := hid hJ
            clear hJ hd hL
            go_simp
            exact ⟨rfl, HJ.out⟩
          simp only [Act.put, List.setIfInBounds_toArray, List.set_cons_succ, List.set_cons_zero]
          apply jj_fun (by decide)
          · intro L x u hL hd hJ
            have HJ := hid hJ
            clear hJ hd hL
            go_simp
            exact ⟨rfl, HJ.out⟩
          simp only [Act.put, List.setIfInBounds_toArray, List.set_cons_succ, List.set_cons_zero]
          apply jj_fun (by decide)
          · intro L x u hL hd hJ
            have HJ := hid hJ
            clear hJ hd hL
            go_simp
            exact ⟨rfl, HJ.out⟩
          simp only [Act.put, List.setIfInBounds_toArray, List.set_cons_succ, List.set_cons_zero]
          apply jj_fun (by decide)
          · intro L x u hL hd hJ
            have HJ := hid hJ
            clear hJ hd hL
            go_simp
            exact ⟨rfl, HJ.out⟩
          simp only [Act.put, List.setIfInBounds_toArray, List.set_cons_succ, List.set_cons_zero]
          apply jj_fun (by decide)
          · intro L x u hL hd hJ
            have HJ := hid hJ
            clear hJ hd hL
            go_simp
            exact ⟨rfl, HJ.out⟩
          simp only [Act.put, List.setIfInBounds_toArray, List.set_cons_succ, List.set_cons_zero]
          apply jj_fun (by decide)
          · intro L x u hL hd hJ
            have h15 : L 15 = false := by
              cases h : L 15 with
              | false => rfl
              | true => have h2 := hJ.2.2.1 h; first | (have := h2.1; rw [hL] at this; cases this) | (have := h2.2; rw [hL] at this; cases this)
            have h17 : L 17 = false := by
              cases h : L 17 with
              | false => rfl
              | true => have h2 := hJ.2.2.2 h; rw [h15] at h2; cases h2
            have hb := hJ.2.1
            rw [h15, h17] at hb
            simp only [Bool.false_eq_true, if_false] at hb
            have d0 := (cell_of hb _).trans HCL.out.2.1
            have d1 := (cell_of hb _).trans HCL.out.2.2
            have HJ : Hid (swJ w1 tg cur cA cB (updL L 9) x u) := hid ⟨hJ.1, hJ.2.1, fun h => (by rw [show updL L 9 15 = L 15 from rfl, h15] at h; cases h), hJ.2.2.2⟩
            clear hJ hd hL h15 h17 hb
            go_simp
            exact ⟨rfl, HJ.out⟩
          simp only [Act.put, List.setIfInBounds_toArray, List.set_cons_succ, List.set_cons_zero]
          apply jj_fun (by decide)
          · intro L x u hL hd hJ
            have HJ := hid hJ
            clear hJ hd hL
            go_simp
            exact ⟨rfl, HJ.out⟩
          simp only [Act.put, List.setIfInBounds_toArray, List.set_cons_succ, List.set_cons_zero]
          apply jj_fun (by decide)
          · intro L x u hL hd hJ
            have HJ := hid hJ
            clear hJ hd hL
            go_simp
            exact ⟨rfl, HJ.out⟩
          simp only [Act.put, List.setIfInBounds_toArray, List.set_cons_succ, List.set_cons_zero]
          apply jj_fun (by decide)
          · intro L x u hL hd hJ
            have HJ := hid hJ
            clear hJ hd hL
            go_simp
            exact ⟨rfl, HJ.out⟩
          simp only [Act.put, List.setIfInBounds_toArray, List.set_cons_succ, List.set_cons_zero]
          apply jj_fun (by decide)
          · intro L x u hL hd hJ
            have h15 : L 15 = false := by
              cases h : L 15 with
              | false => rfl
              | true => have h2 := hJ.2.2.1 h; first | (have := h2.1; rw [hL] at this; cases this) | (have := h2.2; rw [hL] at this; cases this)
            have h17 : L 17 = false := by
              cases h : L 17 with
              | false => rfl
              | true => have h2 := hJ.2.2.2 h; rw [h15] at h2; cases h2
            have hb := hJ.2.1
            rw [h15, h17] at hb
            simp only [Bool.false_eq_true, if_false] at hb
            have d0 := (cell_of hb _).trans HCL.out.1.1
            have d1 := (cell_of hb _).trans HCL.out.1.2
            have HJ : Hid (swJ w1 tg cur cA cB (updL L 13) x u) := hid ⟨hJ.1, hJ.2.1, fun h => (by rw [show updL L 13 15 = L 15 from rfl, h15] at h; cases h), hJ.2.2.2⟩
            clear hJ hd hL h15 h17 hb
            go_simp
            exact ⟨rfl, HJ.out⟩
          simp only [Act.put, List.setIfInBounds_toArray, List.set_cons_succ, List.set_cons_zero]
          apply jj_fun (by decide)
          · intro L x u hL hd hJ
            have HJ := hid hJ
            clear hJ hd hL
            go_simp
            exact ⟨rfl, HJ.out⟩
          simp only [Act.put, List.setIfInBounds_toArray, List.set_cons_succ, List.set_cons_zero]
          refine jj_fun (v := undef) (by decide) ?_ ?_
          · intro L x u hL hd hJ
            have h9 : L 9 = true := hd.2.1 rfl
            have h13 : L 13 = true := hd.2.2.2.2.2.2.2.2.2.2.2.2.2.2.2.1 rfl
            have h17 : L 17 = false := by
              cases h : L 17 with
              | false => rfl
              | true => have h2 := hJ.2.2.2 h; rw [hL] at h2; cases h2
            have hb := hJ.2.1
            rw [hL, h17] at hb
            simp only [Bool.false_eq_true, if_false] at hb
            rw [if_pos (show Region.wanted _ _ = true from rfl)]
            refine gives_store 49 (.tmp 91) (.tmp 86) rfl rfl (cells := #[.string sb.name, .int .i64 sb.weight]) rfl hb (by kernel_rfl) HCA.out.2.2.1 (by simp [Value.oneCell']) ⟨⟨rfl, ?_⟩, trivial⟩
            refine ⟨ext_setRow hJ.1 HOW.out _, ?_, fun _ => ⟨h9, h13⟩, fun h => by rw [show updL L _ 17 = L 17 from rfl, h17] at h; cases h⟩
            rw [show updL L _ 17 = L 17 from rfl, h17, HCA.out.1]
            exact setRow_heap u tg cur _ 49 _ hb
          simp only [Act.put, List.setIfInBounds_toArray, List.set_cons_succ, List.set_cons_zero]
          apply jj_fun (by decide)
          · intro L x u hL hd hJ
            have HJ := hid hJ
            clear hJ hd hL
            go_simp
            exact ⟨rfl, HJ.out⟩
          simp only [Act.put, List.setIfInBounds_toArray, List.set_cons_succ, List.set_cons_zero]
          refine jj_fun (v := undef) (by decide) ?_ ?_
          · intro L x u hL hd hJ
            have h15 : L 15 = true := hd.2.2.1 rfl
            have hb := hJ.2.1
            rw [hL, h15] at hb
            simp only [Bool.false_eq_true, if_false, if_true] at hb
            rw [if_pos (show Region.wanted _ _ = true from rfl)]
            refine gives_store 49 (.tmp 92) (.tmp 90) rfl rfl (cells := #[.string sa.name, .int .i64 sa.weight]) rfl hb (by kernel_rfl) HCA.out.2.2.2 (by simp [Value.oneCell']) ⟨⟨rfl, ?_⟩, trivial⟩
            refine ⟨ext_setRow hJ.1 HOW.out _, ?_, hJ.2.2.1, fun _ => h15⟩
            rw [show updL L _ 17 = true from rfl, if_pos rfl, HCA.out.2.1]
            exact setRow_heap u tg cA _ 49 _ hb
          simp only [Act.put, List.setIfInBounds_toArray, List.set_cons_succ, List.set_cons_zero]
          refine jj_nil fun L x u hall hJ => ?_
          have hgu := hJ.2.1
          rw [if_pos (hall 17 (by omega))] at hgu
          have hxu := hJ.1
          clear hall hJ x L
          have HNX := hid (And.intro hxu (HTT.out.2.row hgu))
          clear hgu hxu hw1 hwk1
          gi_wp2_with fail
          have hk2 : wrap64 ((k : Int) + 2) = (k : Int) + 2 := by have := HKN.out.1; unfold wrap64; omega
          go_roundw
          case rel => exact ⟨k + 2, by have := HKN.out.1; omega, by go_num, hid ⟨HNX.out.1, _, _, HTT.out.1, HNX.out.2⟩⟩
          case measure => have := HKN.out.1; simp [intOf]; omega
        · have hm3 : (modI n0 2 == 1) = false := by simpa using hm2
          generalize modI n0 2 = m2 at *
          have HIE := hid HI.out
          clear HI hm2 hkn
          gi_upto_region 10 with (gi_at_call 32; ((with_reducible refine (HMD.out _).mono ?_); rintro e w3 ⟨rfl, rfl⟩))
          obtain ⟨hx, T, I, hT, hrow⟩ := HIE.out
          have hTl := hT.len.1
          have HXr := hid (HXw1.out.trans hx)
          have HX1r := hid hx
          have HT := hid hT
          have HTS2 := hid (StakesAt.of_row (l := T) (by rw [hTl]; exact hrow) (by omega))
          have HD2 := hid (Divide_ok P _ T wr HTS2.out (fun s hs => HN.out s (hT.permT.mem_iff.1 hs)) (hT.err HE.out))
          rw [hTl] at HD2
          have HTL := hid hTl
          have hlen0 : ((l.length : Int) == (l.length : Int)) = true := by simp
          clear hx hT hrow hTl HIE
          gi_upto_region 13 with (gi_at_call 15; ((with_reducible refine (HD2.out).mono ?_); rintro e w4 ⟨r2, rfl, hx4, HR2⟩; obtain ⟨r2a, r2c, rfl⟩ := HR2.out.isSliceN))
          have HX4 := hid (HX1r.out.trans hx4)
          have HXE := hid (HXr.out.trans hx4)
          have HCD := hid (fun (i : Nat) (hi : i < l.length) => (show ∃ b1, r1a = some ⟨b1, 0, none⟩ ∧ ∀ u, Ext w4 u → u.cell? ⟨b1, i, none⟩ = some (.int .i64 (giveTo P l i)) by
            obtain ⟨g, cap, cur, e, _, hg, hc, _⟩ := HR1.out.cells1 hi
            cases e
            refine ⟨g, rfl, fun u hu => ?_⟩
            rw [(HX4.out.trans hu).cell (p := ⟨g, _, none⟩) (lt_of_block hg), hc]; simp [intsF, hi]))
          have HCT := hid (fun (i : Nat) (hi : i < l.length) => (show ∃ b1, r2a = some ⟨b1, 0, none⟩ ∧ ∀ u, Ext w4 u → u.cell? ⟨b1, i, none⟩ = some (.int .i64 (giveTo P T i)) by
            obtain ⟨g, cap, cur, e, _, hg, hc, _⟩ := HR2.out.cells1 hi
            cases e
            refine ⟨g, rfl, fun u hu => ?_⟩
            rw [hu.cell (p := ⟨g, _, none⟩) (lt_of_block hg), hc]; simp [intsF, hi]))
          have HNL := hid (fun (i : Nat) (hi : i < l.length) (u : World) (hu : Ext w4 u) => (show u.cell? ⟨b, off + i * 2, none⟩ = some (.string (l.getD i noStk).name) ∧ u.cell? ⟨b, off + i * 2 + 1, none⟩ = some (.int .i64 (l.getD i noStk).weight) by
            obtain ⟨a1, c1, e, _, hc⟩ := HV.out
            cases e
            obtain ⟨b1, o1, e, hb, h0, h1⟩ := hc i hi
            cases e
            rw [(HXE.out.trans hu).cell (p := ⟨b, _, none⟩) hb, (HXE.out.trans hu).cell (p := ⟨b, _, none⟩) hb, getD_of hi]
            exact ⟨h0, h1⟩))
          have HNT := hid (fun (i : Nat) (hi : i < l.length) (u : World) (hu : Ext w4 u) => (show u.cell? ⟨tg, i * 2, none⟩ = some (.string (T.getD i noStk).name) by
            obtain ⟨a1, c1, e, _, hc⟩ := HTS2.out
            have hi2 : i < T.length := by have := HTL.out; omega
            obtain ⟨e1, _, _⟩ := Value.slice.inj e
            obtain ⟨b1, o1, e2, hb, h0, h1⟩ := hc i hi2
            rw [e2] at e1
            cases e1
            rw [(hx4.trans hu).cell (p := ⟨tg, _, none⟩) hb, getD_of hi2, ← h0]; simp))
          have htc : l.length ≤ tc := by
            obtain ⟨a1, c1, e, h1, _⟩ := HTS2.out
            obtain ⟨_, _, e3⟩ := Value.slice.inj e
            have := HTL.out; have := h1.1; omega
          have hr1c : l.length ≤ r1c := by
            rcases HR1.out.2 with ⟨e, h0⟩ | ⟨g, cap, cur, e, _, h1, _⟩
            · omega
            · cases e; exact h1
          have hr2c : l.length ≤ r2c := by
            rcases HR2.out.2 with ⟨e, h0⟩ | ⟨g, cap, cur, e, _, h1, _⟩
            · omega
            · cases e; exact h1
          have HB4 := hid (HX4.out.block HBB.out)
          have HR1x := hid (HR1.out.mono HX4.out)
          clear hx4 HX1r HTS2 HR2 HD2 hlen0
          gi_wp2_with fail
          gi_loopw [13, 14] (fun i u14 wr => ∃ i0 : Nat, i0 ≤ l.length ∧ i = .int .i64 i0 ∧ Hid (Ext w4 wr)) (fun i _ _ => l.length - (intOf i).toNat)
          case atStart => exact ⟨0, by omega, rfl, hid (Ext.refl _)⟩
          case round =>
            obtain ⟨i, hi, rfl, HXi⟩ := hrel
            by_cases hil : i < l.length
            · have hii : (i : Int) < (l.length : Int) := by omega
              have HIL := hid hil
              clear hil
              obtain ⟨wo, rfl⟩ : ∃ wo, wo = wr := ⟨wr, rfl⟩
              gi_wp2_with fail
              gi_loopw [14] (fun k wr => ∃ k0 : Nat, k0 ≤ l.length ∧ k = .int .i64 k0 ∧ Hid (Ext w4 wr)) (fun k _ => l.length - (intOf k).toNat)
              case atStart => exact ⟨0, by omega, rfl, hid HXi.out⟩
              case round =>
                obtain ⟨k, hk, rfl, HXk⟩ := hrel
                have hii : (i : Int) < (l.length : Int) := by have := HIL.out; omega
                by_cases hkl : k < l.length
                · have hki : (k : Int) < (l.length : Int) := by omega
                  have HKL := hid hkl
                  obtain ⟨b1, rfl, h1⟩ := HCD.out i HIL.out
                  obtain ⟨b2, rfl, h2⟩ := HCT.out k hkl
                  have c1 : ∀ e : Later wr, e.1.cell? ⟨b1, i, none⟩ = some (.int .i64 (giveTo P l i)) := fun e => h1 _ (HXk.out.trans e.grown)
                  have c2 : ∀ e : Later wr, e.1.cell? ⟨b2, k, none⟩ = some (.int .i64 (giveTo P T k)) := fun e => h2 _ (HXk.out.trans e.grown)
                  have c3 : ∀ e : Later wr, e.1.cell? ⟨b, off + i * 2, none⟩ = some (.string (l.getD i noStk).name) := fun e => (HNL.out i HIL.out _ (HXk.out.trans e.grown)).1
                  have c4 : ∀ e : Later wr, e.1.cell? ⟨tg, k * 2, none⟩ = some (.string (T.getD k noStk).name) := fun e => HNT.out k hkl _ (HXk.out.trans e.grown)
                  by_cases hnm : (T.getD k noStk).name.toList = (l.getD i noStk).name.toList
                  · have hsv := HT.out.same HE.out HIL.out hkl (names_inj hnm)
                    rw [hsv] at c2
                    have heb : ((T.getD k noStk).name.toList == (l.getD i noStk).name.toList) = true := by simpa using hnm
                    generalize giveTo P l i = z at *
                    generalize (T.getD k noStk).name = nk at *
                    generalize (l.getD i noStk).name = ni at *
                    have hzz : (z != z) = false := by simp
                    clear h1 h2 hkl hnm hsv
                    gi_upto_region 19 with fail
                    refine quiet_wide 22 (by kernel_rfl) (by kernel_rfl) ?_
                    simp only [List.take_succ_cons, List.take_zero, List.drop_succ_cons, List.drop_zero]
                    repeat (any_goals (first | go_big_quiet_step (fail) | quiet_step (fail)))
                    refine wpQuiet_nil ?_
                    rintro w6 ⟨⟨w6q, hx5⟩, hew5⟩
                    obtain rfl : w6 = w6q := hew5
                    have HX6 : Hid (Ext wr w6) := hid (show Ext wr w6 from hx5)
                    clear hx5
                    clear c1 c2 c3 c4
                    gi_wp2_with fail
                    all_goals first
                      | exact (undef_no' ‹_›).elim
                      | (go_roundw
                         case rel => exact ⟨k + 1, by have := HKL.out; omega, by go_num, hid (HXk.out.trans HX6.out)⟩
                         case measure => have := HKL.out; simp [intOf]; omega)
                  · have heb : ((T.getD k noStk).name.toList == (l.getD i noStk).name.toList) = false := by simpa using hnm
                    generalize giveTo P l i = z at *
                    generalize giveTo P T k = z2 at *
                    generalize (T.getD k noStk).name = nk at *
                    generalize (l.getD i noStk).name = ni at *
                    clear h1 h2 hkl hnm
                    gi_upto_region 19 with fail
                    refine quiet_wide 22 (by kernel_rfl) (by kernel_rfl) ?_
                    simp only [List.take_succ_cons, List.take_zero, List.drop_succ_cons, List.drop_zero]
                    repeat (any_goals (first | go_big_quiet_step (fail) | quiet_step (fail)))
                    refine wpQuiet_nil ?_
                    rintro w6 ⟨⟨w6q, hx5⟩, hew5⟩
                    obtain rfl : w6 = w6q := hew5
                    have HX6 : Hid (Ext wr w6) := hid (show Ext wr w6 from hx5)
                    clear hx5
                    clear c1 c2 c3 c4
                    gi_wp2_with fail
                    all_goals first
                      | exact (undef_no' ‹_›).elim
                      | (go_roundw
                         case rel => exact ⟨k + 1, by have := HKL.out; omega, by go_num, hid (HXk.out.trans HX6.out)⟩
                         case measure => have := HKL.out; simp [intOf]; omega)
                · obtain rfl : k = l.length := by omega
                  have hki : ¬ (l.length : Int) < (l.length : Int) := by omega
                  have HXn := hid HXk.out
                  clear hkl
                  gi_wp2_with fail
                  go_roundw
                  case rel => exact ⟨i + 1, by have := HIL.out; omega, by go_num, HXn⟩
                  case measure => have := HIL.out; simp [intOf]; omega
            · obtain rfl : i = l.length := by omega
              have hii : ¬ (l.length : Int) < (l.length : Int) := by omega
              have HXi2 := hid HXi.out
              clear hil
              have c0 := cell_of (HXi2.out.block HB4.out)
              have hmo5 := modI_ok n1 (m := 5) (by omega)
              have HM5 := hid (fun (u : World) => mod_any n1 5 u (by omega))
              generalize modI n1 5 = m5 at *
              have hw5 : wrap64 (2 + m5) = 2 + m5 := wrap_mid (by omega) (by omega)
              gi_upto_region 22 with (gi_at_call 32; ((with_reducible refine (HM5.out _).mono ?_); rintro e w5 ⟨rfl, rfl⟩))
              try simp only [hw5]
              clear c0 hw5
              obtain ⟨m, hm⟩ : ∃ m, m = 2 + m5 := ⟨_, rfl⟩
              rw [← hm]
              have HMB := hid (show 2 ≤ m ∧ m ≤ 6 by omega)
              clear hm hmo5 HM5
              obtain ⟨i49, hi49, hz0, hz1, hz2⟩ := info_parts info49
              have HZ := hid (And.intro hi49 (And.intro hz0 (And.intro hz1 hz2)))
              have HW5 := hid (HXE.out.trans HXi2.out)
              have HXg := hid HXi2.out
              clear hi49 hz0 hz1 hz2 HXi2
              obtain ⟨w5, rfl⟩ : ∃ w5, w5 = wr := ⟨wr, rfl⟩
              gi_wp2_with fail
              gi_loopw [16, 17] (fun g i wr => ∃ k : Nat, k ≤ l.length ∧ i = .int .i64 k ∧ Hid ((Ext w5 wr ∧ Row wr 49 2 g k (stkF (timesL m (l.take k))) ∧ ∀ q, g.ownBlock = some q → w5.heap.size ≤ q) ∧ ∀ s ∈ l.take k, s.weight * m ≤ 1000)) (fun _ i _ => l.length - (intOf i).toNat)
              case atStart => exact ⟨0, Nat.zero_le _, rfl, hid ⟨⟨Ext.refl _, by simpa [timesL, stkF] using Row.nil _ _ _, fun g h => by simp [Value.ownBlock] at h⟩, by simp⟩⟩
              case round =>
                obtain ⟨k, hk, rfl, HI⟩ := hrel
                by_cases hkl : k < l.length
                · have hki : (k : Int) < (l.length : Int) := by omega
                  have hst := HNL.out k hkl _ (HXg.out.trans HI.out.1.1)
                  obtain ⟨c0, c1⟩ := hst
                  have hwb := (HOK.out.2.1 l[k] (List.getElem_mem hkl)).2
                  have hmb := HMB.out
                  have HTM := hid (show timesL m (l.take (k + 1)) = timesL m (l.take k) ++ [⟨l[k].name, l[k].weight * m⟩] by
                    unfold timesL; rw [List.take_succ_eq_append_getElem hkl, List.map_append]; rfl)
                  have HMM := hid (show l.take (k + 1) = l.take k ++ [l[k]] from List.take_succ_eq_append_getElem hkl)
                  rw [getD_of hkl] at c0 c1
                  have HKL := hid hkl
                  have HSC := hid (fun (u : World) (hu : Ext w4 u) => (show u.cell? ⟨b, off + k * 2, none⟩ = some (.string l[k].name) ∧ u.cell? ⟨b, off + k * 2 + 1, none⟩ = some (.int .i64 l[k].weight) by have h := HNL.out k hkl u hu; rw [getD_of hkl] at h; exact h))
                  have hmm : 0 ≤ l[k].weight * m ∧ l[k].weight * m ≤ 6000 := ⟨Int.mul_nonneg hwb.1 (by omega), by
                    have h1 : l[k].weight * m ≤ 1000 * 6 := Int.mul_le_mul hwb.2 hmb.2 (by omega) (by omega)
                    omega⟩
                  generalize l[k] = st at *
                  have hww : wrap64 (st.weight * m) = st.weight * m := wrap_mid (by omega) (by omega)
                  have hwk : IntKind.i64.wrap (st.weight * m) = st.weight * m := by rw [IntKind.wrap_i64]; omega
                  by_cases hbig : st.weight * m > 1000
                  · have hd : decide (st.weight * m > 1000) = true := decide_eq_true hbig
                    have HXq := hid (HW5.out.trans HI.out.1.1)
                    clear HI hkl hmm hbig
                    gi_wp2_with (gi_at_call 18; ((with_reducible refine (HWK.out _).mono ?_); rintro e w9 ⟨rfl, hx9⟩; have HXD := hid (HXq.out.trans hx9); clear hx9))
                    go_ret
                    exact ⟨rfl, HXD.out⟩
                  · have hd : decide (st.weight * m > 1000) = false := decide_eq_false hbig
                    have HSM9 : Hid (∀ s ∈ l.take (k + 1), s.weight * m ≤ 1000) := hid (fun s hs => by
                      rw [HMM.out] at hs
                      rcases List.mem_append.1 hs with h | h
                      · exact HI.out.2 s h
                      · rw [List.mem_singleton] at h; subst h; omega)
                    obtain ⟨hx, hrow, hown⟩ := HI.out.1
                    obtain ⟨wd, hwd⟩ : ∃ wd : World, wd = { wr with drawn := wr.drawn + 1 } := ⟨_, rfl⟩
                    have hxd : Ext wr wd := by rw [hwd]; exact Ext.drawn _
                    have hxa : Ext wd (wd.alloc (.cells #[.string st.name, .int .i64 (st.weight * m)] 49)) := (Ext.refl _).alloc _
                    have hce : (wd.alloc (.cells #[.string st.name, .int .i64 (st.weight * m)] 49)).heap[wd.heap.size]? = some (.cells #[.string st.name, .int .i64 (st.weight * m)] 49 (0, 0)) := Ext.new (Ext.refl _)
                    obtain ⟨ga, gc, rfl⟩ := hrow.isSliceN
                    have hmax : k + 1 ≤ 1000000000 := by have := HOK.out.1; omega
                    obtain ⟨v9, w9, hrun9, hrow9, hgr9, how9, _⟩ := append_row (t := 22) (ty := 22) Tryz.underlying22 HZ.out.1 HZ.out.2.1 HZ.out.2.2.1 HZ.out.2.2.2 (by simp [Value.cells]) (by omega) (hrow.mono (hxd.trans hxa)) ⟨wd.heap.size, 0, none⟩ 1 [.string st.name, .int .i64 (st.weight * m)] rfl (fun j u hj => by
                      rw [Addr.add_mid, Nat.zero_add, cell_of hce]; simpa using hj) (fun u hu => by simp at hu; rcases hu with rfl | rfl <;> rfl) hmax (by omega)
                    have hn9 := own_next (w0 := w5) (hx.trans (hxd.trans hxa)) hown hgr9 how9
                    have HR9 := hid hrun9
                    have HGR := hid (show Row w9 49 2 v9 (k + 1) (stkF (timesL m (l.take (k + 1)))) by rw [HTM.out, stkF_app]; exact hrow9)
                    have HN9 := hid hn9
                    have HXg2 := hid (And.intro (HXg.out.trans (hx.trans hxd)) (And.intro (HXg.out.trans (hx.trans (hxd.trans hxa))) (HXg.out.trans hn9.1)))
                    have HST : stJ wd (wd.alloc (.cells #[.string st.name, .int .i64 (st.weight * m)] 49)) w9 14 15 (fun _ => false) (fun _ => undef) { wr with drawn := wr.drawn + 1 } := by rw [← hwd]; exact stJ_start
                    clear HI hx hrow hown hxd hxa hce hrun9 hrow9 hgr9 how9 hn9 hmm hbig hmb hwb hkl HTM HMM
                    gi_upto_region 28 with fail
                    clear c0 c1 hd
                    refine jj_own 16 [] _ (by kernel_rfl) (by kernel_rfl) HST ?_
                    simp only [List.take_succ_cons, List.take_zero, List.drop_succ_cons, List.drop_zero]
                    clear hwd HST
                    apply jj_fun (by decide)
                    · intro L x u hL hd hJ
                      have HJ := hid hJ
                      clear hJ hd hL
                      go_simp
                      exact ⟨rfl, HJ.out⟩
                    simp only [Act.put, List.setIfInBounds_toArray, List.set_cons_succ, List.set_cons_zero]
                    apply jj_fun (by decide)
                    · intro L x u hL hd hJ
                      have HJ := hid hJ
                      clear hJ hd hL
                      go_simp
                      exact ⟨rfl, HJ.out⟩
                    simp only [Act.put, List.setIfInBounds_toArray, List.set_cons_succ, List.set_cons_zero]
                    apply jj_fun (by decide)
                    · intro L x u hL hd hJ
                      have HJ := hid hJ
                      clear hJ hd hL
                      go_simp
                      exact ⟨rfl, HJ.out⟩
                    simp only [Act.put, List.setIfInBounds_toArray, List.set_cons_succ, List.set_cons_zero]
                    apply jj_fun (by decide)
                    · intro L x u hL hd hJ
                      have HJ := hid hJ
                      clear hJ hd hL
                      go_simp
                      exact ⟨rfl, HJ.out⟩
                    simp only [Act.put, List.setIfInBounds_toArray, List.set_cons_succ, List.set_cons_zero]
                    apply jj_fun (by decide)
                    · intro L x u hL hd hJ
                      have HJ := hid hJ
                      clear hJ hd hL
                      go_simp
                      exact ⟨rfl, HJ.out⟩
                    simp only [Act.put, List.setIfInBounds_toArray, List.set_cons_succ, List.set_cons_zero]
                    apply jj_fun (by decide)
                    · intro L x u hL hd hJ
                      obtain ⟨c0, c1⟩ := HSC.out u (stJ_ext2 hJ HXg2.out.1 HXg2.out.2.1 HXg2.out.2.2)
                      have HJ := hid hJ
                      clear hJ hd hL
                      go_simp
                      exact ⟨rfl, HJ.out⟩
                    simp only [Act.put, List.setIfInBounds_toArray, List.set_cons_succ, List.set_cons_zero]
                    apply jj_fun (by decide)
                    · intro L x u hL hd hJ
                      have HJ := hid hJ
                      clear hJ hd hL
                      go_simp
                      exact ⟨rfl, HJ.out⟩
                    simp only [Act.put, List.setIfInBounds_toArray, List.set_cons_succ, List.set_cons_zero]
                    apply jj_fun (by decide)
                    · intro L x u hL hd hJ
                      have HJ := hid hJ
                      clear hJ hd hL
                      go_simp
                      exact ⟨rfl, HJ.out⟩
                    simp only [Act.put, List.setIfInBounds_toArray, List.set_cons_succ, List.set_cons_zero]
                    apply jj_fun (by decide)
                    · intro L x u hL hd hJ
                      have HJ := hid hJ
                      clear hJ hd hL
                      go_simp
                      exact ⟨rfl, HJ.out⟩
                    simp only [Act.put, List.setIfInBounds_toArray, List.set_cons_succ, List.set_cons_zero]
                    apply jj_fun (by decide)
                    · intro L x u hL hd hJ
                      have HJ := hid hJ
                      clear hJ hd hL
                      go_simp
                      exact ⟨rfl, HJ.out⟩
                    simp only [Act.put, List.setIfInBounds_toArray, List.set_cons_succ, List.set_cons_zero]
                    apply jj_fun (by decide)
                    · intro L x u hL hd hJ
                      obtain ⟨c0, c1⟩ := HSC.out u (stJ_ext2 hJ HXg2.out.1 HXg2.out.2.1 HXg2.out.2.2)
                      have HJ := hid hJ
                      clear hJ hd hL
                      go_simp
                      exact ⟨rfl, HJ.out⟩
                    simp only [Act.put, List.setIfInBounds_toArray, List.set_cons_succ, List.set_cons_zero]
                    apply jj_fun (by decide)
                    · intro L x u hL hd hJ
                      have HJ := hid hJ
                      clear hJ hd hL
                      go_simp
                      exact ⟨rfl, HJ.out⟩
                    simp only [Act.put, List.setIfInBounds_toArray, List.set_cons_succ, List.set_cons_zero]
                    apply jj_fun (by decide)
                    · intro L x u hL hd hJ
                      have HJ := hid hJ
                      clear hJ hd hL
                      go_simp
                      exact ⟨rfl, HJ.out⟩
                    simp only [Act.put, List.setIfInBounds_toArray, List.set_cons_succ, List.set_cons_zero]
                    apply jj_fun (by decide)
                    · intro L x u hL hd hJ
                      have HJ := hid hJ
                      clear hJ hd hL
                      go_simp
                      exact ⟨rfl, HJ.out⟩
                    simp only [Act.put, List.setIfInBounds_toArray, List.set_cons_succ, List.set_cons_zero]
                    refine jj_fun (v := .slice (some ⟨wd.heap.size, 0, none⟩) 1 1) (by decide) ?_ ?_
                    · intro L x u hL hd hJ
                      obtain ⟨rfl, hJ2⟩ := stJ_make hJ hL (by decide)
                      have HJ := hid hJ2
                      clear hJ hJ2 hd hL
                      go_simp
                      first | exact HJ.out | exact ⟨rfl, HJ.out⟩
                    simp only [Act.put, List.setIfInBounds_toArray, List.set_cons_succ, List.set_cons_zero]
                    refine jj_fun (v := v9) (by decide) ?_ ?_
                    · intro L x u hL hd hJ
                      obtain ⟨rfl, hJ2⟩ := stJ_app hJ (by first | exact hd.1 rfl | exact hd.2.1 rfl) hL (by decide)
                      rw [if_pos (show Region.wanted _ _ = true from rfl)]
                      exact gives_append (.tmp 161) (.tmp 175) 22 rfl rfl rfl HR9.out ⟨⟨rfl, hJ2⟩, trivial⟩
                    simp only [Act.put, List.setIfInBounds_toArray, List.set_cons_succ, List.set_cons_zero]
                    refine jj_nil fun L x u9 hall hJ => ?_
                    have hu9 := hJ.2.2.1 (hall 15 (by omega))
                    clear hall hJ x L
                    subst hu9
                    clear HR9 HXg2 hww hwk
                    gi_wp2_with fail
                    go_roundw
                    case rel => exact ⟨k + 1, by have := HKL.out; omega, by go_num, hid ⟨⟨HN9.out.1, HGR.out, HN9.out.2⟩, HSM9.out⟩⟩
                    case measure => have := HKL.out; simp [intOf]; omega
                · obtain rfl : k = l.length := by omega
                  have hki : ¬ (l.length : Int) < (l.length : Int) := by omega
                  obtain ⟨⟨hx, hrow, _⟩, hsm⟩ := HI.out
                  rw [List.take_length] at hrow hsm
                  obtain ⟨ht1, ht2⟩ := times_ok HE.out HMB.out.1 hsm
                  have hlt := timesL_len m l
                  have HD3 := hid (Divide_ok P _ (timesL m l) wr (StakesAt.of_row (by rw [hlt]; exact hrow) (by rw [hlt]; have := HOK.out.1; omega)) (fun s hs => by
                    obtain ⟨y, hy, rfl⟩ := List.mem_map.1 hs
                    exact HN.out y hy) ht1)
                  rw [hlt, intsF_congr ht2] at HD3
                  have HXh := hid (HW5.out.trans hx)
                  have HXh4 := hid (HXg.out.trans hx)
                  obtain ⟨ga, gc, rfl⟩ := hrow.isSliceN
                  clear HI hx hrow hsm ht1 ht2 hlt hkl
                  gi_upto_region 30 with (gi_at_call 15; ((with_reducible refine (HD3.out).mono ?_); rintro e w10 ⟨r3, rfl, hx10, HR3⟩))
                  have HI1 := hid (IntsAt.of_row (xs := gvs P l) (by rw [gvs_len, ← intsF_gvs]; exact HR3.out) (by rw [gvs_len]; have := HOK.out.1; omega))
                  have HI2 := hid (IntsAt.of_row (xs := gvs P l) (by rw [gvs_len, ← intsF_gvs]; exact HR1x.out.mono (HXh4.out.trans hx10)) (by rw [gvs_len]; have := HOK.out.1; omega))
                  have HSA := hid (Same_any _ _ _ _ w10 HI1.out HI2.out)
                  rw [show (gvs P l == gvs P l) = true by simp] at HSA
                  have HX10 := hid (HXh.out.trans hx10)
                  clear HI1 HI2 hx10 HD3
                  gi_wp2_with (first | (gi_at_call 17; ((with_reducible refine (HSA.out).mono ?_); rintro e w11 ⟨rfl, hx11⟩; have HX11 := hid (HX10.out.trans hx11); clear hx11)) | (gi_at_call 18; ((with_reducible refine (HWK.out _).mono ?_); rintro e w12 ⟨rfl, hx12⟩; have HX12 := hid (HX11.out.trans hx12); clear hx12)))
                  go_ret
                  exact ⟨rfl, HX12.out⟩
      · have hki : ¬ (k : Int) + 1 < (l.length : Int) := by omega
        have HIE := hid HI.out
        clear HI hkn
        gi_upto_region 10 with fail
        obtain ⟨hx, T, I, hT, hrow⟩ := HIE.out
        have hTl := hT.len.1
        have HXr := hid (HXw1.out.trans hx)
        have HX1r := hid hx
        have HT := hid hT
        have HTS2 := hid (StakesAt.of_row (l := T) (by rw [hTl]; exact hrow) (by omega))
        have HD2 := hid (Divide_ok P _ T wr HTS2.out (fun s hs => HN.out s (hT.permT.mem_iff.1 hs)) (hT.err HE.out))
        rw [hTl] at HD2
        have HTL := hid hTl
        have hlen0 : ((l.length : Int) == (l.length : Int)) = true := by simp
        clear hx hT hrow hTl HIE
        gi_upto_region 13 with (gi_at_call 15; ((with_reducible refine (HD2.out).mono ?_); rintro e w4 ⟨r2, rfl, hx4, HR2⟩; obtain ⟨r2a, r2c, rfl⟩ := HR2.out.isSliceN))
        have HX4 := hid (HX1r.out.trans hx4)
        have HXE := hid (HXr.out.trans hx4)
        have HCD := hid (fun (i : Nat) (hi : i < l.length) => (show ∃ b1, r1a = some ⟨b1, 0, none⟩ ∧ ∀ u, Ext w4 u → u.cell? ⟨b1, i, none⟩ = some (.int .i64 (giveTo P l i)) by
          obtain ⟨g, cap, cur, e, _, hg, hc, _⟩ := HR1.out.cells1 hi
          cases e
          refine ⟨g, rfl, fun u hu => ?_⟩
          rw [(HX4.out.trans hu).cell (p := ⟨g, _, none⟩) (lt_of_block hg), hc]; simp [intsF, hi]))
        have HCT := hid (fun (i : Nat) (hi : i < l.length) => (show ∃ b1, r2a = some ⟨b1, 0, none⟩ ∧ ∀ u, Ext w4 u → u.cell? ⟨b1, i, none⟩ = some (.int .i64 (giveTo P T i)) by
          obtain ⟨g, cap, cur, e, _, hg, hc, _⟩ := HR2.out.cells1 hi
          cases e
          refine ⟨g, rfl, fun u hu => ?_⟩
          rw [hu.cell (p := ⟨g, _, none⟩) (lt_of_block hg), hc]; simp [intsF, hi]))
        have HNL := hid (fun (i : Nat) (hi : i < l.length) (u : World) (hu : Ext w4 u) => (show u.cell? ⟨b, off + i * 2, none⟩ = some (.string (l.getD i noStk).name) ∧ u.cell? ⟨b, off + i * 2 + 1, none⟩ = some (.int .i64 (l.getD i noStk).weight) by
          obtain ⟨a1, c1, e, _, hc⟩ := HV.out
          cases e
          obtain ⟨b1, o1, e, hb, h0, h1⟩ := hc i hi
          cases e
          rw [(HXE.out.trans hu).cell (p := ⟨b, _, none⟩) hb, (HXE.out.trans hu).cell (p := ⟨b, _, none⟩) hb, getD_of hi]
          exact ⟨h0, h1⟩))
        have HNT := hid (fun (i : Nat) (hi : i < l.length) (u : World) (hu : Ext w4 u) => (show u.cell? ⟨tg, i * 2, none⟩ = some (.string (T.getD i noStk).name) by
          obtain ⟨a1, c1, e, _, hc⟩ := HTS2.out
          have hi2 : i < T.length := by have := HTL.out; omega
          obtain ⟨e1, _, _⟩ := Value.slice.inj e
          obtain ⟨b1, o1, e2, hb, h0, h1⟩ := hc i hi2
          rw [e2] at e1
          cases e1
          rw [(hx4.trans hu).cell (p := ⟨tg, _, none⟩) hb, getD_of hi2, ← h0]; simp))
        have htc : l.length ≤ tc := by
          obtain ⟨a1, c1, e, h1, _⟩ := HTS2.out
          obtain ⟨_, _, e3⟩ := Value.slice.inj e
          have := HTL.out; have := h1.1; omega
        have hr1c : l.length ≤ r1c := by
          rcases HR1.out.2 with ⟨e, h0⟩ | ⟨g, cap, cur, e, _, h1, _⟩
          · omega
          · cases e; exact h1
        have hr2c : l.length ≤ r2c := by
          rcases HR2.out.2 with ⟨e, h0⟩ | ⟨g, cap, cur, e, _, h1, _⟩
          · omega
          · cases e; exact h1
        have HB4 := hid (HX4.out.block HBB.out)
        have HR1x := hid (HR1.out.mono HX4.out)
        clear hx4 HX1r HTS2 HR2 HD2 hlen0
        gi_wp2_with fail
        gi_loopw [13, 14] (fun i u14 wr => ∃ i0 : Nat, i0 ≤ l.length ∧ i = .int .i64 i0 ∧ Hid (Ext w4 wr)) (fun i _ _ => l.length - (intOf i).toNat)
        case atStart => exact ⟨0, by omega, rfl, hid (Ext.refl _)⟩
        case round =>
          obtain ⟨i, hi, rfl, HXi⟩ := hrel
          by_cases hil : i < l.length
          · have hii : (i : Int) < (l.length : Int) := by omega
            have HIL := hid hil
            clear hil
            obtain ⟨wo, rfl⟩ : ∃ wo, wo = wr := ⟨wr, rfl⟩
            gi_wp2_with fail
            gi_loopw [14] (fun k wr => ∃ k0 : Nat, k0 ≤ l.length ∧ k = .int .i64 k0 ∧ Hid (Ext w4 wr)) (fun k _ => l.length - (intOf k).toNat)
            case atStart => exact ⟨0, by omega, rfl, hid HXi.out⟩
            case round =>
              obtain ⟨k, hk, rfl, HXk⟩ := hrel
              have hii : (i : Int) < (l.length : Int) := by have := HIL.out; omega
              by_cases hkl : k < l.length
              · have hki : (k : Int) < (l.length : Int) := by omega
                have HKL := hid hkl
                obtain ⟨b1, rfl, h1⟩ := HCD.out i HIL.out
                obtain ⟨b2, rfl, h2⟩ := HCT.out k hkl
                have c1 : ∀ e : Later wr, e.1.cell? ⟨b1, i, none⟩ = some (.int .i64 (giveTo P l i)) := fun e => h1 _ (HXk.out.trans e.grown)
                have c2 : ∀ e : Later wr, e.1.cell? ⟨b2, k, none⟩ = some (.int .i64 (giveTo P T k)) := fun e => h2 _ (HXk.out.trans e.grown)
                have c3 : ∀ e : Later wr, e.1.cell? ⟨b, off + i * 2, none⟩ = some (.string (l.getD i noStk).name) := fun e => (HNL.out i HIL.out _ (HXk.out.trans e.grown)).1
                have c4 : ∀ e : Later wr, e.1.cell? ⟨tg, k * 2, none⟩ = some (.string (T.getD k noStk).name) := fun e => HNT.out k hkl _ (HXk.out.trans e.grown)
                by_cases hnm : (T.getD k noStk).name.toList = (l.getD i noStk).name.toList
                · have hsv := HT.out.same HE.out HIL.out hkl (names_inj hnm)
                  rw [hsv] at c2
                  have heb : ((T.getD k noStk).name.toList == (l.getD i noStk).name.toList) = true := by simpa using hnm
                  generalize giveTo P l i = z at *
                  generalize (T.getD k noStk).name = nk at *
                  generalize (l.getD i noStk).name = ni at *
                  have hzz : (z != z) = false := by simp
                  clear h1 h2 hkl hnm hsv
                  gi_upto_region 19 with fail
                  refine quiet_wide 22 (by kernel_rfl) (by kernel_rfl) ?_
                  simp only [List.take_succ_cons, List.take_zero, List.drop_succ_cons, List.drop_zero]
                  repeat (any_goals (first | go_big_quiet_step (fail) | quiet_step (fail)))
                  refine wpQuiet_nil ?_
                  rintro w6 ⟨⟨w6q, hx5⟩, hew5⟩
                  obtain rfl : w6 = w6q := hew5
                  have HX6 : Hid (Ext wr w6) := hid (show Ext wr w6 from hx5)
                  clear hx5
                  clear c1 c2 c3 c4
                  gi_wp2_with fail
                  all_goals first
                    | exact (undef_no' ‹_›).elim
                    | (go_roundw
                       case rel => exact ⟨k + 1, by have := HKL.out; omega, by go_num, hid (HXk.out.trans HX6.out)⟩
                       case measure => have := HKL.out; simp [intOf]; omega)
                · have heb : ((T.getD k noStk).name.toList == (l.getD i noStk).name.toList) = false := by simpa using hnm
                  generalize giveTo P l i = z at *
                  generalize giveTo P T k = z2 at *
                  generalize (T.getD k noStk).name = nk at *
                  generalize (l.getD i noStk).name = ni at *
                  clear h1 h2 hkl hnm
                  gi_upto_region 19 with fail
                  refine quiet_wide 22 (by kernel_rfl) (by kernel_rfl) ?_
                  simp only [List.take_succ_cons, List.take_zero, List.drop_succ_cons, List.drop_zero]
                  repeat (any_goals (first | go_big_quiet_step (fail) | quiet_step (fail)))
                  refine wpQuiet_nil ?_
                  rintro w6 ⟨⟨w6q, hx5⟩, hew5⟩
                  obtain rfl : w6 = w6q := hew5
                  have HX6 : Hid (Ext wr w6) := hid (show Ext wr w6 from hx5)
                  clear hx5
                  clear c1 c2 c3 c4
                  gi_wp2_with fail
                  all_goals first
                    | exact (undef_no' ‹_›).elim
                    | (go_roundw
                       case rel => exact ⟨k + 1, by have := HKL.out; omega, by go_num, hid (HXk.out.trans HX6.out)⟩
                       case measure => have := HKL.out; simp [intOf]; omega)
              · obtain rfl : k = l.length := by omega
                have hki : ¬ (l.length : Int) < (l.length : Int) := by omega
                have HXn := hid HXk.out
                clear hkl
                gi_wp2_with fail
                go_roundw
                case rel => exact ⟨i + 1, by have := HIL.out; omega, by go_num, HXn⟩
                case measure => have := HIL.out; simp [intOf]; omega
          · obtain rfl : i = l.length := by omega
            have hii : ¬ (l.length : Int) < (l.length : Int) := by omega
            have HXi2 := hid HXi.out
            clear hil
            have c0 := cell_of (HXi2.out.block HB4.out)
            have hmo5 := modI_ok n1 (m := 5) (by omega)
            have HM5 := hid (fun (u : World) => mod_any n1 5 u (by omega))
            generalize modI n1 5 = m5 at *
            have hw5 : wrap64 (2 + m5) = 2 + m5 := wrap_mid (by omega) (by omega)
            gi_upto_region 22 with (gi_at_call 32; ((with_reducible refine (HM5.out _).mono ?_); rintro e w5 ⟨rfl, rfl⟩))
            try simp only [hw5]
            clear c0 hw5
            obtain ⟨m, hm⟩ : ∃ m, m = 2 + m5 := ⟨_, rfl⟩
            rw [← hm]
            have HMB := hid (show 2 ≤ m ∧ m ≤ 6 by omega)
            clear hm hmo5 HM5
            obtain ⟨i49, hi49, hz0, hz1, hz2⟩ := info_parts info49
            have HZ := hid (And.intro hi49 (And.intro hz0 (And.intro hz1 hz2)))
            have HW5 := hid (HXE.out.trans HXi2.out)
            have HXg := hid HXi2.out
            clear hi49 hz0 hz1 hz2 HXi2
            obtain ⟨w5, rfl⟩ : ∃ w5, w5 = wr := ⟨wr, rfl⟩
            gi_wp2_with fail
            gi_loopw [16, 17] (fun g i wr => ∃ k : Nat, k ≤ l.length ∧ i = .int .i64 k ∧ Hid ((Ext w5 wr ∧ Row wr 49 2 g k (stkF (timesL m (l.take k))) ∧ ∀ q, g.ownBlock = some q → w5.heap.size ≤ q) ∧ ∀ s ∈ l.take k, s.weight * m ≤ 1000)) (fun _ i _ => l.length - (intOf i).toNat)
            case atStart => exact ⟨0, Nat.zero_le _, rfl, hid ⟨⟨Ext.refl _, by simpa [timesL, stkF] using Row.nil _ _ _, fun g h => by simp [Value.ownBlock] at h⟩, by simp⟩⟩
            case round =>
              obtain ⟨k, hk, rfl, HI⟩ := hrel
              by_cases hkl : k < l.length
              · have hki : (k : Int) < (l.length : Int) := by omega
                have hst := HNL.out k hkl _ (HXg.out.trans HI.out.1.1)
                obtain ⟨c0, c1⟩ := hst
                have hwb := (HOK.out.2.1 l[k] (List.getElem_mem hkl)).2
                have hmb := HMB.out
                have HTM := hid (show timesL m (l.take (k + 1)) = timesL m (l.take k) ++ [⟨l[k].name, l[k].weight * m⟩] by
                  unfold timesL; rw [List.take_succ_eq_append_getElem hkl, List.map_append]; rfl)
                have HMM := hid (show l.take (k + 1) = l.take k ++ [l[k]] from List.take_succ_eq_append_getElem hkl)
                rw [getD_of hkl] at c0 c1
                have HKL := hid hkl
                have HSC := hid (fun (u : World) (hu : Ext w4 u) => (show u.cell? ⟨b, off + k * 2, none⟩ = some (.string l[k].name) ∧ u.cell? ⟨b, off + k * 2 + 1, none⟩ = some (.int .i64 l[k].weight) by have h := HNL.out k hkl u hu; rw [getD_of hkl] at h; exact h))
                have hmm : 0 ≤ l[k].weight * m ∧ l[k].weight * m ≤ 6000 := ⟨Int.mul_nonneg hwb.1 (by omega), by
                  have h1 : l[k].weight * m ≤ 1000 * 6 := Int.mul_le_mul hwb.2 hmb.2 (by omega) (by omega)
                  omega⟩
                generalize l[k] = st at *
                have hww : wrap64 (st.weight * m) = st.weight * m := wrap_mid (by omega) (by omega)
                have hwk : IntKind.i64.wrap (st.weight * m) = st.weight * m := by rw [IntKind.wrap_i64]; omega
                by_cases hbig : st.weight * m > 1000
                · have hd : decide (st.weight * m > 1000) = true := decide_eq_true hbig
                  have HXq := hid (HW5.out.trans HI.out.1.1)
                  clear HI hkl hmm hbig
                  gi_wp2_with (gi_at_call 18; ((with_reducible refine (HWK.out _).mono ?_); rintro e w9 ⟨rfl, hx9⟩; have HXD := hid (HXq.out.trans hx9); clear hx9))
                  go_ret
                  exact ⟨rfl, HXD.out⟩
                · have hd : decide (st.weight * m > 1000) = false := decide_eq_false hbig
                  have HSM9 : Hid (∀ s ∈ l.take (k + 1), s.weight * m ≤ 1000) := hid (fun s hs => by
                    rw [HMM.out] at hs
                    rcases List.mem_append.1 hs with h | h
                    · exact HI.out.2 s h
                    · rw [List.mem_singleton] at h; subst h; omega)
                  obtain ⟨hx, hrow, hown⟩ := HI.out.1
                  obtain ⟨wd, hwd⟩ : ∃ wd : World, wd = { wr with drawn := wr.drawn + 1 } := ⟨_, rfl⟩
                  have hxd : Ext wr wd := by rw [hwd]; exact Ext.drawn _
                  have hxa : Ext wd (wd.alloc (.cells #[.string st.name, .int .i64 (st.weight * m)] 49)) := (Ext.refl _).alloc _
                  have hce : (wd.alloc (.cells #[.string st.name, .int .i64 (st.weight * m)] 49)).heap[wd.heap.size]? = some (.cells #[.string st.name, .int .i64 (st.weight * m)] 49 (0, 0)) := Ext.new (Ext.refl _)
                  obtain ⟨ga, gc, rfl⟩ := hrow.isSliceN
                  have hmax : k + 1 ≤ 1000000000 := by have := HOK.out.1; omega
                  obtain ⟨v9, w9, hrun9, hrow9, hgr9, how9, _⟩ := append_row (t := 22) (ty := 22) Tryz.underlying22 HZ.out.1 HZ.out.2.1 HZ.out.2.2.1 HZ.out.2.2.2 (by simp [Value.cells]) (by omega) (hrow.mono (hxd.trans hxa)) ⟨wd.heap.size, 0, none⟩ 1 [.string st.name, .int .i64 (st.weight * m)] rfl (fun j u hj => by
                    rw [Addr.add_mid, Nat.zero_add, cell_of hce]; simpa using hj) (fun u hu => by simp at hu; rcases hu with rfl | rfl <;> rfl) hmax (by omega)
                  have hn9 := own_next (w0 := w5) (hx.trans (hxd.trans hxa)) hown hgr9 how9
                  have HR9 := hid hrun9
                  have HGR := hid (show Row w9 49 2 v9 (k + 1) (stkF (timesL m (l.take (k + 1)))) by rw [HTM.out, stkF_app]; exact hrow9)
                  have HN9 := hid hn9
                  have HXg2 := hid (And.intro (HXg.out.trans (hx.trans hxd)) (And.intro (HXg.out.trans (hx.trans (hxd.trans hxa))) (HXg.out.trans hn9.1)))
                  have HST : stJ wd (wd.alloc (.cells #[.string st.name, .int .i64 (st.weight * m)] 49)) w9 14 15 (fun _ => false) (fun _ => undef) { wr with drawn := wr.drawn + 1 } := by rw [← hwd]; exact stJ_start
                  clear HI hx hrow hown hxd hxa hce hrun9 hrow9 hgr9 how9 hn9 hmm hbig hmb hwb hkl HTM HMM
                  gi_upto_region 28 with fail
                  clear c0 c1 hd
                  refine jj_own 16 [] _ (by kernel_rfl) (by kernel_rfl) HST ?_
                  simp only [List.take_succ_cons, List.take_zero, List.drop_succ_cons, List.drop_zero]
                  clear hwd HST
                  apply jj_fun (by decide)
                  · intro L x u hL hd hJ
                    have HJ := hid hJ
                    clear hJ hd hL
                    go_simp
                    exact ⟨rfl, HJ.out⟩
                  simp only [Act.put, List.setIfInBounds_toArray, List.set_cons_succ, List.set_cons_zero]
                  apply jj_fun (by decide)
                  · intro L x u hL hd hJ
                    have HJ := hid hJ
                    clear hJ hd hL
                    go_simp
                    exact ⟨rfl, HJ.out⟩
                  simp only [Act.put, List.setIfInBounds_toArray, List.set_cons_succ, List.set_cons_zero]
                  apply jj_fun (by decide)
                  · intro L x u hL hd hJ
                    have HJ := hid hJ
                    clear hJ hd hL
                    go_simp
                    exact ⟨rfl, HJ.out⟩
                  simp only [Act.put, List.setIfInBounds_toArray, List.set_cons_succ, List.set_cons_zero]
                  apply jj_fun (by decide)
                  · intro L x u hL hd hJ
                    have HJ := hid hJ
                    clear hJ hd hL
                    go_simp
                    exact ⟨rfl, HJ.out⟩
                  simp only [Act.put, List.setIfInBounds_toArray, List.set_cons_succ, List.set_cons_zero]
                  apply jj_fun (by decide)
                  · intro L x u hL hd hJ
                    have HJ := hid hJ
                    clear hJ hd hL
                    go_simp
                    exact ⟨rfl, HJ.out⟩
                  simp only [Act.put, List.setIfInBounds_toArray, List.set_cons_succ, List.set_cons_zero]
                  apply jj_fun (by decide)
                  · intro L x u hL hd hJ
                    obtain ⟨c0, c1⟩ := HSC.out u (stJ_ext2 hJ HXg2.out.1 HXg2.out.2.1 HXg2.out.2.2)
                    have HJ := hid hJ
                    clear hJ hd hL
                    go_simp
                    exact ⟨rfl, HJ.out⟩
                  simp only [Act.put, List.setIfInBounds_toArray, List.set_cons_succ, List.set_cons_zero]
                  apply jj_fun (by decide)
                  · intro L x u hL hd hJ
                    have HJ := hid hJ
                    clear hJ hd hL
                    go_simp
                    exact ⟨rfl, HJ.out⟩
                  simp only [Act.put, List.setIfInBounds_toArray, List.set_cons_succ, List.set_cons_zero]
                  apply jj_fun (by decide)
                  · intro L x u hL hd hJ
                    have HJ := hid hJ
                    clear hJ hd hL
                    go_simp
                    exact ⟨rfl, HJ.out⟩
                  simp only [Act.put, List.setIfInBounds_toArray, List.set_cons_succ, List.set_cons_zero]
                  apply jj_fun (by decide)
                  · intro L x u hL hd hJ
                    have HJ := hid hJ
                    clear hJ hd hL
                    go_simp
                    exact ⟨rfl, HJ.out⟩
                  simp only [Act.put, List.setIfInBounds_toArray, List.set_cons_succ, List.set_cons_zero]
                  apply jj_fun (by decide)
                  · intro L x u hL hd hJ
                    have HJ := hid hJ
                    clear hJ hd hL
                    go_simp
                    exact ⟨rfl, HJ.out⟩
                  simp only [Act.put, List.setIfInBounds_toArray, List.set_cons_succ, List.set_cons_zero]
                  apply jj_fun (by decide)
                  · intro L x u hL hd hJ
                    obtain ⟨c0, c1⟩ := HSC.out u (stJ_ext2 hJ HXg2.out.1 HXg2.out.2.1 HXg2.out.2.2)
                    have HJ := hid hJ
                    clear hJ hd hL
                    go_simp
                    exact ⟨rfl, HJ.out⟩
                  simp only [Act.put, List.setIfInBounds_toArray, List.set_cons_succ, List.set_cons_zero]
                  apply jj_fun (by decide)
                  · intro L x u hL hd hJ
                    have HJ := hid hJ
                    clear hJ hd hL
                    go_simp
                    exact ⟨rfl, HJ.out⟩
                  simp only [Act.put, List.setIfInBounds_toArray, List.set_cons_succ, List.set_cons_zero]
                  apply jj_fun (by decide)
                  · intro L x u hL hd hJ
                    have HJ := hid hJ
                    clear hJ hd hL
                    go_simp
                    exact ⟨rfl, HJ.out⟩
                  simp only [Act.put, List.setIfInBounds_toArray, List.set_cons_succ, List.set_cons_zero]
                  apply jj_fun (by decide)
                  · intro L x u hL hd hJ
                    have HJ := hid hJ
                    clear hJ hd hL
                    go_simp
                    exact ⟨rfl, HJ.out⟩
                  simp only [Act.put, List.setIfInBounds_toArray, List.set_cons_succ, List.set_cons_zero]
                  refine jj_fun (v := .slice (some ⟨wd.heap.size, 0, none⟩) 1 1) (by decide) ?_ ?_
                  · intro L x u hL hd hJ
                    obtain ⟨rfl, hJ2⟩ := stJ_make hJ hL (by decide)
                    have HJ := hid hJ2
                    clear hJ hJ2 hd hL
                    go_simp
                    first | exact HJ.out | exact ⟨rfl, HJ.out⟩
                  simp only [Act.put, List.setIfInBounds_toArray, List.set_cons_succ, List.set_cons_zero]
                  refine jj_fun (v := v9) (by decide) ?_ ?_
                  · intro L x u hL hd hJ
                    obtain ⟨rfl, hJ2⟩ := stJ_app hJ (by first | exact hd.1 rfl | exact hd.2.1 rfl) hL (by decide)
                    rw [if_pos (show Region.wanted _ _ = true from rfl)]
                    exact gives_append (.tmp 161) (.tmp 175) 22 rfl rfl rfl HR9.out ⟨⟨rfl, hJ2⟩, trivial⟩
                  simp only [Act.put, List.setIfInBounds_toArray, List.set_cons_succ, List.set_cons_zero]
                  refine jj_nil fun L x u9 hall hJ => ?_
                  have hu9 := hJ.2.2.1 (hall 15 (by omega))
                  clear hall hJ x L
                  subst hu9
                  clear HR9 HXg2 hww hwk
                  gi_wp2_with fail
                  go_roundw
                  case rel => exact ⟨k + 1, by have := HKL.out; omega, by go_num, hid ⟨⟨HN9.out.1, HGR.out, HN9.out.2⟩, HSM9.out⟩⟩
                  case measure => have := HKL.out; simp [intOf]; omega
              · obtain rfl : k = l.length := by omega
                have hki : ¬ (l.length : Int) < (l.length : Int) := by omega
                obtain ⟨⟨hx, hrow, _⟩, hsm⟩ := HI.out
                rw [List.take_length] at hrow hsm
                obtain ⟨ht1, ht2⟩ := times_ok HE.out HMB.out.1 hsm
                have hlt := timesL_len m l
                have HD3 := hid (Divide_ok P _ (timesL m l) wr (StakesAt.of_row (by rw [hlt]; exact hrow) (by rw [hlt]; have := HOK.out.1; omega)) (fun s hs => by
                  obtain ⟨y, hy, rfl⟩ := List.mem_map.1 hs
                  exact HN.out y hy) ht1)
                rw [hlt, intsF_congr ht2] at HD3
                have HXh := hid (HW5.out.trans hx)
                have HXh4 := hid (HXg.out.trans hx)
                obtain ⟨ga, gc, rfl⟩ := hrow.isSliceN
                clear HI hx hrow hsm ht1 ht2 hlt hkl
                gi_upto_region 30 with (gi_at_call 15; ((with_reducible refine (HD3.out).mono ?_); rintro e w10 ⟨r3, rfl, hx10, HR3⟩))
                have HI1 := hid (IntsAt.of_row (xs := gvs P l) (by rw [gvs_len, ← intsF_gvs]; exact HR3.out) (by rw [gvs_len]; have := HOK.out.1; omega))
                have HI2 := hid (IntsAt.of_row (xs := gvs P l) (by rw [gvs_len, ← intsF_gvs]; exact HR1x.out.mono (HXh4.out.trans hx10)) (by rw [gvs_len]; have := HOK.out.1; omega))
                have HSA := hid (Same_any _ _ _ _ w10 HI1.out HI2.out)
                rw [show (gvs P l == gvs P l) = true by simp] at HSA
                have HX10 := hid (HXh.out.trans hx10)
                clear HI1 HI2 hx10 HD3
                gi_wp2_with (first | (gi_at_call 17; ((with_reducible refine (HSA.out).mono ?_); rintro e w11 ⟨rfl, hx11⟩; have HX11 := hid (HX10.out.trans hx11); clear hx11)) | (gi_at_call 18; ((with_reducible refine (HWK.out _).mono ?_); rintro e w12 ⟨rfl, hx12⟩; have HX12 := hid (HX11.out.trans hx12); clear hx12)))
                go_ret
                exact ⟨rfl, HX12.out⟩
  · have HDV := hid (fun (u : World) (hu : Ext w u) => Divide_bad P v l u (hv.mono hu) hn he)
    have hz : (divE P l == 0) = false := by simpa using he
    have hz2 : (divE P l != 0) = true := by simpa using he
    have HX0 : Hid (Ext w (w.alloc (.cells #[.int .i64 n0, .int .i64 n1] 46))) := hid ((Ext.refl _).alloc _)
    generalize divE P l = E at *
    clear hv hn he
    gi_enter Tryz.func7, Tryz.ntmps7
    gi_wp2_with (first | (gi_at_call 15; ((with_reducible refine (HDV.out _ HX0.out).mono ?_); rintro e w1 ⟨rfl, hx1⟩; have HX := hid hx1; clear hx1)) | (gi_at_call 18; ((with_reducible refine (HWK.out _).mono ?_); rintro e w4 ⟨rfl, hx4⟩; have HX := hid (HX.out.trans hx4); clear hx4)))
    go_ret
    exact ⟨rfl, HX0.out.trans HX.out⟩

end Go.Proofs.YtjocoadhalimjaaGreat
