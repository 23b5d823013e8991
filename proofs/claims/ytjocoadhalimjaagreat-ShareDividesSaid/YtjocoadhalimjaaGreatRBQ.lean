/- The law ShareDivides. -/
import Derived.Test.YtjocoadhalimjaaGreatRBP
set_option linter.unusedSimpArgs false
set_option linter.unusedVariables false
namespace Go.Proofs.YtjocoadhalimjaaGreat
open Go Go.RowKit Go.Shelf

set_option maxHeartbeats 4000000 in
theorem RDivide_bad (P : Int) (v : Value) (l : List Stk) (w : World) (hv : StakesAt w v l) (hn : nmOk l) (he : divE P l ≠ 0) :
    Cal 16 #[.int .i64 P, v] w fun e w' => e = .returned (.tuple #[.slice none 0 0, .int .i64 (divE P l)]) ∧ Ext w w' := by
  have HS := hid (fun (u : World) (hu : Ext w u) => stakes_any v l u (hv.mono hu) hn)
  have HI := hid (fun (u : World) => In_any P 0 10000000 u)
  cases hi : inB P 0 10000000 with
  | false =>
    rw [hi] at HI
    have HE : Hid (divE P l = 7) := hid (by unfold divE; rw [hi]; rfl)
    clear he hv hn hi
    gi_enter Tryz.func16, Tryz.ntmps16
    gi_wp2_with (gi_at_call 29; ((with_reducible refine (HI.out _).mono ?_); rintro e w1 ⟨rfl, rfl⟩))
    refine bodyPost_ret (v := .tuple #[.slice none 0 0, .int .i64 7]) (by simp [results, Tryz.results16, go_sem]) rfl ⟨by rw [HE.out], Ext.refl _⟩
  | true =>
    rw [hi] at HI
    cases hs : stakesB l with
    | false =>
      rw [hs] at HS
      have HE : Hid (divE P l = 32) := hid (by unfold divE; rw [hi, hs]; rfl)
      clear he hv hn hi hs
      gi_enter Tryz.func16, Tryz.ntmps16
      gi_wp2_with (first | (gi_at_call 29; ((with_reducible refine (HI.out _).mono ?_); rintro e w1 ⟨rfl, rfl⟩)) | (gi_at_call 50; ((with_reducible refine (HS.out _ (Ext.refl _)).mono ?_); rintro e w2 ⟨rfl, hx2⟩)))
      refine bodyPost_ret (v := .tuple #[.slice none 0 0, .int .i64 32]) (by simp [results, Tryz.results16, go_sem]) rfl ⟨by rw [HE.out], hx2⟩
    | true =>
      rw [hs] at HS
      have hz : sumW l = 0 := by
        by_cases h : sumW l = 0
        · exact h
        · exact absurd (by unfold divE; rw [hi, hs]; simp [h]) he
      have hok := stakes_ok hs
      have HW := hid (fun (u : World) (hu : Ext w u) => whole_any v l u (hv.mono hu) (fun s hs => by have := (hok.2.1 s hs).2; omega) (by omega))
      rw [hz] at HW
      have HE : Hid (divE P l = 32) := hid (by unfold divE; rw [hi, hs, hz]; rfl)
      clear he hv hn hi hs hok hz
      gi_enter Tryz.func16, Tryz.ntmps16
      gi_wp2_with (first | (gi_at_call 29; ((with_reducible refine (HI.out _).mono ?_); rintro e w1 ⟨rfl, rfl⟩)) | (gi_at_call 50; ((with_reducible refine (HS.out _ (Ext.refl _)).mono ?_); rintro e w2 ⟨rfl, hx2⟩)) | (gi_at_call 51; ((with_reducible refine (HW.out _ hx2).mono ?_); rintro e w3 ⟨rfl, rfl⟩)))
      refine bodyPost_ret (v := .tuple #[.slice none 0 0, .int .i64 32]) (by simp [results, Tryz.results16, go_sem]) rfl ⟨by rw [HE.out], hx2⟩
set_option maxHeartbeats 4000000 in
theorem RDivide_ok (P : Int) (v : Value) (l : List Stk) (w : World) (hv : StakesAt w v l) (hn : nmOk l) (he : divE P l = 0) :
    Cal 16 #[.int .i64 P, v] w fun e w' => ∃ r, e = .returned (.tuple #[r, .int .i64 0]) ∧ Ext w w' ∧ Hid (Row w' 3 1 r l.length (intsF l.length (giveTo P l))) := by
  obtain ⟨hP, hs, hz⟩ := divE_ok he
  have HS := hid (fun (u : World) (hu : Ext w u) => stakes_any v l u (hv.mono hu) hn)
  have HI := hid (fun (u : World) => In_b P 0 10000000 true u (by unfold inB; simp; omega))
  rw [hs] at HS
  have hok := stakes_ok hs
  have hpos : 0 < sumW l := by
    have := sumW_nonneg (l := l) fun s hs => (hok.2.1 s hs).2.1
    omega
  have HW := hid (fun (u : World) (hu : Ext w u) => whole_any v l u (hv.mono hu) (fun s hs => by have := (hok.2.1 s hs).2; omega) (by omega))
  have HD := hid (fun (u : World) (hu : Ext w u) => refdiv_any P v l u (hv.mono hu) hP (fun s hs => by have := (hok.2.1 s hs).2; omega) hok.1 hpos hok.2.2)
  have hzz : (sumW l == 0) = false := by simpa using hz
  generalize sumW l = A at *
  clear he hv hn hs hok hpos hz
  gi_enter Tryz.func16, Tryz.ntmps16
  gi_wp2_with (first | (gi_at_call 29; ((with_reducible refine (HI.out _).mono ?_); rintro e w1 ⟨rfl, rfl⟩)) | (gi_at_call 50; ((with_reducible refine (HS.out _ (Ext.refl _)).mono ?_); rintro e w2 ⟨rfl, hx2⟩)) | (gi_at_call 51; ((with_reducible refine (HW.out _ hx2).mono ?_); rintro e w3 ⟨rfl, rfl⟩)) | (gi_at_call 52; ((with_reducible refine (HD.out _ hx2).mono ?_); rintro e w4 ⟨r, rfl, hx4, hr⟩)))
  refine bodyPost_ret (v := .tuple #[r, .int .i64 0]) (by simp [results, Tryz.results16, go_sem]) rfl ⟨r, rfl, hx2.trans hx4, hid hr.out.1⟩
theorem ints_nil (w : World) : IntsAt w (.slice none 0 0) [] := ⟨none, 0, rfl, ⟨by simp, by simp⟩, fun i hi => by simp at hi⟩
set_option maxRecDepth 100000 in
set_option maxHeartbeats 8000000 in
theorem ShareDivides_any (P : Int) (v : Value) (l : List Stk) (w : World) (hv : StakesAt w v l) (hn : nmOk l) : Cal 3 #[.int .i64 P, v] w fun e w' => e = .returned (.bool true) ∧ Ext w w' := by
  have HWK := hid (fun (u : World) => works_any u)
  by_cases he : divE P l = 0
  · have HA := hid (Divide_ok P v l w hv hn he)
    have HB := hid (fun (u : World) (hu : Ext w u) => RDivide_ok P v l u (hv.mono hu) hn he)
    have hl : l.length ≤ 10 := (stakes_ok (divE_ok he).2.1).1
    have HL := hid hl
    clear hv hn he hl
    gi_enter Tryz.func3, Tryz.ntmps3
    gi_upto_region 3 with (first | (gi_at_call 15; ((with_reducible refine (HA.out).mono ?_); rintro e w1 ⟨r1, rfl, hx1, HR1⟩; have HX1 := hid hx1; clear hx1)) | (gi_at_call 16; ((with_reducible refine (HB.out _ HX1.out).mono ?_); rintro e w2 ⟨r2, rfl, hx2, HR2⟩; have HX2 := hid hx2; clear hx2)))
    have HI1 := hid (IntsAt.of_row (xs := gvs P l) (by rw [gvs_len, ← intsF_gvs]; exact HR1.out.mono HX2.out) (by rw [gvs_len]; have := HL.out; omega))
    have HI2 := hid (IntsAt.of_row (xs := gvs P l) (by rw [gvs_len, ← intsF_gvs]; exact HR2.out) (by rw [gvs_len]; have := HL.out; omega))
    have HSA := hid (Same_any _ _ _ _ w2 HI1.out HI2.out)
    rw [show (gvs P l == gvs P l) = true by simp] at HSA
    clear HI1 HI2 HR1 HR2
    gi_wp2_with (first | (gi_at_call 17; ((with_reducible refine (HSA.out).mono ?_); rintro e w3 ⟨rfl, hx3⟩; have HX3 := hid (HX1.out.trans (HX2.out.trans hx3)); clear hx3)) | (gi_at_call 18; ((with_reducible refine (HWK.out _).mono ?_); rintro e w4 ⟨rfl, hx4⟩; have HX4 := hid (HX3.out.trans hx4); clear hx4)))
    go_ret
    exact ⟨rfl, HX4.out⟩
  · have HA := hid (Divide_bad P v l w hv hn he)
    have HB := hid (fun (u : World) (hu : Ext w u) => RDivide_bad P v l u (hv.mono hu) hn he)
    generalize divE P l = E at *
    clear hv hn he
    gi_enter Tryz.func3, Tryz.ntmps3
    gi_upto_region 3 with (first | (gi_at_call 15; ((with_reducible refine (HA.out).mono ?_); rintro e w1 ⟨rfl, hx1⟩; have HX1 := hid hx1; clear hx1)) | (gi_at_call 16; ((with_reducible refine (HB.out _ HX1.out).mono ?_); rintro e w2 ⟨rfl, hx2⟩; have HX2 := hid hx2; clear hx2)))
    have HSA := hid (Same_any _ _ _ _ w2 (ints_nil w2) (ints_nil w2))
    rw [show (([] : List Int) == []) = true by simp] at HSA
    gi_wp2_with (first | (gi_at_call 17; ((with_reducible refine (HSA.out).mono ?_); rintro e w3 ⟨rfl, hx3⟩; have HX3 := hid (HX1.out.trans (HX2.out.trans hx3)); clear hx3)) | (gi_at_call 18; ((with_reducible refine (HWK.out _).mono ?_); rintro e w4 ⟨rfl, hx4⟩; have HX4 := hid (HX3.out.trans hx4); clear hx4)))
    go_ret
    exact ⟨rfl, HX4.out⟩

end Go.Proofs.YtjocoadhalimjaaGreat
