/- NetsMends: the walk. -/
import Derived.Test.YtmjelgonhpgmbaaUL
import Derived.Test.YtmjelgonhpgmbaaUM
import Derived.Test.YtmjelgonhpgmbaaMV
set_option linter.unusedSimpArgs false
set_option linter.unusedVariables false
namespace Go.Proofs.Ytmjelgonhpgmbaa
open Go Go.RowKit Go.Shelf

/-- As few pieces as the labels tell. -/
def fewT (T : TornD) : Nat := Tw.fewest T.bars (Tw.labG T.bars (T.wide * T.high).toNat) (T.wide * T.high).toNat (T.wide * T.high).toNat
theorem few_mend {T : TornD} (hT : tornB T = true) : (mendF T.bars T.wide T.high).length = fewT T := by
  obtain ⟨_, hB, hl⟩ := torn_told hT
  have hm := mul_36 (torn_ok hT).1 (torn_ok hT).2.1
  obtain ⟨qs, h1, _, h3⟩ := Tw.mend_labels hB hl
  rw [show (((T.wide * T.high).toNat : Nat) : Int) = T.wide * T.high by omega] at h1
  have h4 : mendF T.bars T.wide T.high = qs.map (·.1) := h1
  rw [h4, List.length_map, h3]; rfl
theorem few_le {T : TornD} (hT : tornB T = true) : fewT T ≤ 96 := by
  obtain ⟨qs, e, hm, _⟩ := mend_told hT
  rw [← few_mend hT, e]
  exact mend_few hT ((isMend_iff hT _).2 ⟨qs, rfl, hm⟩)
theorem twine_few {T : TornD} (hT : tornB T = true) : twineV T = T.mesh * T.bars.length + T.knot * 2 * fewT T := by
  unfold twineV; rw [if_pos hT, few_mend hT]
set_option maxRecDepth 100000 in
set_option maxHeartbeats 4000000 in
theorem rtwines_any (T : TornD) (tv : Value) (w : World) (ht : TnAt w tv T) : Cal 17 #[tv] w fun e w' => e = .returned (.tuple #[.int .i64 (twineV T), .int .i64 (tornE T)]) ∧ Ext w w' := by
  have HF := hid (fun (u : World) (hu : Ext w u) => ht.mono hu)
  obtain ⟨sv, rfl, hs⟩ := ht
  obtain ⟨sa, sc, rfl, hsl, _⟩ := hs
  have H15 := hid (fun (u : World) (hu : Ext w u) => rcheck_any T _ u (HF.out u hu))
  cases hT : tornB T with
  | false =>
    have e1 : tornE T = 23 := by unfold tornE; rw [hT]; rfl
    have e2 : twineV T = 0 := by unfold twineV; rw [hT]; rfl
    have HV := hid (And.intro e2 e1)
    rw [e1] at H15
    clear e1 e2 hT
    gi_enter Try.func17, Try.ntmps17
    gi_upto_region 1 with fail
    have hW : Ext w (w.alloc (.cells #[.int .i64 T.wide, .int .i64 T.high, .slice sa T.bars.length sc, .int .i64 T.mesh, .int .i64 T.knot] 24)) := ((Ext.refl _).alloc _)
    have hB0 : (w.alloc (.cells #[.int .i64 T.wide, .int .i64 T.high, .slice sa T.bars.length sc, .int .i64 T.mesh, .int .i64 T.knot] 24)).heap[w.heap.size]? = some (.cells #[.int .i64 T.wide, .int .i64 T.high, .slice sa T.bars.length sc, .int .i64 T.mesh, .int .i64 T.knot] 24 (0, 0)) := by simp only [alloc_at, World.size_alloc]; (repeat rw [if_neg (by omega)]); first | rfl | rw [if_pos (by omega)] | rw [if_pos trivial]
    generalize (w.alloc (.cells #[.int .i64 T.wide, .int .i64 T.high, .slice sa T.bars.length sc, .int .i64 T.mesh, .int .i64 T.knot] 24)) = W at *
    have HX := hid hW
    have HB0 := hid hB0
    have c0 := cell_of hB0
    clear hW hB0
    gi_wp2_with (gi_at_call 15; ((with_reducible refine (H15.out _ HX.out).mono ?_); rintro e w1 ⟨rfl, hx1⟩))
    refine bodyPost_ret (v := .tuple #[.int .i64 0, .int .i64 23]) (by simp [results, Try.results17, go_sem]) rfl ⟨by rw [HV.out.1, HV.out.2], HX.out.trans hx1⟩
  | true =>
    have e1 : tornE T = 0 := by unfold tornE; rw [hT]; rfl
    have HV := hid (And.intro (twine_few hT) e1)
    have H20 := hid (fun (u : World) (hu : Ext w u) => fewest_any T hT _ u (HF.out u hu))
    have H48 := hid (fun (u : World) (hu : Ext w u) => rtwine_any T hT _ (fewT T) (by have := few_le hT; omega) u (HF.out u hu))
    have HFW : Hid (fewT T = Tw.fewest T.bars (Tw.labG T.bars (T.wide * T.high).toNat) (T.wide * T.high).toNat (T.wide * T.high).toNat) := rfl
    rw [← HFW.out] at H20
    rw [e1] at H15
    clear e1 hT HFW
    generalize fewT T = n at *
    gi_enter Try.func17, Try.ntmps17
    gi_upto_region 1 with fail
    have hW : Ext w (w.alloc (.cells #[.int .i64 T.wide, .int .i64 T.high, .slice sa T.bars.length sc, .int .i64 T.mesh, .int .i64 T.knot] 24)) := ((Ext.refl _).alloc _)
    have hB0 : (w.alloc (.cells #[.int .i64 T.wide, .int .i64 T.high, .slice sa T.bars.length sc, .int .i64 T.mesh, .int .i64 T.knot] 24)).heap[w.heap.size]? = some (.cells #[.int .i64 T.wide, .int .i64 T.high, .slice sa T.bars.length sc, .int .i64 T.mesh, .int .i64 T.knot] 24 (0, 0)) := by simp only [alloc_at, World.size_alloc]; (repeat rw [if_neg (by omega)]); first | rfl | rw [if_pos (by omega)] | rw [if_pos trivial]
    generalize (w.alloc (.cells #[.int .i64 T.wide, .int .i64 T.high, .slice sa T.bars.length sc, .int .i64 T.mesh, .int .i64 T.knot] 24)) = W at *
    have HX := hid hW
    have HB0 := hid hB0
    have c0 := cell_of hB0
    clear hW hB0
    gi_wp2_with (gi_at_call 15; ((with_reducible refine (H15.out _ HX.out).mono ?_); rintro e w1 ⟨rfl, hx1⟩))
    have HX1 := hid (HX.out.trans hx1)
    have HB1 := hid (hx1.block HB0.out)
    clear hx1 c0
    have HQ := hid fun e : Later w1 => cell_of (Ext.block e.grown HB1.out)
    have HC20 := hid fun e : Later w1 => H20.out e.1 (HX1.out.trans e.grown)
    have HC48 := hid fun e : Later w1 => H48.out e.1 (HX1.out.trans e.grown)
    have q0 := HQ.out
    refine quiet_wide 6 (by kernel_rfl) (by kernel_rfl) ?_
    simp only [List.take_succ_cons, List.take_zero, List.drop_succ_cons, List.drop_zero]
    repeat (any_goals (first | go_big_quiet_step ((first | (go_at_call 20; with_reducible exact Cal.quiet (HC20.out _)) | (go_at_call 48; with_reducible exact Cal.quiet (HC48.out _)))) | quiet_step ((first | (go_at_call 20; with_reducible exact Cal.quiet (HC20.out _)) | (go_at_call 48; with_reducible exact Cal.quiet (HC48.out _))))))
    refine wpQuiet_nil ?_
    rintro w5 ⟨⟨w5q, hx5⟩, hew⟩
    obtain rfl : w5 = w5q := hew
    have hx5 : Ext w1 w5 := hx5
    clear q0 HQ HC20 HC48
    gi_wp2_with fail
    refine bodyPost_ret (v := .tuple #[.int .i64 (T.mesh * T.bars.length + T.knot * 2 * n), .int .i64 0]) (by simp [results, Try.results17, go_sem]) rfl ⟨by rw [HV.out.1, HV.out.2], HX1.out.trans hx5⟩
theorem sum_le_mul {l : List Nat} {m : Nat} (h : ∀ x ∈ l, x ≤ m) : l.sum ≤ l.length * m := by
  induction l with
  | nil => simp
  | cons a l ih =>
    have h1 := h a (by simp)
    have h2 := ih fun x hx => h x (by simp [hx])
    rw [List.sum_cons, List.length_cons, Nat.add_mul, Nat.one_mul]
    omega
set_option maxRecDepth 100000 in
set_option maxHeartbeats 16000000 in
theorem NetsMends_any (T : TornD) (tv pv : Value) (ps : List (List Int)) (hsum : (ps.map List.length).sum ≤ 1048576) (hnum : ps.length ≤ 1048576) (w : World) (ht : TnAt w tv T) (hp : PiecesAt w pv ps) : Cal 3 #[tv, pv] w fun e w' => e = .returned (.bool true) ∧ Ext w w' := by
  have HF := hid (fun (u : World) (hu : Ext w u) => ht.mono hu)
  obtain ⟨sv, rfl, hs⟩ := ht
  obtain ⟨sa, sc, rfl, hsl, _⟩ := hs
  have H12 := hid (fun (u : World) (hu : Ext w u) => IsMend_c T _ pv ps u (HF.out u hu) (hp.mono hu))
  have H13 := hid (fun (u : World) (hu : Ext w u) => rismend_any T _ pv ps hsum hnum u (HF.out u hu) (hp.mono hu))
  have H14 := hid (fun (u : World) (hu : Ext w u) => CheckTorn_c T _ u (HF.out u hu))
  have H15 := hid (fun (u : World) (hu : Ext w u) => rcheck_any T _ u (HF.out u hu))
  have H16 := hid (fun (u : World) (hu : Ext w u) => Twine_c T _ u (HF.out u hu))
  have H17 := hid (fun (u : World) (hu : Ext w u) => rtwines_any T _ u (HF.out u hu))
  have H18 := hid (fun (u : World) (hu : Ext w u) => Mend_c T _ u (HF.out u hu))
  obtain ⟨x1, hx1⟩ : ∃ x, x = isTw T ps := ⟨_, rfl⟩
  obtain ⟨x2, hx2⟩ : ∃ x, x = isV T ps := ⟨_, rfl⟩
  obtain ⟨x3, hx3⟩ : ∃ x, x = tornE T := ⟨_, rfl⟩
  obtain ⟨x4, hx4⟩ : ∃ x, x = twineV T := ⟨_, rfl⟩
  have HX3 := hid hx3
  rw [← hx1, ← hx2, ← hx3] at H12 H13
  rw [← hx3] at H14 H15
  rw [← hx4, ← hx3] at H16 H17
  obtain ⟨pa, pc, rfl, hpl, _⟩ := hp
  clear hx1 hx2 hx3 hx4 hsum hnum
  gi_enter Try.func3, Try.ntmps3
  gi_upto_region 1 with fail
  have hW : Ext w (w.alloc (.cells #[.int .i64 T.wide, .int .i64 T.high, .slice sa T.bars.length sc, .int .i64 T.mesh, .int .i64 T.knot] 24)) := ((Ext.refl _).alloc _)
  have hB0 : (w.alloc (.cells #[.int .i64 T.wide, .int .i64 T.high, .slice sa T.bars.length sc, .int .i64 T.mesh, .int .i64 T.knot] 24)).heap[w.heap.size]? = some (.cells #[.int .i64 T.wide, .int .i64 T.high, .slice sa T.bars.length sc, .int .i64 T.mesh, .int .i64 T.knot] 24 (0, 0)) := by simp only [alloc_at, World.size_alloc]; (repeat rw [if_neg (by omega)]); first | rfl | rw [if_pos (by omega)] | rw [if_pos trivial]
  generalize (w.alloc (.cells #[.int .i64 T.wide, .int .i64 T.high, .slice sa T.bars.length sc, .int .i64 T.mesh, .int .i64 T.knot] 24)) = W at *
  have HX := hid hW
  have HB0 := hid hB0
  have c0 := cell_of hB0
  clear hW hB0
  gi_upto_region 2 with (gi_at_call 12; ((with_reducible refine (H12.out _ HX.out).mono ?_); rintro e w1 ⟨rfl, hx1⟩))
  have HX := hid (HX.out.trans hx1)
  have c0 := cell_of (hx1.block HB0.out)
  have HB0 := hid (hx1.block HB0.out)
  clear hx1
  gi_upto_region 3 with (gi_at_call 13; ((with_reducible refine (H13.out _ HX.out).mono ?_); rintro e w2 ⟨rfl, hx1⟩))
  have HX := hid (HX.out.trans hx1)
  have HB0 := hid (hx1.block HB0.out)
  clear hx1 c0
  have HQ := hid fun e : Later w2 => cell_of (Ext.block e.grown HB0.out)
  have HC14 := hid fun e : Later w2 => H14.out e.1 (HX.out.trans e.grown)
  have HC15 := hid fun e : Later w2 => H15.out e.1 (HX.out.trans e.grown)
  have q0 := HQ.out
  refine quiet_wide 20 (by kernel_rfl) (by kernel_rfl) ?_
  simp only [List.take_succ_cons, List.take_zero, List.drop_succ_cons, List.drop_zero]
  repeat (any_goals (first | go_big_quiet_step ((first | (go_at_call 14; with_reducible exact Cal.quiet (HC14.out _)) | (go_at_call 15; with_reducible exact Cal.quiet (HC15.out _)))) | quiet_step ((first | (go_at_call 14; with_reducible exact Cal.quiet (HC14.out _)) | (go_at_call 15; with_reducible exact Cal.quiet (HC15.out _))))))
  refine wpQuiet_nil ?_
  rintro w3 ⟨⟨w3q, hx3⟩, hew⟩
  obtain rfl : w3 = w3q := hew
  have hx3 : Ext w2 w3 := hx3
  have HX := hid (HX.out.trans hx3)
  have HB0 := hid (hx3.block HB0.out)
  have c0 := cell_of HB0.out
  clear q0 HQ HC14 HC15 hx3
  gi_upto_region 6 with (gi_at_call 16; ((with_reducible refine (H16.out _ HX.out).mono ?_); rintro e w4 ⟨rfl, hx1⟩))
  have HX := hid (HX.out.trans hx1)
  have c0 := cell_of (hx1.block HB0.out)
  have HB0 := hid (hx1.block HB0.out)
  clear hx1
  gi_upto_region 7 with (gi_at_call 17; ((with_reducible refine (H17.out _ HX.out).mono ?_); rintro e w5 ⟨rfl, hx1⟩))
  have HX := hid (HX.out.trans hx1)
  have c0 := cell_of (hx1.block HB0.out)
  have HB0 := hid (hx1.block HB0.out)
  clear hx1
  gi_upto_region 8 with (gi_at_call 18; ((with_reducible refine (H18.out _ HX.out).mono ?_); rintro e w6 ⟨v6, rfl, hx1, hp6⟩))
  have HX := hid (HX.out.trans hx1)
  have c0 := cell_of (hx1.block HB0.out)
  have HB0 := hid (hx1.block HB0.out)
  have HP6 := hid hp6
  clear hx1 hp6
  obtain ⟨va, vc, hv6⟩ := pcs_slice HP6.out rfl
  subst hv6
  cases hT : tornB T with
  | false =>
    have e1 : mendE T = 23 := by unfold mendE; rw [hT]; rfl
    have e2 : mendV T = [] := by unfold mendV; rw [e1]; rfl
    have e3 : x3 = 23 := by rw [HX3.out]; unfold tornE; rw [hT]; rfl
    subst e3
    rw [e1, e2]
    rw [List.length_nil]
    clear e1 e2 hT
    gi_wp2_with (gi_at_call 19; ((with_reducible refine (works_any _).mono ?_); rintro e w99 ⟨rfl, hx99⟩))
    all_goals first | exact (undef_no' ‹_›).elim | (go_ret; exact ⟨rfl, HX.out.trans hx99⟩)
  | true =>
    have e3 : x3 = 0 := by rw [HX3.out]; unfold tornE; rw [hT]; rfl
    subst e3
    by_cases hz : T.bars.length = 0
    case pos =>
      have e1 : mendE T = 4 := by unfold mendE; rw [hT, hz]; rfl
      have e2 : mendV T = [] := by unfold mendV; rw [e1]; rfl
      have hzi : ((T.bars.length : Int) == 0) = true := by simp [hz]
      rw [e1, e2]
      rw [List.length_nil]
      clear e1 e2 hT hz
      gi_wp2_with (gi_at_call 19; ((with_reducible refine (works_any _).mono ?_); rintro e w99 ⟨rfl, hx99⟩))
      all_goals first | exact (undef_no' ‹_›).elim | (go_ret; exact ⟨rfl, HX.out.trans hx99⟩)
    case neg =>
      have e1 : mendE T = 0 := by unfold mendE; rw [hT]; simp [hz]
      have e2 : mendV T = mendF T.bars T.wide T.high := by unfold mendV; rw [e1]; rfl
      obtain ⟨qs, hq1, hq2, _⟩ := mend_told hT
      have hfm : (mendV T).length = fewT T := by rw [e2]; exact few_mend hT
      have hMl := few_le hT
      have hlM : ∀ p ∈ mendV T, p.length ≤ 61 := fun p hp => by
        rw [e2, hq1] at hp
        obtain ⟨q, hq, rfl⟩ := List.mem_map.1 hp
        have := mends_piece hq2 q hq
        have := (torn_ok hT).2.2.2.2.1
        omega
      have hisV : isV T (mendV T) = true := by unfold isV; rw [hT, Bool.true_and]; exact (isMend_iff hT _).2 ⟨qs, by rw [e2]; exact hq1, hq2⟩
      have hs2 : ((mendV T).map List.length).sum ≤ 1048576 := by
        have h1 := sum_le_mul (l := (mendV T).map List.length) (m := 61) fun x hx => by
          obtain ⟨p, hp, rfl⟩ := List.mem_map.1 hx
          exact hlM p hp
        rw [List.length_map] at h1
        omega
      have HP := hid (fun (u : World) (hu : Ext w6 u) => (HP6.out.ext hu).pieces (by omega) (fun p hp => by have := hlM p hp; omega))
      have H13b := hid (fun (u : World) (hu : Ext w6 u) => rismend_any T _ _ (mendV T) hs2 (by omega) u (HF.out u (HX.out.trans hu)) (HP.out u hu))
      have H20 := hid (fun (u : World) (hu : Ext w6 u) => fewest_any T hT _ u (HF.out u (HX.out.trans hu)))
      have HFW : Hid (fewT T = Tw.fewest T.bars (Tw.labG T.bars (T.wide * T.high).toNat) (T.wide * T.high).toNat (T.wide * T.high).toNat) := rfl
      rw [← HFW.out] at H20
      rw [hisV, ← HX3.out] at H13b
      rw [hfm] at H13b
      rw [e1, hfm]
      generalize isTw T (mendV T) = x9 at *
      generalize fewT T = n at *
      have hzi : ((T.bars.length : Int) == 0) = false := by rw [beq_eq_false_iff_ne]; omega
      clear e1 e2 hq1 hq2 hfm hlM hisV hs2 HP HFW hz hT H12 H13 H14 H15 H16 H17 H18 HP6
      gi_upto_region 12 with fail
      gi_upto_region 13 with (gi_at_call 13; ((with_reducible refine (H13b.out _ (Ext.refl _)).mono ?_); rintro e w7 ⟨rfl, hx1⟩))
      have HX7 := hid hx1
      have HX := hid (HX.out.trans hx1)
      have c0 := cell_of (hx1.block HB0.out)
      clear hx1 hzi
      gi_wp2_with (first | (gi_at_call 20; ((with_reducible refine (H20.out _ HX7.out).mono ?_); rintro e w8 ⟨rfl, hx8⟩)) | (gi_at_call 19; ((with_reducible refine (works_any _).mono ?_); rintro e w99 ⟨rfl, hx99⟩)))
      all_goals first | exact (undef_no' ‹_›).elim | (go_ret; exact ⟨rfl, (HX.out.trans hx8).trans hx99⟩)

end Go.Proofs.Ytmjelgonhpgmbaa
