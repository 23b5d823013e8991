/- NetsShifted: the walk. -/
import Derived.Test.YtmjelgonhpgmbaaQH
set_option linter.unusedSimpArgs false
set_option linter.unusedVariables false
namespace Go.Proofs.Ytmjelgonhpgmbaa
open Go Go.RowKit Go.Shelf

theorem shift_facts {F : FleetD} (hF : fleetB F = true) {net : Nat} (hn : net < F.nets.length) {most : Int} (hm : 0 ≤ most ∧ most ≤ 5000) :
    (most < firstOut (barAll F net) ∧ shiftV F net most = 0 ∧ shiftE F net most = 4 ∧ (foulsR F net most = (false, false) ∨ foulsR F net most = (true, true))) ∨
    (0 ≤ firstOut (barAll F net) ∧ firstOut (barAll F net) ≤ most ∧ shiftV F net most = firstOut (barAll F net) ∧ shiftE F net most = 0 ∧ (foulsR F net (firstOut (barAll F net)) = (false, false) ∨ foulsR F net (firstOut (barAll F net)) = (false, true)) ∧ (firstOut (barAll F net) ≠ 0 → foulsR F net (firstOut (barAll F net) - 1) = (false, false) ∨ foulsR F net (firstOut (barAll F net) - 1) = (true, true))) := by
  have ok := fleetB_ok hF
  obtain ⟨h0, h1, h2⟩ := firstOut_first (barAll F net)
  have e1 : inB (net : Int) 0 ((F.nets.length : Int) - 1) = true := inB_of (by omega)
  have e2 : inB most 0 5000 = true := inB_of hm
  by_cases hlt : most < firstOut (barAll F net)
  · left
    have hE : shiftE F net most = 4 := by unfold shiftE; rw [hF, e1, e2]; simp [hlt]
    refine ⟨hlt, ?_, hE, shift_bars ok hn (h2 most hm.1 hlt)⟩
    unfold shiftV; rw [hE]; rfl
  · right
    have hE : shiftE F net most = 0 := by unfold shiftE; rw [hF, e1, e2]; simp [hlt]
    refine ⟨h0, by omega, ?_, hE, shift_free ok hn h1, fun hne => shift_bars ok hn (h2 _ (by omega) (by omega))⟩
    unfold shiftV; rw [if_pos hE]

set_option maxRecDepth 100000 in
set_option maxHeartbeats 16000000 in
theorem NetsShifted_any (F : FleetD) (n0 n1 : Int) (fv : Value) (w : World) (hf : FlAt w fv F) : Cal 7 #[fv, .agg #[.int .i64 n0, .int .i64 n1]] w fun e w' => e = .returned (.bool true) ∧ Ext w w' := by
  obtain ⟨ev, nv, sv, rfl, he, hn, hs⟩ := hf
  have HF := hid (fun (u : World) (hu : Ext w u) => (⟨ev, nv, sv, rfl, he.mono hu, hn.mono hu, hs.mono hu⟩ : FlAt u (.agg #[ev, nv, .int .i64 F.gap, sv]) F))
  have HEN := hid (And.intro he (And.intro hn hs))
  obtain ⟨sa, sc, rfl, hsl, hsc⟩ := hs
  have HSC := hid hsc
  obtain ⟨ea, ec, rfl, _, _⟩ := he
  obtain ⟨na, nc, rfl, _, _⟩ := hn
  clear hsc
  gi_enter Try.func7, Try.ntmps7
  gi_upto_region 1 with fail
  have hW : Ext w ((w.alloc (.cells #[.slice ea F.east.length ec, .slice na F.north.length nc, .int .i64 F.gap, .slice sa F.nets.length sc] 40)).alloc (.cells #[.int .i64 n0, .int .i64 n1] 72)) := (((Ext.refl _).alloc _).alloc _)
  have hB0 : ((w.alloc (.cells #[.slice ea F.east.length ec, .slice na F.north.length nc, .int .i64 F.gap, .slice sa F.nets.length sc] 40)).alloc (.cells #[.int .i64 n0, .int .i64 n1] 72)).heap[w.heap.size]? = some (.cells #[.slice ea F.east.length ec, .slice na F.north.length nc, .int .i64 F.gap, .slice sa F.nets.length sc] 40 (0, 0)) := by simp only [alloc_at, World.size_alloc]; (repeat rw [if_neg (by omega)]); first | rfl | rw [if_pos (by omega)] | rw [if_pos trivial]
  have hB1 : ((w.alloc (.cells #[.slice ea F.east.length ec, .slice na F.north.length nc, .int .i64 F.gap, .slice sa F.nets.length sc] 40)).alloc (.cells #[.int .i64 n0, .int .i64 n1] 72)).heap[w.heap.size + 1]? = some (.cells #[.int .i64 n0, .int .i64 n1] 72 (0, 0)) := by simp only [alloc_at, World.size_alloc]; (repeat rw [if_neg (by omega)]); first | rfl | rw [if_pos (by omega)] | rw [if_pos trivial]
  generalize ((w.alloc (.cells #[.slice ea F.east.length ec, .slice na F.north.length nc, .int .i64 F.gap, .slice sa F.nets.length sc] 40)).alloc (.cells #[.int .i64 n0, .int .i64 n1] 72)) = W at *
  have HX := hid hW
  have HB0 := hid hB0
  have c0 := cell_of hB0
  have HB1 := hid hB1
  have c1 := cell_of hB1
  clear hW hB0 hB1
  have HSO := hid (fun (b : Bool) (hb : fleetB F = b) (u : World) (hu : Ext w u) => sound_b F b hb _ u (HF.out u hu))
  cases hF : fleetB F
  case false =>
    have HSH := hid (fun (u : World) (hu : Ext w u) => Shift_c F _ n0 n1 u (HF.out u hu))
    rw [show shiftE F n0 n1 = 20 by unfold shiftE; rw [hF]; rfl, show shiftV F n0 n1 = 0 by unfold shiftV; rw [show shiftE F n0 n1 = 20 by unfold shiftE; rw [hF]; rfl]; rfl] at HSH
    gi_wp2_with (first | (gi_at_call 22; ((with_reducible refine (HSO.out false hF _ HX.out).mono ?_); rintro e w2 ⟨rfl, hx2⟩; have c0 := cell_of (hx2.block HB0.out); have c1 := cell_of (hx2.block HB1.out))) | (gi_at_call 33; ((with_reducible refine (HSH.out _ (HX.out.trans hx2)).mono ?_); rintro e w3 ⟨rfl, hx3⟩)) | (gi_at_call 19; ((with_reducible refine (works_any _).mono ?_); rintro e w99 ⟨rfl, hx99⟩)))
    go_ret
    exact ⟨rfl, ((HX.out.trans hx2).trans hx3).trans hx99⟩
  case true =>
  have ok := fleetB_ok hF
  have hcn := ok.count
  gi_upto_region 4 with (gi_at_call 22; ((with_reducible refine (HSO.out true hF _ HX.out).mono ?_); rintro e w2 ⟨rfl, hx2⟩))
  have HX2 := hid (HX.out.trans hx2)
  have HB2 := hid (hx2.block HB0.out)
  have HN2 := hid (hx2.block HB1.out)
  clear HX HB0 HB1 hx2 HSO c0 c1
  have hm1 := modI_ok n0 (m := (F.nets.length : Int)) (by omega)
  have hm2 := modI_ok n1 (m := 5001) (by omega)
  have HM1 := hid (fun u => mod_any n0 F.nets.length u (by omega))
  have HM2 := hid (fun u => mod_any n1 5001 u (by omega))
  obtain ⟨net, hnet⟩ : ∃ n : Nat, modI n0 F.nets.length = n := ⟨(modI n0 F.nets.length).toNat, by omega⟩
  rw [hnet] at HM1 hm1
  have hnl : net < F.nets.length := by omega
  clear hnet
  generalize modI n1 5001 = most at *
  have hfx := shift_facts hF hnl (most := most) (by omega)
  have HQ := hid fun e : Later w2 => And.intro (cell_of (Ext.block e.grown HN2.out)) (cell_of (Ext.block e.grown HB2.out))
  have q0 := HQ.out
  refine quiet_wide 11 (by kernel_rfl) (by kernel_rfl) ?_
  simp only [List.take_succ_cons, List.take_zero, List.drop_succ_cons, List.drop_zero]
  repeat (any_goals (first | go_big_quiet_step ((first | (go_at_call 34; with_reducible exact Cal.quiet_same (HM1.out _)) | (go_at_call 34; with_reducible exact Cal.quiet_same (HM2.out _)))) | quiet_step ((first | (go_at_call 34; with_reducible exact Cal.quiet_same (HM1.out _)) | (go_at_call 34; with_reducible exact Cal.quiet_same (HM2.out _))))))
  refine wpQuiet_nil ?_
  rintro w3 ⟨⟨w3q, hx3⟩, hew⟩
  obtain rfl : w3 = w3q := hew
  have hx3 : Ext w2 w3 := hx3
  clear q0 HQ HM1 HM2 HN2
  have HX3 := hid (HX2.out.trans hx3)
  have hb3 := hx3.block HB2.out
  have HB3 := hid hb3
  have c0 := cell_of hb3
  clear hx3 hb3 HX2 HB2
  have HSH := hid (fun (u : World) (hu : Ext w u) => Shift_c F _ net most u (HF.out u hu))
  have HFO := hid (fun (m : Int) (hm : -1 ≤ m ∧ m ≤ 6000) (r : Bool × Bool) (hr : foulsR F net m = r) (u : World) (hu : Ext w u) => (hr ▸ fouls_any F hF _ net hnl m hm u (HF.out u hu) : Cal 35 #[.agg #[.slice ea F.east.length ec, .slice na F.north.length nc, .int .i64 F.gap, .slice sa F.nets.length sc], .int .i64 net, .int .i64 m] u fun e w' => e = .returned (.tuple #[.bool r.1, .bool r.2]) ∧ Ext u w'))
  rcases hfx with ⟨hlt, e1, e2, hr⟩ | ⟨h0, hle, e1, e2, hr, hr2⟩
  · rw [e1, e2] at HSH
    clear e1 e2 hlt
    rcases hr with hr | hr
    all_goals
      have HF1 := hid (HFO.out most (by omega) _ hr)
      clear hr
      gi_wp2_with (first | (gi_at_call 33; ((with_reducible refine (HSH.out _ HX3.out).mono ?_); rintro e w4 ⟨rfl, hx4⟩; have c0 := cell_of (hx4.block HB3.out))) | (gi_at_call 35; ((with_reducible refine (HF1.out _ (HX3.out.trans hx4)).mono ?_); rintro e w5 ⟨rfl, hx5⟩)) | (gi_at_call 19; ((with_reducible refine (works_any _).mono ?_); rintro e w99 ⟨rfl, hx99⟩)))
      go_ret
      exact ⟨rfl, ((HX3.out.trans hx4).trans hx5).trans hx99⟩
  · rw [e1, e2] at HSH
    clear e1 e2
    generalize firstOut (barAll F net) = d at *
    have HIN := hid (fun (u : World) => in_b d 0 most true u (inB_of (by omega)))
    by_cases hd : d = 0
    · have hdz : (d == 0) = true := by rw [hd]; rfl
      clear hd
      rcases hr with hr | hr
      all_goals
        have HF1 := hid (HFO.out d (by omega) _ hr)
        clear hr hr2
        gi_wp2_with (first | (gi_at_call 33; ((with_reducible refine (HSH.out _ HX3.out).mono ?_); rintro e w4 ⟨rfl, hx4⟩; have c0 := cell_of (hx4.block HB3.out))) | (gi_at_call 35; ((with_reducible refine (HF1.out _ (HX3.out.trans hx4)).mono ?_); rintro e w5 ⟨rfl, hx5⟩; have c0 := cell_of ((hx4.trans hx5).block HB3.out))) | (gi_at_call 26; ((with_reducible refine (HIN.out _).mono ?_); rintro e w9 ⟨rfl, rfl⟩)) | (gi_at_call 19; ((with_reducible refine (works_any _).mono ?_); rintro e w99 ⟨rfl, hx99⟩)))
        go_ret
        exact ⟨rfl, ((HX3.out.trans hx4).trans hx5).trans hx99⟩
    · have hdz : (d == 0) = false := by rw [beq_eq_false_iff_ne]; exact hd
      have hr2 := hr2 hd
      clear hd
      rcases hr with hr | hr <;> rcases hr2 with hr2 | hr2
      all_goals
        have HF1 := hid (HFO.out d (by omega) _ hr)
        have HF2 := hid (HFO.out (d - 1) (by omega) _ hr2)
        clear hr hr2
        gi_upto_region 9 with (gi_at_call 33; ((with_reducible refine (HSH.out _ HX3.out).mono ?_); rintro e w4 ⟨rfl, hx4⟩; have c0 := cell_of (hx4.block HB3.out)))
        gi_upto_region 14 with (first | (gi_at_call 35; ((with_reducible refine (HF1.out _ (HX3.out.trans hx4)).mono ?_); rintro e w5 ⟨rfl, hx5⟩; have c0 := cell_of ((hx4.trans hx5).block HB3.out))) | (gi_at_call 26; ((with_reducible refine (HIN.out _).mono ?_); rintro e w9 ⟨rfl, rfl⟩)))
        gi_wp2_with (first | (gi_at_call 35; ((with_reducible refine (HF2.out _ ((HX3.out.trans hx4).trans hx5)).mono ?_); rintro e w6 ⟨rfl, hx6⟩)) | (gi_at_call 19; ((with_reducible refine (works_any _).mono ?_); rintro e w99 ⟨rfl, hx99⟩)))
        go_ret
        exact ⟨rfl, (((HX3.out.trans hx4).trans hx5).trans hx6).trans hx99⟩

end Go.Proofs.Ytmjelgonhpgmbaa
