/- NetsFewer: the walk. -/
import Derived.Test.YtmjelgonhpgmbaaQJ
set_option linter.unusedSimpArgs false
set_option linter.unusedVariables false
namespace Go.Proofs.Ytmjelgonhpgmbaa
open Go Go.RowKit Go.Shelf

set_option maxRecDepth 100000 in
set_option maxHeartbeats 16000000 in
theorem NetsFewer_any (F : FleetD) (n0 n1 n2 n3 : Int) (fv : Value) (w : World) (hf : FlAt w fv F) : Cal 8 #[fv, .agg #[.int .i64 n0, .int .i64 n1, .int .i64 n2, .int .i64 n3]] w fun e w' => e = .returned (.bool true) ∧ Ext w w' := by
  obtain ⟨ev, nv, sv, rfl, he, hn, hs⟩ := hf
  have HF := hid (fun (u : World) (hu : Ext w u) => (⟨ev, nv, sv, rfl, he.mono hu, hn.mono hu, hs.mono hu⟩ : FlAt u (.agg #[ev, nv, .int .i64 F.gap, sv]) F))
  have HEN := hid (And.intro he (And.intro hn hs))
  obtain ⟨sa, sc, rfl, hsl, hsc⟩ := hs
  have HSC := hid hsc
  obtain ⟨ea, ec, rfl, _, _⟩ := he
  obtain ⟨na, nc, rfl, _, _⟩ := hn
  clear hsc
  gi_enter Try.func8, Try.ntmps8
  gi_upto_region 1 with fail
  have hW : Ext w ((w.alloc (.cells #[.slice ea F.east.length ec, .slice na F.north.length nc, .int .i64 F.gap, .slice sa F.nets.length sc] 40)).alloc (.cells #[.int .i64 n0, .int .i64 n1, .int .i64 n2, .int .i64 n3] 78)) := (((Ext.refl _).alloc _).alloc _)
  have hB0 : ((w.alloc (.cells #[.slice ea F.east.length ec, .slice na F.north.length nc, .int .i64 F.gap, .slice sa F.nets.length sc] 40)).alloc (.cells #[.int .i64 n0, .int .i64 n1, .int .i64 n2, .int .i64 n3] 78)).heap[w.heap.size]? = some (.cells #[.slice ea F.east.length ec, .slice na F.north.length nc, .int .i64 F.gap, .slice sa F.nets.length sc] 40 (0, 0)) := by simp only [alloc_at, World.size_alloc]; (repeat rw [if_neg (by omega)]); first | rfl | rw [if_pos (by omega)] | rw [if_pos trivial]
  have hB1 : ((w.alloc (.cells #[.slice ea F.east.length ec, .slice na F.north.length nc, .int .i64 F.gap, .slice sa F.nets.length sc] 40)).alloc (.cells #[.int .i64 n0, .int .i64 n1, .int .i64 n2, .int .i64 n3] 78)).heap[w.heap.size + 1]? = some (.cells #[.int .i64 n0, .int .i64 n1, .int .i64 n2, .int .i64 n3] 78 (0, 0)) := by simp only [alloc_at, World.size_alloc]; (repeat rw [if_neg (by omega)]); first | rfl | rw [if_pos (by omega)] | rw [if_pos trivial]
  generalize ((w.alloc (.cells #[.slice ea F.east.length ec, .slice na F.north.length nc, .int .i64 F.gap, .slice sa F.nets.length sc] 40)).alloc (.cells #[.int .i64 n0, .int .i64 n1, .int .i64 n2, .int .i64 n3] 78)) = W at *
  have HX := hid hW
  have HB0 := hid hB0
  have c0 := cell_of hB0
  have HB1 := hid hB1
  have c1 := cell_of hB1
  clear hW hB0 hB1
  have HSO := hid (fun (b : Bool) (hb : fleetB F = b) (u : World) (hu : Ext w u) => sound_b F b hb _ u (HF.out u hu))
  cases hF : fleetB F
  case false =>
    gi_wp2_with (first | (gi_at_call 22; ((with_reducible refine (HSO.out false hF _ HX.out).mono ?_); rintro e w2 ⟨rfl, hx2⟩)) | (gi_at_call 19; ((with_reducible refine (works_any _).mono ?_); rintro e w99 ⟨rfl, hx99⟩)))
    go_ret
    exact ⟨rfl, (HX.out.trans hx2).trans hx99⟩
  case true =>
  have ok := fleetB_ok hF
  have hcn := ok.count
  have hhr := ok.hours
  obtain ⟨eb, eo, rfl⟩ : ∃ b o, ea = some ⟨b, o, none⟩ := by
    obtain ⟨_, _, e, _, hc⟩ := HEN.out.1
    cases e
    obtain ⟨b, o, e, _⟩ := hc 0 (by omega)
    exact ⟨b, o, e⟩
  obtain ⟨nb, no, rfl⟩ : ∃ b o, sa = some ⟨b, o, none⟩ := by
    obtain ⟨b, o, e, _⟩ := HSC.out 0 (by omega)
    exact ⟨b, o, e⟩
  gi_upto_region 3 with (gi_at_call 22; ((with_reducible refine (HSO.out true hF _ HX.out).mono ?_); rintro e w2 ⟨rfl, hx2⟩))
  have HX2 := hid (HX.out.trans hx2)
  have HB2 := hid (hx2.block HB0.out)
  have HN2 := hid (hx2.block HB1.out)
  have hlt2 := lt_of_block (hx2.block HB1.out)
  have c0 := cell_of HB2.out
  clear HX HB0 HB1 hx2 HSO c1
  gi_upto_region 4 with fail
  have hx3 : Ext w2 (w2.alloc (.cells #[.slice (some ⟨eb, eo, none⟩) F.east.length ec, .slice na F.north.length nc, .int .i64 F.gap, .slice (some ⟨nb, no, none⟩) F.nets.length sc] 40)) := (Ext.refl _).alloc _
  have HX3 := hid (HX2.out.trans hx3)
  have HB3 := hid (hx3.block HB2.out)
  have HN3 := hid (hx3.block HN2.out)
  have HK3 : Hid ((w2.alloc (.cells #[.slice (some ⟨eb, eo, none⟩) F.east.length ec, .slice na F.north.length nc, .int .i64 F.gap, .slice (some ⟨nb, no, none⟩) F.nets.length sc] 40)).heap[w2.heap.size]? = some (.cells #[.slice (some ⟨eb, eo, none⟩) F.east.length ec, .slice na F.north.length nc, .int .i64 F.gap, .slice (some ⟨nb, no, none⟩) F.nets.length sc] 40 (0, 0))) := Ext.new (Ext.refl _)
  clear c0 hx3 HX2 HB2 HN2
  obtain ⟨KB, hKB⟩ : ∃ n, n = w2.heap.size := ⟨_, rfl⟩
  rw [← hKB] at HK3 hlt2 ⊢
  clear hKB
  generalize w2.alloc (.cells #[.slice (some ⟨eb, eo, none⟩) F.east.length ec, .slice na F.north.length nc, .int .i64 F.gap, .slice (some ⟨nb, no, none⟩) F.nets.length sc] 40) = w3 at *
  clear w2
  obtain ⟨eg, ecap, w4, hrun4, hrow4, hge4, hx4⟩ := whole_spans HX3.out HEN.out.1 (by omega)
  have hkw := lt_of_block HK3.out
  have hk4 := hx4.block HK3.out
  have hb4 := hx4.block HB3.out
  have c0 := cell_of HB3.out
  have hlb := lt_of_block HB3.out
  gi_upto_region 5 with (refine wpIn_append_at (fun _ => trivial) rfl (w3.alloc (.cells #[] 56)) (.tmp 18) (.tmp 20) 37 rfl (by with_reducible rfl) hrun4 rfl rfl rfl ?_; have ck := cell_of hk4; have fk := free_of hk4)
  have hx4s := hx4
  have hn4 := hx4.block HN3.out
  have hk5 := set_same hk4 0 (.slice (some ⟨eg, 0, none⟩) F.east.length ecap)
  simp only [List.setIfInBounds_toArray, List.set_cons_succ, List.set_cons_zero] at hk5
  have HX5 := hid ((HX3.out.trans hx4).set (b := KB) (by omega) 0 (.slice (some ⟨eg, 0, none⟩) F.east.length ecap))
  have HK5 := hid hk5
  have HB5 := hid ((set_other (show w.heap.size ≠ KB by omega) 0 (.slice (some ⟨eg, 0, none⟩) F.east.length ecap)).trans hb4)
  have HN5 := hid ((set_other (show w.heap.size + 1 ≠ KB by omega) 0 (.slice (some ⟨eg, 0, none⟩) F.east.length ecap)).trans hn4)
  have HE5 := hid (hrow4.set (g := KB) (fun e => by have : eg = KB := Option.some.inj e; omega) 0 (.slice (some ⟨eg, 0, none⟩) F.east.length ecap))
  have hegk : KB < eg := by omega
  clear c0 ck fk hk4 hb4 hn4 hk5 hrow4 hrun4 hx4 hx4s HX3 HB3 HN3 HK3 hge4
  generalize w4.setCell ⟨KB, 0, none⟩ (.slice (some ⟨eg, 0, none⟩) F.east.length ecap) = w5 at *
  clear hkw hlb
  obtain ⟨sg, scap, w6, hrun6, hrow6, hge6, hx6⟩ := whole_shots HX5.out HEN.out.2.2 (by omega)
  have hk6 := hx6.block HK5.out
  have hb6 := hx6.block HB5.out
  have hn6 := hx6.block HN5.out
  have hkl := lt_of_block HK5.out
  have hel := HE5.out.lt (g := eg) rfl
  have c0 := cell_of HB5.out
  have hlb5 := lt_of_block HB5.out
  gi_upto_region 6 with (refine wpIn_append_at (fun _ => trivial) rfl (w5.alloc (.cells #[] 58)) (.tmp 23) (.tmp 25) 38 rfl (by with_reducible rfl) hrun6 rfl rfl rfl ?_; have ck := cell_of hk6; have fk := free_of hk6)
  have hk7 := set_same hk6 3 (.slice (some ⟨sg, 0, none⟩) F.nets.length scap)
  simp only [List.setIfInBounds_toArray, List.set_cons_succ, List.set_cons_zero] at hk7
  have HX7 := hid ((HX5.out.trans hx6).set (b := KB) (by omega) 3 (.slice (some ⟨sg, 0, none⟩) F.nets.length scap))
  have HK7 := hid hk7
  have HB7 := hid ((set_other (show w.heap.size ≠ KB by omega) 3 (.slice (some ⟨sg, 0, none⟩) F.nets.length scap)).trans hb6)
  have HN7 := hid ((set_other (show w.heap.size + 1 ≠ KB by omega) 3 (.slice (some ⟨sg, 0, none⟩) F.nets.length scap)).trans hn6)
  have HE7 := hid ((HE5.out.mono hx6).set (g := KB) (fun e => by have : eg = KB := Option.some.inj e; omega) 3 (.slice (some ⟨sg, 0, none⟩) F.nets.length scap))
  have HS7 := hid (hrow6.set (g := KB) (fun e => by have : sg = KB := Option.some.inj e; omega) 3 (.slice (some ⟨sg, 0, none⟩) F.nets.length scap))
  have hsgk : eg < sg := by omega
  clear c0 ck fk hk6 hb6 hn6 hk7 hrow6 hrun6 hx6 HX5 HB5 HN5 HK5 HE5 hge6 hkl hel
  generalize w6.setCell ⟨KB, 3, none⟩ (.slice (some ⟨sg, 0, none⟩) F.nets.length scap) = w7 at *
  clear hlb5
  have hm1 := modI_ok n1 (m := (F.east.length : Int)) (by omega)
  have hm2 := modI_ok n2 (m := (F.nets.length : Int)) (by omega)
  have HM1 := hid (fun u => mod_any n1 F.east.length u (by omega))
  have HM2 := hid (fun u => mod_any n2 F.nets.length u (by omega))
  obtain ⟨h, hh⟩ : ∃ n : Nat, modI n1 F.east.length = n := ⟨(modI n1 F.east.length).toNat, by omega⟩
  obtain ⟨k, hkk⟩ : ∃ n : Nat, modI n2 F.nets.length = n := ⟨(modI n2 F.nets.length).toNat, by omega⟩
  rw [hh] at HM1 hm1
  rw [hkk] at HM2 hm2
  have hhl : h < F.east.length := by omega
  have hkl : k < F.nets.length := by omega
  clear hh hkk
  have HQ := hid fun e : Later w7 => And.intro (cell_of (Ext.block e.grown HN7.out)) (cell_of (Ext.block e.grown HB7.out))
  have q0 := HQ.out
  refine quiet_wide 12 (by kernel_rfl) (by kernel_rfl) ?_
  simp only [List.take_succ_cons, List.take_zero, List.drop_succ_cons, List.drop_zero]
  repeat (any_goals (first | go_big_quiet_step ((first | (go_at_call 34; with_reducible exact Cal.quiet_same (HM1.out _)) | (go_at_call 34; with_reducible exact Cal.quiet_same (HM2.out _)))) | quiet_step ((first | (go_at_call 34; with_reducible exact Cal.quiet_same (HM1.out _)) | (go_at_call 34; with_reducible exact Cal.quiet_same (HM2.out _))))))
  refine wpQuiet_nil ?_
  rintro w8 ⟨⟨w8q, hx8⟩, hew⟩
  obtain rfl : w8 = w8q := hew
  have hx8 : Ext w7 w8 := hx8
  clear q0 HQ HM1 HM2
  have HX8 := hid (HX7.out.trans hx8)
  have HK8 := hid (hx8.block HK7.out)
  have HB8 := hid (hx8.block HB7.out)
  have HN8 := hid (hx8.block HN7.out)
  have HE8 := hid (HE7.out.mono hx8)
  have HS8 := hid (HS7.out.mono hx8)
  clear hx8 HX7 HK7 HB7 HN7 HE7 HS7
  have c0 := cell_of HB8.out
  obtain ⟨b', o', e', hb', dd⟩ := HSC.out k hkl
  cases e'
  have hz : (k : Int) < F.nets.length := by omega
  obtain ⟨d0, d1, d2, d3, d4, d5, d6, d7, d8, d9⟩ := dd
  rw [← HX8.out.cell (p := ⟨nb, _, none⟩) hb'] at d0 d1 d2 d3 d4 d5 d6 d7 d8 d9
  gi_upto_region 8 with fail
  clear d0 d1 d2 d3 d4 d5 d6 d7 d8 d9 c0 hb'
  obtain ⟨m, hm⟩ : ∃ m, m = F.nets[k] := ⟨_, rfl⟩
  rw [← hm]
  have HM := hid hm
  clear hm
  have hx9 : Ext w8 (w8.alloc (.cells #[.int .i64 m.east, .int .i64 m.north, .int .i64 m.long, .int .i64 m.along, .int .i64 m.shot, .int .i64 m.haul, .int .i64 m.se.lo, .int .i64 m.se.hi, .int .i64 m.sn.lo, .int .i64 m.sn.hi] 58)) := (Ext.refl _).alloc _
  have HY9 : Hid ((w8.alloc (.cells #[.int .i64 m.east, .int .i64 m.north, .int .i64 m.long, .int .i64 m.along, .int .i64 m.shot, .int .i64 m.haul, .int .i64 m.se.lo, .int .i64 m.se.hi, .int .i64 m.sn.lo, .int .i64 m.sn.hi] 58)).heap[w8.heap.size]? = some (.cells #[.int .i64 m.east, .int .i64 m.north, .int .i64 m.long, .int .i64 m.along, .int .i64 m.shot, .int .i64 m.haul, .int .i64 m.se.lo, .int .i64 m.se.hi, .int .i64 m.sn.lo, .int .i64 m.sn.hi] 58 (0, 0))) := Ext.new (Ext.refl _)
  have HX9 := hid (HX8.out.trans hx9)
  have HK9 := hid (hx9.block HK8.out)
  have HB9 := hid (hx9.block HB8.out)
  have HN9 := hid (hx9.block HN8.out)
  have HE9 := hid (HE8.out.mono hx9)
  have HS9 := hid (HS8.out.mono hx9)
  have hsy := HS8.out.lt (g := sg) rfl
  clear hx9 HX8 HK8 HB8 HN8 HE8 HS8
  obtain ⟨YB, hYB⟩ : ∃ n, n = w8.heap.size := ⟨_, rfl⟩
  rw [← hYB] at HY9 hsy ⊢
  clear hYB
  generalize w8.alloc (.cells #[.int .i64 m.east, .int .i64 m.north, .int .i64 m.long, .int .i64 m.along, .int .i64 m.shot, .int .i64 m.haul, .int .i64 m.se.lo, .int .i64 m.se.hi, .int .i64 m.sn.lo, .int .i64 m.sn.hi] 58) = w9 at *
  have hm0 := modI_ok n0 (m := 4) (by omega)
  have HM0 := hid (fun u => mod_any n0 4 u (by omega))
  generalize modI n0 4 = wh at *
  have c1 := cell_of HN9.out
  gi_upto_region 11 with (gi_at_call 34; ((with_reducible refine (HM0.out _).mono ?_); rintro e wq ⟨rfl, rfl⟩))
  rcases (by omega : wh = 0 ∨ wh = 1 ∨ wh = 2 ∨ wh = 3) with rfl | rfl | rfl | rfl
  · have HLS : Hid (FleetOk (lessF F 0 h k n3) ∧ FoulsToo (lessF F 0 h k n3) F) := less_ok ok 0 hhl hkl n3
    have HXE : Hid (lessF F 0 h k n3 = { F with east := F.east.set h ⟨chosenI F.east[h].lo F.east[h].hi n3, (F.east.getD h ⟨0, 0⟩).hi⟩ }) := by
      show _ = _
      unfold lessF
      rw [if_pos rfl, getD_of hhl]
    obtain ⟨_, _, e', _, hec⟩ := HEN.out.1
    cases e'
    obtain ⟨b', o', e', hbe, de0, de1⟩ := hec h hhl
    cases e'
    clear hec
    have hz : (h : Int) < F.east.length := by omega
    have spn := ok.east _ (List.getElem_mem hhl)
    unfold spIn at spn
    have HCH := hid (fun u => chosen_num F.east[h].lo F.east[h].hi n3 u (by omega))
    clear spn
    have HQ := hid fun e : Later w9 => And.intro (cell_of (Ext.block e.grown HN9.out)) (And.intro (cell_of (Ext.block e.grown HB9.out)) (And.intro (cell_of (Ext.block e.grown HK9.out)) (And.intro (((HX9.out.trans e.grown).cell (p := ⟨eb, _, none⟩) hbe).trans de0) (((HX9.out.trans e.grown).cell (p := ⟨eb, _, none⟩) hbe).trans de1))))
    have q0 := HQ.out
    clear de0 de1
    gi_wp2_with fail
    refine quiet_wide 20 (by kernel_rfl) (by kernel_rfl) ?_
    simp only [List.take_succ_cons, List.take_zero, List.drop_succ_cons, List.drop_zero]
    repeat (any_goals (first | go_big_quiet_step ((first | (go_at_call 36; with_reducible exact Cal.quiet_same (HCH.out _)))) | quiet_step ((first | (go_at_call 36; with_reducible exact Cal.quiet_same (HCH.out _))))))
    refine wpQuiet_nil ?_
    rintro w10 ⟨⟨w10q, hx10⟩, hew⟩
    obtain rfl : w10 = w10q := hew
    have hx10 : Ext w9 w10 := hx10
    have hwk : w.heap.size < KB := by omega
    have hek := hx10.block HK9.out
    have heb := hx10.block HB9.out
    obtain ⟨cur, hcur, hcu⟩ := spans_at (HE9.out.mono hx10) hhl
    have ce := cell_of hcur
    have fe := free_of hcur
    gi_upto_region 18 with fail
    have HXu := hid ((HX9.out.trans hx10).set (b := eg) (by omega) (h * 2) (.int .i64 (chosenI F.east[h].lo F.east[h].hi n3)))
    have HKu := hid ((set_other (show KB ≠ eg by omega) (h * 2) (.int .i64 (chosenI F.east[h].lo F.east[h].hi n3))).trans hek)
    have HBu := hid ((set_other (show w.heap.size ≠ eg by omega) (h * 2) (.int .i64 (chosenI F.east[h].lo F.east[h].hi n3))).trans heb)
    have HEu := hid (spans_set (HE9.out.mono hx10) hhl (chosenI F.east[h].lo F.east[h].hi n3))
    have HSu := hid ((HS9.out.mono hx10).set (g := eg) (fun e => by have : sg = eg := Option.some.inj e; omega) (h * 2) (.int .i64 (chosenI F.east[h].lo F.east[h].hi n3)))
    clear ce fe hcu hcur hek heb hx10 q0 HQ HCH HX9 HK9 HB9 HN9 HE9 HS9 HY9 c1
    generalize w10.setCell ⟨eg, h * 2, none⟩ (.int .i64 (chosenI F.east[h].lo F.east[h].hi n3)) = wu at *
    have HFX := hid (fun (u : World) (hu : Ext wu u) => (by
      rw [HXE.out]
      exact ⟨_, _, _, rfl, spans56_row (HEu.out.mono hu) (by simp only [List.length_set]; omega), HEN.out.2.1.mono (HXu.out.trans hu), nets_row (HSu.out.mono hu) (show F.nets.length ≤ 1000 by omega)⟩ : FlAt u (.agg #[.slice (some ⟨eg, 0, none⟩) F.east.length ecap, .slice na F.north.length nc, .int .i64 F.gap, .slice (some ⟨sg, 0, none⟩) F.nets.length scap]) (lessF F 0 h k n3)))
    clear HEu HSu HXE
    obtain ⟨a, b, c, fe, a', b', c', fe', q1, q2, hq⟩ := fewer_facts hF HLS.out.1 HLS.out.2
    have HC1 := hid (fun (u : World) (hu : Ext w u) => Can_c F _ u (HF.out u hu))
    have HC2 := hid (fun (u : World) (hu : Ext wu u) => Can_c (lessF F 0 h k n3) _ u (HFX.out u hu))
    rw [q1.1, q1.2] at HC1
    rw [q2.1, q2.2] at HC2
    clear q1 q2 HLS HFX
    have c0 := cell_of HBu.out
    gi_upto_region 19 with (gi_at_call 21; ((with_reducible refine (HC1.out _ HXu.out).mono ?_); rintro e w11 ⟨rfl, hx11⟩))
    have hxa : Ext wu (w11.alloc (.cells #[.int .i64 a, .int .i64 b, .int .i64 c] 43)) := hx11.alloc _
    have HX12 := hid (HXu.out.trans hxa)
    have HK12 := hid (hxa.block HKu.out)
    have HJ12 : Hid ((w11.alloc (.cells #[.int .i64 a, .int .i64 b, .int .i64 c] 43)).heap[w11.heap.size]? = some (.cells #[.int .i64 a, .int .i64 b, .int .i64 c] 43 (0, 0))) := Ext.new (Ext.refl _)
    have HU12 := hid hxa
    clear c0 hxa hx11 HXu HKu HBu
    obtain ⟨S1, hS1⟩ : ∃ n, n = w11.heap.size := ⟨_, rfl⟩
    rw [← hS1] at HJ12 ⊢
    clear hS1
    generalize w11.alloc (.cells #[.int .i64 a, .int .i64 b, .int .i64 c] 43) = w12 at *
    have ck := cell_of HK12.out
    gi_upto_region 20 with (gi_at_call 21; ((with_reducible refine (HC2.out _ HU12.out).mono ?_); rintro e w13 ⟨rfl, hx13⟩))
    have hxa : Ext w12 (w13.alloc (.cells #[.int .i64 a', .int .i64 b', .int .i64 c'] 43)) := hx13.alloc _
    have HX14 := hid (HX12.out.trans hxa)
    have HJ14 := hid (hxa.block HJ12.out)
    have HL14 : Hid ((w13.alloc (.cells #[.int .i64 a', .int .i64 b', .int .i64 c'] 43)).heap[w13.heap.size]? = some (.cells #[.int .i64 a', .int .i64 b', .int .i64 c'] 43 (0, 0))) := Ext.new (Ext.refl _)
    clear ck hxa hx13 HX12 HK12 HJ12 HU12 HC1 HC2
    obtain ⟨S2, hS2⟩ : ∃ n, n = w13.heap.size := ⟨_, rfl⟩
    rw [← hS2] at HL14 ⊢
    clear hS2
    generalize w13.alloc (.cells #[.int .i64 a', .int .i64 b', .int .i64 c'] 43) = w14 at *
    have m1 := cell_of HJ14.out
    have m2 := cell_of HL14.out
    rcases hq with ⟨rfl, rfl | rfl⟩ | ⟨rfl, rfl, hle⟩
    · gi_wp2_with (gi_at_call 19; ((with_reducible refine (works_any _).mono ?_); rintro e w99 ⟨rfl, hx99⟩))
      all_goals (go_ret; exact ⟨rfl, HX14.out.trans hx99⟩)
    · gi_wp2_with (gi_at_call 19; ((with_reducible refine (works_any _).mono ?_); rintro e w99 ⟨rfl, hx99⟩))
      all_goals (go_ret; exact ⟨rfl, HX14.out.trans hx99⟩)
    · have hd : decide (a ≤ a') = true := decide_eq_true hle
      clear hle
      gi_wp2_with (gi_at_call 19; ((with_reducible refine (works_any _).mono ?_); rintro e w99 ⟨rfl, hx99⟩))
      all_goals (go_ret; exact ⟨rfl, HX14.out.trans hx99⟩)
  · have HLS : Hid (FleetOk (lessF F 1 h k n3) ∧ FoulsToo (lessF F 1 h k n3) F) := less_ok ok 1 hhl hkl n3
    have HXE : Hid (lessF F 1 h k n3 = { F with gap := chosenI 0 F.gap n3 }) := by
      show _ = _
      unfold lessF
      rw [if_neg (by omega), if_pos rfl]
    have hgb := ok.gap
    have HCH := hid (fun u => chosen_num 0 F.gap n3 u (by omega))
    clear hgb
    have c0 := cell_of HB9.out
    have ck := cell_of HK9.out
    have fk := free_of HK9.out
    gi_upto_region 18 with (gi_at_call 36; ((with_reducible refine (HCH.out _).mono ?_); rintro e w10 ⟨rfl, rfl⟩))
    have hku := set_same HK9.out 2 (.int .i64 (chosenI 0 F.gap n3))
    simp only [List.setIfInBounds_toArray, List.set_cons_succ, List.set_cons_zero] at hku
    have HKu := hid hku
    have HXu := hid (HX9.out.set (b := KB) (by omega) 2 (.int .i64 (chosenI 0 F.gap n3)))
    have HBu := hid ((set_other (show w.heap.size ≠ KB by omega) 2 (.int .i64 (chosenI 0 F.gap n3))).trans HB9.out)
    have HEu := hid (HE9.out.set (g := KB) (fun e => by have : eg = KB := Option.some.inj e; omega) 2 (.int .i64 (chosenI 0 F.gap n3)))
    have HSu := hid (HS9.out.set (g := KB) (fun e => by have : sg = KB := Option.some.inj e; omega) 2 (.int .i64 (chosenI 0 F.gap n3)))
    clear c0 ck fk hku HCH HX9 HK9 HB9 HN9 HE9 HS9 HY9 c1
    generalize w9.setCell ⟨KB, 2, none⟩ (.int .i64 (chosenI 0 F.gap n3)) = wu at *
    have HFX := hid (fun (u : World) (hu : Ext wu u) => (by
      rw [HXE.out]
      exact ⟨_, _, _, rfl, spans56_row (HEu.out.mono hu) (show F.east.length ≤ 1000 by omega), HEN.out.2.1.mono (HXu.out.trans hu), nets_row (HSu.out.mono hu) (show F.nets.length ≤ 1000 by omega)⟩ : FlAt u (.agg #[.slice (some ⟨eg, 0, none⟩) F.east.length ecap, .slice na F.north.length nc, .int .i64 (chosenI 0 F.gap n3), .slice (some ⟨sg, 0, none⟩) F.nets.length scap]) (lessF F 1 h k n3)))
    clear HEu HSu HXE
    obtain ⟨a, b, c, fe, a', b', c', fe', q1, q2, hq⟩ := fewer_facts hF HLS.out.1 HLS.out.2
    have HC1 := hid (fun (u : World) (hu : Ext w u) => Can_c F _ u (HF.out u hu))
    have HC2 := hid (fun (u : World) (hu : Ext wu u) => Can_c (lessF F 1 h k n3) _ u (HFX.out u hu))
    rw [q1.1, q1.2] at HC1
    rw [q2.1, q2.2] at HC2
    clear q1 q2 HLS HFX
    have c0 := cell_of HBu.out
    gi_upto_region 19 with (gi_at_call 21; ((with_reducible refine (HC1.out _ HXu.out).mono ?_); rintro e w11 ⟨rfl, hx11⟩))
    have hxa : Ext wu (w11.alloc (.cells #[.int .i64 a, .int .i64 b, .int .i64 c] 43)) := hx11.alloc _
    have HX12 := hid (HXu.out.trans hxa)
    have HK12 := hid (hxa.block HKu.out)
    have HJ12 : Hid ((w11.alloc (.cells #[.int .i64 a, .int .i64 b, .int .i64 c] 43)).heap[w11.heap.size]? = some (.cells #[.int .i64 a, .int .i64 b, .int .i64 c] 43 (0, 0))) := Ext.new (Ext.refl _)
    have HU12 := hid hxa
    clear c0 hxa hx11 HXu HKu HBu
    obtain ⟨S1, hS1⟩ : ∃ n, n = w11.heap.size := ⟨_, rfl⟩
    rw [← hS1] at HJ12 ⊢
    clear hS1
    generalize w11.alloc (.cells #[.int .i64 a, .int .i64 b, .int .i64 c] 43) = w12 at *
    have ck := cell_of HK12.out
    gi_upto_region 20 with (gi_at_call 21; ((with_reducible refine (HC2.out _ HU12.out).mono ?_); rintro e w13 ⟨rfl, hx13⟩))
    have hxa : Ext w12 (w13.alloc (.cells #[.int .i64 a', .int .i64 b', .int .i64 c'] 43)) := hx13.alloc _
    have HX14 := hid (HX12.out.trans hxa)
    have HJ14 := hid (hxa.block HJ12.out)
    have HL14 : Hid ((w13.alloc (.cells #[.int .i64 a', .int .i64 b', .int .i64 c'] 43)).heap[w13.heap.size]? = some (.cells #[.int .i64 a', .int .i64 b', .int .i64 c'] 43 (0, 0))) := Ext.new (Ext.refl _)
    clear ck hxa hx13 HX12 HK12 HJ12 HU12 HC1 HC2
    obtain ⟨S2, hS2⟩ : ∃ n, n = w13.heap.size := ⟨_, rfl⟩
    rw [← hS2] at HL14 ⊢
    clear hS2
    generalize w13.alloc (.cells #[.int .i64 a', .int .i64 b', .int .i64 c'] 43) = w14 at *
    have m1 := cell_of HJ14.out
    have m2 := cell_of HL14.out
    rcases hq with ⟨rfl, rfl | rfl⟩ | ⟨rfl, rfl, hle⟩
    · gi_wp2_with (gi_at_call 19; ((with_reducible refine (works_any _).mono ?_); rintro e w99 ⟨rfl, hx99⟩))
      all_goals (go_ret; exact ⟨rfl, HX14.out.trans hx99⟩)
    · gi_wp2_with (gi_at_call 19; ((with_reducible refine (works_any _).mono ?_); rintro e w99 ⟨rfl, hx99⟩))
      all_goals (go_ret; exact ⟨rfl, HX14.out.trans hx99⟩)
    · have hd : decide (a ≤ a') = true := decide_eq_true hle
      clear hle
      gi_wp2_with (gi_at_call 19; ((with_reducible refine (works_any _).mono ?_); rintro e w99 ⟨rfl, hx99⟩))
      all_goals (go_ret; exact ⟨rfl, HX14.out.trans hx99⟩)
  · have HLS : Hid (FleetOk (lessF F 2 h k n3) ∧ FoulsToo (lessF F 2 h k n3) F) := less_ok ok 2 hhl hkl n3
    have HXE : Hid (lessF F 2 h k n3 = { F with nets := F.nets.set k { m with sn := ⟨m.sn.lo, chosenI m.sn.lo m.sn.hi n3⟩ } }) := by
      show _ = _
      unfold lessF
      rw [if_neg (by omega), if_neg (by omega), if_pos rfl, getD_of hkl, HM.out]
    have hgb := (ok.nets _ (List.getElem_mem hkl)).sn
    rw [← HM.out] at hgb
    unfold spIn at hgb
    have HCH := hid (fun u => chosen_num m.sn.lo m.sn.hi n3 u (by omega))
    clear hgb
    have cy := cell_of HY9.out
    have fy := free_of HY9.out
    gi_upto_region 17 with (gi_at_call 36; ((with_reducible refine (HCH.out _).mono ?_); rintro e w10 ⟨rfl, rfl⟩))
    have hyu := set_same HY9.out 9 (.int .i64 (chosenI m.sn.lo m.sn.hi n3))
    simp only [List.setIfInBounds_toArray, List.set_cons_succ, List.set_cons_zero] at hyu
    have hcv : (9 : Nat) = 9 := rfl
    have HXu := hid (HX9.out.set (b := YB) (by have := HX9.out.size; omega) 9 (.int .i64 (chosenI m.sn.lo m.sn.hi n3)))
    have HBu := hid ((set_other (show w.heap.size ≠ YB by omega) 9 (.int .i64 (chosenI m.sn.lo m.sn.hi n3))).trans HB9.out)
    have HKu := hid ((set_other (show KB ≠ YB by omega) 9 (.int .i64 (chosenI m.sn.lo m.sn.hi n3))).trans HK9.out)
    have HEu := hid (HE9.out.set (g := YB) (fun e => by have : eg = YB := Option.some.inj e; omega) 9 (.int .i64 (chosenI m.sn.lo m.sn.hi n3)))
    have HSu := hid (HS9.out.set (g := YB) (fun e => by have : sg = YB := Option.some.inj e; omega) 9 (.int .i64 (chosenI m.sn.lo m.sn.hi n3)))
    have HYu := hid hyu
    clear cy fy hyu HCH HX9 HK9 HB9 HN9 HE9 HS9 HY9 c1 hcv
    generalize w9.setCell ⟨YB, 9, none⟩ (.int .i64 (chosenI m.sn.lo m.sn.hi n3)) = w11 at *
    have cy := cell_of HYu.out
    have ck := cell_of HKu.out
    have hz : (k : Int) < F.nets.length := by omega
    obtain ⟨cur, hcur, hcs, hset⟩ := nets_set HSu.out hkl
    have HSV := hid (hset { m with sn := ⟨m.sn.lo, chosenI m.sn.lo m.sn.hi n3⟩ })
    have HCS := hid hcs
    have HCUR := hid hcur
    clear hset hcs hcur HSu
    gi_wp2_with (refine wpIn_store_at 58 (.tmp 112) (.tmp 111) rfl (fun _ => trivial) rfl rfl HCUR.out siz58 HCS.out (by simp [Value.oneCell']) ?_; refine Hid.out ?_)
    have HX12 := hid (ext_setRow (g := sg) HXu.out (by omega) (cur.toList.take (k * 10) ++ ntCells { m with sn := ⟨m.sn.lo, chosenI m.sn.lo m.sn.hi n3⟩ } ++ cur.toList.drop (k * 10 + 10)).toArray)
    have HB12 := hid ((setRow_other w11 sg w.heap.size (cur.toList.take (k * 10) ++ ntCells { m with sn := ⟨m.sn.lo, chosenI m.sn.lo m.sn.hi n3⟩ } ++ cur.toList.drop (k * 10 + 10)).toArray (by omega)).trans HBu.out)
    have HK12 := hid ((setRow_other w11 sg KB (cur.toList.take (k * 10) ++ ntCells { m with sn := ⟨m.sn.lo, chosenI m.sn.lo m.sn.hi n3⟩ } ++ cur.toList.drop (k * 10 + 10)).toArray (by omega)).trans HKu.out)
    have HE12 := hid (HEu.out.kept (w' := w11.setRow sg (cur.toList.take (k * 10) ++ ntCells { m with sn := ⟨m.sn.lo, chosenI m.sn.lo m.sn.hi n3⟩ } ++ cur.toList.drop (k * 10 + 10)).toArray) (fun j o hj ho => by
      have : eg = j := Option.some.inj hj
      rw [setRow_other w11 sg j _ (by omega)]; exact ho))
    refine hid ?_
    clear cy ck HXu HBu HKu HEu HYu HCUR HCS
    have e12 : (cur.toList.take (k * 10) ++ .int .i64 m.east :: .int .i64 m.north :: .int .i64 m.long :: .int .i64 m.along :: .int .i64 m.shot :: .int .i64 m.haul :: .int .i64 m.se.lo :: .int .i64 m.se.hi :: .int .i64 m.sn.lo :: .int .i64 (chosenI m.sn.lo m.sn.hi n3) :: cur.toList.drop (k * 10 + 10)).toArray = (cur.toList.take (k * 10) ++ ntCells { m with sn := ⟨m.sn.lo, chosenI m.sn.lo m.sn.hi n3⟩ } ++ cur.toList.drop (k * 10 + 10)).toArray := by rw [List.append_assoc]; rfl
    rw [e12]
    clear e12
    have HXu := HX12
    have HBu := HB12
    have HKu := HK12
    have HEu := HE12
    clear HX12 HB12 HK12 HE12
    generalize w11.setRow sg (cur.toList.take (k * 10) ++ ntCells { m with sn := ⟨m.sn.lo, chosenI m.sn.lo m.sn.hi n3⟩ } ++ cur.toList.drop (k * 10 + 10)).toArray = wu at *
    have HFX := hid (fun (u : World) (hu : Ext wu u) => (by
      rw [HXE.out]
      exact ⟨_, _, _, rfl, spans56_row (HEu.out.mono hu) (show F.east.length ≤ 1000 by omega), HEN.out.2.1.mono (HXu.out.trans hu), nets_row (HSV.out.mono hu) (by simp only [List.length_set]; omega)⟩ : FlAt u (.agg #[.slice (some ⟨eg, 0, none⟩) F.east.length ecap, .slice na F.north.length nc, .int .i64 F.gap, .slice (some ⟨sg, 0, none⟩) F.nets.length scap]) (lessF F 2 h k n3)))
    clear HEu HSV HXE HM
    obtain ⟨a, b, c, fe, a', b', c', fe', q1, q2, hq⟩ := fewer_facts hF HLS.out.1 HLS.out.2
    have HC1 := hid (fun (u : World) (hu : Ext w u) => Can_c F _ u (HF.out u hu))
    have HC2 := hid (fun (u : World) (hu : Ext wu u) => Can_c (lessF F 2 h k n3) _ u (HFX.out u hu))
    rw [q1.1, q1.2] at HC1
    rw [q2.1, q2.2] at HC2
    clear q1 q2 HLS HFX
    have c0 := cell_of HBu.out
    gi_upto_region 19 with (gi_at_call 21; ((with_reducible refine (HC1.out _ HXu.out).mono ?_); rintro e w11 ⟨rfl, hx11⟩))
    have hxa : Ext wu (w11.alloc (.cells #[.int .i64 a, .int .i64 b, .int .i64 c] 43)) := hx11.alloc _
    have HX12 := hid (HXu.out.trans hxa)
    have HK12 := hid (hxa.block HKu.out)
    have HJ12 : Hid ((w11.alloc (.cells #[.int .i64 a, .int .i64 b, .int .i64 c] 43)).heap[w11.heap.size]? = some (.cells #[.int .i64 a, .int .i64 b, .int .i64 c] 43 (0, 0))) := Ext.new (Ext.refl _)
    have HU12 := hid hxa
    clear c0 hxa hx11 HXu HKu HBu
    obtain ⟨S1, hS1⟩ : ∃ n, n = w11.heap.size := ⟨_, rfl⟩
    rw [← hS1] at HJ12 ⊢
    clear hS1
    generalize w11.alloc (.cells #[.int .i64 a, .int .i64 b, .int .i64 c] 43) = w12 at *
    have ck := cell_of HK12.out
    gi_upto_region 20 with (gi_at_call 21; ((with_reducible refine (HC2.out _ HU12.out).mono ?_); rintro e w13 ⟨rfl, hx13⟩))
    have hxa : Ext w12 (w13.alloc (.cells #[.int .i64 a', .int .i64 b', .int .i64 c'] 43)) := hx13.alloc _
    have HX14 := hid (HX12.out.trans hxa)
    have HJ14 := hid (hxa.block HJ12.out)
    have HL14 : Hid ((w13.alloc (.cells #[.int .i64 a', .int .i64 b', .int .i64 c'] 43)).heap[w13.heap.size]? = some (.cells #[.int .i64 a', .int .i64 b', .int .i64 c'] 43 (0, 0))) := Ext.new (Ext.refl _)
    clear ck hxa hx13 HX12 HK12 HJ12 HU12 HC1 HC2
    obtain ⟨S2, hS2⟩ : ∃ n, n = w13.heap.size := ⟨_, rfl⟩
    rw [← hS2] at HL14 ⊢
    clear hS2
    generalize w13.alloc (.cells #[.int .i64 a', .int .i64 b', .int .i64 c'] 43) = w14 at *
    have m1 := cell_of HJ14.out
    have m2 := cell_of HL14.out
    rcases hq with ⟨rfl, rfl | rfl⟩ | ⟨rfl, rfl, hle⟩
    · gi_wp2_with (gi_at_call 19; ((with_reducible refine (works_any _).mono ?_); rintro e w99 ⟨rfl, hx99⟩))
      all_goals (go_ret; exact ⟨rfl, HX14.out.trans hx99⟩)
    · gi_wp2_with (gi_at_call 19; ((with_reducible refine (works_any _).mono ?_); rintro e w99 ⟨rfl, hx99⟩))
      all_goals (go_ret; exact ⟨rfl, HX14.out.trans hx99⟩)
    · have hd : decide (a ≤ a') = true := decide_eq_true hle
      clear hle
      gi_wp2_with (gi_at_call 19; ((with_reducible refine (works_any _).mono ?_); rintro e w99 ⟨rfl, hx99⟩))
      all_goals (go_ret; exact ⟨rfl, HX14.out.trans hx99⟩)
  · have HXE1 : Hid (F.nets.length ≤ 1 → lessF F 3 h k n3 = F) := fun hh => by
      unfold lessF
      rw [if_neg (by omega), if_neg (by omega), if_neg (by omega), if_neg (by omega)]
    have HXE2 : Hid (1 < F.nets.length → lessF F 3 h k n3 = { F with nets := F.nets.take k ++ F.nets.drop (k + 1) }) := fun hh => by
      unfold lessF
      rw [if_neg (by omega), if_neg (by omega), if_neg (by omega), if_pos hh]
    have HLS : Hid (FleetOk (lessF F 3 h k n3) ∧ FoulsToo (lessF F 3 h k n3) F) := less_ok ok 3 hhl hkl n3
    have c0 := cell_of HB9.out
    by_cases hlen : 1 < F.nets.length
    · have hl2 : decide ((F.nets.length : Int) > 1) = true := decide_eq_true (by omega)
      have HXE := hid (HXE2.out hlen)
      gi_upto_region 10 with fail
      obtain ⟨wd, hwd⟩ : ∃ wd : World, wd = { w9 with drawn := w9.drawn + 1 } := ⟨_, rfl⟩
      have hxd : Ext w9 wd := by rw [hwd]; exact Ext.drawn _
      obtain ⟨p2, hp2, hpe⟩ : ∃ p2 : Addr, (if sc = k + 1 then some ⟨nb, no, none⟩ else some ⟨nb, no + (k + 1) * 10, none⟩ : Option Addr) = some p2 ∧ (k + 1 < F.nets.length → p2 = ⟨nb, no + (k + 1) * 10, none⟩) := by
        by_cases hs : sc = k + 1
        · exact ⟨_, if_pos hs, fun h => by omega⟩
        · exact ⟨_, if_neg hs, fun _ => rfl⟩
      have HP2 : Hid (Value.slice (if sc = k + 1 then some ⟨nb, no, none⟩ else some ⟨nb, no + (k + 1) * 10, none⟩) (F.nets.length - (k + 1)) (sc - (k + 1)) = .slice (some p2) (F.nets.length - (k + 1)) (sc - (k + 1))) := by show _ = _; rw [hp2]
      clear hp2
      obtain ⟨v1, w1, hrun1, hx1, gg, gcap, w2', hrun2, hrow2, hg2, hx2⟩ := less_shots (c1 := sc) (c2 := sc - (k + 1)) (p2 := p2) (HX9.out.trans hxd) HEN.out.2.2 hkl (by omega) hpe
      have hxa : Ext wd (wd.alloc (.cells #[] 58)) := (Ext.refl _).alloc _
      have HR1 := hid hrun1
      have HR2 := hid hrun2
      have HXX := hid (And.intro hxd (And.intro hxa (And.intro hx1 hx2)))
      have HSV := hid hrow2
      clear hpe hrun1 hrun2 hrow2 hx1 hx2 hxa hxd c0 c1
      refine jj_own 13 [] (fewJ wd (wd.alloc (.cells #[] 58)) w1 w2') (by kernel_rfl) (by kernel_rfl) (hwd ▸ fewJ_start _ _ _ _) ?_
      simp only [List.take_succ_cons, List.take_zero, List.drop_succ_cons, List.drop_zero]
      clear hwd
      refine jj_fun (v := .slice (some ⟨wd.heap.size, 0, none⟩) 0 0) (by decide) ?_ ?_
      · intro L x u hL hd hJ
        obtain ⟨rfl, hJ2⟩ := fewJ_0 hJ hL
        have HJ := hid hJ2
        clear hJ hJ2 hd hL
        go_simp
        exact HJ.out
      simp only [Act.put, List.setIfInBounds_toArray, List.set_cons_succ, List.set_cons_zero]
      apply jj_fun (by decide)
      · intro L x u hL hd hJ
        have HJ := hid hJ
        clear hJ hd hL
        go_simp
        exact ⟨rfl, HJ.out⟩
      simp only [Act.put, List.setIfInBounds_toArray, List.set_cons_succ, List.set_cons_zero]
      apply jj_fun (by decide)
      · intro L x u hL hd hJ
        have c0 := cell_of ((HXX.out.1.trans (fewJ_ext hJ HXX.out.2.1 HXX.out.2.2.1 HXX.out.2.2.2)).block HB9.out)
        have HJ := hid hJ
        clear hJ hd hL
        go_simp
        exact ⟨rfl, HJ.out⟩
      simp only [Act.put, List.setIfInBounds_toArray, List.set_cons_succ, List.set_cons_zero]
      apply jj_fun (by decide)
      · intro L x u hL hd hJ
        have HJ := hid hJ
        clear hJ hd hL
        go_simp
        exact ⟨rfl, HJ.out⟩
      simp only [Act.put, List.setIfInBounds_toArray, List.set_cons_succ, List.set_cons_zero]
      apply jj_fun (by decide)
      · intro L x u hL hd hJ
        have hk1 : k ≤ sc := by omega
        have hk2 : (k : Int) ≤ sc := by omega
        have HJ := hid hJ
        clear hJ hd hL
        go_simp
        exact ⟨rfl, HJ.out⟩
      simp only [Act.put, List.setIfInBounds_toArray, List.set_cons_succ, List.set_cons_zero]
      refine jj_fun (v := v1) (by decide) ?_ ?_
      · intro L x u hL hd hJ
        obtain ⟨rfl, hJ2⟩ := fewJ_5 hJ (hd.1 rfl) hL
        rw [if_pos (show Region.wanted _ _ = true from rfl)]
        exact gives_append (.tmp 52) (.tmp 56) 38 rfl rfl rfl HR1.out ⟨⟨rfl, hJ2⟩, trivial⟩
      simp only [Act.put, List.setIfInBounds_toArray, List.set_cons_succ, List.set_cons_zero]
      apply jj_fun (by decide)
      · intro L x u hL hd hJ
        have HJ := hid hJ
        clear hJ hd hL
        go_simp
        exact ⟨rfl, HJ.out⟩
      simp only [Act.put, List.setIfInBounds_toArray, List.set_cons_succ, List.set_cons_zero]
      apply jj_fun (by decide)
      · intro L x u hL hd hJ
        have c0 := cell_of ((HXX.out.1.trans (fewJ_ext hJ HXX.out.2.1 HXX.out.2.2.1 HXX.out.2.2.2)).block HB9.out)
        have HJ := hid hJ
        clear hJ hd hL
        go_simp
        exact ⟨rfl, HJ.out⟩
      simp only [Act.put, List.setIfInBounds_toArray, List.set_cons_succ, List.set_cons_zero]
      apply jj_fun (by decide)
      · intro L x u hL hd hJ
        have HJ := hid hJ
        clear hJ hd hL
        go_simp
        exact ⟨rfl, HJ.out⟩
      simp only [Act.put, List.setIfInBounds_toArray, List.set_cons_succ, List.set_cons_zero]
      have hkw : IntKind.i64.wrap ((k : Int) + 1) = (k : Int) + 1 := by rw [IntKind.wrap_i64]; omega
      apply jj_fun (by decide)
      · intro L x u hL hd hJ
        have HJ := hid hJ
        clear hJ hd hL
        go_simp
        exact ⟨rfl, HJ.out⟩
      simp only [Act.put, List.setIfInBounds_toArray, List.set_cons_succ, List.set_cons_zero]
      apply jj_fun (by decide)
      · intro L x u hL hd hJ
        have hk1 : k + 1 ≤ F.nets.length := by omega
        have hk2 : (k : Int) + 1 ≤ F.nets.length := by omega
        have hk3 : (k : Int) < F.nets.length := by omega
        have HJ := hid hJ
        clear hJ hd hL
        go_simp
        exact ⟨rfl, HJ.out⟩
      simp only [Act.put, List.setIfInBounds_toArray, List.set_cons_succ, List.set_cons_zero]
      refine jj_fun (v := .slice (some ⟨gg, 0, none⟩) (F.nets.length - 1) gcap) (by decide) ?_ ?_
      · intro L x u hL hd hJ
        obtain ⟨rfl, hJ2⟩ := fewJ_11 hJ (hd.1 rfl) hL
        rw [if_pos (show Region.wanted _ _ = true from rfl)]
        exact gives_append (.tmp 57) (.tmp 62) 38 rfl rfl HP2.out HR2.out ⟨⟨rfl, hJ2⟩, trivial⟩
      simp only [Act.put, List.setIfInBounds_toArray, List.set_cons_succ, List.set_cons_zero]
      apply jj_fun (by decide)
      · intro L x u hL hd hJ
        have HJ := hid hJ
        clear hJ hd hL
        go_simp
        exact ⟨rfl, HJ.out⟩
      simp only [Act.put, List.setIfInBounds_toArray, List.set_cons_succ, List.set_cons_zero]
      refine jj_nil fun L x u hall hJ => ?_
      have hu2 := hJ.2.2.2.1 (hall 11 (by omega))
      clear hall hJ
      subst hu2
      have hxu : Ext w9 u := HXX.out.1.trans HXX.out.2.2.2
      have hk9 := hxu.block HK9.out
      have hb9 := hxu.block HB9.out
      have ck := cell_of hk9
      have fk := free_of hk9
      have hkk9 := lt_of_block HK9.out
      have hsz9 := HXX.out.1.size
      gi_upto_region 18 with fail
      have hku := set_same hk9 3 (.slice (some ⟨gg, 0, none⟩) (F.nets.length - 1) gcap)
      simp only [List.setIfInBounds_toArray, List.set_cons_succ, List.set_cons_zero] at hku
      have HKu := hid hku
      have HXu := hid ((HX9.out.trans hxu).set (b := KB) (by omega) 3 (.slice (some ⟨gg, 0, none⟩) (F.nets.length - 1) gcap))
      have HBu := hid ((set_other (show w.heap.size ≠ KB by omega) 3 (.slice (some ⟨gg, 0, none⟩) (F.nets.length - 1) gcap)).trans hb9)
      have HEu := hid ((HE9.out.mono hxu).set (g := KB) (fun e => by have : eg = KB := Option.some.inj e; omega) 3 (.slice (some ⟨gg, 0, none⟩) (F.nets.length - 1) gcap))
      have hnl : (F.nets.take k ++ F.nets.drop (k + 1)).length = F.nets.length - 1 := by simp; omega
      have HSu := hid (HSV.out.set (g := KB) (fun e => by have : gg = KB := Option.some.inj e; omega) 3 (.slice (some ⟨gg, 0, none⟩) (F.nets.length - 1) gcap))
      clear ck fk hku hxu hk9 hb9 HX9 HK9 HB9 HN9 HE9 HS9 HY9 HSV HR1 HR2 HXX
      generalize u.setCell ⟨KB, 3, none⟩ (.slice (some ⟨gg, 0, none⟩) (F.nets.length - 1) gcap) = wu at *
      have HFX := hid (fun (u : World) (hu : Ext wu u) => (by
        rw [HXE.out]
        refine ⟨_, _, _, rfl, spans56_row (HEu.out.mono hu) (show F.east.length ≤ 1000 by omega), HEN.out.2.1.mono (HXu.out.trans hu), nets_row (l := F.nets.take k ++ F.nets.drop (k + 1)) ?_ (by omega)⟩
        rw [hnl]
        exact HSu.out.mono hu : FlAt u (.agg #[.slice (some ⟨eg, 0, none⟩) F.east.length ecap, .slice na F.north.length nc, .int .i64 F.gap, .slice (some ⟨gg, 0, none⟩) (F.nets.length - 1) gcap]) (lessF F 3 h k n3)))
      clear HEu HSu HXE hnl
      obtain ⟨a, b, c, fe, a', b', c', fe', q1, q2, hq⟩ := fewer_facts hF HLS.out.1 HLS.out.2
      have HC1 := hid (fun (u : World) (hu : Ext w u) => Can_c F _ u (HF.out u hu))
      have HC2 := hid (fun (u : World) (hu : Ext wu u) => Can_c (lessF F 3 h k n3) _ u (HFX.out u hu))
      rw [q1.1, q1.2] at HC1
      rw [q2.1, q2.2] at HC2
      clear q1 q2 HLS HFX
      have c0 := cell_of HBu.out
      gi_upto_region 19 with (gi_at_call 21; ((with_reducible refine (HC1.out _ HXu.out).mono ?_); rintro e w11 ⟨rfl, hx11⟩))
      have hxa : Ext wu (w11.alloc (.cells #[.int .i64 a, .int .i64 b, .int .i64 c] 43)) := hx11.alloc _
      have HX12 := hid (HXu.out.trans hxa)
      have HK12 := hid (hxa.block HKu.out)
      have HJ12 : Hid ((w11.alloc (.cells #[.int .i64 a, .int .i64 b, .int .i64 c] 43)).heap[w11.heap.size]? = some (.cells #[.int .i64 a, .int .i64 b, .int .i64 c] 43 (0, 0))) := Ext.new (Ext.refl _)
      have HU12 := hid hxa
      clear c0 hxa hx11 HXu HKu HBu
      obtain ⟨S1, hS1⟩ : ∃ n, n = w11.heap.size := ⟨_, rfl⟩
      rw [← hS1] at HJ12 ⊢
      clear hS1
      generalize w11.alloc (.cells #[.int .i64 a, .int .i64 b, .int .i64 c] 43) = w12 at *
      have ck := cell_of HK12.out
      gi_upto_region 20 with (gi_at_call 21; ((with_reducible refine (HC2.out _ HU12.out).mono ?_); rintro e w13 ⟨rfl, hx13⟩))
      have hxa : Ext w12 (w13.alloc (.cells #[.int .i64 a', .int .i64 b', .int .i64 c'] 43)) := hx13.alloc _
      have HX14 := hid (HX12.out.trans hxa)
      have HJ14 := hid (hxa.block HJ12.out)
      have HL14 : Hid ((w13.alloc (.cells #[.int .i64 a', .int .i64 b', .int .i64 c'] 43)).heap[w13.heap.size]? = some (.cells #[.int .i64 a', .int .i64 b', .int .i64 c'] 43 (0, 0))) := Ext.new (Ext.refl _)
      clear ck hxa hx13 HX12 HK12 HJ12 HU12 HC1 HC2
      obtain ⟨S2, hS2⟩ : ∃ n, n = w13.heap.size := ⟨_, rfl⟩
      rw [← hS2] at HL14 ⊢
      clear hS2
      generalize w13.alloc (.cells #[.int .i64 a', .int .i64 b', .int .i64 c'] 43) = w14 at *
      have m1 := cell_of HJ14.out
      have m2 := cell_of HL14.out
      rcases hq with ⟨rfl, rfl | rfl⟩ | ⟨rfl, rfl, hle⟩
      · gi_wp2_with (gi_at_call 19; ((with_reducible refine (works_any _).mono ?_); rintro e w99 ⟨rfl, hx99⟩))
        all_goals (go_ret; exact ⟨rfl, HX14.out.trans hx99⟩)
      · gi_wp2_with (gi_at_call 19; ((with_reducible refine (works_any _).mono ?_); rintro e w99 ⟨rfl, hx99⟩))
        all_goals (go_ret; exact ⟨rfl, HX14.out.trans hx99⟩)
      · have hd : decide (a ≤ a') = true := decide_eq_true hle
        clear hle
        gi_wp2_with (gi_at_call 19; ((with_reducible refine (works_any _).mono ?_); rintro e w99 ⟨rfl, hx99⟩))
        all_goals (go_ret; exact ⟨rfl, HX14.out.trans hx99⟩)
    · have hl2 : decide ((F.nets.length : Int) > 1) = false := decide_eq_false (by omega)
      have HXE := hid (HXE1.out (by omega))
      gi_upto_region 18 with fail
      have HKu := HK9
      have HXu := HX9
      have HBu := HB9
      have HFX := hid (fun (u : World) (hu : Ext w9 u) => (by
        rw [HXE.out]
        exact ⟨_, _, _, rfl, spans56_row (HE9.out.mono hu) (show F.east.length ≤ 1000 by omega), HEN.out.2.1.mono (HX9.out.trans hu), nets_row (HS9.out.mono hu) (show F.nets.length ≤ 1000 by omega)⟩ : FlAt u (.agg #[.slice (some ⟨eg, 0, none⟩) F.east.length ecap, .slice na F.north.length nc, .int .i64 F.gap, .slice (some ⟨sg, 0, none⟩) F.nets.length scap]) (lessF F 3 h k n3)))
      clear HE9 HS9 HX9 HK9 HB9 HN9 HY9 HXE c0 c1
      generalize w9 = wu at *
      obtain ⟨a, b, c, fe, a', b', c', fe', q1, q2, hq⟩ := fewer_facts hF HLS.out.1 HLS.out.2
      have HC1 := hid (fun (u : World) (hu : Ext w u) => Can_c F _ u (HF.out u hu))
      have HC2 := hid (fun (u : World) (hu : Ext wu u) => Can_c (lessF F 3 h k n3) _ u (HFX.out u hu))
      rw [q1.1, q1.2] at HC1
      rw [q2.1, q2.2] at HC2
      clear q1 q2 HLS HFX
      have c0 := cell_of HBu.out
      gi_upto_region 19 with (gi_at_call 21; ((with_reducible refine (HC1.out _ HXu.out).mono ?_); rintro e w11 ⟨rfl, hx11⟩))
      have hxa : Ext wu (w11.alloc (.cells #[.int .i64 a, .int .i64 b, .int .i64 c] 43)) := hx11.alloc _
      have HX12 := hid (HXu.out.trans hxa)
      have HK12 := hid (hxa.block HKu.out)
      have HJ12 : Hid ((w11.alloc (.cells #[.int .i64 a, .int .i64 b, .int .i64 c] 43)).heap[w11.heap.size]? = some (.cells #[.int .i64 a, .int .i64 b, .int .i64 c] 43 (0, 0))) := Ext.new (Ext.refl _)
      have HU12 := hid hxa
      clear c0 hxa hx11 HXu HKu HBu
      obtain ⟨S1, hS1⟩ : ∃ n, n = w11.heap.size := ⟨_, rfl⟩
      rw [← hS1] at HJ12 ⊢
      clear hS1
      generalize w11.alloc (.cells #[.int .i64 a, .int .i64 b, .int .i64 c] 43) = w12 at *
      have ck := cell_of HK12.out
      gi_upto_region 20 with (gi_at_call 21; ((with_reducible refine (HC2.out _ HU12.out).mono ?_); rintro e w13 ⟨rfl, hx13⟩))
      have hxa : Ext w12 (w13.alloc (.cells #[.int .i64 a', .int .i64 b', .int .i64 c'] 43)) := hx13.alloc _
      have HX14 := hid (HX12.out.trans hxa)
      have HJ14 := hid (hxa.block HJ12.out)
      have HL14 : Hid ((w13.alloc (.cells #[.int .i64 a', .int .i64 b', .int .i64 c'] 43)).heap[w13.heap.size]? = some (.cells #[.int .i64 a', .int .i64 b', .int .i64 c'] 43 (0, 0))) := Ext.new (Ext.refl _)
      clear ck hxa hx13 HX12 HK12 HJ12 HU12 HC1 HC2
      obtain ⟨S2, hS2⟩ : ∃ n, n = w13.heap.size := ⟨_, rfl⟩
      rw [← hS2] at HL14 ⊢
      clear hS2
      generalize w13.alloc (.cells #[.int .i64 a', .int .i64 b', .int .i64 c'] 43) = w14 at *
      have m1 := cell_of HJ14.out
      have m2 := cell_of HL14.out
      rcases hq with ⟨rfl, rfl | rfl⟩ | ⟨rfl, rfl, hle⟩
      · gi_wp2_with (gi_at_call 19; ((with_reducible refine (works_any _).mono ?_); rintro e w99 ⟨rfl, hx99⟩))
        all_goals (go_ret; exact ⟨rfl, HX14.out.trans hx99⟩)
      · gi_wp2_with (gi_at_call 19; ((with_reducible refine (works_any _).mono ?_); rintro e w99 ⟨rfl, hx99⟩))
        all_goals (go_ret; exact ⟨rfl, HX14.out.trans hx99⟩)
      · have hd : decide (a ≤ a') = true := decide_eq_true hle
        clear hle
        gi_wp2_with (gi_at_call 19; ((with_reducible refine (works_any _).mono ?_); rintro e w99 ⟨rfl, hx99⟩))
        all_goals (go_ret; exact ⟨rfl, HX14.out.trans hx99⟩)

end Go.Proofs.Ytmjelgonhpgmbaa
