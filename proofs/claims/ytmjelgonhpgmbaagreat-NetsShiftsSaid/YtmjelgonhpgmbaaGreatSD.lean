/- The reference: the check. -/
import Derived.Test.YtmjelgonhpgmbaaGreatSC
import Derived.Test.YtmjelgonhpgmbaaGreatME
set_option linter.unusedSimpArgs false
set_option linter.unusedVariables false
namespace Go.Proofs.YtmjelgonhpgmbaaGreat
open Go Go.RowKit Go.Shelf

theorem info63 : (Tryz.prog.info? 63).map (·.size) = some 10 := by kernel_rfl
theorem spans2 (a b : Spn) : spansB 50 [a, b] = (spanB 50 a && spanB 50 b) := by
  unfold spansB
  show allTo (spanGood 50 [a, b]) 2 = _
  rw [allTo_succ, allTo_succ, allTo_zero]
  rfl
theorem in01 (a : Int) : inB a 0 1 = (a == 0 || a == 1) := by
  unfold inB
  by_cases h0 : a = 0
  · subst h0; rfl
  by_cases h1 : a = 1
  · subst h1; rfl
  have : (a == 0) = false := by simpa using h0
  have : (a == 1) = false := by simpa using h1
  by_cases h2 : 0 ≤ a <;> by_cases h3 : a ≤ 1 <;> simp [*] <;> omega
theorem net_ref (me mn ml ma ms mh se1 se2 sn1 sn2 H : Int) : netB ⟨me, mn, ml, ma, ms, mh, ⟨se1, se2⟩, ⟨sn1, sn2⟩⟩ H = (inB me (-10000) 10000 && (inB mn (-10000) 10000 && (inB ml 0 2000 && (inB ma 0 1 && (inB ms 0 (H - 1) && (inB mh ms H && (spdB ⟨se1, se2⟩ (-50) 50 && spdB ⟨sn1, sn2⟩ (-50) 50))))))) := by
  unfold netB
  simp only [spans2, in01, spdB_spanB]
theorem chk_20 {F : FleetD} (h : fleetB F = false) : checkE F = 20 := by unfold checkE; rw [h]; rfl
theorem chk_0 {F : FleetD} (h : fleetB F = true) : checkE F = 0 := by unfold checkE; rw [h]; rfl
theorem fl_assoc (F : FleetD) : fleetB F = (inB F.east.length 1 24 && (spansB 200 F.east && (((F.north.length == F.east.length) && spansB 200 F.north) && (inB F.gap 0 500 && (inB F.nets.length 1 6 && allTo (netGood F) F.nets.length))))) := by
  unfold fleetB
  generalize inB F.east.length 1 24 = a
  generalize (F.north.length == F.east.length) = b
  generalize spansB 200 F.east = c
  generalize spansB 200 F.north = d
  cases a <;> cases b <;> cases c <;> cases d <;> rfl
set_option maxRecDepth 100000 in
set_option maxHeartbeats 8000000 in
theorem Check_z (F : FleetD) (ev nv sv : Value) (w : World) (he : SpansAt w ev F.east) (hn : SpansAt w nv F.north) (hs : ShotsAt w sv F.nets) : Cal 9 #[.agg #[ev, nv, .int .i64 F.gap, sv]] w fun e w' => e = .returned (.int .i64 (checkE F)) ∧ Ext w w' := by
  have HE := hid he
  have HN := hid hn
  obtain ⟨ea, ec, rfl, ⟨hec, hel⟩, _⟩ := he
  obtain ⟨na, nc, rfl, ⟨hnc, hnl⟩, _⟩ := hn
  obtain ⟨sa, sc, rfl, ⟨hsc, hsl⟩, hcs⟩ := hs
  have HCS := hid hcs
  clear hcs
  gi_enter Tryz.func9, Tryz.ntmps9
  gi_upto_region 1 with fail
  have hW : Ext w (w.alloc (.cells #[.slice ea F.east.length ec, .slice na F.north.length nc, .int .i64 F.gap, .slice sa F.nets.length sc] 25)) := (Ext.refl _).alloc _
  have hB0 : (w.alloc (.cells #[.slice ea F.east.length ec, .slice na F.north.length nc, .int .i64 F.gap, .slice sa F.nets.length sc] 25)).heap[w.heap.size]? = some (.cells #[.slice ea F.east.length ec, .slice na F.north.length nc, .int .i64 F.gap, .slice sa F.nets.length sc] 25 (0, 0)) := Ext.new (Ext.refl _)
  generalize (w.alloc (.cells #[.slice ea F.east.length ec, .slice na F.north.length nc, .int .i64 F.gap, .slice sa F.nets.length sc] 25)) = W at *
  have HX := hid hW
  have HB0 := hid hB0
  have c0 := cell_of hB0
  clear hW hB0

  have HFE := hid (fun (u : World) (hu : Ext W u) => flows_any F.east F.east.length _ u (HE.out.mono (HX.out.trans hu)))
  have HFN := hid (fun (u : World) (hu : Ext W u) => flows_any F.north F.east.length _ u (HN.out.mono (HX.out.trans hu)))
  simp only [beq_self_eq_true, Bool.true_and] at HFE
  cases h1 : inB F.east.length 1 24
  case false =>
    have HG : Hid (fleetB F = false) := by show fleetB F = _; rw [fl_assoc]; simp only [h1, Bool.false_and, Bool.and_false, Bool.true_and]
    skip
    gi_upto_region 3 with (gi_at_call 28; ((with_reducible refine ((rin_b h1 _)).mono ?_); rintro e w1 ⟨rfl, rfl⟩))
    gi_wp2_with fail
    gi_loopw [4, 5] (fun o i wr => o = .bool false ∧ i = .int .i64 0 ∧ Ext w wr ∧ wr.heap[w.heap.size]? = some (.cells #[.slice ea F.east.length ec, .slice na F.north.length nc, .int .i64 F.gap, .slice sa F.nets.length sc] 25 (0, 0))) (fun _ _ _ => 0)
    case atStart => exact ⟨rfl, rfl, HX.out, HB0.out⟩
    case round =>
      obtain ⟨rfl, rfl, hx, hb⟩ := hrel
      have HXX := hid hx
      clear hx
      gi_wp2_with fail
      go_ret
      exact ⟨by rw [chk_20 HG.out]; first | done | rfl, HXX.out⟩
  cases h2 : spansB 200 F.east
  case false =>
    have HG : Hid (fleetB F = false) := by show fleetB F = _; rw [fl_assoc]; simp only [h1, h2, Bool.false_and, Bool.and_false, Bool.true_and]
    rw [h2] at HFE
    gi_upto_region 3 with (first | (gi_at_call 29; ((with_reducible refine ((HFE.out W (Ext.refl _))).mono ?_); rintro e w2 ⟨rfl, hx2⟩; have c0 := cell_of (hx2.block HB0.out); have HX2 := hid (HX.out.trans hx2))) | (gi_at_call 28; ((with_reducible refine ((rin_b h1 _)).mono ?_); rintro e w1 ⟨rfl, rfl⟩)))
    gi_wp2_with fail
    gi_loopw [4, 5] (fun o i wr => o = .bool false ∧ i = .int .i64 0 ∧ Ext w wr ∧ wr.heap[w.heap.size]? = some (.cells #[.slice ea F.east.length ec, .slice na F.north.length nc, .int .i64 F.gap, .slice sa F.nets.length sc] 25 (0, 0))) (fun _ _ _ => 0)
    case atStart => exact ⟨rfl, rfl, HX2.out, hx2.block HB0.out⟩
    case round =>
      obtain ⟨rfl, rfl, hx, hb⟩ := hrel
      have HXX := hid hx
      clear hx
      gi_wp2_with fail
      go_ret
      exact ⟨by rw [chk_20 HG.out]; first | done | rfl, HXX.out⟩
  rw [h2] at HFE
  cases h3 : ((F.north.length == F.east.length) && spansB 200 F.north)
  case false =>
    have HG : Hid (fleetB F = false) := by show fleetB F = _; rw [fl_assoc]; simp only [h1, h2, h3, Bool.false_and, Bool.and_false, Bool.true_and]
    rw [h3] at HFN
    gi_upto_region 3 with (first | (have _ := hx2; gi_at_call 29; ((with_reducible refine ((HFN.out w2 hx2)).mono ?_); rintro e w3 ⟨rfl, hx3⟩; have c0 := cell_of ((hx2.trans hx3).block HB0.out); have HX3 := hid (HX.out.trans (hx2.trans hx3)))) | (gi_at_call 29; ((with_reducible refine ((HFE.out W (Ext.refl _))).mono ?_); rintro e w2 ⟨rfl, hx2⟩; have c0 := cell_of (hx2.block HB0.out); have HX2 := hid (HX.out.trans hx2))) | (gi_at_call 28; ((with_reducible refine ((rin_b h1 _)).mono ?_); rintro e w1 ⟨rfl, rfl⟩)))
    gi_wp2_with fail
    gi_loopw [4, 5] (fun o i wr => o = .bool false ∧ i = .int .i64 0 ∧ Ext w wr ∧ wr.heap[w.heap.size]? = some (.cells #[.slice ea F.east.length ec, .slice na F.north.length nc, .int .i64 F.gap, .slice sa F.nets.length sc] 25 (0, 0))) (fun _ _ _ => 0)
    case atStart => exact ⟨rfl, rfl, HX3.out, (hx2.trans hx3).block HB0.out⟩
    case round =>
      obtain ⟨rfl, rfl, hx, hb⟩ := hrel
      have HXX := hid hx
      clear hx
      gi_wp2_with fail
      go_ret
      exact ⟨by rw [chk_20 HG.out]; first | done | rfl, HXX.out⟩
  rw [h3] at HFN
  cases h4 : inB F.gap 0 500
  case false =>
    have HG : Hid (fleetB F = false) := by show fleetB F = _; rw [fl_assoc]; simp only [h1, h2, h3, h4, Bool.false_and, Bool.and_false, Bool.true_and]
    skip
    gi_upto_region 3 with (first | (have _ := hx2; gi_at_call 29; ((with_reducible refine ((HFN.out w2 hx2)).mono ?_); rintro e w3 ⟨rfl, hx3⟩; have c0 := cell_of ((hx2.trans hx3).block HB0.out); have HX3 := hid (HX.out.trans (hx2.trans hx3)))) | (gi_at_call 29; ((with_reducible refine ((HFE.out W (Ext.refl _))).mono ?_); rintro e w2 ⟨rfl, hx2⟩; have c0 := cell_of (hx2.block HB0.out); have HX2 := hid (HX.out.trans hx2))) | (gi_at_call 28; ((with_reducible refine ((rin_b h1 _)).mono ?_); rintro e w1 ⟨rfl, rfl⟩)) | (gi_at_call 28; ((with_reducible refine ((rin_b h4 _)).mono ?_); rintro e w1 ⟨rfl, rfl⟩)))
    gi_wp2_with fail
    gi_loopw [4, 5] (fun o i wr => o = .bool false ∧ i = .int .i64 0 ∧ Ext w wr ∧ wr.heap[w.heap.size]? = some (.cells #[.slice ea F.east.length ec, .slice na F.north.length nc, .int .i64 F.gap, .slice sa F.nets.length sc] 25 (0, 0))) (fun _ _ _ => 0)
    case atStart => exact ⟨rfl, rfl, HX3.out, (hx2.trans hx3).block HB0.out⟩
    case round =>
      obtain ⟨rfl, rfl, hx, hb⟩ := hrel
      have HXX := hid hx
      clear hx
      gi_wp2_with fail
      go_ret
      exact ⟨by rw [chk_20 HG.out]; first | done | rfl, HXX.out⟩
  cases h5 : inB (F.nets.length : Int) 1 6
  case false =>
    have HG : Hid (fleetB F = false) := by show fleetB F = _; rw [fl_assoc]; simp only [h1, h2, h3, h4, h5, Bool.false_and, Bool.and_false, Bool.true_and]
    skip
    gi_upto_region 3 with (first | (have _ := hx2; gi_at_call 29; ((with_reducible refine ((HFN.out w2 hx2)).mono ?_); rintro e w3 ⟨rfl, hx3⟩; have c0 := cell_of ((hx2.trans hx3).block HB0.out); have HX3 := hid (HX.out.trans (hx2.trans hx3)))) | (gi_at_call 29; ((with_reducible refine ((HFE.out W (Ext.refl _))).mono ?_); rintro e w2 ⟨rfl, hx2⟩; have c0 := cell_of (hx2.block HB0.out); have HX2 := hid (HX.out.trans hx2))) | (gi_at_call 28; ((with_reducible refine ((rin_b h1 _)).mono ?_); rintro e w1 ⟨rfl, rfl⟩)) | (gi_at_call 28; ((with_reducible refine ((rin_b h4 _)).mono ?_); rintro e w1 ⟨rfl, rfl⟩)) | (gi_at_call 28; ((with_reducible refine ((rin_b h5 _)).mono ?_); rintro e w1 ⟨rfl, rfl⟩)))
    gi_wp2_with fail
    gi_loopw [4, 5] (fun o i wr => o = .bool false ∧ i = .int .i64 0 ∧ Ext w wr ∧ wr.heap[w.heap.size]? = some (.cells #[.slice ea F.east.length ec, .slice na F.north.length nc, .int .i64 F.gap, .slice sa F.nets.length sc] 25 (0, 0))) (fun _ _ _ => 0)
    case atStart => exact ⟨rfl, rfl, HX3.out, (hx2.trans hx3).block HB0.out⟩
    case round =>
      obtain ⟨rfl, rfl, hx, hb⟩ := hrel
      have HXX := hid hx
      clear hx
      gi_wp2_with fail
      go_ret
      exact ⟨by rw [chk_20 HG.out]; first | done | rfl, HXX.out⟩

  have HG : Hid (fleetB F = allTo (netGood F) F.nets.length) := by show fleetB F = _; rw [fl_assoc]; simp only [h3, h1, h2, h4, h5, Bool.true_and]
  have hwr : wrap64 ((F.east.length : Int) - 1) = (F.east.length : Int) - 1 := by have := inB_spec h1; unfold wrap64; omega
  gi_upto_region 3 with (first | (have _ := hx2; gi_at_call 29; ((with_reducible refine ((HFN.out w2 hx2)).mono ?_); rintro e w3 ⟨rfl, hx3⟩; have c0 := cell_of ((hx2.trans hx3).block HB0.out); have HX3 := hid (HX.out.trans (hx2.trans hx3)))) | (gi_at_call 29; ((with_reducible refine ((HFE.out W (Ext.refl _))).mono ?_); rintro e w2 ⟨rfl, hx2⟩; have c0 := cell_of (hx2.block HB0.out); have HX2 := hid (HX.out.trans hx2))) | (gi_at_call 28; ((with_reducible refine ((rin_b h1 _)).mono ?_); rintro e w1 ⟨rfl, rfl⟩)) | (gi_at_call 28; ((with_reducible refine ((rin_b h4 _)).mono ?_); rintro e w1 ⟨rfl, rfl⟩)) | (gi_at_call 28; ((with_reducible refine ((rin_b h5 _)).mono ?_); rintro e w1 ⟨rfl, rfl⟩)))
  gi_wp2_with fail
  have HB3 := hid ((hx2.trans hx3).block HB0.out)
  clear h1 h2 h3 h4 h5 HFE HFN c0 HE HN
  gi_loopw [4, 5] (fun o i wr => ∃ k : Nat, k ≤ F.nets.length ∧ i = .int .i64 k ∧ o = .bool (allTo (netGood F) k) ∧ Hid (Ext w wr ∧ wr.heap[w.heap.size]? = some (.cells #[.slice ea F.east.length ec, .slice na F.north.length nc, .int .i64 F.gap, .slice sa F.nets.length sc] 25 (0, 0)))) (fun _ i _ => F.nets.length - (intOf i).toNat)
  case atStart => exact ⟨0, Nat.zero_le _, rfl, rfl, HX3.out, HB3.out⟩
  case round =>
    obtain ⟨k, hk, rfl, rfl, HR⟩ := hrel
    have c0 := cell_of HR.out.2
    cases hok : allTo (netGood F) k
    case false =>
      have HT := hid (allTo_stop hk hok)
      clear hok
      gi_wp2_with fail
      go_ret
      exact ⟨by rw [chk_20 (HG.out.trans HT.out)]; first | done | rfl, HR.out.1⟩
    case true =>
      by_cases hlt : k < F.nets.length
      · obtain ⟨b, off, rfl, hb, d0, d1, d2, d3, d4, d5, d6, d7, d8, d9⟩ := HCS.out k hlt
        rw [← HR.out.1.cell (p := ⟨b, _, none⟩) hb] at d0 d1 d2 d3 d4 d5 d6 d7 d8 d9
        have hki : (k : Int) < F.nets.length := by omega
        have HT : Hid (allTo (netGood F) (k + 1) = netB F.nets[k] F.east.length) := by show _ = _; rw [allTo_succ, hok, netGood_eq hlt]; rfl
        clear hok
        generalize F.nets[k] = m at *
        obtain ⟨me, mn, ml, ma, ms, mh, ⟨se1, se2⟩, ⟨sn1, sn2⟩⟩ := m
        rw [net_ref] at HT
        simp only at d0 d1 d2 d3 d4 d5 d6 d7 d8 d9
        gi_upto_region 7 with (refine wpIn_store_fresh (fun _ => trivial) 63 (.tmp 6) (.tmp 49) rfl (W := wr) (c' := #[.int .i64 me, .int .i64 mn, .int .i64 ml, .int .i64 ma, .int .i64 ms, .int .i64 mh, .int .i64 se1, .int .i64 se2, .int .i64 sn1, .int .i64 sn2]) rfl rfl rfl info63 rfl (by kernel_rfl) ?_)
        have hxm : Ext wr (wr.alloc (.cells #[.int .i64 me, .int .i64 mn, .int .i64 ml, .int .i64 ma, .int .i64 ms, .int .i64 mh, .int .i64 se1, .int .i64 se2, .int .i64 sn1, .int .i64 sn2] 63)) := (Ext.refl _).alloc _
        have hm : (wr.alloc (.cells #[.int .i64 me, .int .i64 mn, .int .i64 ml, .int .i64 ma, .int .i64 ms, .int .i64 mh, .int .i64 se1, .int .i64 se2, .int .i64 sn1, .int .i64 sn2] 63)).heap[wr.heap.size]? = some (.cells #[.int .i64 me, .int .i64 mn, .int .i64 ml, .int .i64 ma, .int .i64 ms, .int .i64 mh, .int .i64 se1, .int .i64 se2, .int .i64 sn1, .int .i64 sn2] 63 (0, 0)) := Ext.new (Ext.refl _)
        clear d0 d1 d2 d3 d4 d5 d6 d7 d8 d9 c0
        generalize wr.alloc (.cells #[.int .i64 me, .int .i64 mn, .int .i64 ml, .int .i64 ma, .int .i64 ms, .int .i64 mh, .int .i64 se1, .int .i64 se2, .int .i64 sn1, .int .i64 sn2] 63) = W2 at *
        have HM := hid hm
        have HXM := hid (HR.out.1.trans hxm)
        have HB4 := hid (hxm.block HR.out.2)
        have HS1 := hid (fun u => spanned_any se1 se2 (-50) 50 u)
        have HS2 := hid (fun u => spanned_any sn1 sn2 (-50) 50 u)
        have d := cell_of hm
        clear hm hxm HR
        cases g1 : inB me (-10000) 10000
        case false =>
          have HQ : Hid (allTo (netGood F) (k + 1) = false) := by show _ = _; rw [HT.out]; simp only [g1, Bool.false_and, Bool.and_false, Bool.true_and, Bool.and_true]
          clear HT
          gi_wp2_with (gi_at_call 28; ((with_reducible refine ((rin_b g1 _)).mono ?_); rintro e w1 ⟨rfl, rfl⟩))
          go_roundw
          case rel => exact ⟨k + 1, by omega, rfl, by rw [HQ.out], HXM.out, HB4.out⟩
          case measure => simp [intOf]; omega
        cases g2 : inB mn (-10000) 10000
        case false =>
          have HQ : Hid (allTo (netGood F) (k + 1) = false) := by show _ = _; rw [HT.out]; simp only [g1, g2, Bool.false_and, Bool.and_false, Bool.true_and, Bool.and_true]
          clear HT
          gi_wp2_with (first | (gi_at_call 28; ((with_reducible refine ((rin_b g1 _)).mono ?_); rintro e w1 ⟨rfl, rfl⟩)) | (gi_at_call 28; ((with_reducible refine ((rin_b g2 _)).mono ?_); rintro e w1 ⟨rfl, rfl⟩)))
          go_roundw
          case rel => exact ⟨k + 1, by omega, rfl, by rw [HQ.out], HXM.out, HB4.out⟩
          case measure => simp [intOf]; omega
        cases g3 : inB ml 0 2000
        case false =>
          have HQ : Hid (allTo (netGood F) (k + 1) = false) := by show _ = _; rw [HT.out]; simp only [g1, g2, g3, Bool.false_and, Bool.and_false, Bool.true_and, Bool.and_true]
          clear HT
          gi_wp2_with (first | (gi_at_call 28; ((with_reducible refine ((rin_b g1 _)).mono ?_); rintro e w1 ⟨rfl, rfl⟩)) | (gi_at_call 28; ((with_reducible refine ((rin_b g2 _)).mono ?_); rintro e w1 ⟨rfl, rfl⟩)) | (gi_at_call 28; ((with_reducible refine ((rin_b g3 _)).mono ?_); rintro e w1 ⟨rfl, rfl⟩)))
          go_roundw
          case rel => exact ⟨k + 1, by omega, rfl, by rw [HQ.out], HXM.out, HB4.out⟩
          case measure => simp [intOf]; omega
        cases g4 : inB ma 0 1
        case false =>
          have HQ : Hid (allTo (netGood F) (k + 1) = false) := by show _ = _; rw [HT.out]; simp only [g1, g2, g3, g4, Bool.false_and, Bool.and_false, Bool.true_and, Bool.and_true]
          clear HT
          gi_wp2_with (first | (gi_at_call 28; ((with_reducible refine ((rin_b g1 _)).mono ?_); rintro e w1 ⟨rfl, rfl⟩)) | (gi_at_call 28; ((with_reducible refine ((rin_b g2 _)).mono ?_); rintro e w1 ⟨rfl, rfl⟩)) | (gi_at_call 28; ((with_reducible refine ((rin_b g3 _)).mono ?_); rintro e w1 ⟨rfl, rfl⟩)) | (gi_at_call 28; ((with_reducible refine ((rin_b g4 _)).mono ?_); rintro e w1 ⟨rfl, rfl⟩)))
          go_roundw
          case rel => exact ⟨k + 1, by omega, rfl, by rw [HQ.out], HXM.out, HB4.out⟩
          case measure => simp [intOf]; omega
        cases g5 : inB ms 0 ((F.east.length : Int) - 1)
        case false =>
          have HQ : Hid (allTo (netGood F) (k + 1) = false) := by show _ = _; rw [HT.out]; simp only [g1, g2, g3, g4, g5, Bool.false_and, Bool.and_false, Bool.true_and, Bool.and_true]
          clear HT
          gi_wp2_with (first | (gi_at_call 28; ((with_reducible refine ((rin_b g1 _)).mono ?_); rintro e w1 ⟨rfl, rfl⟩)) | (gi_at_call 28; ((with_reducible refine ((rin_b g2 _)).mono ?_); rintro e w1 ⟨rfl, rfl⟩)) | (gi_at_call 28; ((with_reducible refine ((rin_b g3 _)).mono ?_); rintro e w1 ⟨rfl, rfl⟩)) | (gi_at_call 28; ((with_reducible refine ((rin_b g4 _)).mono ?_); rintro e w1 ⟨rfl, rfl⟩)) | (gi_at_call 28; ((with_reducible refine ((rin_b g5 _)).mono ?_); rintro e w1 ⟨rfl, rfl⟩)))
          go_roundw
          case rel => exact ⟨k + 1, by omega, rfl, by rw [HQ.out], HXM.out, HB4.out⟩
          case measure => simp [intOf]; omega
        cases g6 : inB mh ms (F.east.length : Int)
        case false =>
          have HQ : Hid (allTo (netGood F) (k + 1) = false) := by show _ = _; rw [HT.out]; simp only [g1, g2, g3, g4, g5, g6, Bool.false_and, Bool.and_false, Bool.true_and, Bool.and_true]
          clear HT
          gi_wp2_with (first | (gi_at_call 28; ((with_reducible refine ((rin_b g1 _)).mono ?_); rintro e w1 ⟨rfl, rfl⟩)) | (gi_at_call 28; ((with_reducible refine ((rin_b g2 _)).mono ?_); rintro e w1 ⟨rfl, rfl⟩)) | (gi_at_call 28; ((with_reducible refine ((rin_b g3 _)).mono ?_); rintro e w1 ⟨rfl, rfl⟩)) | (gi_at_call 28; ((with_reducible refine ((rin_b g4 _)).mono ?_); rintro e w1 ⟨rfl, rfl⟩)) | (gi_at_call 28; ((with_reducible refine ((rin_b g5 _)).mono ?_); rintro e w1 ⟨rfl, rfl⟩)) | (gi_at_call 28; ((with_reducible refine ((rin_b g6 _)).mono ?_); rintro e w1 ⟨rfl, rfl⟩)))
          go_roundw
          case rel => exact ⟨k + 1, by omega, rfl, by rw [HQ.out], HXM.out, HB4.out⟩
          case measure => simp [intOf]; omega
        cases g7 : spdB ⟨se1, se2⟩ (-50) 50
        case false =>
          have HQ : Hid (allTo (netGood F) (k + 1) = false) := by show _ = _; rw [HT.out]; simp only [g1, g2, g3, g4, g5, g6, g7, Bool.false_and, Bool.and_false, Bool.true_and, Bool.and_true]
          clear HT
          rw [g7] at HS1
          gi_wp2_with (first | (gi_at_call 30; ((with_reducible refine ((HS1.out _)).mono ?_); rintro e w7 ⟨rfl, hx7⟩; have d := cell_of (hx7.block HM.out))) | (gi_at_call 28; ((with_reducible refine ((rin_b g1 _)).mono ?_); rintro e w1 ⟨rfl, rfl⟩)) | (gi_at_call 28; ((with_reducible refine ((rin_b g2 _)).mono ?_); rintro e w1 ⟨rfl, rfl⟩)) | (gi_at_call 28; ((with_reducible refine ((rin_b g3 _)).mono ?_); rintro e w1 ⟨rfl, rfl⟩)) | (gi_at_call 28; ((with_reducible refine ((rin_b g4 _)).mono ?_); rintro e w1 ⟨rfl, rfl⟩)) | (gi_at_call 28; ((with_reducible refine ((rin_b g5 _)).mono ?_); rintro e w1 ⟨rfl, rfl⟩)) | (gi_at_call 28; ((with_reducible refine ((rin_b g6 _)).mono ?_); rintro e w1 ⟨rfl, rfl⟩)))
          go_roundw
          case rel => exact ⟨k + 1, by omega, rfl, by rw [HQ.out], HXM.out.trans hx7, hx7.block HB4.out⟩
          case measure => simp [intOf]; omega
        cases g8 : spdB ⟨sn1, sn2⟩ (-50) 50
        case false =>
          have HQ : Hid (allTo (netGood F) (k + 1) = false) := by show _ = _; rw [HT.out]; simp only [g1, g2, g3, g4, g5, g6, g7, g8, Bool.false_and, Bool.and_false, Bool.true_and, Bool.and_true]
          clear HT
          rw [g7] at HS1
          rw [g8] at HS2
          gi_wp2_with (first | (have _ := hx7; gi_at_call 30; ((with_reducible refine ((HS2.out _)).mono ?_); rintro e w8 ⟨rfl, hx8⟩)) | (gi_at_call 30; ((with_reducible refine ((HS1.out _)).mono ?_); rintro e w7 ⟨rfl, hx7⟩; have d := cell_of (hx7.block HM.out))) | (gi_at_call 28; ((with_reducible refine ((rin_b g1 _)).mono ?_); rintro e w1 ⟨rfl, rfl⟩)) | (gi_at_call 28; ((with_reducible refine ((rin_b g2 _)).mono ?_); rintro e w1 ⟨rfl, rfl⟩)) | (gi_at_call 28; ((with_reducible refine ((rin_b g3 _)).mono ?_); rintro e w1 ⟨rfl, rfl⟩)) | (gi_at_call 28; ((with_reducible refine ((rin_b g4 _)).mono ?_); rintro e w1 ⟨rfl, rfl⟩)) | (gi_at_call 28; ((with_reducible refine ((rin_b g5 _)).mono ?_); rintro e w1 ⟨rfl, rfl⟩)) | (gi_at_call 28; ((with_reducible refine ((rin_b g6 _)).mono ?_); rintro e w1 ⟨rfl, rfl⟩)))
          go_roundw
          case rel => exact ⟨k + 1, by omega, rfl, by rw [HQ.out], HXM.out.trans (hx7.trans hx8), (hx7.trans hx8).block HB4.out⟩
          case measure => simp [intOf]; omega
        case true =>
          have HQ : Hid (allTo (netGood F) (k + 1) = true) := by show _ = _; rw [HT.out]; simp only [g1, g2, g3, g4, g5, g6, g7, g8, Bool.false_and, Bool.and_false, Bool.true_and, Bool.and_true]
          clear HT
          rw [g7] at HS1
          rw [g8] at HS2
          gi_wp2_with (first | (have _ := hx7; gi_at_call 30; ((with_reducible refine ((HS2.out _)).mono ?_); rintro e w8 ⟨rfl, hx8⟩)) | (gi_at_call 30; ((with_reducible refine ((HS1.out _)).mono ?_); rintro e w7 ⟨rfl, hx7⟩; have d := cell_of (hx7.block HM.out))) | (gi_at_call 28; ((with_reducible refine ((rin_b g1 _)).mono ?_); rintro e w1 ⟨rfl, rfl⟩)) | (gi_at_call 28; ((with_reducible refine ((rin_b g2 _)).mono ?_); rintro e w1 ⟨rfl, rfl⟩)) | (gi_at_call 28; ((with_reducible refine ((rin_b g3 _)).mono ?_); rintro e w1 ⟨rfl, rfl⟩)) | (gi_at_call 28; ((with_reducible refine ((rin_b g4 _)).mono ?_); rintro e w1 ⟨rfl, rfl⟩)) | (gi_at_call 28; ((with_reducible refine ((rin_b g5 _)).mono ?_); rintro e w1 ⟨rfl, rfl⟩)) | (gi_at_call 28; ((with_reducible refine ((rin_b g6 _)).mono ?_); rintro e w1 ⟨rfl, rfl⟩)))
          go_roundw
          case rel => exact ⟨k + 1, by omega, rfl, by rw [HQ.out], HXM.out.trans (hx7.trans hx8), (hx7.trans hx8).block HB4.out⟩
          case measure => simp [intOf]; omega
      · obtain rfl : k = F.nets.length := by omega
        have hki : ¬ (F.nets.length : Int) < F.nets.length := by omega
        gi_wp2_with fail
        go_ret
        exact ⟨by rw [chk_0 (HG.out.trans hok)]; first | done | rfl, HR.out.1⟩

end Go.Proofs.YtmjelgonhpgmbaaGreat
