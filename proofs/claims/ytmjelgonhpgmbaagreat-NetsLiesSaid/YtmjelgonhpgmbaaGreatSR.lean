/- The reference: Fouls. -/
import Derived.Test.YtmjelgonhpgmbaaGreatSM
import Derived.Test.YtmjelgonhpgmbaaGreatMX
set_option linter.unusedSimpArgs false
set_option linter.unusedVariables false
namespace Go.Proofs.YtmjelgonhpgmbaaGreat
open Go Go.RowKit Go.Shelf

def foulB (F : FleetD) (T : TruthD) (h i k : Nat) : Bool := lieB (F.nets.getD i netZ) h && (lieB (F.nets.getD k netZ) h && (nearB (only_eF T (F.nets.getD i netZ) (F.nets.getD k netZ) i k h) (long_eF (F.nets.getD i netZ)) (long_eF (F.nets.getD k netZ)) F.gap && nearB (only_nF T (F.nets.getD i netZ) (F.nets.getD k netZ) i k h) (long_nF (F.nets.getD i netZ)) (long_nF (F.nets.getD k netZ)) F.gap))
theorem foulB_eq {F : FleetD} (hF : FleetOk F) (T : TruthD) {i k h : Nat} (hi : i < F.nets.length) (hk : k < F.nets.length) : foulB F T h i k = (lieG F h i k && foulLt F T (h, i, k)) := by
  unfold foulB lieG foulLt foulsL
  simp only
  cases q1 : lieB (F.nets.getD i netZ) h
  · rfl
  cases q2 : lieB (F.nets.getD k netZ) h
  · rfl
  rw [getD_of hi, getD_of hk]
  have o1 := hF.nets _ (List.getElem_mem hi)
  have o2 := hF.nets _ (List.getElem_mem hk)
  rw [meet_near long_eF (long_e_ok o1.long).1 (long_e_ok o2.long).1 hF.gap.1 (Int.le_refl _)]
  rw [meet_near long_nF (long_n_ok o1.long).1 (long_n_ok o2.long).1 hF.gap.1 (Int.le_refl _)]
  rfl
theorem foul_head {F : FleetD} (hF : FleetOk F) (T : TruthD) : (trips F).find? (foulLt F T) = (outTo (foulB F T) F.nets.length (F.east.length + 1)).head? := by
  rw [find_head]
  unfold trips
  rw [filter_outTo]
  congr 1
  exact outTo_congr fun t i k ht hik hk => (foulB_eq hF T (by omega) hk).symm
theorem fouls_20 {F : FleetD} {T : TruthD} (hF : fleetB F = false) : foulsV F T = #[.int .i64 0, .int .i64 0, .int .i64 0] ∧ foulsE F T = 20 := by
  unfold foulsV foulsE; rw [hF]; exact ⟨rfl, rfl⟩
theorem fouls_21 {F : FleetD} {T : TruthD} (hF : fleetB F = true) (hT : truthB F T = false) : foulsV F T = #[.int .i64 0, .int .i64 0, .int .i64 0] ∧ foulsE F T = 21 := by
  unfold foulsV foulsE; rw [hF, hT]; exact ⟨rfl, rfl⟩
set_option maxRecDepth 100000 in
set_option maxHeartbeats 8000000 in
theorem Fouls_z (F : FleetD) (T : TruthD) (ev nv sv tv1 tv2 tv3 tv4 : Value) (w : World) (he : SpansAt w ev F.east) (hn : SpansAt w nv F.north) (hs : ShotsAt w sv F.nets) (h1 : IntsAt w tv1 T.east) (h2 : IntsAt w tv2 T.north) (h3 : IntsAt w tv3 T.se) (h4 : IntsAt w tv4 T.sn) :
    Cal 11 #[.agg #[ev, nv, .int .i64 F.gap, sv], .agg #[tv1, tv2, tv3, tv4]] w fun e w' => e = .returned (.tuple #[.agg (foulsV F T), .int .i64 (foulsE F T)]) ∧ Ext w w' := by
  have HCK := hid (fun (u : World) (hu : Ext w u) => Check_z F _ _ _ u (he.mono hu) (hn.mono hu) (hs.mono hu))
  have HTR := hid (fun (hc : F.nets.length ≤ 1000) (u : World) (hu : Ext w u) => isTruth_z F hc T _ _ _ _ _ _ _ u (he.mono hu) (hn.mono hu) (hs.mono hu) (h1.mono hu) (h2.mono hu) (h3.mono hu) (h4.mono hu))
  have HLY := hid (fun (i h : Int) (u : World) (hu : Ext w u) => lying_z F _ _ _ i h u (he.mono hu) (hn.mono hu) (hs.mono hu))
  have HLS := hid (fun (hF : FleetOk F) (hT : TruthOk F T) (k j : Nat) (hk : k < F.nets.length) (hh : F.nets[k].shot ≤ j ∧ (j : Int) ≤ F.nets[k].haul) (u : World) (hu : Ext w u) => lies_z F hF T hT _ _ _ _ _ _ _ k hk j hh u (he.mono hu) (hn.mono hu) (hs.mono hu) (h1.mono hu) (h2.mono hu) (h3.mono hu) (h4.mono hu))
  have HFO := hid (fun (hF : FleetOk F) (i k : Nat) (hi : i < F.nets.length) (hk : k < F.nets.length) (e1 e2 n1 n2 : Int) (u : World) (hu : Ext w u) => foul_z F hF.gap _ _ _ i k hi hk (hF.nets _ (List.getElem_mem hi)).long (hF.nets _ (List.getElem_mem hi)).along (hF.nets _ (List.getElem_mem hk)).long (hF.nets _ (List.getElem_mem hk)).along e1 e2 n1 n2 u (he.mono hu) (hn.mono hu) (hs.mono hu))
  obtain ⟨ea, ec, rfl, ⟨hec, hel⟩, _⟩ := he
  obtain ⟨na, nc, rfl, ⟨hnc, hnl⟩, _⟩ := hn
  obtain ⟨sa, sc, rfl, ⟨hsc, hsl⟩, hcs⟩ := hs
  obtain ⟨ta, tac, rfl, ht1, hd1⟩ := h1
  obtain ⟨tb, tbc, rfl, ht2, hd2⟩ := h2
  obtain ⟨tc, tcc, rfl, ht3, hd3⟩ := h3
  obtain ⟨td, tdc, rfl, ht4, hd4⟩ := h4
  clear hcs hd1 hd2 hd3 hd4
  gi_enter Tryz.func11, Tryz.ntmps11
  gi_upto_region 1 with fail
  have hW : Ext w (((w.alloc (.cells #[.slice ea F.east.length ec, .slice na F.north.length nc, .int .i64 F.gap, .slice sa F.nets.length sc] 25)).alloc (.cells #[.slice ta T.east.length tac, .slice tb T.north.length tbc, .slice tc T.se.length tcc, .slice td T.sn.length tdc] 28)).alloc (.cells #[.int .i64 0, .int .i64 0, .int .i64 0] 37)) := (((Ext.refl _).alloc _).alloc _).alloc _
  have hB0 : (((w.alloc (.cells #[.slice ea F.east.length ec, .slice na F.north.length nc, .int .i64 F.gap, .slice sa F.nets.length sc] 25)).alloc (.cells #[.slice ta T.east.length tac, .slice tb T.north.length tbc, .slice tc T.se.length tcc, .slice td T.sn.length tdc] 28)).alloc (.cells #[.int .i64 0, .int .i64 0, .int .i64 0] 37)).heap[w.heap.size]? = some (.cells #[.slice ea F.east.length ec, .slice na F.north.length nc, .int .i64 F.gap, .slice sa F.nets.length sc] 25 (0, 0)) := by
    have h := Ext.new (w := w) (o := .cells #[.slice ea F.east.length ec, .slice na F.north.length nc, .int .i64 F.gap, .slice sa F.nets.length sc] 25) (Ext.refl _)
    try simp only [World.size_alloc] at h
    exact (((Ext.refl _).alloc _).alloc _).block h
  have hB1 : (((w.alloc (.cells #[.slice ea F.east.length ec, .slice na F.north.length nc, .int .i64 F.gap, .slice sa F.nets.length sc] 25)).alloc (.cells #[.slice ta T.east.length tac, .slice tb T.north.length tbc, .slice tc T.se.length tcc, .slice td T.sn.length tdc] 28)).alloc (.cells #[.int .i64 0, .int .i64 0, .int .i64 0] 37)).heap[w.heap.size + 1]? = some (.cells #[.slice ta T.east.length tac, .slice tb T.north.length tbc, .slice tc T.se.length tcc, .slice td T.sn.length tdc] 28 (0, 0)) := by
    have h := Ext.new (w := (w.alloc (.cells #[.slice ea F.east.length ec, .slice na F.north.length nc, .int .i64 F.gap, .slice sa F.nets.length sc] 25))) (o := .cells #[.slice ta T.east.length tac, .slice tb T.north.length tbc, .slice tc T.se.length tcc, .slice td T.sn.length tdc] 28) (Ext.refl _)
    try simp only [World.size_alloc] at h
    exact ((Ext.refl _).alloc _).block h
  have hB2 : (((w.alloc (.cells #[.slice ea F.east.length ec, .slice na F.north.length nc, .int .i64 F.gap, .slice sa F.nets.length sc] 25)).alloc (.cells #[.slice ta T.east.length tac, .slice tb T.north.length tbc, .slice tc T.se.length tcc, .slice td T.sn.length tdc] 28)).alloc (.cells #[.int .i64 0, .int .i64 0, .int .i64 0] 37)).heap[w.heap.size + 1 + 1]? = some (.cells #[.int .i64 0, .int .i64 0, .int .i64 0] 37 (0, 0)) := by
    have h := Ext.new (w := ((w.alloc (.cells #[.slice ea F.east.length ec, .slice na F.north.length nc, .int .i64 F.gap, .slice sa F.nets.length sc] 25)).alloc (.cells #[.slice ta T.east.length tac, .slice tb T.north.length tbc, .slice tc T.se.length tcc, .slice td T.sn.length tdc] 28))) (o := .cells #[.int .i64 0, .int .i64 0, .int .i64 0] 37) (Ext.refl _)
    try simp only [World.size_alloc] at h
    exact (Ext.refl _).block h
  have hZ : (((w.alloc (.cells #[.slice ea F.east.length ec, .slice na F.north.length nc, .int .i64 F.gap, .slice sa F.nets.length sc] 25)).alloc (.cells #[.slice ta T.east.length tac, .slice tb T.north.length tbc, .slice tc T.se.length tcc, .slice td T.sn.length tdc] 28)).alloc (.cells #[.int .i64 0, .int .i64 0, .int .i64 0] 37)).heap.size = w.heap.size + 3 := by simp only [World.size_alloc]
  generalize (((w.alloc (.cells #[.slice ea F.east.length ec, .slice na F.north.length nc, .int .i64 F.gap, .slice sa F.nets.length sc] 25)).alloc (.cells #[.slice ta T.east.length tac, .slice tb T.north.length tbc, .slice tc T.se.length tcc, .slice td T.sn.length tdc] 28)).alloc (.cells #[.int .i64 0, .int .i64 0, .int .i64 0] 37)) = W at *
  have HX := hid hW
  have HZ := hid hZ
  have HB0 := hid hB0
  have HB1 := hid hB1
  have HB2 := hid hB2
  have c0 := cell_of hB0
  have c1 := cell_of hB1
  have c2 := cell_of hB2
  clear hW hZ hB0 hB1 hB2
  have f2 := free_of HB2.out
  cases hF : fleetB F
  case false =>
    have HV := hid (fouls_20 (T := T) hF)
    rw [chk_20 hF] at HCK
    gi_wp2_with (gi_at_call 9; ((with_reducible refine (HCK.out _ HX.out).mono ?_); rintro e w9 ⟨rfl, hx9⟩; clear c0 c1 c2 f2; have HX := hid (HX.out.trans hx9); have HB0 := hid (hx9.block HB0.out); have HB1 := hid (hx9.block HB1.out); have HB2 := hid (hx9.block HB2.out); have c0 := cell_of HB0.out; have c1 := cell_of HB1.out; have c2 := cell_of HB2.out; have f2 := free_of HB2.out; clear hx9))
    clear c0 c1 c2 f2
    have P := hid (put3 HB2.out HX.out (by omega) (.int .i64 0) (.int .i64 0) (.int .i64 0))
    have cB := cell_of P.out.2.1
    refine bodyPost_ret (v := .tuple #[.agg #[.int .i64 0, .int .i64 0, .int .i64 0], .int .i64 20]) (by simp [results, Tryz.results11, go_sem, cB]) rfl ⟨by rw [HV.out.1, HV.out.2], P.out.1⟩
  case true =>
  have hFo := fleetB_ok hF
  have hcnt : F.nets.length ≤ 1000 := by have := hFo.count; omega
  have HTR := hid (HTR.out hcnt)
  rw [chk_0 hF] at HCK
  cases hT : truthB F T
  case false =>
    have HV := hid (fouls_21 hF hT)
    rw [hT] at HTR
    gi_wp2_with (first | (gi_at_call 9; ((with_reducible refine (HCK.out _ HX.out).mono ?_); rintro e w9 ⟨rfl, hx9⟩; clear c0 c1 c2 f2; have HX := hid (HX.out.trans hx9); have HB0 := hid (hx9.block HB0.out); have HB1 := hid (hx9.block HB1.out); have HB2 := hid (hx9.block HB2.out); have c0 := cell_of HB0.out; have c1 := cell_of HB1.out; have c2 := cell_of HB2.out; have f2 := free_of HB2.out; clear hx9)) | (gi_at_call 24; ((with_reducible refine (HTR.out _ HX.out).mono ?_); rintro e w9 ⟨rfl, hx9⟩; clear c0 c1 c2 f2; have HX := hid (HX.out.trans hx9); have HB0 := hid (hx9.block HB0.out); have HB1 := hid (hx9.block HB1.out); have HB2 := hid (hx9.block HB2.out); have c0 := cell_of HB0.out; have c1 := cell_of HB1.out; have c2 := cell_of HB2.out; have f2 := free_of HB2.out; clear hx9)))
    clear c0 c1 c2 f2
    have P := hid (put3 HB2.out HX.out (by omega) (.int .i64 0) (.int .i64 0) (.int .i64 0))
    have cB := cell_of P.out.2.1
    refine bodyPost_ret (v := .tuple #[.agg #[.int .i64 0, .int .i64 0, .int .i64 0], .int .i64 21]) (by simp [results, Tryz.results11, go_sem, cB]) rfl ⟨by rw [HV.out.1, HV.out.2], P.out.1⟩
  case true =>
  rw [hT] at HTR
  have hTo := truthB_ok hT
  have HLS := hid (HLS.out hFo hTo)
  have HFO := hid (HFO.out hFo)
  have HHD := hid (foul_head hFo T)
  have HFB := hid (And.intro hF hT)
  have HIN := hid (fun (i h : Nat) (hi : i < F.nets.length) (q : lieB F.nets[i] h = true) => And.intro (where_e_in hFo hTo hi rfl (inB_spec q)) (where_n_in hFo hTo hi rfl (inB_spec q)))
  have hh24 := hFo.hours
  have hn6 := hFo.count
  clear hF hFo hT hTo
  gi_upto_region 6 with (first | (gi_at_call 9; ((with_reducible refine (HCK.out _ HX.out).mono ?_); rintro e w9 ⟨rfl, hx9⟩; clear c0 c1 c2 f2; have HX := hid (HX.out.trans hx9); have HB0 := hid (hx9.block HB0.out); have HB1 := hid (hx9.block HB1.out); have HB2 := hid (hx9.block HB2.out); have c0 := cell_of HB0.out; have c1 := cell_of HB1.out; have c2 := cell_of HB2.out; have f2 := free_of HB2.out; clear hx9)) | (gi_at_call 24; ((with_reducible refine (HTR.out _ HX.out).mono ?_); rintro e w9 ⟨rfl, hx9⟩; clear c0 c1 c2 f2; have HX := hid (HX.out.trans hx9); have HB0 := hid (hx9.block HB0.out); have HB1 := hid (hx9.block HB1.out); have HB2 := hid (hx9.block HB2.out); have c0 := cell_of HB0.out; have c1 := cell_of HB1.out; have c2 := cell_of HB2.out; have f2 := free_of HB2.out; clear hx9)))
  gi_wp2_with fail
  clear c0 c1 c2 f2
  gi_loopw [7] (fun a wr => ∃ h : Nat, h ≤ F.east.length + 1 ∧ a = .int .i64 h ∧ Hid ((posTo (foulB F T) F.nets.length h 0 0).length = 0 ∧ Ext w9 wr)) (fun a _ => F.east.length + 1 - (intOf a).toNat)
  case atStart => exact ⟨0, Nat.zero_le _, rfl, pos_zero, Ext.refl _⟩
  case round =>
    obtain ⟨h, hh, rfl, HH⟩ := hrel
    have c0 := cell_of (HH.out.2.block HB0.out)
    by_cases hlt : h ≤ F.east.length
    · have hki : (h : Int) ≤ F.east.length := by omega
      gi_wp2_with fail
      have HPO := hid (show (posTo (foulB F T) F.nets.length (h + 1) 0 0).length = (posTo (foulB F T) F.nets.length h F.nets.length 0).length from pos_out)
      clear c0
      gi_loopw [8] (fun a wr => ∃ i : Nat, i ≤ F.nets.length ∧ a = .int .i64 i ∧ Hid ((posTo (foulB F T) F.nets.length h i 0).length = 0 ∧ Ext w9 wr)) (fun a _ => F.nets.length - (intOf a).toNat)
      case atStart => exact ⟨0, Nat.zero_le _, rfl, HH.out⟩
      case round =>
        obtain ⟨i, hi, rfl, HI⟩ := hrel
        have c0 := cell_of (HI.out.2.block HB0.out)
        by_cases hlti : i < F.nets.length
        · have hkj : (i : Int) < F.nets.length := by omega
          gi_upto_region 12 with fail
          gi_wp2_with fail
          have HPM := hid (show (posTo (foulB F T) F.nets.length h (i + 1) 0).length = (posTo (foulB F T) F.nets.length h i (F.nets.length - (i + 1))).length from pos_mid)
          clear c0
          gi_loopw [9] (fun a wr => ∃ m : Nat, m ≤ F.nets.length - (i + 1) ∧ a = .int .i64 ((i + 1 + m : Nat) : Int) ∧ Hid ((posTo (foulB F T) F.nets.length h i m).length = 0 ∧ Ext w9 wr)) (fun a _ => F.nets.length - (intOf a).toNat)
          case atStart => exact ⟨0, Nat.zero_le _, by go_num, HI.out⟩
          case round =>
            obtain ⟨m, hm, rfl, HM⟩ := hrel
            obtain ⟨k, hk⟩ : ∃ k, i + 1 + m = k := ⟨_, rfl⟩
            rw [hk]
            have HX := hid (HX.out.trans HM.out.2)
            have HXR := hid (Ext.refl wr)
            have HB0' := HB0
            have HB1' := HB1
            have HB2' := HB2
            have HB0 := hid (HM.out.2.block HB0.out)
            have HB1 := hid (HM.out.2.block HB1.out)
            have HB2 := hid (HM.out.2.block HB2.out)
            have c0 := cell_of HB0.out
            have c1 := cell_of HB1.out
            have c2 := cell_of HB2.out
            by_cases hltm : k < F.nets.length
            · have hkk : (k : Int) < F.nets.length := by omega
              have HL1 := hid (fun (u : World) (hu : Ext w u) => HLY.out i h u hu)
              have HL2 := hid (fun (u : World) (hu : Ext w u) => HLY.out k h u hu)
              rw [hasB_nat hlti, getD_of hlti] at HL1
              rw [hasB_nat hltm, getD_of hltm] at HL2
              have HPK : Hid (foulB F T h i k = (lieB F.nets[i] h && (lieB F.nets[k] h && (nearB (only_eF T F.nets[i] F.nets[k] i k h) (long_eF F.nets[i]) (long_eF F.nets[k]) F.gap && nearB (only_nF T F.nets[i] F.nets[k] i k h) (long_nF F.nets[i]) (long_nF F.nets[k]) F.gap)))) := by show _ = _; unfold foulB; rw [getD_of hlti, getD_of hltm]
              cases q1 : lieB F.nets[i] h
              case false =>
                rw [q1] at HL1
                have HNO : Hid ((posTo (foulB F T) F.nets.length h i (m + 1)).length = 0) := by show _ = _; rw [pos_no (by rw [hk, HPK.out]; rw [q1]; rfl)]; exact HM.out.1
                clear q1 HPK
                gi_wp2_with (gi_at_call 25; ((with_reducible refine (HL1.out _ HX.out).mono ?_); rintro e w9 ⟨rfl, hx9⟩; clear c0 c1 c2; have HX := hid (HX.out.trans hx9); have HB0 := hid (hx9.block HB0.out); have HB1 := hid (hx9.block HB1.out); have HB2 := hid (hx9.block HB2.out); have c0 := cell_of HB0.out; have c1 := cell_of HB1.out; have c2 := cell_of HB2.out; have HXR := hid (HXR.out.trans hx9); clear hx9))
                go_roundw
                case rel => exact ⟨m + 1, by omega, by rw [← hk]; go_num, HNO.out, HM.out.2.trans HXR.out⟩
                case measure => simp [intOf]; omega

              case true =>
              rw [q1] at HL1
              cases q2 : lieB F.nets[k] h
              case false =>
                rw [q2] at HL2
                have HNO : Hid ((posTo (foulB F T) F.nets.length h i (m + 1)).length = 0) := by show _ = _; rw [pos_no (by rw [hk, HPK.out]; rw [q1, q2]; rfl)]; exact HM.out.1
                clear q1 q2 HPK
                gi_wp2_with (first | (gi_at_call 25; ((with_reducible refine (HL1.out _ HX.out).mono ?_); rintro e w9 ⟨rfl, hx9⟩; clear c0 c1 c2; have HX := hid (HX.out.trans hx9); have HB0 := hid (hx9.block HB0.out); have HB1 := hid (hx9.block HB1.out); have HB2 := hid (hx9.block HB2.out); have c0 := cell_of HB0.out; have c1 := cell_of HB1.out; have c2 := cell_of HB2.out; have HXR := hid (HXR.out.trans hx9); clear hx9)) | (gi_at_call 25; ((with_reducible refine (HL2.out _ HX.out).mono ?_); rintro e w9 ⟨rfl, hx9⟩; clear c0 c1 c2; have HX := hid (HX.out.trans hx9); have HB0 := hid (hx9.block HB0.out); have HB1 := hid (hx9.block HB1.out); have HB2 := hid (hx9.block HB2.out); have c0 := cell_of HB0.out; have c1 := cell_of HB1.out; have c2 := cell_of HB2.out; have HXR := hid (HXR.out.trans hx9); clear hx9)))
                go_roundw
                case rel => exact ⟨m + 1, by omega, by rw [← hk]; go_num, HNO.out, HM.out.2.trans HXR.out⟩
                case measure => simp [intOf]; omega

              case true =>
              rw [q2] at HL2
              have HLA := hid (HLS.out i h hlti (inB_spec q1))
              have HLB := hid (HLS.out k h hltm (inB_spec q2))
              have b1 := HIN.out i h hlti q1
              have b2 := HIN.out k h hltm q2
              have HPK : Hid (foulB F T h i k = (nearB (only_eF T F.nets[i] F.nets[k] i k h) (long_eF F.nets[i]) (long_eF F.nets[k]) F.gap && nearB (only_nF T F.nets[i] F.nets[k] i k h) (long_nF F.nets[i]) (long_nF F.nets[k]) F.gap)) := by show _ = _; rw [HPK.out, q1, q2]; rfl
              have HFC := hid (fun (u : World) (hu : Ext w u) => HFO.out i k hlti hltm (where_eF T F.nets[i] i h - where_eF T F.nets[k] k h) (where_eF T F.nets[i] i h - where_eF T F.nets[k] k h) (where_nF T F.nets[i] i h - where_nF T F.nets[k] k h) (where_nF T F.nets[i] i h - where_nF T F.nets[k] k h) u hu)
              clear q1 q2
              unfold only_eF only_nF at HPK
              generalize where_eF T F.nets[i] i h = ea at *
              generalize where_nF T F.nets[i] i h = na at *
              generalize where_eF T F.nets[k] k h = eb at *
              generalize where_nF T F.nets[k] k h = nb at *
              generalize (nearB ⟨ea - eb, ea - eb⟩ (long_eF F.nets[i]) (long_eF F.nets[k]) F.gap && nearB ⟨na - nb, na - nb⟩ (long_nF F.nets[i]) (long_nF F.nets[k]) F.gap) = r at *
              have we : wrap64 (ea - eb) = ea - eb := by unfold wrap64; omega
              have wn : wrap64 (na - nb) = na - nb := by unfold wrap64; omega
              clear b1 b2
              gi_upto_region 16 with (first | (gi_at_call 25; ((with_reducible refine (HL1.out _ HX.out).mono ?_); rintro e w9 ⟨rfl, hx9⟩; clear c0 c1 c2; have HX := hid (HX.out.trans hx9); have HB0 := hid (hx9.block HB0.out); have HB1 := hid (hx9.block HB1.out); have HB2 := hid (hx9.block HB2.out); have c0 := cell_of HB0.out; have c1 := cell_of HB1.out; have c2 := cell_of HB2.out; have HXR := hid (HXR.out.trans hx9); clear hx9)) | (gi_at_call 25; ((with_reducible refine (HL2.out _ HX.out).mono ?_); rintro e w9 ⟨rfl, hx9⟩; clear c0 c1 c2; have HX := hid (HX.out.trans hx9); have HB0 := hid (hx9.block HB0.out); have HB1 := hid (hx9.block HB1.out); have HB2 := hid (hx9.block HB2.out); have c0 := cell_of HB0.out; have c1 := cell_of HB1.out; have c2 := cell_of HB2.out; have HXR := hid (HXR.out.trans hx9); clear hx9)))
              clear c0 c1 c2
              have HC0 := hid (fun (u : World) (hu : Ext w9 u) => And.intro (HX.out.trans hu) (And.intro (cell_of (hu.block HB0.out)) (cell_of (hu.block HB1.out))))
              refine jj_own 14 [10, 11] (bxJ w9 ([⟨10, 12, 31, #[.int .i64 0, .int .i64 0], #[.int .i64 ea, .int .i64 na]⟩, ⟨11, 13, 31, #[.int .i64 0, .int .i64 0], #[.int .i64 eb, .int .i64 nb]⟩] : List BX)) (by kernel_rfl) (by kernel_rfl) (bx_start _ _) ?_
              simp only [List.take_succ_cons, List.take_zero, List.drop_succ_cons, List.drop_zero]
              apply jj_fun (by decide)
              · intro L x u hL hd hJ
                have c0 := (HC0.out u hJ.1).2.1; have c1 := (HC0.out u hJ.1).2.2
                have HJ := hid (bx_skip (k := 0) (by rfl) hJ)
                clear hJ hd hL
                go_simp
                first | exact ⟨rfl, HJ.out⟩ | exact HJ.out
              simp only [Act.put, List.setIfInBounds_toArray, List.set_cons_succ, List.set_cons_zero]
              apply jj_fun (by decide)
              · intro L x u hL hd hJ
                have c0 := (HC0.out u hJ.1).2.1; have c1 := (HC0.out u hJ.1).2.2
                have HJ := hid (bx_skip (k := 1) (by rfl) hJ)
                clear hJ hd hL
                go_simp
                first | exact ⟨rfl, HJ.out⟩ | exact HJ.out
              simp only [Act.put, List.setIfInBounds_toArray, List.set_cons_succ, List.set_cons_zero]
              apply jj_fun (by decide)
              · intro L x u hL hd hJ
                have HJ := hid (bx_skip (k := 2) (by rfl) hJ)
                clear hJ hd hL
                go_simp
                first | exact ⟨rfl, HJ.out⟩ | exact HJ.out
              simp only [Act.put, List.setIfInBounds_toArray, List.set_cons_succ, List.set_cons_zero]
              apply jj_fun (by decide)
              · intro L x u hL hd hJ
                have HJ := hid (bx_skip (k := 3) (by rfl) hJ)
                clear hJ hd hL
                go_simp
                first | exact ⟨rfl, HJ.out⟩ | exact HJ.out
              simp only [Act.put, List.setIfInBounds_toArray, List.set_cons_succ, List.set_cons_zero]
              apply jj_fun (by decide)
              · intro L x u hL hd hJ
                have hcal := hid (HLA.out _ (HC0.out u hJ.1).1)
                have HJ := hid (bx_skip (k := 4) (by rfl) hJ)
                clear hJ hd hL
                go_simp
                exact hcal.out.mono fun e w'' ⟨he, hx'⟩ => ⟨_, he, rfl, bx_ext HJ.out hx'⟩
              simp only [Act.put, List.setIfInBounds_toArray, List.set_cons_succ, List.set_cons_zero]
              apply jj_fun (by decide)
              · intro L x u hL hd hJ
                have c0 := (HC0.out u hJ.1).2.1; have c1 := (HC0.out u hJ.1).2.2
                have HJ := hid (bx_skip (k := 5) (by rfl) hJ)
                clear hJ hd hL
                go_simp
                first | exact ⟨rfl, HJ.out⟩ | exact HJ.out
              simp only [Act.put, List.setIfInBounds_toArray, List.set_cons_succ, List.set_cons_zero]
              apply jj_fun (by decide)
              · intro L x u hL hd hJ
                have c0 := (HC0.out u hJ.1).2.1; have c1 := (HC0.out u hJ.1).2.2
                have HJ := hid (bx_skip (k := 6) (by rfl) hJ)
                clear hJ hd hL
                go_simp
                first | exact ⟨rfl, HJ.out⟩ | exact HJ.out
              simp only [Act.put, List.setIfInBounds_toArray, List.set_cons_succ, List.set_cons_zero]
              apply jj_fun (by decide)
              · intro L x u hL hd hJ
                have HJ := hid (bx_skip (k := 7) (by rfl) hJ)
                clear hJ hd hL
                go_simp
                first | exact ⟨rfl, HJ.out⟩ | exact HJ.out
              simp only [Act.put, List.setIfInBounds_toArray, List.set_cons_succ, List.set_cons_zero]
              apply jj_fun (by decide)
              · intro L x u hL hd hJ
                have HJ := hid (bx_skip (k := 8) (by rfl) hJ)
                clear hJ hd hL
                go_simp
                first | exact ⟨rfl, HJ.out⟩ | exact HJ.out
              simp only [Act.put, List.setIfInBounds_toArray, List.set_cons_succ, List.set_cons_zero]
              apply jj_fun (by decide)
              · intro L x u hL hd hJ
                have hcal := hid (HLB.out _ (HC0.out u hJ.1).1)
                have HJ := hid (bx_skip (k := 9) (by rfl) hJ)
                clear hJ hd hL
                go_simp
                exact hcal.out.mono fun e w'' ⟨he, hx'⟩ => ⟨_, he, rfl, bx_ext HJ.out hx'⟩
              simp only [Act.put, List.setIfInBounds_toArray, List.set_cons_succ, List.set_cons_zero]
              refine jj_inv (by decide) ?_ ?_
              · intro L x u hL hd hJ
                have HJ := hid (bx_make 0 (rfl : ([⟨10, 12, 31, #[.int .i64 0, .int .i64 0], #[.int .i64 ea, .int .i64 na]⟩, ⟨11, 13, 31, #[.int .i64 0, .int .i64 0], #[.int .i64 eb, .int .i64 nb]⟩] : List BX)[0]? = some _) (by rfl) hJ hL)
                clear hJ hd hL
                go_simp
                exact HJ.out
              simp only [Act.put, List.setIfInBounds_toArray, List.set_cons_succ, List.set_cons_zero]
              refine jj_inv (by decide) ?_ ?_
              · intro L x u hL hd hJ
                have HJ := hid (bx_make 1 (rfl : ([⟨10, 12, 31, #[.int .i64 0, .int .i64 0], #[.int .i64 ea, .int .i64 na]⟩, ⟨11, 13, 31, #[.int .i64 0, .int .i64 0], #[.int .i64 eb, .int .i64 nb]⟩] : List BX)[1]? = some _) (by rfl) hJ hL)
                clear hJ hd hL
                go_simp
                exact HJ.out
              simp only [Act.put, List.setIfInBounds_toArray, List.set_cons_succ, List.set_cons_zero]
              refine jj_fun (v := undef) (by decide) ?_ ?_
              · intro L x u hL hd hJ
                have hl : L 10 = true := by first | exact hd.1 rfl | exact hd.2.1 rfl | exact hd.2.2.1 rfl
                obtain ⟨g, hx8, hg, hb⟩ := hJ.2.1 0 _ (rfl : ([⟨10, 12, 31, #[.int .i64 0, .int .i64 0], #[.int .i64 ea, .int .i64 na]⟩, ⟨11, 13, 31, #[.int .i64 0, .int .i64 0], #[.int .i64 eb, .int .i64 nb]⟩] : List BX)[0]? = some _) hl
                rw [show (if L 12 = true then _ else _) = _ from if_neg (by rw [hL]; exact Bool.false_ne_true)] at hb
                have HJ := bx_fill 0 (rfl : ([⟨10, 12, 31, #[.int .i64 0, .int .i64 0], #[.int .i64 ea, .int .i64 na]⟩, ⟨11, 13, 31, #[.int .i64 0, .int .i64 0], #[.int .i64 eb, .int .i64 nb]⟩] : List BX)[0]? = some _) (by rfl) hJ hl hx8 hg hb
                rw [if_pos (by rfl)]
                exact gives_store_row 31 (.tmp 10) (.tmp 64) rfl hx8 rfl hb size31 rfl (by kernel_rfl) ⟨⟨rfl, HJ⟩, trivial⟩
              simp only [Act.put, List.setIfInBounds_toArray, List.set_cons_succ, List.set_cons_zero]
              refine jj_fun (v := undef) (by decide) ?_ ?_
              · intro L x u hL hd hJ
                have hl : L 11 = true := by first | exact hd.1 rfl | exact hd.2.1 rfl | exact hd.2.2.1 rfl
                obtain ⟨g, hx8, hg, hb⟩ := hJ.2.1 1 _ (rfl : ([⟨10, 12, 31, #[.int .i64 0, .int .i64 0], #[.int .i64 ea, .int .i64 na]⟩, ⟨11, 13, 31, #[.int .i64 0, .int .i64 0], #[.int .i64 eb, .int .i64 nb]⟩] : List BX)[1]? = some _) hl
                rw [show (if L 13 = true then _ else _) = _ from if_neg (by rw [hL]; exact Bool.false_ne_true)] at hb
                have HJ := bx_fill 1 (rfl : ([⟨10, 12, 31, #[.int .i64 0, .int .i64 0], #[.int .i64 ea, .int .i64 na]⟩, ⟨11, 13, 31, #[.int .i64 0, .int .i64 0], #[.int .i64 eb, .int .i64 nb]⟩] : List BX)[1]? = some _) (by rfl) hJ hl hx8 hg hb
                rw [if_pos (by rfl)]
                exact gives_store_row 31 (.tmp 11) (.tmp 69) rfl hx8 rfl hb size31 rfl (by kernel_rfl) ⟨⟨rfl, HJ⟩, trivial⟩
              simp only [Act.put, List.setIfInBounds_toArray, List.set_cons_succ, List.set_cons_zero]
              refine jj_nil fun L x u hall hJ => ?_
              obtain ⟨g0, hg0, hgl0, hgb0⟩ := hJ.2.1 0 _ (rfl : ([⟨10, 12, 31, #[.int .i64 0, .int .i64 0], #[.int .i64 ea, .int .i64 na]⟩, ⟨11, 13, 31, #[.int .i64 0, .int .i64 0], #[.int .i64 eb, .int .i64 nb]⟩] : List BX)[0]? = some _) (hall 10 (by omega))
              rw [show (if L 12 = true then _ else _) = _ from if_pos (hall 12 (by omega))] at hgb0
              simp only at hg0
              obtain ⟨g1, hg1, hgl1, hgb1⟩ := hJ.2.1 1 _ (rfl : ([⟨10, 12, 31, #[.int .i64 0, .int .i64 0], #[.int .i64 ea, .int .i64 na]⟩, ⟨11, 13, 31, #[.int .i64 0, .int .i64 0], #[.int .i64 eb, .int .i64 nb]⟩] : List BX)[1]? = some _) (hall 11 (by omega))
              rw [show (if L 13 = true then _ else _) = _ from if_pos (hall 13 (by omega))] at hgb1
              simp only at hg1
              have hne01 : g0 ≠ g1 := fun e => hJ.2.2.1 0 1 _ _ (rfl : ([⟨10, 12, 31, #[.int .i64 0, .int .i64 0], #[.int .i64 ea, .int .i64 na]⟩, ⟨11, 13, 31, #[.int .i64 0, .int .i64 0], #[.int .i64 eb, .int .i64 nb]⟩] : List BX)[0]? = some _) (rfl : ([⟨10, 12, 31, #[.int .i64 0, .int .i64 0], #[.int .i64 ea, .int .i64 na]⟩, ⟨11, 13, 31, #[.int .i64 0, .int .i64 0], #[.int .i64 eb, .int .i64 nb]⟩] : List BX)[1]? = some _) (by decide) (hall 10 (by omega)) (hall 11 (by omega)) (by simp only; rw [hg0, hg1, e])
              have hE := hJ.1
              clear hJ hall
              generalize x 10 = xx0 at *
              generalize x 11 = xx1 at *
              clear x
              subst hg0
              subst hg1
              have HX := hid (HX.out.trans hE)
              have HB0 := hid (hE.block HB0.out)
              have HB1 := hid (hE.block HB1.out)
              have HB2 := hid (hE.block HB2.out)
              have HXR := hid (HXR.out.trans hE)
              clear HC0 hE hne01 hgl0 hgl1
              gi_upto_region 17 with fail
              refine quiet_wide 12 (by kernel_rfl) (by kernel_rfl) ?_
              simp only [List.take_succ_cons, List.take_zero, List.drop_succ_cons, List.drop_zero]
              have q0 := fun e : Later u => cell_of (Ext.block e.grown hgb0)
              have q1 := fun e : Later u => cell_of (Ext.block e.grown hgb1)
              repeat (any_goals (first | go_big_quiet_step ((fail)) | quiet_step ((fail))))
              refine wpQuiet_nil ?_
              rintro w5 ⟨⟨w5q, hx5⟩, hew5⟩
              obtain rfl : w5 = w5q := hew5
              have hx5 : Ext u w5 := hx5
              clear q0 q1
              have HX := hid (HX.out.trans hx5)
              have HB0 := hid (hx5.block HB0.out)
              have HB1 := hid (hx5.block HB1.out)
              have HB2 := hid (hx5.block HB2.out)
              have HXR := hid (HXR.out.trans hx5)
              clear hx5 hgb0 hgb1
              have c0 := cell_of HB0.out
              have c1 := cell_of HB1.out
              have c2 := cell_of HB2.out
              have f2 := free_of HB2.out
              cases r
              case true =>
                have HHE := hid (HHD.out.trans (head_of (by omega) hlti (by omega) (by rw [hk]; exact HPK.out) HM.out.1))
                have HV : Hid (foulsV F T = #[.int .i64 h, .int .i64 i, .int .i64 k] ∧ foulsE F T = 0) := by
                  have := fouls_some HFB.out.1 HFB.out.2 HHE.out
                  rw [hk] at this
                  exact this
                gi_wp2_with (gi_at_call 33; ((with_reducible refine (HFC.out _ HX.out).mono ?_); rintro e w9 ⟨rfl, hx9⟩; clear c0 c1 c2 f2; have HX := hid (HX.out.trans hx9); have HB0 := hid (hx9.block HB0.out); have HB1 := hid (hx9.block HB1.out); have HB2 := hid (hx9.block HB2.out); have c0 := cell_of HB0.out; have c1 := cell_of HB1.out; have c2 := cell_of HB2.out; have f2 := free_of HB2.out; clear hx9))
                clear c0 c1 c2 f2
                have P := hid (put3 HB2.out HX.out (by omega) (.int .i64 h) (.int .i64 i) (.int .i64 k))
                have cB := cell_of P.out.2.1
                refine bodyPost_ret (v := .tuple #[.agg #[.int .i64 h, .int .i64 i, .int .i64 k], .int .i64 0]) (by simp [results, Tryz.results11, go_sem, cB]) rfl ⟨by rw [HV.out.1, HV.out.2], P.out.1⟩
              case false =>
                have HNO : Hid ((posTo (foulB F T) F.nets.length h i (m + 1)).length = 0) := by show _ = _; rw [pos_no (by rw [hk]; exact HPK.out)]; exact HM.out.1
                gi_wp2_with (gi_at_call 33; ((with_reducible refine (HFC.out _ HX.out).mono ?_); rintro e w9 ⟨rfl, hx9⟩; clear c0 c1 c2; have HX := hid (HX.out.trans hx9); have HB0 := hid (hx9.block HB0.out); have HB1 := hid (hx9.block HB1.out); have HB2 := hid (hx9.block HB2.out); have c0 := cell_of HB0.out; have c1 := cell_of HB1.out; have c2 := cell_of HB2.out; have HXR := hid (HXR.out.trans hx9); clear hx9))
                go_roundw
                case rel => exact ⟨m + 1, by omega, by rw [← hk]; go_num, HNO.out, HM.out.2.trans HXR.out⟩
                case measure => simp [intOf]; omega
            · have hkk : ¬ (k : Int) < F.nets.length := by omega
              obtain rfl : m = F.nets.length - (i + 1) := by omega
              have HNX : Hid ((posTo (foulB F T) F.nets.length h (i + 1) 0).length = 0) := by show _ = _; rw [HPM.out]; exact HM.out.1
              gi_wp2_with fail
              go_roundw
              case rel => exact ⟨i + 1, by omega, by go_num, HNX.out, HM.out.2⟩
              case measure => simp [intOf]; omega
        · obtain rfl : i = F.nets.length := by omega
          have hkj : ¬ (F.nets.length : Int) < F.nets.length := by omega
          have HNX : Hid ((posTo (foulB F T) F.nets.length (h + 1) 0 0).length = 0) := by show _ = _; rw [HPO.out]; exact HI.out.1
          gi_wp2_with fail
          go_roundw
          case rel => exact ⟨h + 1, by omega, by go_num, HNX.out, HI.out.2⟩
          case measure => simp [intOf]; omega
    · obtain rfl : h = F.east.length + 1 := by omega
      have hki : ¬ ((F.east.length + 1 : Nat) : Int) ≤ F.east.length := by omega
      have HV : Hid (foulsV F T = #[.int .i64 0, .int .i64 0, .int .i64 0] ∧ foulsE F T = 4) := by
        refine fouls_none HFB.out.1 HFB.out.2 ?_
        rw [HHD.out]
        have := HH.out.1
        rw [pos_end] at this
        rw [List.eq_nil_of_length_eq_zero this]; rfl
      have HX := hid (HX.out.trans HH.out.2)
      have HB2 := hid (HH.out.2.block HB2.out)
      have c2 := cell_of HB2.out
      have f2 := free_of HB2.out
      gi_wp2_with fail
      clear c0 c2 f2
      have P := hid (put3 HB2.out HX.out (by omega) (.int .i64 0) (.int .i64 0) (.int .i64 0))
      have cB := cell_of P.out.2.1
      refine bodyPost_ret (v := .tuple #[.agg #[.int .i64 0, .int .i64 0, .int .i64 0], .int .i64 4]) (by simp [results, Tryz.results11, go_sem, cB]) rfl ⟨by rw [HV.out.1, HV.out.2], P.out.1⟩

end Go.Proofs.YtmjelgonhpgmbaaGreat
