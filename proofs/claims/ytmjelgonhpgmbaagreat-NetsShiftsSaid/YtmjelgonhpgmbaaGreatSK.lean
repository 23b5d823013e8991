/- The reference: Lies, Apart, can. -/
import Derived.Test.YtmjelgonhpgmbaaGreatSG
import Derived.Test.YtmjelgonhpgmbaaGreatSJ
import Derived.Test.YtmjelgonhpgmbaaGreatMJ
set_option linter.unusedSimpArgs false
set_option linter.unusedVariables false
namespace Go.Proofs.YtmjelgonhpgmbaaGreat
open Go Go.RowKit Go.Shelf

theorem meet_near {s : Spn} {a b : NetD} {gap : Int} (f : NetD → Int) (ha : 0 ≤ f a) (hb : 0 ≤ f b) (hg : 0 ≤ gap) (hs : s.lo ≤ s.hi) : nearB s (f a) (f b) gap = meetS s ⟨-gap - f a, gap + f b⟩ := by
  unfold nearB meetS
  cases h : meetB s.lo s.hi (-gap - f a) (gap + f b)
  · cases h2 : (decide (s.lo ≤ f b + gap) && decide (-f a - gap ≤ s.hi))
    · rfl
    · simp only [Bool.and_eq_true, decide_eq_true_eq] at h2
      have := (meet_iff s.lo s.hi (-gap - f a) (gap + f b)).2 ⟨hs, by omega, by omega, by omega⟩
      rw [h] at this; cases this
  · have := (meet_iff s.lo s.hi (-gap - f a) (gap + f b)).1 h
    simp only [Bool.and_eq_true, decide_eq_true_eq]
    exact ⟨by omega, by omega⟩
set_option maxRecDepth 100000 in
set_option maxHeartbeats 8000000 in
theorem Lies_z (F : FleetD) (T : TruthD) (ev nv sv tv1 tv2 tv3 tv4 : Value) (i h : Int) (w : World) (he : SpansAt w ev F.east) (hn : SpansAt w nv F.north) (hs : ShotsAt w sv F.nets) (h1 : IntsAt w tv1 T.east) (h2 : IntsAt w tv2 T.north) (h3 : IntsAt w tv3 T.se) (h4 : IntsAt w tv4 T.sn) :
    Cal 7 #[.agg #[ev, nv, .int .i64 F.gap, sv], .agg #[tv1, tv2, tv3, tv4], .int .i64 i, .int .i64 h] w fun e w' => e = .returned (.tuple #[.agg #[.int .i64 (liesVe F T i h), .int .i64 (liesVn F T i h)], .int .i64 (liesE F T i h)]) ∧ Ext w w' := by
  have HCK := hid (fun (u : World) (hu : Ext w u) => Check_z F _ _ _ u (he.mono hu) (hn.mono hu) (hs.mono hu))
  have HTR := hid (fun (hc : F.nets.length ≤ 1000) (u : World) (hu : Ext w u) => isTruth_z F hc T _ _ _ _ _ _ _ u (he.mono hu) (hn.mono hu) (hs.mono hu) (h1.mono hu) (h2.mono hu) (h3.mono hu) (h4.mono hu))
  have HLY := hid (fun (u : World) (hu : Ext w u) => lying_z F _ _ _ i h u (he.mono hu) (hn.mono hu) (hs.mono hu))
  have HLS := hid (fun (hF : FleetOk F) (hT : TruthOk F T) (k j : Nat) (hk : k < F.nets.length) (hh : F.nets[k].shot ≤ j ∧ (j : Int) ≤ F.nets[k].haul) (u : World) (hu : Ext w u) => lies_z F hF T hT _ _ _ _ _ _ _ k hk j hh u (he.mono hu) (hn.mono hu) (hs.mono hu) (h1.mono hu) (h2.mono hu) (h3.mono hu) (h4.mono hu))
  obtain ⟨ea, ec, rfl, ⟨hec, hel⟩, _⟩ := he
  obtain ⟨na, nc, rfl, ⟨hnc, hnl⟩, _⟩ := hn
  obtain ⟨sa, sc, rfl, ⟨hsc, hsl⟩, hcs⟩ := hs
  obtain ⟨ta, tac, rfl, ht1, hd1⟩ := h1
  obtain ⟨tb, tbc, rfl, ht2, hd2⟩ := h2
  obtain ⟨tc, tcc, rfl, ht3, hd3⟩ := h3
  obtain ⟨td, tdc, rfl, ht4, hd4⟩ := h4
  clear hcs hd1 hd2 hd3 hd4
  gi_enter Tryz.func7, Tryz.ntmps7
  gi_upto_region 1 with fail
  have hW : Ext w (((w.alloc (.cells #[.slice ea F.east.length ec, .slice na F.north.length nc, .int .i64 F.gap, .slice sa F.nets.length sc] 25)).alloc (.cells #[.slice ta T.east.length tac, .slice tb T.north.length tbc, .slice tc T.se.length tcc, .slice td T.sn.length tdc] 28)).alloc (.cells #[.int .i64 0, .int .i64 0] 31)) := (((Ext.refl _).alloc _).alloc _).alloc _
  have hB0 : (((w.alloc (.cells #[.slice ea F.east.length ec, .slice na F.north.length nc, .int .i64 F.gap, .slice sa F.nets.length sc] 25)).alloc (.cells #[.slice ta T.east.length tac, .slice tb T.north.length tbc, .slice tc T.se.length tcc, .slice td T.sn.length tdc] 28)).alloc (.cells #[.int .i64 0, .int .i64 0] 31)).heap[w.heap.size]? = some (.cells #[.slice ea F.east.length ec, .slice na F.north.length nc, .int .i64 F.gap, .slice sa F.nets.length sc] 25 (0, 0)) := by
    have h := Ext.new (w := w) (o := .cells #[.slice ea F.east.length ec, .slice na F.north.length nc, .int .i64 F.gap, .slice sa F.nets.length sc] 25) (Ext.refl _)
    try simp only [World.size_alloc] at h
    exact (((Ext.refl _).alloc _).alloc _).block h
  have hB1 : (((w.alloc (.cells #[.slice ea F.east.length ec, .slice na F.north.length nc, .int .i64 F.gap, .slice sa F.nets.length sc] 25)).alloc (.cells #[.slice ta T.east.length tac, .slice tb T.north.length tbc, .slice tc T.se.length tcc, .slice td T.sn.length tdc] 28)).alloc (.cells #[.int .i64 0, .int .i64 0] 31)).heap[w.heap.size + 1]? = some (.cells #[.slice ta T.east.length tac, .slice tb T.north.length tbc, .slice tc T.se.length tcc, .slice td T.sn.length tdc] 28 (0, 0)) := by
    have h := Ext.new (w := (w.alloc (.cells #[.slice ea F.east.length ec, .slice na F.north.length nc, .int .i64 F.gap, .slice sa F.nets.length sc] 25))) (o := .cells #[.slice ta T.east.length tac, .slice tb T.north.length tbc, .slice tc T.se.length tcc, .slice td T.sn.length tdc] 28) (Ext.refl _)
    try simp only [World.size_alloc] at h
    exact ((Ext.refl _).alloc _).block h
  have hB2 : (((w.alloc (.cells #[.slice ea F.east.length ec, .slice na F.north.length nc, .int .i64 F.gap, .slice sa F.nets.length sc] 25)).alloc (.cells #[.slice ta T.east.length tac, .slice tb T.north.length tbc, .slice tc T.se.length tcc, .slice td T.sn.length tdc] 28)).alloc (.cells #[.int .i64 0, .int .i64 0] 31)).heap[w.heap.size + 1 + 1]? = some (.cells #[.int .i64 0, .int .i64 0] 31 (0, 0)) := by
    have h := Ext.new (w := ((w.alloc (.cells #[.slice ea F.east.length ec, .slice na F.north.length nc, .int .i64 F.gap, .slice sa F.nets.length sc] 25)).alloc (.cells #[.slice ta T.east.length tac, .slice tb T.north.length tbc, .slice tc T.se.length tcc, .slice td T.sn.length tdc] 28))) (o := .cells #[.int .i64 0, .int .i64 0] 31) (Ext.refl _)
    try simp only [World.size_alloc] at h
    exact (Ext.refl _).block h
  have hZ : (((w.alloc (.cells #[.slice ea F.east.length ec, .slice na F.north.length nc, .int .i64 F.gap, .slice sa F.nets.length sc] 25)).alloc (.cells #[.slice ta T.east.length tac, .slice tb T.north.length tbc, .slice tc T.se.length tcc, .slice td T.sn.length tdc] 28)).alloc (.cells #[.int .i64 0, .int .i64 0] 31)).heap.size = w.heap.size + 3 := by simp only [World.size_alloc]
  generalize (((w.alloc (.cells #[.slice ea F.east.length ec, .slice na F.north.length nc, .int .i64 F.gap, .slice sa F.nets.length sc] 25)).alloc (.cells #[.slice ta T.east.length tac, .slice tb T.north.length tbc, .slice tc T.se.length tcc, .slice td T.sn.length tdc] 28)).alloc (.cells #[.int .i64 0, .int .i64 0] 31)) = W at *
  have HX := hid hW
  have HZ := hid hZ
  have HB0 := hid hB0
  have HB1 := hid hB1
  have HB2 := hid hB2
  have c0 := cell_of hB0
  have c1 := cell_of hB1
  have c2 := cell_of hB2
  clear hW hZ hB0 hB1 hB2
  have f2 := free_of HB2.out
  cases hF : fleetB F
  case false =>
    have HE : Hid (liesE F T i h = 20) := by show liesE F T i h = _; unfold liesE; rw [hF]; rfl
    have HV : Hid (liesVe F T i h = 0 ∧ liesVn F T i h = 0) := by show _ ∧ _; unfold liesVe liesVn; rw [HE.out]; exact ⟨rfl, rfl⟩
    rw [chk_20 hF] at HCK
    gi_wp2_with (gi_at_call 9; ((with_reducible refine (HCK.out _ HX.out).mono ?_); rintro e w9 ⟨rfl, hx9⟩; clear c0 c1 c2 f2; have HX := hid (HX.out.trans hx9); have HB0 := hid (hx9.block HB0.out); have HB1 := hid (hx9.block HB1.out); have HB2 := hid (hx9.block HB2.out); have c0 := cell_of HB0.out; have c1 := cell_of HB1.out; have c2 := cell_of HB2.out; have f2 := free_of HB2.out; clear hx9))
    have P := hid (put2 HB2.out HX.out (by omega) (.int .i64 0) (.int .i64 0))
    clear c0 c1 c2 f2
    have cB := cell_of P.out.2.1
    refine bodyPost_ret (v := .tuple #[.agg #[.int .i64 0, .int .i64 0], .int .i64 20]) (by simp [results, Tryz.results7, go_sem, cB]) rfl ⟨by rw [HV.out.1, HV.out.2, HE.out], P.out.1⟩
  case true =>
  have hFo := fleetB_ok hF
  have hcnt : F.nets.length ≤ 1000 := by have := hFo.count; omega
  have HTR := hid (HTR.out hcnt)
  rw [chk_0 hF] at HCK
  cases hT : truthB F T
  case false =>
    have HE : Hid (liesE F T i h = 21) := by show liesE F T i h = _; unfold liesE; rw [hF, hT]; rfl
    have HV : Hid (liesVe F T i h = 0 ∧ liesVn F T i h = 0) := by show _ ∧ _; unfold liesVe liesVn; rw [HE.out]; exact ⟨rfl, rfl⟩
    rw [hT] at HTR
    gi_wp2_with (first | (gi_at_call 9; ((with_reducible refine (HCK.out _ HX.out).mono ?_); rintro e w9 ⟨rfl, hx9⟩; clear c0 c1 c2 f2; have HX := hid (HX.out.trans hx9); have HB0 := hid (hx9.block HB0.out); have HB1 := hid (hx9.block HB1.out); have HB2 := hid (hx9.block HB2.out); have c0 := cell_of HB0.out; have c1 := cell_of HB1.out; have c2 := cell_of HB2.out; have f2 := free_of HB2.out; clear hx9)) | (gi_at_call 24; ((with_reducible refine (HTR.out _ HX.out).mono ?_); rintro e w9 ⟨rfl, hx9⟩; clear c0 c1 c2 f2; have HX := hid (HX.out.trans hx9); have HB0 := hid (hx9.block HB0.out); have HB1 := hid (hx9.block HB1.out); have HB2 := hid (hx9.block HB2.out); have c0 := cell_of HB0.out; have c1 := cell_of HB1.out; have c2 := cell_of HB2.out; have f2 := free_of HB2.out; clear hx9)))
    have P := hid (put2 HB2.out HX.out (by omega) (.int .i64 0) (.int .i64 0))
    clear c0 c1 c2 f2
    have cB := cell_of P.out.2.1
    refine bodyPost_ret (v := .tuple #[.agg #[.int .i64 0, .int .i64 0], .int .i64 21]) (by simp [results, Tryz.results7, go_sem, cB]) rfl ⟨by rw [HV.out.1, HV.out.2, HE.out], P.out.1⟩
  case true =>
  rw [hT] at HTR
  cases hL : hasB F i h
  case false =>
    have HE : Hid (liesE F T i h = 22) := by show liesE F T i h = _; unfold liesE; rw [hF, hT, hL]; rfl
    have HV : Hid (liesVe F T i h = 0 ∧ liesVn F T i h = 0) := by show _ ∧ _; unfold liesVe liesVn; rw [HE.out]; exact ⟨rfl, rfl⟩
    rw [hL] at HLY
    gi_wp2_with (first | (gi_at_call 9; ((with_reducible refine (HCK.out _ HX.out).mono ?_); rintro e w9 ⟨rfl, hx9⟩; clear c0 c1 c2 f2; have HX := hid (HX.out.trans hx9); have HB0 := hid (hx9.block HB0.out); have HB1 := hid (hx9.block HB1.out); have HB2 := hid (hx9.block HB2.out); have c0 := cell_of HB0.out; have c1 := cell_of HB1.out; have c2 := cell_of HB2.out; have f2 := free_of HB2.out; clear hx9)) | (gi_at_call 24; ((with_reducible refine (HTR.out _ HX.out).mono ?_); rintro e w9 ⟨rfl, hx9⟩; clear c0 c1 c2 f2; have HX := hid (HX.out.trans hx9); have HB0 := hid (hx9.block HB0.out); have HB1 := hid (hx9.block HB1.out); have HB2 := hid (hx9.block HB2.out); have c0 := cell_of HB0.out; have c1 := cell_of HB1.out; have c2 := cell_of HB2.out; have f2 := free_of HB2.out; clear hx9)) | (gi_at_call 25; ((with_reducible refine (HLY.out _ HX.out).mono ?_); rintro e w9 ⟨rfl, hx9⟩; clear c0 c1 c2 f2; have HX := hid (HX.out.trans hx9); have HB0 := hid (hx9.block HB0.out); have HB1 := hid (hx9.block HB1.out); have HB2 := hid (hx9.block HB2.out); have c0 := cell_of HB0.out; have c1 := cell_of HB1.out; have c2 := cell_of HB2.out; have f2 := free_of HB2.out; clear hx9)))
    have P := hid (put2 HB2.out HX.out (by omega) (.int .i64 0) (.int .i64 0))
    clear c0 c1 c2 f2
    have cB := cell_of P.out.2.1
    refine bodyPost_ret (v := .tuple #[.agg #[.int .i64 0, .int .i64 0], .int .i64 22]) (by simp [results, Tryz.results7, go_sem, cB]) rfl ⟨by rw [HV.out.1, HV.out.2, HE.out], P.out.1⟩
  case true =>
  rw [hL] at HLY
  obtain ⟨k, rfl, hk, hl⟩ := hasB_spec hL
  have hli := inB_spec hl
  have hok := hFo.nets _ (List.getElem_mem hk)
  obtain ⟨j, rfl⟩ : ∃ j : Nat, h = j := ⟨h.toNat, by have := hok.shot; omega⟩
  have HE : Hid (liesE F T k j = 0) := by show liesE F T k j = _; unfold liesE; rw [hF, hT, hL]; rfl
  have hno : netOf F k = F.nets[k] := by unfold netOf; rw [Int.toNat_natCast, getD_of hk]
  have HV : Hid (liesVe F T k j = where_eF T F.nets[k] k j ∧ liesVn F T k j = where_nF T F.nets[k] k j) := by show _ ∧ _; unfold liesVe liesVn; rw [HE.out, hno, Int.toNat_natCast]; exact ⟨rfl, rfl⟩
  have HLS := hid (HLS.out hFo (truthB_ok hT) k j hk hli)
  clear hok hli hl hno hFo
  generalize where_eF T F.nets[k] k j = we at *
  generalize where_nF T F.nets[k] k j = wn at *
  gi_wp2_with (first | (gi_at_call 9; ((with_reducible refine (HCK.out _ HX.out).mono ?_); rintro e w9 ⟨rfl, hx9⟩; clear c0 c1 c2 f2; have HX := hid (HX.out.trans hx9); have HB0 := hid (hx9.block HB0.out); have HB1 := hid (hx9.block HB1.out); have HB2 := hid (hx9.block HB2.out); have c0 := cell_of HB0.out; have c1 := cell_of HB1.out; have c2 := cell_of HB2.out; have f2 := free_of HB2.out; clear hx9)) | (gi_at_call 24; ((with_reducible refine (HTR.out _ HX.out).mono ?_); rintro e w9 ⟨rfl, hx9⟩; clear c0 c1 c2 f2; have HX := hid (HX.out.trans hx9); have HB0 := hid (hx9.block HB0.out); have HB1 := hid (hx9.block HB1.out); have HB2 := hid (hx9.block HB2.out); have c0 := cell_of HB0.out; have c1 := cell_of HB1.out; have c2 := cell_of HB2.out; have f2 := free_of HB2.out; clear hx9)) | (gi_at_call 25; ((with_reducible refine (HLY.out _ HX.out).mono ?_); rintro e w9 ⟨rfl, hx9⟩; clear c0 c1 c2 f2; have HX := hid (HX.out.trans hx9); have HB0 := hid (hx9.block HB0.out); have HB1 := hid (hx9.block HB1.out); have HB2 := hid (hx9.block HB2.out); have c0 := cell_of HB0.out; have c1 := cell_of HB1.out; have c2 := cell_of HB2.out; have f2 := free_of HB2.out; clear hx9)) | (gi_at_call 26; ((with_reducible refine (HLS.out _ HX.out).mono ?_); rintro e w9 ⟨rfl, hx9⟩; clear c0 c1 c2 f2; have HX := hid (HX.out.trans hx9); have HB0 := hid (hx9.block HB0.out); have HB1 := hid (hx9.block HB1.out); have HB2 := hid (hx9.block HB2.out); have c0 := cell_of HB0.out; have c1 := cell_of HB1.out; have c2 := cell_of HB2.out; have f2 := free_of HB2.out; clear hx9)))
  have P := hid (put2 HB2.out HX.out (by omega) (.int .i64 we) (.int .i64 wn))
  clear c0 c1 c2 f2
  have cB := cell_of P.out.2.1
  refine bodyPost_ret (v := .tuple #[.agg #[.int .i64 we, .int .i64 wn], .int .i64 0]) (by simp [results, Tryz.results7, go_sem, cB]) rfl ⟨by rw [HV.out.1, HV.out.2, HE.out], P.out.1⟩

end Go.Proofs.YtmjelgonhpgmbaaGreat
