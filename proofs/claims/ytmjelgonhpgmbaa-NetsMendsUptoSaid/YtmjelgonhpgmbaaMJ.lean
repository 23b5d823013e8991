/- Lies, Fouls. -/
import Derived.Test.YtmjelgonhpgmbaaMI
set_option linter.unusedSimpArgs false
set_option linter.unusedVariables false
namespace Go.Proofs.Ytmjelgonhpgmbaa
open Go Go.RowKit Go.Shelf

theorem newNight_bad (F : FleetD) (hF : fleetB F = true) (T : TruthD) (hT : truthB F T = false) (ev nv sv tv1 tv2 tv3 tv4 : Value) (w : World) (he : SpansAt w ev F.east) (hn : SpansAt w nv F.north) (hs : ShotsAt w sv F.nets) (h1 : IntsAt w tv1 T.east) (h2 : IntsAt w tv2 T.north) (h3 : IntsAt w tv3 T.se) (h4 : IntsAt w tv4 T.sn) :
    Cal 54 #[.agg #[ev, nv, .int .i64 F.gap, sv], .agg #[tv1, tv2, tv3, tv4]] w fun e w' => e = .returned (.tuple #[.agg #[.slice none 0 0, .slice none 0 0, .int .i64 0, .slice none 0 0, .slice none 0 0, .slice none 0 0, .slice none 0 0, .slice none 0 0, .slice none 0 0], .int .i64 21]) ∧ Ext w w' :=
  (newNight_any F hF T ev nv sv tv1 tv2 tv3 tv4 w he hn hs h1 h2 h3 h4).mono fun e w' ⟨hx, h⟩ => by
    rcases h with ⟨_, rfl⟩ | ⟨h', _⟩
    · exact ⟨rfl, hx⟩
    · rw [hT] at h'; cases h'
theorem newNight_good (F : FleetD) (hF : fleetB F = true) (T : TruthD) (hT : truthB F T = true) (ev nv sv tv1 tv2 tv3 tv4 : Value) (w : World) (he : SpansAt w ev F.east) (hn : SpansAt w nv F.north) (hs : ShotsAt w sv F.nets) (h1 : IntsAt w tv1 T.east) (h2 : IntsAt w tv2 T.north) (h3 : IntsAt w tv3 T.se) (h4 : IntsAt w tv4 T.sn) :
    Cal 54 #[.agg #[ev, nv, .int .i64 F.gap, sv], .agg #[tv1, tv2, tv3, tv4]] w fun e w' => Ext w w' ∧ ∃ v, e = .returned (.tuple #[v, .int .i64 0]) ∧ Hid (NightIn w' v F T) :=
  (newNight_any F hF T ev nv sv tv1 tv2 tv3 tv4 w he hn hs h1 h2 h3 h4).mono fun e w' ⟨hx, h⟩ => by
    rcases h with ⟨h', _⟩ | ⟨_, h⟩
    · rw [hT] at h'; cases h'
    · exact ⟨hx, h⟩
def liesE (F : FleetD) (T : TruthD) (i h : Int) : Int := if fleetB F then (if truthB F T then (if hasB F i h then 0 else 22) else 21) else 20
def liesVe (F : FleetD) (T : TruthD) (i h : Int) : Int := if liesE F T i h = 0 then where_eF T (netOf F i) i.toNat h else 0
def liesVn (F : FleetD) (T : TruthD) (i h : Int) : Int := if liesE F T i h = 0 then where_nF T (netOf F i) i.toNat h else 0

set_option maxRecDepth 100000 in
set_option maxHeartbeats 8000000 in
theorem Lies_any (F : FleetD) (T : TruthD) (ev nv sv tv1 tv2 tv3 tv4 : Value) (i h : Int) (w : World) (he : SpansAt w ev F.east) (hn : SpansAt w nv F.north) (hs : ShotsAt w sv F.nets) (h1 : IntsAt w tv1 T.east) (h2 : IntsAt w tv2 T.north) (h3 : IntsAt w tv3 T.se) (h4 : IntsAt w tv4 T.sn) :
    Cal 29 #[.agg #[ev, nv, .int .i64 F.gap, sv], .agg #[tv1, tv2, tv3, tv4], .int .i64 i, .int .i64 h] w fun e w' => e = .returned (.tuple #[.agg #[.int .i64 (liesVe F T i h), .int .i64 (liesVn F T i h)], .int .i64 (liesE F T i h)]) ∧ Ext w w' := by
  have HIN := hid (fun (u : World) (hu : Ext w u) => And.intro (he.mono hu) (And.intro (hn.mono hu) (hs.mono hu)))
  have HTR := hid (fun (u : World) (hu : Ext w u) => And.intro (h1.mono hu) (And.intro (h2.mono hu) (And.intro (h3.mono hu) (h4.mono hu))))
  clear he hn hs h1 h2 h3 h4
  gi_enter Try.func29, Try.ntmps29
  gi_upto_region 1 with fail
  have hW : Ext w (((w.alloc (.cells #[ev, nv, .int .i64 F.gap, sv] 40)).alloc (.cells #[tv1, tv2, tv3, tv4] 50)).alloc (.cells #[.int .i64 0, .int .i64 0] 54)) := (((Ext.refl _).alloc _).alloc _).alloc _
  have hW0 : (((w.alloc (.cells #[ev, nv, .int .i64 F.gap, sv] 40)).alloc (.cells #[tv1, tv2, tv3, tv4] 50)).alloc (.cells #[.int .i64 0, .int .i64 0] 54)).heap[w.heap.size]? = some (.cells #[ev, nv, .int .i64 F.gap, sv] 40 (0, 0)) := by simp only [alloc_at, World.size_alloc]; (repeat rw [if_neg (by omega)]); first | rfl | rw [if_pos (by omega)] | rw [if_pos trivial]
  have hW1 : (((w.alloc (.cells #[ev, nv, .int .i64 F.gap, sv] 40)).alloc (.cells #[tv1, tv2, tv3, tv4] 50)).alloc (.cells #[.int .i64 0, .int .i64 0] 54)).heap[w.heap.size + 1]? = some (.cells #[tv1, tv2, tv3, tv4] 50 (0, 0)) := by simp only [alloc_at, World.size_alloc]; (repeat rw [if_neg (by omega)]); first | rfl | rw [if_pos (by omega)] | rw [if_pos trivial]
  have hW2 : (((w.alloc (.cells #[ev, nv, .int .i64 F.gap, sv] 40)).alloc (.cells #[tv1, tv2, tv3, tv4] 50)).alloc (.cells #[.int .i64 0, .int .i64 0] 54)).heap[w.heap.size + 1 + 1]? = some (.cells #[.int .i64 0, .int .i64 0] 54 (0, 0)) := by simp only [alloc_at, World.size_alloc]; (repeat rw [if_neg (by omega)]); first | rfl | rw [if_pos (by omega)] | rw [if_pos trivial]
  generalize ((w.alloc (.cells #[ev, nv, .int .i64 F.gap, sv] 40)).alloc (.cells #[tv1, tv2, tv3, tv4] 50)).alloc (.cells #[.int .i64 0, .int .i64 0] 54) = W at *
  have hc0 := cell_of hW0
  have hc1 := cell_of hW1
  have HB2 := hid hW2
  have HX := hid hW
  clear hW hW0 hW1 hW2
  cases hF : fleetB F
  case false =>
    have HC : Hid (liesE F T i h = 20) := by show liesE F T i h = 20; unfold liesE; rw [hF]; rfl
    have HV : Hid (liesVe F T i h = 0 ∧ liesVn F T i h = 0) := by show _ ∧ _; unfold liesVe liesVn; rw [HC.out]; exact ⟨rfl, rfl⟩
    gi_wp2_with (gi_at_call 54; ((with_reducible refine (newNight_fleet F hF T ev nv sv tv1 tv2 tv3 tv4 _ (HIN.out _ HX.out).1 (HIN.out _ HX.out).2.1 (HIN.out _ HX.out).2.2 (HTR.out _ HX.out).1 (HTR.out _ HX.out).2.1 (HTR.out _ HX.out).2.2.1 (HTR.out _ HX.out).2.2.2).mono ?_); rintro e w1 ⟨rfl, hx1⟩; have hxa := hx1.alloc (.cells #[.slice none 0 0, .slice none 0 0, .int .i64 0, .slice none 0 0, .slice none 0 0, .slice none 0 0, .slice none 0 0, .slice none 0 0, .slice none 0 0] 116); have hd2 := cell_of (hxa.block HB2.out); have hf2 := free_of (hxa.block HB2.out)))
    have hbk := hxa.block HB2.out
    have hx := HX.out.trans hxa
    clear hd2 hf2 hc0 hc1
    have hb3 : (((w1.alloc (.cells #[.slice none 0 0, .slice none 0 0, .int .i64 0, .slice none 0 0, .slice none 0 0, .slice none 0 0, .slice none 0 0, .slice none 0 0, .slice none 0 0] 116)).setCell ⟨w.heap.size + 1 + 1, 0, none⟩ (.int .i64 0)).setCell ⟨w.heap.size + 1 + 1, 1, none⟩ (.int .i64 0)).heap[w.heap.size + 1 + 1]? = some (.cells #[.int .i64 0, .int .i64 0] 54 (0, 0)) := by
      have h := set_same (set_same (hbk) 0 (.int .i64 0)) 1 (.int .i64 0)
      simpa using h
    have hE : Ext w (((w1.alloc (.cells #[.slice none 0 0, .slice none 0 0, .int .i64 0, .slice none 0 0, .slice none 0 0, .slice none 0 0, .slice none 0 0, .slice none 0 0, .slice none 0 0] 116)).setCell ⟨w.heap.size + 1 + 1, 0, none⟩ (.int .i64 0)).setCell ⟨w.heap.size + 1 + 1, 1, none⟩ (.int .i64 0)) := ((hx).set (b := w.heap.size + 1 + 1) (by omega) _ _).set (b := w.heap.size + 1 + 1) (by omega) _ _
    generalize (((w1.alloc (.cells #[.slice none 0 0, .slice none 0 0, .int .i64 0, .slice none 0 0, .slice none 0 0, .slice none 0 0, .slice none 0 0, .slice none 0 0, .slice none 0 0] 116)).setCell ⟨w.heap.size + 1 + 1, 0, none⟩ (.int .i64 0)).setCell ⟨w.heap.size + 1 + 1, 1, none⟩ (.int .i64 0)) = WF at *
    have hc := cell_of hb3
    exact bodyPost_ret (v := .tuple #[.agg #[.int .i64 0, .int .i64 0], .int .i64 20]) (by simp [results, Try.results29, go_sem, hc]) rfl ⟨by rw [HC.out, HV.out.1, HV.out.2], hE⟩
  case true =>
    have HOK := hid (fleetB_ok hF)
    cases hT : truthB F T
    · gi_upto_region 2 with (gi_at_call 54; ((with_reducible refine (newNight_bad F hF T hT ev nv sv tv1 tv2 tv3 tv4 _ (HIN.out _ HX.out).1 (HIN.out _ HX.out).2.1 (HIN.out _ HX.out).2.2 (HTR.out _ HX.out).1 (HTR.out _ HX.out).2.1 (HTR.out _ HX.out).2.2.1 (HTR.out _ HX.out).2.2.2).mono ?_); rintro e w1 ⟨rfl, hx1⟩))
      have HC : Hid (liesE F T i h = 21) := by show liesE F T i h = 21; unfold liesE; rw [hF, hT]; rfl
      have HV : Hid (liesVe F T i h = 0 ∧ liesVn F T i h = 0) := by show _ ∧ _; unfold liesVe liesVn; rw [HC.out]; exact ⟨rfl, rfl⟩
      have hxa := hx1.alloc (.cells #[.slice none 0 0, .slice none 0 0, .int .i64 0, .slice none 0 0, .slice none 0 0, .slice none 0 0, .slice none 0 0, .slice none 0 0, .slice none 0 0] 116)
      have hd2 := cell_of (hxa.block HB2.out)
      have hf2 := free_of (hxa.block HB2.out)
      have hbk := hxa.block HB2.out
      have hx := HX.out.trans hxa
      clear hxa hx1 hc0 hc1
      generalize w1.alloc (.cells #[.slice none 0 0, .slice none 0 0, .int .i64 0, .slice none 0 0, .slice none 0 0, .slice none 0 0, .slice none 0 0, .slice none 0 0, .slice none 0 0] 116) = W1 at *
      gi_wp2_with fail
      clear hd2 hf2
      have hb3 : ((W1.setCell ⟨w.heap.size + 1 + 1, 0, none⟩ (.int .i64 0)).setCell ⟨w.heap.size + 1 + 1, 1, none⟩ (.int .i64 0)).heap[w.heap.size + 1 + 1]? = some (.cells #[.int .i64 0, .int .i64 0] 54 (0, 0)) := by
        have h := set_same (set_same (hbk) 0 (.int .i64 0)) 1 (.int .i64 0)
        simpa using h
      have hE : Ext w ((W1.setCell ⟨w.heap.size + 1 + 1, 0, none⟩ (.int .i64 0)).setCell ⟨w.heap.size + 1 + 1, 1, none⟩ (.int .i64 0)) := ((hx).set (b := w.heap.size + 1 + 1) (by omega) _ _).set (b := w.heap.size + 1 + 1) (by omega) _ _
      generalize ((W1.setCell ⟨w.heap.size + 1 + 1, 0, none⟩ (.int .i64 0)).setCell ⟨w.heap.size + 1 + 1, 1, none⟩ (.int .i64 0)) = WF at *
      have hc := cell_of hb3
      exact bodyPost_ret (v := .tuple #[.agg #[.int .i64 0, .int .i64 0], .int .i64 21]) (by simp [results, Try.results29, go_sem, hc]) rfl ⟨by rw [HC.out, HV.out.1, HV.out.2], hE⟩
    · gi_upto_region 2 with (gi_at_call 54; ((with_reducible refine (newNight_good F hF T hT ev nv sv tv1 tv2 tv3 tv4 _ (HIN.out _ HX.out).1 (HIN.out _ HX.out).2.1 (HIN.out _ HX.out).2.2 (HTR.out _ HX.out).1 (HTR.out _ HX.out).2.1 (HTR.out _ HX.out).2.2.1 (HTR.out _ HX.out).2.2.2).mono ?_); rintro e w1 ⟨hx1, v, rfl, hni⟩; obtain ⟨eb, eo, ec, nb, no, nc, sa, sc, ma, mc, ta, tac, tb, tbc, tc, tcc, td, tdc, rfl, ⟨k1, k2, k3⟩, k4, k5, k6, k7⟩ := hni.out))
      have HTK := hid (truthB_ok hT)
      have hxa := hx1.alloc (.cells #[.slice (some ⟨eb, eo, none⟩) F.east.length ec, .slice (some ⟨nb, no, none⟩) F.north.length nc, .int .i64 F.gap, .slice sa F.nets.length sc, .slice ma F.nets.length mc, .slice ta T.east.length tac, .slice tb T.north.length tbc, .slice tc T.se.length tcc, .slice td T.sn.length tdc] 116)
      have HB3 : Hid ((w1.alloc (.cells #[.slice (some ⟨eb, eo, none⟩) F.east.length ec, .slice (some ⟨nb, no, none⟩) F.north.length nc, .int .i64 F.gap, .slice sa F.nets.length sc, .slice ma F.nets.length mc, .slice ta T.east.length tac, .slice tb T.north.length tbc, .slice tc T.se.length tcc, .slice td T.sn.length tdc] 116)).heap[w1.heap.size]? = some (.cells #[.slice (some ⟨eb, eo, none⟩) F.east.length ec, .slice (some ⟨nb, no, none⟩) F.north.length nc, .int .i64 F.gap, .slice sa F.nets.length sc, .slice ma F.nets.length mc, .slice ta T.east.length tac, .slice tb T.north.length tbc, .slice tc T.se.length tcc, .slice td T.sn.length tdc] 116 (0, 0))) := Ext.new (Ext.refl _)
      have HNI := hid (fun (u : World) (hu : Ext (w1.alloc (.cells #[.slice (some ⟨eb, eo, none⟩) F.east.length ec, .slice (some ⟨nb, no, none⟩) F.north.length nc, .int .i64 F.gap, .slice sa F.nets.length sc, .slice ma F.nets.length mc, .slice ta T.east.length tac, .slice tb T.north.length tbc, .slice tc T.se.length tcc, .slice td T.sn.length tdc] 116)) u) => (show _ ∧ _ ∧ _ ∧ _ ∧ _ ∧ _ ∧ _ from ⟨k1.mono (((Ext.refl w1).alloc _).trans hu), k2.mono (((Ext.refl w1).alloc _).trans hu), k3.mono (((Ext.refl w1).alloc _).trans hu), k4.mono (((Ext.refl w1).alloc _).trans hu), k5.mono (((Ext.refl w1).alloc _).trans hu), k6.mono (((Ext.refl w1).alloc _).trans hu), k7.mono (((Ext.refl w1).alloc _).trans hu)⟩))
      have HB2 := hid (hxa.block HB2.out)
      have HX := hid (HX.out.trans hxa)
      clear hxa hx1 hc0 hc1 k1 k2 k3 k4 k5 k6 k7 hni HIN HTR
      generalize w1.alloc (.cells #[.slice (some ⟨eb, eo, none⟩) F.east.length ec, .slice (some ⟨nb, no, none⟩) F.north.length nc, .int .i64 F.gap, .slice sa F.nets.length sc, .slice ma F.nets.length mc, .slice ta T.east.length tac, .slice tb T.north.length tbc, .slice tc T.se.length tcc, .slice td T.sn.length tdc] 116) = W1 at *
      generalize w1.heap.size = G3 at *
      have hc3 := cell_of HB3.out
      cases hh : hasB F i h
      case false =>
        have HC : Hid (liesE F T i h = 22) := by show liesE F T i h = 22; unfold liesE; rw [hF, hT, hh]; rfl
        have HV : Hid (liesVe F T i h = 0 ∧ liesVn F T i h = 0) := by show _ ∧ _; unfold liesVe liesVn; rw [HC.out]; exact ⟨rfl, rfl⟩
        have HH := hid (hasLying_any F (.slice (some ⟨eb, eo, none⟩) F.east.length ec) (.slice (some ⟨nb, no, none⟩) F.north.length nc) (.slice sa F.nets.length sc) (.slice ma F.nets.length mc) (by have := HOK.out.count; omega) i h W1 (HNI.out _ (Ext.refl _)).2.2.1)
        rw [hh] at HH
        gi_wp2_with (gi_at_call 58; ((with_reducible refine HH.out.mono ?_); rintro e w2 ⟨rfl, hx2⟩; have hd2 := cell_of (hx2.block HB2.out); have hf2 := free_of (hx2.block HB2.out)))
        have hbk := hx2.block HB2.out
        have hx := HX.out.trans hx2
        clear hd2 hf2 hc3
        have hb3 : ((w2.setCell ⟨w.heap.size + 1 + 1, 0, none⟩ (.int .i64 0)).setCell ⟨w.heap.size + 1 + 1, 1, none⟩ (.int .i64 0)).heap[w.heap.size + 1 + 1]? = some (.cells #[.int .i64 0, .int .i64 0] 54 (0, 0)) := by
          have h := set_same (set_same (hbk) 0 (.int .i64 0)) 1 (.int .i64 0)
          simpa using h
        have hE : Ext w ((w2.setCell ⟨w.heap.size + 1 + 1, 0, none⟩ (.int .i64 0)).setCell ⟨w.heap.size + 1 + 1, 1, none⟩ (.int .i64 0)) := ((hx).set (b := w.heap.size + 1 + 1) (by omega) _ _).set (b := w.heap.size + 1 + 1) (by omega) _ _
        generalize ((w2.setCell ⟨w.heap.size + 1 + 1, 0, none⟩ (.int .i64 0)).setCell ⟨w.heap.size + 1 + 1, 1, none⟩ (.int .i64 0)) = WF at *
        have hc := cell_of hb3
        exact bodyPost_ret (v := .tuple #[.agg #[.int .i64 0, .int .i64 0], .int .i64 22]) (by simp [results, Try.results29, go_sem, hc]) rfl ⟨by rw [HC.out, HV.out.1, HV.out.2], hE⟩
      case true =>
        obtain ⟨j, rfl, hj, hl⟩ := hasB_spec hh
        have HC : Hid (liesE F T j h = 0) := by show liesE F T j h = 0; unfold liesE; rw [hF, hT, hh]; rfl
        have HV : Hid (liesVe F T j h = where_eF T F.nets[j] j h ∧ liesVn F T j h = where_nF T F.nets[j] j h) := by show _ ∧ _; unfold liesVe liesVn netOf; rw [HC.out, Int.toNat_natCast, getD_of hj]; exact ⟨rfl, rfl⟩
        have HH := hid (hasLying_any F (.slice (some ⟨eb, eo, none⟩) F.east.length ec) (.slice (some ⟨nb, no, none⟩) F.north.length nc) (.slice sa F.nets.length sc) (.slice ma F.nets.length mc) (by have := HOK.out.count; omega) j h W1 (HNI.out _ (Ext.refl _)).2.2.1)
        rw [hh] at HH
        have hji : (j : Int) < F.nets.length := by omega
        have HJ := hid (And.intro hj (inB_spec hl))
        clear hh hl
        gi_upto_region 6 with (gi_at_call 58; ((with_reducible refine HH.out.mono ?_); rintro e w2 ⟨rfl, hx2⟩))
        clear HH hc3
        have hc3 := cell_of (hx2.block HB3.out)
        obtain ⟨_, hmc, hcs⟩ := (HNI.out _ hx2).2.2.1.get
        obtain ⟨b, off, rfl, hb, c0, c1, c2, c3, c4, c5, c6, c7, c8, c9, c10⟩ := hcs j hj
        clear hcs
        generalize hnj : F.nets[j] = n at *
        have hxb : Ext w2 (w2.alloc (.cells #[.int .i64 n.east, .int .i64 n.north, .int .i64 n.long, .int .i64 n.along, .int .i64 n.shot, .int .i64 n.haul, .int .i64 n.se.lo, .int .i64 n.se.hi, .int .i64 n.sn.lo, .int .i64 n.sn.hi, .int .i64 (j : Int)] 125)) := (Ext.refl _).alloc _
        have hb4 : (w2.alloc (.cells #[.int .i64 n.east, .int .i64 n.north, .int .i64 n.long, .int .i64 n.along, .int .i64 n.shot, .int .i64 n.haul, .int .i64 n.se.lo, .int .i64 n.se.hi, .int .i64 n.sn.lo, .int .i64 n.sn.hi, .int .i64 (j : Int)] 125)).heap[w2.heap.size]? = some (.cells #[.int .i64 n.east, .int .i64 n.north, .int .i64 n.long, .int .i64 n.along, .int .i64 n.shot, .int .i64 n.haul, .int .i64 n.se.lo, .int .i64 n.se.hi, .int .i64 n.sn.lo, .int .i64 n.sn.hi, .int .i64 (j : Int)] 125 (0, 0)) := Ext.new (Ext.refl _)
        gi_upto_region 7 with fail
        have HB4 := hid hb4
        have HX2 := hid (hx2.trans hxb)
        clear hx2 hxb hb4 c0 c1 c2 c3 c4 c5 c6 c7 c8 c9 c10 hc3
        generalize w2.alloc (.cells #[.int .i64 n.east, .int .i64 n.north, .int .i64 n.long, .int .i64 n.along, .int .i64 n.shot, .int .i64 n.haul, .int .i64 n.se.lo, .int .i64 n.se.hi, .int .i64 n.sn.lo, .int .i64 n.sn.hi, .int .i64 (j : Int)] 125) = W2 at *
        generalize w2.heap.size = G4 at *
        have HW := hid (fun (u : World) (hu : Ext W2 u) => And.intro (where_e F HOK.out T HTK.out eb eo ec nb no nc (.slice sa F.nets.length sc) (.slice (some ⟨b, off, none⟩) F.nets.length mc) (.slice ta T.east.length tac) (.slice tb T.north.length tbc) (.slice tc T.se.length tcc) (.slice td T.sn.length tdc) n j HJ.out.1 hnj h HJ.out.2 u (HNI.out u (HX2.out.trans hu)).2.2.2.1 (HNI.out u (HX2.out.trans hu)).2.2.2.2.1 (HNI.out u (HX2.out.trans hu)).2.2.2.2.2.1 (HNI.out u (HX2.out.trans hu)).2.2.2.2.2.2) (where_n F HOK.out T HTK.out eb eo ec nb no nc (.slice sa F.nets.length sc) (.slice (some ⟨b, off, none⟩) F.nets.length mc) (.slice ta T.east.length tac) (.slice tb T.north.length tbc) (.slice tc T.se.length tcc) (.slice td T.sn.length tdc) n j HJ.out.1 hnj h HJ.out.2 u (HNI.out u (HX2.out.trans hu)).2.2.2.1 (HNI.out u (HX2.out.trans hu)).2.2.2.2.1 (HNI.out u (HX2.out.trans hu)).2.2.2.2.2.1 (HNI.out u (HX2.out.trans hu)).2.2.2.2.2.2))
        generalize where_eF T n j h = VE at *
        generalize where_nF T n j h = VN at *
        refine lex_wide 11 [] (by kernel_rfl) (by kernel_rfl) (nStab_nil) ?_
        simp only [List.take_succ_cons, List.take_zero, List.drop_succ_cons, List.drop_zero]
        apply lex_fun (rfl : psAt _ _ = none)
        · intro x u hR hf
          have c3 := cell_of ((HX2.out.trans hR).block HB3.out)
          clear hR hf
          go_simp
          exact ⟨rfl, Ext.refl _⟩
        simp only [Act.put, List.setIfInBounds_toArray, List.set_cons_succ, List.set_cons_zero]
        refine lex_fun (v := .agg #[.int .i64 0, .func (.func 84) #[] #[], .func (.func 85) #[] #[], .func (.func 86) #[] #[], .func (.func 87) #[] #[]]) (rfl : psAt _ _ = none) ?_ ?_
        · intro x u hR hf
          have hcal := hid (side_e u)
          clear hR hf
          go_simp
          exact hcal.out.mono fun e w'' ⟨he, hx'⟩ => ⟨_, he, rfl, hx'⟩
        simp only [Act.put, List.setIfInBounds_toArray, List.set_cons_succ, List.set_cons_zero]
        apply lex_fun (rfl : psAt _ _ = none)
        · intro x u hR hf
          have c4 := cell_of (hR.block HB4.out)
          clear hR hf
          go_simp
          exact ⟨rfl, Ext.refl _⟩
        simp only [Act.put, List.setIfInBounds_toArray, List.set_cons_succ, List.set_cons_zero]
        apply lex_fun (rfl : psAt _ _ = none)
        · intro x u hR hf
          clear hR hf
          go_simp
          exact ⟨rfl, Ext.refl _⟩
        simp only [Act.put, List.setIfInBounds_toArray, List.set_cons_succ, List.set_cons_zero]
        refine lex_fun (v := .int .i64 VE) (rfl : psAt _ _ = none) ?_ ?_
        · intro x u hR hf
          have hcal := hid ((HW.out u hR).1)
          clear hR hf
          go_simp
          exact hcal.out.mono fun e w'' ⟨he, hx'⟩ => ⟨_, he, rfl, hx'⟩
        simp only [Act.put, List.setIfInBounds_toArray, List.set_cons_succ, List.set_cons_zero]
        apply lex_fun (rfl : psAt _ _ = none)
        · intro x u hR hf
          have c3 := cell_of ((HX2.out.trans hR).block HB3.out)
          clear hR hf
          go_simp
          exact ⟨rfl, Ext.refl _⟩
        simp only [Act.put, List.setIfInBounds_toArray, List.set_cons_succ, List.set_cons_zero]
        refine lex_fun (v := .agg #[.int .i64 1, .func (.func 88) #[] #[], .func (.func 89) #[] #[], .func (.func 90) #[] #[], .func (.func 91) #[] #[]]) (rfl : psAt _ _ = none) ?_ ?_
        · intro x u hR hf
          have hcal := hid (side_n u)
          clear hR hf
          go_simp
          exact hcal.out.mono fun e w'' ⟨he, hx'⟩ => ⟨_, he, rfl, hx'⟩
        simp only [Act.put, List.setIfInBounds_toArray, List.set_cons_succ, List.set_cons_zero]
        apply lex_fun (rfl : psAt _ _ = none)
        · intro x u hR hf
          have c4 := cell_of (hR.block HB4.out)
          clear hR hf
          go_simp
          exact ⟨rfl, Ext.refl _⟩
        simp only [Act.put, List.setIfInBounds_toArray, List.set_cons_succ, List.set_cons_zero]
        apply lex_fun (rfl : psAt _ _ = none)
        · intro x u hR hf
          clear hR hf
          go_simp
          exact ⟨rfl, Ext.refl _⟩
        simp only [Act.put, List.setIfInBounds_toArray, List.set_cons_succ, List.set_cons_zero]
        refine lex_fun (v := .int .i64 VN) (rfl : psAt _ _ = none) ?_ ?_
        · intro x u hR hf
          have hcal := hid ((HW.out u hR).2)
          clear hR hf
          go_simp
          exact hcal.out.mono fun e w'' ⟨he, hx'⟩ => ⟨_, he, rfl, hx'⟩
        simp only [Act.put, List.setIfInBounds_toArray, List.set_cons_succ, List.set_cons_zero]
        apply lex_fun (rfl : psAt _ _ = none)
        · intro x u hR hf
          clear hR hf
          go_simp
          exact ⟨rfl, Ext.refl _⟩
        simp only [Act.put, List.setIfInBounds_toArray, List.set_cons_succ, List.set_cons_zero]
        refine lex_nil fun x w6 hE hfacts => ?_
        clear hfacts x
        have hbk := hE.block (HX2.out.block HB2.out)
        have hd2 := cell_of hbk
        have hf2 := free_of hbk
        have hx := HX.out.trans (HX2.out.trans hE)
        gi_wp2_with fail
        clear hd2 hf2 hE
        have hb3 : ((w6.setCell ⟨w.heap.size + 1 + 1, 0, none⟩ (.int .i64 VE)).setCell ⟨w.heap.size + 1 + 1, 1, none⟩ (.int .i64 VN)).heap[w.heap.size + 1 + 1]? = some (.cells #[.int .i64 VE, .int .i64 VN] 54 (0, 0)) := by
          have h := set_same (set_same (hbk) 0 (.int .i64 VE)) 1 (.int .i64 VN)
          simpa using h
        have hE : Ext w ((w6.setCell ⟨w.heap.size + 1 + 1, 0, none⟩ (.int .i64 VE)).setCell ⟨w.heap.size + 1 + 1, 1, none⟩ (.int .i64 VN)) := ((hx).set (b := w.heap.size + 1 + 1) (by omega) _ _).set (b := w.heap.size + 1 + 1) (by omega) _ _
        generalize ((w6.setCell ⟨w.heap.size + 1 + 1, 0, none⟩ (.int .i64 VE)).setCell ⟨w.heap.size + 1 + 1, 1, none⟩ (.int .i64 VN)) = WF at *
        have hc := cell_of hb3
        exact bodyPost_ret (v := .tuple #[.agg #[.int .i64 VE, .int .i64 VN], .int .i64 0]) (by simp [results, Try.results29, go_sem, hc]) rfl ⟨by rw [HC.out, HV.out.1, HV.out.2], hE⟩

def foulsE (F : FleetD) (T : TruthD) : Int := if fleetB F then (if truthB F T then foulE ((trips F).find? (foulLt F T)) else 21) else 20
def foulsV (F : FleetD) (T : TruthD) : Array Value := if fleetB F && truthB F T then foulV ((trips F).find? (foulLt F T)) else #[.int .i64 0, .int .i64 0, .int .i64 0]
def pLy (fv : Value) (v : Value) (u : World) : Prop := ∃ g, v = .func (.func 82) #[] #[.pointer (some ⟨g, 0, none⟩)] ∧ u.heap[g]? = some (.cells #[fv] 121 (0, 0))
theorem pLy_s (fv : Value) : ∀ v u u', pLy fv v u → Ext u u' → pLy fv v u' := fun _ _ _ ⟨g, h1, h2⟩ hx => ⟨g, h1, hx.block h2⟩
set_option maxRecDepth 100000 in
set_option maxHeartbeats 8000000 in
theorem Fouls_any (F : FleetD) (T : TruthD) (ev nv sv tv1 tv2 tv3 tv4 : Value) (w : World) (he : SpansAt w ev F.east) (hn : SpansAt w nv F.north) (hs : ShotsAt w sv F.nets) (h1 : IntsAt w tv1 T.east) (h2 : IntsAt w tv2 T.north) (h3 : IntsAt w tv3 T.se) (h4 : IntsAt w tv4 T.sn) :
    Cal 24 #[.agg #[ev, nv, .int .i64 F.gap, sv], .agg #[tv1, tv2, tv3, tv4]] w fun e w' => e = .returned (.tuple #[.agg (foulsV F T), .int .i64 (foulsE F T)]) ∧ Ext w w' := by
  have HIN := hid (fun (u : World) (hu : Ext w u) => And.intro (he.mono hu) (And.intro (hn.mono hu) (hs.mono hu)))
  have HTR := hid (fun (u : World) (hu : Ext w u) => And.intro (h1.mono hu) (And.intro (h2.mono hu) (And.intro (h3.mono hu) (h4.mono hu))))
  clear he hn hs h1 h2 h3 h4
  gi_enter Try.func24, Try.ntmps24
  gi_upto_region 1 with fail
  have hW : Ext w (((w.alloc (.cells #[ev, nv, .int .i64 F.gap, sv] 40)).alloc (.cells #[tv1, tv2, tv3, tv4] 50)).alloc (.cells #[.int .i64 0, .int .i64 0, .int .i64 0] 43)) := (((Ext.refl _).alloc _).alloc _).alloc _
  have hW0 : (((w.alloc (.cells #[ev, nv, .int .i64 F.gap, sv] 40)).alloc (.cells #[tv1, tv2, tv3, tv4] 50)).alloc (.cells #[.int .i64 0, .int .i64 0, .int .i64 0] 43)).heap[w.heap.size]? = some (.cells #[ev, nv, .int .i64 F.gap, sv] 40 (0, 0)) := by simp only [alloc_at, World.size_alloc]; (repeat rw [if_neg (by omega)]); first | rfl | rw [if_pos (by omega)] | rw [if_pos trivial]
  have hW1 : (((w.alloc (.cells #[ev, nv, .int .i64 F.gap, sv] 40)).alloc (.cells #[tv1, tv2, tv3, tv4] 50)).alloc (.cells #[.int .i64 0, .int .i64 0, .int .i64 0] 43)).heap[w.heap.size + 1]? = some (.cells #[tv1, tv2, tv3, tv4] 50 (0, 0)) := by simp only [alloc_at, World.size_alloc]; (repeat rw [if_neg (by omega)]); first | rfl | rw [if_pos (by omega)] | rw [if_pos trivial]
  have hW2 : (((w.alloc (.cells #[ev, nv, .int .i64 F.gap, sv] 40)).alloc (.cells #[tv1, tv2, tv3, tv4] 50)).alloc (.cells #[.int .i64 0, .int .i64 0, .int .i64 0] 43)).heap[w.heap.size + 1 + 1]? = some (.cells #[.int .i64 0, .int .i64 0, .int .i64 0] 43 (0, 0)) := by simp only [alloc_at, World.size_alloc]; (repeat rw [if_neg (by omega)]); first | rfl | rw [if_pos (by omega)] | rw [if_pos trivial]
  generalize ((w.alloc (.cells #[ev, nv, .int .i64 F.gap, sv] 40)).alloc (.cells #[tv1, tv2, tv3, tv4] 50)).alloc (.cells #[.int .i64 0, .int .i64 0, .int .i64 0] 43) = W at *
  have hc0 := cell_of hW0
  have hc1 := cell_of hW1
  have HB2 := hid hW2
  have HX := hid hW
  clear hW hW0 hW1 hW2
  cases hF : fleetB F
  case false =>
    have HC : Hid (foulsE F T = 20 ∧ foulsV F T = #[.int .i64 0, .int .i64 0, .int .i64 0]) := by show _ ∧ _; unfold foulsE foulsV; rw [hF]; exact ⟨rfl, rfl⟩
    gi_wp2_with (gi_at_call 54; ((with_reducible refine (newNight_fleet F hF T ev nv sv tv1 tv2 tv3 tv4 _ (HIN.out _ HX.out).1 (HIN.out _ HX.out).2.1 (HIN.out _ HX.out).2.2 (HTR.out _ HX.out).1 (HTR.out _ HX.out).2.1 (HTR.out _ HX.out).2.2.1 (HTR.out _ HX.out).2.2.2).mono ?_); rintro e w1 ⟨rfl, hx1⟩; have hxa := hx1.alloc (.cells #[.slice none 0 0, .slice none 0 0, .int .i64 0, .slice none 0 0, .slice none 0 0, .slice none 0 0, .slice none 0 0, .slice none 0 0, .slice none 0 0] 116); have hd2 := cell_of (hxa.block HB2.out); have hf2 := free_of (hxa.block HB2.out)))
    have hbk := hxa.block HB2.out
    have hx := HX.out.trans hxa
    clear hd2 hf2 hc0 hc1
    have hb3 : ((((w1.alloc (.cells #[.slice none 0 0, .slice none 0 0, .int .i64 0, .slice none 0 0, .slice none 0 0, .slice none 0 0, .slice none 0 0, .slice none 0 0, .slice none 0 0] 116)).setCell ⟨w.heap.size + 1 + 1, 0, none⟩ (.int .i64 0)).setCell ⟨w.heap.size + 1 + 1, 1, none⟩ (.int .i64 0)).setCell ⟨w.heap.size + 1 + 1, 2, none⟩ (.int .i64 0)).heap[w.heap.size + 1 + 1]? = some (.cells #[.int .i64 0, .int .i64 0, .int .i64 0] 43 (0, 0)) := by
      have h := set_same (set_same (set_same (hbk) 0 (.int .i64 0)) 1 (.int .i64 0)) 2 (.int .i64 0)
      simpa using h
    have hE : Ext w ((((w1.alloc (.cells #[.slice none 0 0, .slice none 0 0, .int .i64 0, .slice none 0 0, .slice none 0 0, .slice none 0 0, .slice none 0 0, .slice none 0 0, .slice none 0 0] 116)).setCell ⟨w.heap.size + 1 + 1, 0, none⟩ (.int .i64 0)).setCell ⟨w.heap.size + 1 + 1, 1, none⟩ (.int .i64 0)).setCell ⟨w.heap.size + 1 + 1, 2, none⟩ (.int .i64 0)) := (((hx).set (b := w.heap.size + 1 + 1) (by omega) _ _).set (b := w.heap.size + 1 + 1) (by omega) _ _).set (b := w.heap.size + 1 + 1) (by omega) _ _
    generalize ((((w1.alloc (.cells #[.slice none 0 0, .slice none 0 0, .int .i64 0, .slice none 0 0, .slice none 0 0, .slice none 0 0, .slice none 0 0, .slice none 0 0, .slice none 0 0] 116)).setCell ⟨w.heap.size + 1 + 1, 0, none⟩ (.int .i64 0)).setCell ⟨w.heap.size + 1 + 1, 1, none⟩ (.int .i64 0)).setCell ⟨w.heap.size + 1 + 1, 2, none⟩ (.int .i64 0)) = WF at *
    have hc := cell_of hb3
    exact bodyPost_ret (v := .tuple #[.agg #[.int .i64 0, .int .i64 0, .int .i64 0], .int .i64 20]) (by simp [results, Try.results24, go_sem, hc]) rfl ⟨by rw [HC.out.1, HC.out.2], hE⟩
  case true =>
    have HOK := hid (fleetB_ok hF)
    cases hT : truthB F T
    · gi_upto_region 2 with (gi_at_call 54; ((with_reducible refine (newNight_bad F hF T hT ev nv sv tv1 tv2 tv3 tv4 _ (HIN.out _ HX.out).1 (HIN.out _ HX.out).2.1 (HIN.out _ HX.out).2.2 (HTR.out _ HX.out).1 (HTR.out _ HX.out).2.1 (HTR.out _ HX.out).2.2.1 (HTR.out _ HX.out).2.2.2).mono ?_); rintro e w1 ⟨rfl, hx1⟩))
      have HC : Hid (foulsE F T = 21 ∧ foulsV F T = #[.int .i64 0, .int .i64 0, .int .i64 0]) := by show _ ∧ _; unfold foulsE foulsV; rw [hF, hT]; exact ⟨rfl, rfl⟩
      have hxa := hx1.alloc (.cells #[.slice none 0 0, .slice none 0 0, .int .i64 0, .slice none 0 0, .slice none 0 0, .slice none 0 0, .slice none 0 0, .slice none 0 0, .slice none 0 0] 116)
      have hd2 := cell_of (hxa.block HB2.out)
      have hf2 := free_of (hxa.block HB2.out)
      have hbk := hxa.block HB2.out
      have hx := HX.out.trans hxa
      clear hxa hx1 hc0 hc1
      generalize w1.alloc (.cells #[.slice none 0 0, .slice none 0 0, .int .i64 0, .slice none 0 0, .slice none 0 0, .slice none 0 0, .slice none 0 0, .slice none 0 0, .slice none 0 0] 116) = W1 at *
      gi_wp2_with fail
      clear hd2 hf2
      have hb3 : (((W1.setCell ⟨w.heap.size + 1 + 1, 0, none⟩ (.int .i64 0)).setCell ⟨w.heap.size + 1 + 1, 1, none⟩ (.int .i64 0)).setCell ⟨w.heap.size + 1 + 1, 2, none⟩ (.int .i64 0)).heap[w.heap.size + 1 + 1]? = some (.cells #[.int .i64 0, .int .i64 0, .int .i64 0] 43 (0, 0)) := by
        have h := set_same (set_same (set_same (hbk) 0 (.int .i64 0)) 1 (.int .i64 0)) 2 (.int .i64 0)
        simpa using h
      have hE : Ext w (((W1.setCell ⟨w.heap.size + 1 + 1, 0, none⟩ (.int .i64 0)).setCell ⟨w.heap.size + 1 + 1, 1, none⟩ (.int .i64 0)).setCell ⟨w.heap.size + 1 + 1, 2, none⟩ (.int .i64 0)) := (((hx).set (b := w.heap.size + 1 + 1) (by omega) _ _).set (b := w.heap.size + 1 + 1) (by omega) _ _).set (b := w.heap.size + 1 + 1) (by omega) _ _
      generalize (((W1.setCell ⟨w.heap.size + 1 + 1, 0, none⟩ (.int .i64 0)).setCell ⟨w.heap.size + 1 + 1, 1, none⟩ (.int .i64 0)).setCell ⟨w.heap.size + 1 + 1, 2, none⟩ (.int .i64 0)) = WF at *
      have hc := cell_of hb3
      exact bodyPost_ret (v := .tuple #[.agg #[.int .i64 0, .int .i64 0, .int .i64 0], .int .i64 21]) (by simp [results, Try.results24, go_sem, hc]) rfl ⟨by rw [HC.out.1, HC.out.2], hE⟩
    · gi_upto_region 2 with (gi_at_call 54; ((with_reducible refine (newNight_good F hF T hT ev nv sv tv1 tv2 tv3 tv4 _ (HIN.out _ HX.out).1 (HIN.out _ HX.out).2.1 (HIN.out _ HX.out).2.2 (HTR.out _ HX.out).1 (HTR.out _ HX.out).2.1 (HTR.out _ HX.out).2.2.1 (HTR.out _ HX.out).2.2.2).mono ?_); rintro e w1 ⟨hx1, v, rfl, hni⟩; obtain ⟨eb, eo, ec, nb, no, nc, sa, sc, ma, mc, ta, tac, tb, tbc, tc, tcc, td, tdc, rfl, ⟨k1, k2, k3⟩, k4, k5, k6, k7⟩ := hni.out))
      have HTK := hid (truthB_ok hT)
      have HC : Hid (foulsE F T = foulE ((trips F).find? (foulLt F T)) ∧ foulsV F T = foulV ((trips F).find? (foulLt F T))) := by show _ ∧ _; unfold foulsE foulsV; rw [hF, hT]; exact ⟨rfl, rfl⟩
      have hxa := hx1.alloc (.cells #[.slice (some ⟨eb, eo, none⟩) F.east.length ec, .slice (some ⟨nb, no, none⟩) F.north.length nc, .int .i64 F.gap, .slice sa F.nets.length sc, .slice ma F.nets.length mc, .slice ta T.east.length tac, .slice tb T.north.length tbc, .slice tc T.se.length tcc, .slice td T.sn.length tdc] 116)
      have HB3 : Hid ((w1.alloc (.cells #[.slice (some ⟨eb, eo, none⟩) F.east.length ec, .slice (some ⟨nb, no, none⟩) F.north.length nc, .int .i64 F.gap, .slice sa F.nets.length sc, .slice ma F.nets.length mc, .slice ta T.east.length tac, .slice tb T.north.length tbc, .slice tc T.se.length tcc, .slice td T.sn.length tdc] 116)).heap[w1.heap.size]? = some (.cells #[.slice (some ⟨eb, eo, none⟩) F.east.length ec, .slice (some ⟨nb, no, none⟩) F.north.length nc, .int .i64 F.gap, .slice sa F.nets.length sc, .slice ma F.nets.length mc, .slice ta T.east.length tac, .slice tb T.north.length tbc, .slice tc T.se.length tcc, .slice td T.sn.length tdc] 116 (0, 0))) := Ext.new (Ext.refl _)
      have HNI := hid (fun (u : World) (hu : Ext (w1.alloc (.cells #[.slice (some ⟨eb, eo, none⟩) F.east.length ec, .slice (some ⟨nb, no, none⟩) F.north.length nc, .int .i64 F.gap, .slice sa F.nets.length sc, .slice ma F.nets.length mc, .slice ta T.east.length tac, .slice tb T.north.length tbc, .slice tc T.se.length tcc, .slice td T.sn.length tdc] 116)) u) => (show _ ∧ _ ∧ _ ∧ _ ∧ _ ∧ _ ∧ _ from ⟨k1.mono (((Ext.refl w1).alloc _).trans hu), k2.mono (((Ext.refl w1).alloc _).trans hu), k3.mono (((Ext.refl w1).alloc _).trans hu), k4.mono (((Ext.refl w1).alloc _).trans hu), k5.mono (((Ext.refl w1).alloc _).trans hu), k6.mono (((Ext.refl w1).alloc _).trans hu), k7.mono (((Ext.refl w1).alloc _).trans hu)⟩))
      have HB2 := hid (hxa.block HB2.out)
      have HX := hid (HX.out.trans hxa)
      clear hxa hx1 hc0 hc1 k1 k2 k3 k4 k5 k6 k7 hni HIN HTR
      generalize w1.alloc (.cells #[.slice (some ⟨eb, eo, none⟩) F.east.length ec, .slice (some ⟨nb, no, none⟩) F.north.length nc, .int .i64 F.gap, .slice sa F.nets.length sc, .slice ma F.nets.length mc, .slice ta T.east.length tac, .slice tb T.north.length tbc, .slice tc T.se.length tcc, .slice td T.sn.length tdc] 116) = W1 at *
      generalize w1.heap.size = G3 at *
      have HFF := hid (fun (g : Nat) (u : World) (hu : Ext W1 u) (hg : u.heap[g]? = some (.cells #[.func (.func 56) #[.agg #[.slice (some ⟨eb, eo, none⟩) F.east.length ec, .slice (some ⟨nb, no, none⟩) F.north.length nc, .int .i64 F.gap, .slice sa F.nets.length sc, .slice ma F.nets.length mc, .slice ta T.east.length tac, .slice tb T.north.length tbc, .slice tc T.se.length tcc, .slice td T.sn.length tdc]] #[]] 121 (0, 0))) => firstFoul_lie F HOK.out T HTK.out eb eo ec nb no nc mc g ma (.slice sa F.nets.length sc) (.slice ta T.east.length tac) (.slice tb T.north.length tbc) (.slice tc T.se.length tcc) (.slice td T.sn.length tdc) u ⟨(HNI.out u hu).2.2.2.1, (HNI.out u hu).2.2.2.2.1, (HNI.out u hu).2.2.2.2.2.1, (HNI.out u hu).2.2.2.2.2.2, hg⟩ (HNI.out u hu).2.2.1)
      obtain ⟨a, b, c, h3⟩ := foulV_three ((trips F).find? (foulLt F T))
      rw [h3] at HFF HC
      generalize foulE ((trips F).find? (foulLt F T)) = EE at *
      clear h3
      have hc3 := cell_of HB3.out
      gi_upto_region 4 with fail
      clear hc3
      refine lex_wide 8 [(4, pLy (.func (.func 56) #[.agg #[.slice (some ⟨eb, eo, none⟩) F.east.length ec, .slice (some ⟨nb, no, none⟩) F.north.length nc, .int .i64 F.gap, .slice sa F.nets.length sc, .slice ma F.nets.length mc, .slice ta T.east.length tac, .slice tb T.north.length tbc, .slice tc T.se.length tcc, .slice td T.sn.length tdc]] #[]))] (by kernel_rfl) (by kernel_rfl) (nStab_cons (pLy_s _) nStab_nil) ?_
      simp only [List.take_succ_cons, List.take_zero, List.drop_succ_cons, List.drop_zero]
      apply lex_fun (rfl : psAt _ _ = none)
      · intro x u hR hf
        have c3 := cell_of (hR.block HB3.out)
        clear hR hf
        go_simp
        exact ⟨rfl, Ext.refl _⟩
      simp only [Act.put, List.setIfInBounds_toArray, List.set_cons_succ, List.set_cons_zero]
      apply lex_fun (rfl : psAt _ _ = none)
      · intro x u hR hf
        have c3 := cell_of (hR.block HB3.out)
        clear hR hf
        go_simp
        exact ⟨rfl, Ext.refl _⟩
      simp only [Act.put, List.setIfInBounds_toArray, List.set_cons_succ, List.set_cons_zero]
      apply lex_fun (rfl : psAt _ _ = none)
      · intro x u hR hf
        have c3 := cell_of (hR.block HB3.out)
        clear hR hf
        go_simp
        exact ⟨rfl, Ext.refl _⟩
      simp only [Act.put, List.setIfInBounds_toArray, List.set_cons_succ, List.set_cons_zero]
      apply lex_fun (rfl : psAt _ _ = none)
      · intro x u hR hf
        clear hR hf
        go_simp
        exact ⟨rfl, Ext.refl _⟩
      simp only [Act.put, List.setIfInBounds_toArray, List.set_cons_succ, List.set_cons_zero]
      refine lex_pred (p := pLy (.func (.func 56) #[.agg #[.slice (some ⟨eb, eo, none⟩) F.east.length ec, .slice (some ⟨nb, no, none⟩) F.north.length nc, .int .i64 F.gap, .slice sa F.nets.length sc, .slice ma F.nets.length mc, .slice ta T.east.length tac, .slice tb T.north.length tbc, .slice tc T.se.length tcc, .slice td T.sn.length tdc]] #[])) rfl ?_ ?_
      · intro x u hR hf
        have hcal := hid (lying_any (.func (.func 56) #[.agg #[.slice (some ⟨eb, eo, none⟩) F.east.length ec, .slice (some ⟨nb, no, none⟩) F.north.length nc, .int .i64 F.gap, .slice sa F.nets.length sc, .slice ma F.nets.length mc, .slice ta T.east.length tac, .slice tb T.north.length tbc, .slice tc T.se.length tcc, .slice td T.sn.length tdc]] #[]) rfl u)
        clear hR hf
        go_simp
        exact hcal.out.mono fun e w'' ⟨g, he, hx', hs'⟩ => ⟨_, he, ⟨g, rfl, hs'⟩, hx'⟩
      simp only [Act.put, List.setIfInBounds_toArray, List.set_cons_succ, List.set_cons_zero]
      refine lex_fun (v := .tuple #[.agg #[.int .i64 a, .int .i64 b, .int .i64 c], .int .i64 EE]) (rfl : psAt _ _ = none) ?_ ?_
      · intro x u hR hf
        have h4 : pLy (.func (.func 56) #[.agg #[.slice (some ⟨eb, eo, none⟩) F.east.length ec, .slice (some ⟨nb, no, none⟩) F.north.length nc, .int .i64 F.gap, .slice sa F.nets.length sc, .slice ma F.nets.length mc, .slice ta T.east.length tac, .slice tb T.north.length tbc, .slice tc T.se.length tcc, .slice td T.sn.length tdc]] #[]) (x 4) u := by first | exact hf.1 rfl | exact hf.2.1 rfl | exact hf.2.2.1 rfl
        obtain ⟨g, hxg, hg⟩ := h4
        have hcal := hid (HFF.out g u hR hg)
        clear hR hf hg
        generalize x 4 = x4 at *
        subst hxg
        go_simp
        exact hcal.out.mono fun e w'' ⟨he, hx'⟩ => ⟨_, he, rfl, hx'⟩
      simp only [Act.put, List.setIfInBounds_toArray, List.set_cons_succ, List.set_cons_zero]
      apply lex_fun (rfl : psAt _ _ = none)
      · intro x u hR hf
        clear hR hf
        go_simp
        exact ⟨rfl, Ext.refl _⟩
      simp only [Act.put, List.setIfInBounds_toArray, List.set_cons_succ, List.set_cons_zero]
      apply lex_fun (rfl : psAt _ _ = none)
      · intro x u hR hf
        clear hR hf
        go_simp
        exact ⟨rfl, Ext.refl _⟩
      simp only [Act.put, List.setIfInBounds_toArray, List.set_cons_succ, List.set_cons_zero]
      refine lex_nil fun x w6 hE hfacts => ?_
      clear hfacts
      generalize x 4 = x4 at *
      clear x
      have hbk := hE.block HB2.out
      have hd2 := cell_of hbk
      have hf2 := free_of hbk
      have hx := HX.out.trans hE
      gi_wp2_with fail
      clear hd2 hf2 hE
      have hb3 : (((w6.setCell ⟨w.heap.size + 1 + 1, 0, none⟩ (.int .i64 a)).setCell ⟨w.heap.size + 1 + 1, 1, none⟩ (.int .i64 b)).setCell ⟨w.heap.size + 1 + 1, 2, none⟩ (.int .i64 c)).heap[w.heap.size + 1 + 1]? = some (.cells #[.int .i64 a, .int .i64 b, .int .i64 c] 43 (0, 0)) := by
        have h := set_same (set_same (set_same (hbk) 0 (.int .i64 a)) 1 (.int .i64 b)) 2 (.int .i64 c)
        simpa using h
      have hE : Ext w (((w6.setCell ⟨w.heap.size + 1 + 1, 0, none⟩ (.int .i64 a)).setCell ⟨w.heap.size + 1 + 1, 1, none⟩ (.int .i64 b)).setCell ⟨w.heap.size + 1 + 1, 2, none⟩ (.int .i64 c)) := (((hx).set (b := w.heap.size + 1 + 1) (by omega) _ _).set (b := w.heap.size + 1 + 1) (by omega) _ _).set (b := w.heap.size + 1 + 1) (by omega) _ _
      generalize (((w6.setCell ⟨w.heap.size + 1 + 1, 0, none⟩ (.int .i64 a)).setCell ⟨w.heap.size + 1 + 1, 1, none⟩ (.int .i64 b)).setCell ⟨w.heap.size + 1 + 1, 2, none⟩ (.int .i64 c)) = WF at *
      have hc := cell_of hb3
      exact bodyPost_ret (v := .tuple #[.agg #[.int .i64 a, .int .i64 b, .int .i64 c], .int .i64 EE]) (by simp [results, Try.results24, go_sem, hc]) rfl ⟨by rw [HC.out.1, HC.out.2], hE⟩



/-- Of what lies below B, and of what cells hold, nothing has turned. -/
structure PastC (B : Nat) (W W' : World) : Prop where
  os : W'.os = W.os
  tape : W'.tape = W.tape
  output : W'.output = W.output
  size : W.heap.size ≤ W'.heap.size
  block : ∀ k o, (k < B ∨ o.isCells = true) → W.heap[k]? = some o → W'.heap[k]? = some o
theorem PastC.of_ext {B : Nat} {W W' : World} (h : Ext W W') : PastC B W W' := ⟨h.os, h.tape, h.output, h.size, fun _ _ _ hk => h.block hk⟩
theorem PastC.put {B L : Nat} {Y : World} (hL : B ≤ L) {r : Loop} (hr : Y.heap[L]? = some (.loop r)) (o : Obj) : PastC B Y (Y.putObj L o) :=
  ⟨rfl, rfl, rfl, by simp, fun k o' hk ho => by
    rw [World.putObj_heap_other (by rintro rfl; rcases hk with hk | hk; omega; rw [hr] at ho; cases ho; cases hk)]; exact ho⟩
theorem PastC.past {B : Nat} {W W' : World} (h : PastC B W W') : Past B W W' := ⟨h.os, h.tape, h.output, h.size, fun k o hk ho => h.block k o (.inl hk) ho⟩
theorem PastC.cells {B : Nat} {W W' : World} (h : PastC B W W') {k : Nat} {cs : Array Value} {T : TypeId} {fz : Nat × Nat} (ho : W.heap[k]? = some (.cells cs T fz)) : W'.heap[k]? = some (.cells cs T fz) := h.block _ _ (.inr rfl) ho
theorem Row.pastC {B : Nat} {w w' : World} {T : TypeId} {sz : Nat} {v : Value} {n : Nat} {xs : List Value} (h : Row w T sz v n xs) (hp : PastC B w w') : Row w' T sz v n xs := h.kept fun k o hk ho => hp.block k o (.inr (h.isCells hk ho)) ho
/-- All rounds, behind the record that has been laid at L. -/
theorem rounds_coreC {ps : Array Tmp} {assign body : Code} {tmps : Array Value} {gf fn : Nat} {fst lb : Array Value} {elems : List (Array Value)} {Foot : World → Prop} (hit : IterT gf fst lb elems Foot)
    (B L D : Nat) (hL : B ≤ L) (rec : LoopState → Option Code → Loop) (hrec : rec = fun st pe => { state := st, pending := pe, fn, tmps, params := ps, assign, body, defers := D })
    (X : World → Prop) (hX : ∀ W W', X W → Past L W W' → X W') (hXk : ∀ W W', X W → KeepsFrom B W W' → X W')
    (I : Nat → World → Prop) (Ix : Code → Nat → World → Prop) (hI : ∀ s W W', I s W → PastC B W W' → I s W') (hIx : ∀ c s W W', Ix c s W → PastC B W W' → Ix c s W') (hFoot : ∀ i W, I i W → Foot W)
    (hps : ∀ (i : Nat) (h : i < elems.length), elems[i].size = ps.size)
    (fr : Nat → Nat → Act) (bx : Nat → Array Value) (T : TypeId)
    (hassign : ∀ (l i : Nat) (h : i < elems.length) (W : World) (K' : Act → World → Prop), K' (fr i W.heap.size) (W.alloc (.cells (bx i) T)) →
      assign.wpIn (Fence.wide.inRound l) 0 Try.prog (Exit.then K' (fun _ _ _ => False)) { tmps := (ps.zip elems[i]).foldl (fun t (p, v) => t.setIfInBounds p v) tmps, defers := [] } W)
    (hbody : ∀ (l i Bx : Nat) (W : World), i < elems.length → B ≤ l → (∃ r, W.heap[l]? = some (.loop r)) → I i W → B ≤ Bx → W.heap[Bx]? = some (.cells (bx i) T (0, 0)) →
      body.wpIn (Fence.wide.inRound l) 0 Try.prog (fun e a W' => roundEnd B I Ix i W e a W' ∧ KeepT W W') (fr i Bx) W)
    (W1 : World) (hB : B ≤ W1.heap.size) (h0 : I 0 W1) (hX0 : X W1) (hL1 : W1.heap[L]? = some (.loop (rec .ready none))) :
    Cal gf (fst ++ #[.func (.yield L) #[] #[]] ++ lb) W1 fun e W2 => (∃ v, e = .returned v) ∧
      ((I elems.length W2 ∧ X W2 ∧ W2.heap[L]? = some (.loop (rec .ready none))) ∨ ∃ i c, i < elems.length ∧ Ix c i W2 ∧ X W2 ∧ W2.heap[L]? = some (.loop (rec .done (some c)))) := by
  refine (hit L (fun i W => I i W ∧ B ≤ W.heap.size ∧ X W ∧ W.heap[L]? = some (.loop (rec .ready none)))
    (fun i W => ∃ c, Ix c i W ∧ X W ∧ W.heap[L]? = some (.loop (rec .done (some c)))) W1 (fun i W h => hFoot i W h.1)
    (fun i W W' h hx => ⟨hI _ _ _ h.1 (PastC.of_ext hx), Nat.le_trans h.2.1 hx.size, hX _ _ h.2.2.1 (Past.of_ext hx), hx.block h.2.2.2⟩)
    (fun i W W' h hx => by obtain ⟨c, h1, h2, h3⟩ := h; exact ⟨c, hIx _ _ _ _ h1 (PastC.of_ext hx), hX _ _ h2 (Past.of_ext hx), hx.block h3⟩) ?_ ⟨h0, hB, hX0, hL1⟩).mono ?_
  · rintro i hi W ⟨hIW, hBW, hXW, hl⟩
    have hy := run_yield (P := Try.prog) (args := elems[i]) hl (by rw [hrec]; exact hps i hi)
    rw [hrec] at hy
    refine ⟨fn, _, assign, body, hy, roundIn_of_wpIn trivial (hassign _ i hi W _ ?_)⟩
    clear hy
    -- behind the box, the record is made busy
    have hxa : Ext W (W.alloc (.cells (bx i) T)) := (Ext.refl W).alloc _
    have hla := hxa.block hl
    have hlt := lt_of_block hla
    have hbx : (W.alloc (.cells (bx i) T)).heap[W.heap.size]? = some (.cells (bx i) T (0, 0)) := Ext.new (Ext.refl _)
    have hne : W.heap.size ≠ L := fun e => by have := lt_of_block hl; omega
    refine ⟨_, run_beginRound hla (by rw [hrec]), ?_⟩
    have hpast : ∀ (Y : World) (o : Obj), Past L Y (Y.putObj L o) := fun Y o => ⟨rfl, rfl, rfl, by simp, fun k o' hk ho => by rw [World.putObj_heap_other (by omega)]; exact ho⟩
    have hpastB : ∀ (Y : World) (o : Obj) (r : Loop), Y.heap[L]? = some (.loop r) → PastC B Y (Y.putObj L o) := fun Y o r hr => PastC.put hL hr o
    have hl2 : ((W.alloc (.cells (bx i) T)).putObj L (.loop { rec .ready none with state := .busy })).heap[L]? = some (.loop { rec .ready none with state := .busy }) := World.putObj_heap_same hlt
    refine wpIn_mono (hbody L i W.heap.size _ hi hL ⟨_, hl2⟩ (hI _ _ _ (hI _ _ _ hIW (PastC.of_ext hxa)) (hpastB _ _ _ hla)) hBW (by rw [World.putObj_heap_other hne]; exact hbx)) ?_
    have hX2 : X ((W.alloc (.cells (bx i) T)).putObj L (.loop { rec .ready none with state := .busy })) := hX _ _ (hX _ _ hXW (Past.of_ext hxa)) (hpast _ _)
    have hB2 : B ≤ ((W.alloc (.cells (bx i) T)).putObj L (.loop { rec .ready none with state := .busy })).heap.size := by simp; omega
    have fin : ∀ (jump : Option Code) (W3 : World), KeepsFrom B ((W.alloc (.cells (bx i) T)).putObj L (.loop { rec .ready none with state := .busy })) W3 →
        (Instr.endRound L jump).run Try.prog W3 = .ok (.bool jump.isNone) (W3.putObj L (.loop (rec (if jump.isNone then .ready else .done) jump))) ∧
        X (W3.putObj L (.loop (rec (if jump.isNone then .ready else .done) jump))) ∧
        (W3.putObj L (.loop (rec (if jump.isNone then .ready else .done) jump))).heap[L]? = some (.loop (rec (if jump.isNone then .ready else .done) jump)) ∧ B ≤ W3.heap.size ∧ KeepT W3 (W3.putObj L (.loop (rec (if jump.isNone then .ready else .done) jump))) ∧ PastC B W3 (W3.putObj L (.loop (rec (if jump.isNone then .ready else .done) jump))) := fun jump W3 hk3 => by
      have hl3 := hk3.same _ _ hL hl2 rfl
      have := run_endRound (P := Try.prog) jump hl3
      rw [hrec] at this ⊢
      exact ⟨this, hX _ _ (hXk _ _ hX2 hk3) (hpast _ _), World.putObj_heap_same (lt_of_block hl3), Nat.le_trans hB2 hk3.size, KeepT.put hl3 _, hpastB _ _ _ hl3⟩
    have hk0 : KeepT W ((W.alloc (.cells (bx i) T)).putObj L (.loop { rec .ready none with state := .busy })) := (KeepT.of_ext hxa).trans (KeepT.put hla _)
    rintro e a3 W3 ⟨hp, hkt⟩
    cases e with
    | normal =>
      obtain ⟨hr, hx3, hl4, hb3, hk4, hpc⟩ := fin none W3 hp.1
      exact ⟨_, _, hr, hk0.trans (hkt.trans hk4), .inl ⟨rfl, hI _ _ _ hp.2 hpc, by simp; omega, hx3, hl4⟩⟩
    | ret =>
      obtain ⟨hr, hx3, hl4, hb3, hk4, hpc⟩ := fin (some .ret) W3 hp.1
      exact ⟨_, _, hr, hk0.trans (hkt.trans hk4), .inr ⟨rfl, .ret, hIx _ _ _ _ hp.2 hpc, hx3, hl4⟩⟩
    | exit id =>
      obtain ⟨hr, hx3, hl4, hb3, hk4, hpc⟩ := fin (some (.exit id)) W3 hp.1
      exact ⟨_, _, hr, hk0.trans (hkt.trans hk4), .inr ⟨rfl, .exit id, hIx _ _ _ _ hp.2 hpc, hx3, hl4⟩⟩
    | goto t =>
      obtain ⟨hr, hx3, hl4, hb3, hk4, hpc⟩ := fin (some (.goto t)) W3 hp.1
      exact ⟨_, _, hr, hk0.trans (hkt.trans hk4), .inr ⟨rfl, .goto t, hIx _ _ _ _ hp.2 hpc, hx3, hl4⟩⟩
    | panic ch => exact hp.elim
    | outgrown => exact hp.elim
  · rintro e W2 ⟨hv, h⟩
    refine ⟨hv, ?_⟩
    rcases h with ⟨h1, _, h2, h3⟩ | ⟨i, hi, c, h1, h2, h3⟩
    · exact .inl ⟨h1, h2, h3⟩
    · exact .inr ⟨i, c, hi, h1, h2, h3⟩


section
variable {g : Operand} {ps : Array Tmp} {assign body : Code} {Q : Exit → Act → World → Prop} {a : Act} {w : World} {gf : Nat} {fst lb : Array Value} {elems : List (Array Value)} {Foot : World → Prop}

/-- A RANGE OVER A FUNCTION, one of whose loop variables lies in a box of its own. -/
theorem range_boxedC (hg : a.eval g = .func (.func gf) fst lb) (eg : ∀ args w, (callFunc gf args).run Try.prog w = .ok (.enter gf args) w) (hit : IterT gf fst lb elems Foot)
    (I : Nat → World → Prop) (Ix : Code → Nat → World → Prop) (hI : ∀ s W W', I s W → PastC w.heap.size W W' → I s W') (hIx : ∀ c s W W', Ix c s W → PastC w.heap.size W W' → Ix c s W') (hFoot : ∀ i W, I i W → Foot W)
    (hps : ∀ (i : Nat) (h : i < elems.length), elems[i].size = ps.size) (h0 : I 0 w)
    (fr : Nat → Nat → Act) (bx : Nat → Array Value) (T : TypeId)
    (hassign : ∀ (l i : Nat) (h : i < elems.length) (W : World) (K' : Act → World → Prop), K' (fr i W.heap.size) (W.alloc (.cells (bx i) T)) →
      assign.wpIn (Fence.wide.inRound l) 0 Try.prog (Exit.then K' (fun _ _ _ => False)) { tmps := (ps.zip elems[i]).foldl (fun t (p, v) => t.setIfInBounds p v) a.tmps, defers := [] } W)
    (hbody : ∀ (l i Bx : Nat) (W : World), i < elems.length → w.heap.size ≤ l → (∃ r, W.heap[l]? = some (.loop r)) → I i W → w.heap.size ≤ Bx → W.heap[Bx]? = some (.cells (bx i) T (0, 0)) →
      body.wpIn (Fence.wide.inRound l) 0 Try.prog (fun e a W' => roundEnd w.heap.size I Ix i W e a W' ∧ KeepT W W') (fr i Bx) W)
    (hdone : ∀ (D : Nat) (W : World), w.heap.size ≤ D → I elems.length W → W.heap[D]? = some (.deferred (some [])) → Q .normal { a with defers := { target := .collected D, args := #[] } :: a.defers } W)
    (hstop : ∀ (D i : Nat) (c : Code) (W : World), w.heap.size ≤ D → i < elems.length → Ix c i W → W.heap[D]? = some (.deferred (some [])) → c.wpIn Fence.wide 0 Try.prog Q { a with defers := { target := .collected D, args := #[] } :: a.defers } W) :
    (Code.rangeFunc g ps assign body).wpIn Fence.wide 0 Try.prog Q a w := by
  refine wpIn_rangeFunc fun fn _ => ?_
  obtain ⟨rec, hrec⟩ : ∃ rec : LoopState → Option Code → Loop, rec = fun st pe => { state := st, pending := pe, fn, tmps := a.tmps, params := ps, assign, body, defers := w.heap.size } := ⟨_, rfl⟩
  have hx1 : Ext w (w.alloc (.deferred (some []))) := (Ext.refl w).alloc _
  have hx2 : Ext w ((w.alloc (.deferred (some []))).alloc (.loop (rec .ready none))) := hx1.alloc _
  have hL1 : ((w.alloc (.deferred (some []))).alloc (.loop (rec .ready none))).heap[w.heap.size + 1]? = some (.loop (rec .ready none)) := by
    have := World.alloc_heap_new (w.alloc (.deferred (some []))) (.loop (rec .ready none)); rwa [World.size_alloc] at this
  have hcore := rounds_coreC (fn := fn) (tmps := a.tmps) hit w.heap.size (w.heap.size + 1) w.heap.size (by omega) rec hrec (fun W => W.heap[w.heap.size]? = some (.deferred (some [])))
    (fun W W' h hp => hp.block _ _ (by omega) h) (fun W W' h hk => hk.same _ _ (Nat.le_refl _) h rfl) I Ix hI hIx hFoot hps fr bx T hassign hbody
    ((w.alloc (.deferred (some []))).alloc (.loop (rec .ready none))) hx2.size (hI _ _ _ h0 (PastC.of_ext hx2)) two_new hL1
  refine ⟨w.heap.size + 1, [{ target := .collected w.heap.size, args := #[] }], (w.alloc (.deferred (some []))).alloc (.loop (rec .ready none)), { target := .fn (.func gf) lb, args := fst ++ #[.func (.yield (w.heap.size + 1)) #[] #[]] },
    (w.alloc (.deferred (some []))).alloc (.loop (rec .ready none)), gf, fst ++ #[.func (.yield (w.heap.size + 1)) #[] #[]] ++ lb, (w.alloc (.deferred (some []))).alloc (.loop (rec .ready none)), ?_, ?_, fun f' _ => trivial, ?_, fun h => (by cases h), ?_⟩
  · rw [hrec]; exact run_enterLoop_outer _ _ _ _ _
  · simp only [resolve, hg]
    simp [go_sem]
  · simp [invoke, go_sem, eg]
  · refine hcore.mono ?_
    rintro e W2 ⟨⟨v, rfl⟩, h⟩
    have hput : ∀ (Y : World) (o : Obj) (r : Loop), Y.heap[w.heap.size + 1]? = some (.loop r) → PastC w.heap.size Y (Y.putObj (w.heap.size + 1) o) := fun Y o r hr => PastC.put (by omega) hr o
    rcases h with ⟨h1, h2, h3⟩ | ⟨i, c, hi, h1, h2, h3⟩
    · exact ⟨none, _, by have := run_endLoop (P := Try.prog) h3 (by rw [hrec]; simp); rw [hrec] at this; exact this, hdone _ _ (Nat.le_refl _) (hI _ _ _ h1 (hput _ _ _ h3)) ((World.putObj_heap_other (by omega)).trans h2)⟩
    · exact ⟨some c, _, by have := run_endLoop (P := Try.prog) h3 (by rw [hrec]; simp); rw [hrec] at this; exact this, hstop _ i c _ (Nat.le_refl _) hi (hIx _ _ _ _ h1 (hput _ _ _ h3)) ((World.putObj_heap_other (by omega)).trans h2)⟩

end


theorem wpIn_store_row {F : Fence} {n : Nat} {o : Oper} {a : Act} {w : World} {K : Act → World → Prop} {Q : Exit → Act → World → Prop} (ty : TypeId) (x y : Operand) (ho : o.op = .store ty x y) (hF : ∀ f, F.fn f) {g : Nat} (hx : a.eval x = .pointer (some ⟨g, 0, none⟩)) {t : TypeId} {cells old : Array Value}
    (hy : a.eval y = .agg cells) (hg : w.heap[g]? = some (.cells old t (0, 0))) (hi : (Try.prog.info? ty).map (·.size) = some cells.size) (hold : old.size = cells.size) (h1 : cells.all (·.oneCell') = true)
    (h : K (a.put o.dst undef) (w.setRow g cells)) : o.wpIn F n Try.prog a w K Q := by
  have hl : (storeVar ty ⟨g, 0, none⟩ (.agg cells)).run Try.prog w = .ok () (w.setRow g cells) := run_storeVar_row w _ t ty _ _ hg hi hold h1
  refine ⟨fun f _ => hF f, ?_⟩
  rw [Oper.semAt_eq _ _ _ (by rw [ho]; intro c h; cases h)]
  unfold execOp
  simp only [ho, hx, hy, Instr.storeAt, Instr.sureAddr, Sem.run_bind, Sem.run_pure, Result.andThen_ok, hl]
  exact h
theorem keepsFrom_setRow {W : World} {g : Nat} {cs : Array Value} {t : TypeId} (h : W.heap[g]? = some (.cells cs t (0, 0))) (B : Nat) (c' : Array Value) : KeepsFrom B W (W.setRow g c') :=
  ⟨by simp, fun k o _ ho hc => by rw [setRow_other W g k c' (by rintro rfl; rw [h] at ho; cases ho; cases hc)]; exact ho⟩
theorem KeepT.setRow {W : World} {g : Nat} {cs : Array Value} {t : TypeId} (h : W.heap[g]? = some (.cells cs t (0, 0))) (h1 : t ≠ 108) (h2 : t ≠ 125) (c' : Array Value) : KeepT W (W.setRow g c') := fun k cs' t' ht hb => by
  rw [setRow_other W g k c' (by rintro rfl; rw [h] at hb; cases hb; rcases ht with h' | h'; exact h1 h'; exact h2 h')]; exact hb
theorem Row.typ {w : World} {T : TypeId} {sz : Nat} {v : Value} {n : Nat} {xs : List Value} (h : Row w T sz v n xs) {g : Nat} (hg : v.ownBlock = some g) {cs : Array Value} {t : TypeId} (hb : w.heap[g]? = some (.cells cs t (0, 0))) : t = T := by
  rcases h.2 with ⟨rfl, _⟩ | ⟨g', cap, cur, rfl, hgb, _⟩
  · simp [Value.ownBlock] at hg
  · simp [Value.ownBlock] at hg
    subst hg
    rw [hgb] at hb
    cases hb; rfl
theorem Row.lt {w : World} {T : TypeId} {sz : Nat} {v : Value} {n : Nat} {xs : List Value} (h : Row w T sz v n xs) {g : Nat} (hg : v.ownBlock = some g) : g < w.heap.size := by
  rcases h.2 with ⟨rfl, _⟩ | ⟨g', cap, cur, rfl, hgb, _⟩
  · simp [Value.ownBlock] at hg
  · simp [Value.ownBlock] at hg
    subst hg
    exact lt_of_block hgb
theorem Row.setRow {w : World} {T : TypeId} {sz : Nat} {v : Value} {n : Nat} {xs : List Value} (h : Row w T sz v n xs) {g : Nat} {cs : Array Value} {t : TypeId} (hb : w.heap[g]? = some (.cells cs t (0, 0))) (ht : t ≠ T) (c' : Array Value) : Row (w.setRow g c') T sz v n xs :=
  h.kept fun k o hk ho => by rw [setRow_other w g k c' (by rintro rfl; exact ht (h.typ hk hb))]; exact ho
theorem keepsFrom_grown {B : Nat} {W W' : World} {T : TypeId} {sz : Nat} {v : Value} {n : Nat} {xs : List Value} (hr : Row W T sz v n xs) (hg : W.grownBy W' v.ownBlock) : KeepsFrom B W W' :=
  ⟨hg.size, fun k o _ ho hc => grownBy_block hg ho fun e => by have := hr.isCells e.symm ho; rw [this] at hc; cases hc⟩
/-- A region that draws its order, in a round of a range over a function. -/
theorem lex_own_r {r : Nat} {id : Nat} {Q : Exit → Act → World → Prop} {a : Act} {w : World} {l : List Oper} (m : Nat) (ps : Preds) (R : Nat → World → World → Prop) (C : Nat → World → Prop) (E : World → Prop) (hB : headB l.toArray m = true) (hT : tailB l.toArray m = true)
    (hC0 : ∀ i, C i { w with drawn := w.drawn + 1 }) (hE0 : E { w with drawn := w.drawn + 1 }) (hC : ∀ i j u v, i ≠ j → C i u → R j u v → C i v) (hE : ∀ j u v, E u → R j u v → E v)
    (hstab : ∀ i j p, i ≠ j → psAt ps i = some p → ∀ v u u', p v u → R j u u' → p v u')
    (h : lexOk (Fence.wide.inRound r) 0 Try.prog l.toArray R C E ps (fun a' w' => wpListIn (Fence.wide.inRound r) 0 Try.prog l.toArray Q (l.drop m) a' w') 0 (l.take m) (fun _ => a)) :
    (Code.region id l.toArray true).wpIn (Fence.wide.inRound r) 0 Try.prog Q a w := by
  refine wpIn_region_lex ps R C E (fun _ => trivial) rfl mixed hB hT hC0 hE0 hC hE hstab ?_
  have hdl : (l.drop m).length = l.length - m := by simp
  have := wpOpsIn_drop (P := Try.prog) (F := Fence.wide.inRound r) (Q := Q) (ops := l) (l.drop m) m (fun j => by simp [List.getElem?_drop])
  rw [hdl] at this
  rw [this]
  exact h
theorem lex_wide_r {r : Nat} {id : Nat} {Q : Exit → Act → World → Prop} {a : Act} {w : World} {l : List Oper} (m : Nat) (ps : Preds) (hB : headB l.toArray m = true) (hT : tailB l.toArray m = true)
    (hstab : ∀ i p, psAt ps i = some p → ∀ v u u', p v u → Ext u u' → p v u')
    (h : lexOk (Fence.wide.inRound r) 0 Try.prog l.toArray (fun _ => Ext) (fun _ w' => Ext w w') (Ext w) ps (fun a' w' => wpListIn (Fence.wide.inRound r) 0 Try.prog l.toArray Q (l.drop m) a' w') 0 (l.take m) (fun _ => a)) :
    (Code.region id l.toArray true).wpIn (Fence.wide.inRound r) 0 Try.prog Q a w :=
  lex_own_r m ps _ _ _ hB hT (fun _ => Ext.drawn _) (Ext.drawn _) (fun _ _ _ _ _ h k => h.trans k) (fun _ _ _ h k => h.trans k) (fun i _ p _ hp => hstab i p hp) h

/-! A statement that appends, in a region that draws its order: operation i2 appends, behind all others. -/
theorem Ext.grown {u v : World} (h : Ext u v) (ob : Option Nat) : u.grownBy v ob := ⟨h.os, h.tape, h.output, h.size, fun k hk _ => Below.block h k hk⟩
def gRow (T : TypeId) (n5 : Nat) (news : List Value) (v : Value) (u : World) : Prop := ∃ g, v = .slice (some ⟨g, 0, none⟩) 1 1 ∧ u.heap[g]? = some (.cells news.toArray T (0, 0)) ∧ n5 ≤ g
def gTwo (n5 : Nat) (a b : Spn) (v : Value) (u : World) : Prop := ∃ g, v = .slice (some ⟨g, 0, none⟩) 2 2 ∧ u.heap[g]? = some (.cells #[.int .i64 a.lo, .int .i64 a.hi, .int .i64 b.lo, .int .i64 b.hi] 56 (0, 0)) ∧ n5 ≤ g
def gNew (T : TypeId) (sz n5 n : Nat) (ob : Option Nat) (xs : List Value) (v : Value) (u : World) : Prop := Row u T sz v n xs ∧ (v.ownBlock = ob ∨ ∃ k, v.ownBlock = some k ∧ n5 ≤ k)
def gR (ob : Option Nat) (i2 j : Nat) (u v : World) : Prop := if j = i2 then u.grownBy v ob else Ext u v
def gC (w5 : World) (ob : Option Nat) (i2 i : Nat) (u : World) : Prop := if i = i2 then Ext w5 u else w5.grownBy u ob
theorem gC_ok {w5 : World} {ob : Option Nat} {i2 : Nat} (i j : Nat) (u v : World) (hij : i ≠ j) (h : gC w5 ob i2 i u) (k : gR ob i2 j u v) : gC w5 ob i2 i v := by
  unfold gC at h ⊢
  unfold gR at k
  by_cases hi : i = i2
  · rw [if_pos hi] at h ⊢
    rw [if_neg (by omega)] at k
    exact h.trans k
  · rw [if_neg hi] at h ⊢
    split at k
    · exact h.trans k
    · exact h.trans (k.grown ob)
theorem gE_ok {w5 : World} {ob : Option Nat} {i2 : Nat} (j : Nat) (u v : World) (h : w5.grownBy u ob) (k : gR ob i2 j u v) : w5.grownBy v ob := by
  unfold gR at k
  split at k
  · exact h.trans k
  · exact h.trans (k.grown ob)
def gStab (ob : Option Nat) (i2 : Nat) (ps : Preds) : Prop := ∀ i j p, i ≠ j → psAt ps i = some p → ∀ v u u', p v u → gR ob i2 j u u' → p v u'
theorem gStab_nil {ob : Option Nat} {i2 : Nat} : gStab ob i2 [] := fun i j p _ h => by cases h
theorem gStab_free {ob : Option Nat} {i2 i1 : Nat} {q : Value → World → Prop} {ps : Preds} (hq : ∀ v u u', q v u → u.grownBy u' ob → q v u') (h : gStab ob i2 ps) : gStab ob i2 ((i1, q) :: ps) := fun i j p hij hp v u u' hv hR => by
  unfold psAt at hp
  split at hp
  · cases hp
    unfold gR at hR
    split at hR
    · exact hq v u u' hv hR
    · exact hq v u u' hv (hR.grown _)
  · exact h i j p hij hp v u u' hv hR
theorem gStab_last {ob : Option Nat} {i2 : Nat} {q : Value → World → Prop} {ps : Preds} (hq : ∀ v u u', q v u → Ext u u' → q v u') (h : gStab ob i2 ps) : gStab ob i2 ((i2, q) :: ps) := fun i j p hij hp v u u' hv hR => by
  unfold psAt at hp
  split at hp
  · rename_i hi
    cases hp
    subst hi
    unfold gR at hR
    rw [if_neg (Ne.symm hij)] at hR
    exact hq v u u' hv hR
  · exact h i j p hij hp v u u' hv hR
theorem gRow_free {T : TypeId} {n5 : Nat} {news : List Value} {ob : Option Nat} (hob : ∀ g, ob = some g → g < n5) : ∀ v u u', gRow T n5 news v u → u.grownBy u' ob → gRow T n5 news v u' := fun v u u' ⟨g, e, hg, hn⟩ hR =>
  ⟨g, e, grownBy_block hR hg (fun e => by have := hob g e.symm; omega), hn⟩
theorem gTwo_free {n5 : Nat} {a b : Spn} {ob : Option Nat} (hob : ∀ g, ob = some g → g < n5) : ∀ v u u', gTwo n5 a b v u → u.grownBy u' ob → gTwo n5 a b v u' := fun v u u' ⟨g, e, hg, hn⟩ hR =>
  ⟨g, e, grownBy_block hR hg (fun e => by have := hob g e.symm; omega), hn⟩
theorem gNew_ext {T : TypeId} {sz n5 n : Nat} {ob : Option Nat} {xs : List Value} : ∀ v u u', gNew T sz n5 n ob xs v u → Ext u u' → gNew T sz n5 n ob xs v u' := fun v u u' h hx => ⟨h.1.mono hx, h.2⟩
section
variable {F : Fence} {ob : Option Nat} {i2 : Nat} {w5 : World} {ops : Array Oper} {tail : Act → World → Prop} {k : Nat} {o : Oper} {rest : List Oper} {af : (Nat → Value) → Act} {ps : Preds}
theorem gg_fun {v : Value} (hp : psAt ps k = none) (hk2 : k ≠ i2)
    (h1 : ∀ x w', w5.grownBy w' ob → if Region.wanted o (yielded ops (af x).tmps) then gives F 0 Try.prog Ext o (af x) w' (fun u _ => u = v) else undef = v)
    (h2 : lexOk F 0 Try.prog ops (gR ob i2) (gC w5 ob i2) (fun u => w5.grownBy u ob) ps tail (k + 1) rest (fun x => (af x).put o.dst v)) :
    lexOk F 0 Try.prog ops (gR ob i2) (gC w5 ob i2) (fun u => w5.grownBy u ob) ps tail k (o :: rest) af := by
  have e2 : gR ob i2 k = Ext := by funext u v; unfold gR; rw [if_neg hk2]
  have e3 : gC w5 ob i2 k = fun u => w5.grownBy u ob := by funext u; unfold gC; rw [if_neg hk2]
  refine lex_fun hp (fun x w' hC _ => ?_) h2
  rw [e2]; rw [e3] at hC
  exact h1 x w' hC
theorem gg_fun' {v : Value} (hp : psAt ps k = none) (hk2 : k ≠ i2)
    (h1 : ∀ x w', w5.grownBy w' ob → factsL ps x w' o.after.toList → if Region.wanted o (yielded ops (af x).tmps) then gives F 0 Try.prog Ext o (af x) w' (fun u _ => u = v) else undef = v)
    (h2 : lexOk F 0 Try.prog ops (gR ob i2) (gC w5 ob i2) (fun u => w5.grownBy u ob) ps tail (k + 1) rest (fun x => (af x).put o.dst v)) :
    lexOk F 0 Try.prog ops (gR ob i2) (gC w5 ob i2) (fun u => w5.grownBy u ob) ps tail k (o :: rest) af := by
  have e2 : gR ob i2 k = Ext := by funext u v; unfold gR; rw [if_neg hk2]
  have e3 : gC w5 ob i2 k = fun u => w5.grownBy u ob := by funext u; unfold gC; rw [if_neg hk2]
  refine lex_fun hp (fun x w' hC hf => ?_) h2
  rw [e2]; rw [e3] at hC
  exact h1 x w' hC hf
theorem gg_pred {p : Value → World → Prop} (hp : psAt ps k = some p) (hk2 : k ≠ i2)
    (h1 : ∀ x w', w5.grownBy w' ob → factsL ps x w' o.after.toList → if Region.wanted o (yielded ops (af x).tmps) then gives F 0 Try.prog Ext o (af x) w' p else p undef w')
    (h2 : lexOk F 0 Try.prog ops (gR ob i2) (gC w5 ob i2) (fun u => w5.grownBy u ob) ps tail (k + 1) rest (fun x => (af x).put o.dst (x k))) :
    lexOk F 0 Try.prog ops (gR ob i2) (gC w5 ob i2) (fun u => w5.grownBy u ob) ps tail k (o :: rest) af := by
  have e2 : gR ob i2 k = Ext := by funext u v; unfold gR; rw [if_neg hk2]
  have e3 : gC w5 ob i2 k = fun u => w5.grownBy u ob := by funext u; unfold gC; rw [if_neg hk2]
  refine lex_pred hp (fun x w' hC hf => ?_) h2
  rw [e2]; rw [e3] at hC
  exact h1 x w' hC hf
theorem gg_last {p : Value → World → Prop} (hp : psAt ps i2 = some p)
    (h1 : ∀ x w', Ext w5 w' → factsL ps x w' o.after.toList → if Region.wanted o (yielded ops (af x).tmps) then gives F 0 Try.prog (fun u v => u.grownBy v ob) o (af x) w' p else p undef w')
    (h2 : lexOk F 0 Try.prog ops (gR ob i2) (gC w5 ob i2) (fun u => w5.grownBy u ob) ps tail (i2 + 1) rest (fun x => (af x).put o.dst (x i2))) :
    lexOk F 0 Try.prog ops (gR ob i2) (gC w5 ob i2) (fun u => w5.grownBy u ob) ps tail i2 (o :: rest) af := by
  have e2 : gR ob i2 i2 = fun u v => u.grownBy v ob := by funext u v; unfold gR; rw [if_pos rfl]
  have e3 : gC w5 ob i2 i2 = Ext w5 := by funext u; unfold gC; rw [if_pos rfl]
  refine lex_pred hp (fun x w' hC hf => ?_) h2
  rw [e2]; rw [e3] at hC
  exact h1 x w' hC hf
end
theorem spans_pair {u : World} {g : Nat} {a b : Spn} (h : u.heap[g]? = some (.cells #[.int .i64 a.lo, .int .i64 a.hi, .int .i64 b.lo, .int .i64 b.hi] 56 (0, 0))) : SpansAt u (.slice (some ⟨g, 0, none⟩) 2 2) [a, b] := by
  refine ⟨_, 2, rfl, ⟨by simp, by simp⟩, fun i hi => ⟨g, 0, rfl, lt_of_block h, ?_⟩⟩
  have hc := cell_of h
  simp at hi
  rcases (by omega : i = 0 ∨ i = 1) with rfl | rfl <;> simp [hc]
def SmallSp (s : Spn) : Prop := (-1000000 ≤ s.lo ∧ s.lo ≤ 1000000) ∧ (-1000000 ≤ s.hi ∧ s.hi ≤ 1000000)
theorem near_apart_small {F : FleetD} (hF : FleetOk F) {p q : NetD} {h : Int} (hp : NetOk p F.east.length) (hq : NetOk q F.east.length) (hh : mx p.shot q.shot ≤ h ∧ h ≤ 24) : SmallSp (near_eF p q F.gap) ∧ SmallSp (spNeg (apart_eF F p q h)) ∧ SmallSp (apart_eF F p q h) := by
  have h1 := long_e_ok hp.long
  have h2 := long_e_ok hq.long
  have h3 := hF.gap
  have hm := le_mx p.shot q.shot
  have h4 := alone_e_in hF (m := q) hp (h := h) ⟨by omega, hh.2⟩
  have h5 := alone_e_in hF (m := p) hq (h := h) ⟨by omega, hh.2⟩
  have h6 := hp.east
  have h7 := hq.east
  unfold spIn at h4 h5
  unfold SmallSp near_eF apart_eF spNeg spAdd
  simp only
  omega
theorem load_net_mid {u : World} {g : Nat} {C : Array Value} (o : Nat) (D : List Value) (h : u.heap[g]? = some (.cells C 127 (0, 0))) (hl : D.length = 11) (hs : ∀ j v, D[j]? = some v → C[o + j]? = some v) : (Instr.loadAt 125 (.pointer (some ⟨g, o, none⟩))).run Try.prog u = .ok (.agg D.toArray) u :=
  run_loadAt_mid (P := Try.prog) u g o 125 D _ (fun j v hv => by rw [cell_of h]; exact hs j v hv) Try.underlying125 rfl (by rw [show (Try.prog.info? 125).map (·.size) = some 11 from by kernel_rfl, hl])

/-- The pair with the net first, if it is in it. -/
def withFirst (i : Int) (t : Nat × Nat × Nat) : Nat × Nat × Nat := if (t.2.2 : Int) = i then (t.1, t.2.2, t.2.1) else t
def barOf (F : FleetD) (t : Nat × Nat × Nat) : Spn := spAdd (near_eF (F.nets.getD t.2.1 netZ) (F.nets.getD t.2.2 netZ) F.gap) (spNeg (apart_eF F (F.nets.getD t.2.1 netZ) (F.nets.getD t.2.2 netZ) t.1))
def barB (F : FleetD) (i : Int) (t : Nat × Nat × Nat) : Bool := ((t.2.1 : Int) == i) && meetS (apart_nF F (F.nets.getD t.2.1 netZ) (F.nets.getD t.2.2 netZ) t.1) (near_nF (F.nets.getD t.2.1 netZ) (F.nets.getD t.2.2 netZ) F.gap)
def barPick (F : FleetD) (i : Int) (t : Nat × Nat × Nat) : Option Spn := if barB F i (withFirst i t) then some (barOf F (withFirst i t)) else none
def barTo (F : FleetD) (i : Int) (k : Nat) : List Spn := ((trips F).take k).filterMap (barPick F i)
def barAll (F : FleetD) (i : Int) : List Spn := (trips F).filterMap (barPick F i)
theorem barTo_yes {F : FleetD} {i : Int} {k : Nat} (h : k < (trips F).length) (hb : barB F i (withFirst i (trips F)[k]) = true) : barTo F i (k + 1) = barTo F i k ++ [barOf F (withFirst i (trips F)[k])] := by
  unfold barTo
  rw [List.take_succ_eq_append_getElem h, List.filterMap_append]
  simp [barPick, hb]
theorem barTo_no {F : FleetD} {i : Int} {k : Nat} (h : k < (trips F).length) (hb : barB F i (withFirst i (trips F)[k]) = false) : barTo F i (k + 1) = barTo F i k := by
  unfold barTo
  rw [List.take_succ_eq_append_getElem h, List.filterMap_append]
  simp [barPick, hb]
theorem barTo_all (F : FleetD) (i : Int) : barTo F i (trips F).length = barAll F i := by unfold barTo barAll; rw [List.take_length]
theorem barTo_len (F : FleetD) (i : Int) (k : Nat) : (barTo F i k).length ≤ k := by
  unfold barTo
  exact Nat.le_trans (List.length_filterMap_le _ _) (by rw [List.length_take]; omega)
def spFlat (l : List Spn) : List Value := l.flatMap spCells
theorem spFlat_to (l : List Spn) : spTo l l.length = spFlat l := by
  unfold spFlat spTo
  rw [List.flatMap_def, List.flatMap_def]
  congr 1
  apply List.ext_getElem
  · simp
  · intro n h1 h2; simp at h1 h2; simp [h1]
theorem inTo_len (g : Nat → Nat → Nat → Bool) (h i m : Nat) : (inTo g h i m).length ≤ m := by
  unfold inTo
  induction m with
  | zero => simp
  | succ m ih => rw [List.range_succ, List.flatMap_append, List.length_append]; simp only [List.flatMap_cons, List.flatMap_nil, List.append_nil]; split <;> simp only [List.length_cons, List.length_nil] <;> omega
theorem midTo_len (g : Nat → Nat → Nat → Bool) (N h k : Nat) : (midTo g N h k).length ≤ k * N := by
  unfold midTo
  induction k with
  | zero => simp
  | succ k ih => rw [List.range_succ, List.flatMap_append, List.length_append]; simp only [List.flatMap_cons, List.flatMap_nil, List.append_nil]; have := inTo_len g h k (N - (k + 1)); rw [Nat.add_mul, Nat.one_mul]; omega
theorem outTo_len (g : Nat → Nat → Nat → Bool) (N k : Nat) : (outTo g N k).length ≤ k * (N * N) := by
  unfold outTo
  induction k with
  | zero => simp
  | succ k ih => rw [List.range_succ, List.flatMap_append, List.length_append]; simp only [List.flatMap_cons, List.flatMap_nil, List.append_nil]; have := midTo_len g N k N; rw [Nat.add_mul, Nat.one_mul]; omega
theorem trips_len {F : FleetD} (hF : FleetOk F) : (trips F).length ≤ 900 := by
  have h := outTo_len (lieG F) F.nets.length (F.east.length + 1)
  have h1 := hF.hours
  have h2 := hF.count
  have h3 : F.nets.length * F.nets.length ≤ 6 * 6 := Nat.mul_le_mul h2.2 h2.2
  have h4 : (F.east.length + 1) * (F.nets.length * F.nets.length) ≤ 25 * 36 := Nat.mul_le_mul (by omega) (by omega)
  unfold trips
  omega
theorem info37 : (Try.prog.info? 37).map (·.size) = some 1 := by kernel_rfl

end Go.Proofs.Ytmjelgonhpgmbaa
