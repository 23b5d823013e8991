/- A new night. -/
import Derived.Test.YtmjelgonhpgmbaaMH
set_option linter.unusedSimpArgs false
set_option linter.unusedVariables false
namespace Go.Proofs.Ytmjelgonhpgmbaa
open Go Go.RowKit Go.Shelf

def truthB (F : FleetD) (T : TruthD) : Bool := withinB T.east F.east && (withinB T.se (F.nets.map (·.se)) && (withinB T.north F.north && withinB T.sn (F.nets.map (·.sn))))
theorem truthB_ok {F : FleetD} {T : TruthD} (h : truthB F T = true) : TruthOk F T := by
  unfold truthB at h
  simp only [Bool.and_eq_true] at h
  exact ⟨h.1, h.2.2.1, h.2.1, h.2.2.2⟩
def nightE (F : FleetD) (T : TruthD) : Int := if fleetB F then (if truthB F T then 0 else 21) else 20
/-- A night in memory. -/
def NightIn (w : World) (v : Value) (F : FleetD) (T : TruthD) : Prop := ∃ eb eo ec nb no nc sa sc ma mc ta tac tb tbc tc tcc td tdc, v = .agg #[.slice (some ⟨eb, eo, none⟩) F.east.length ec, .slice (some ⟨nb, no, none⟩) F.north.length nc, .int .i64 F.gap, .slice sa F.nets.length sc, .slice ma F.nets.length mc, .slice ta T.east.length tac, .slice tb T.north.length tbc, .slice tc T.se.length tcc, .slice td T.sn.length tdc] ∧
  (SpansAt w (.slice (some ⟨eb, eo, none⟩) F.east.length ec) F.east ∧ SpansAt w (.slice (some ⟨nb, no, none⟩) F.north.length nc) F.north ∧ NetsAt w (.slice ma F.nets.length mc) F.nets) ∧ IntsAt w (.slice ta T.east.length tac) T.east ∧ IntsAt w (.slice tb T.north.length tbc) T.north ∧ IntsAt w (.slice tc T.se.length tcc) T.se ∧ IntsAt w (.slice td T.sn.length tdc) T.sn
theorem info114 : (Try.prog.info? 114).map (·.size) = some 4 := by kernel_rfl

set_option maxRecDepth 100000 in
set_option maxHeartbeats 4000000 in
theorem newNight_fleet (F : FleetD) (hF : fleetB F = false) (T : TruthD) (ev nv sv tv1 tv2 tv3 tv4 : Value) (w : World) (he : SpansAt w ev F.east) (hn : SpansAt w nv F.north) (hs : ShotsAt w sv F.nets) (h1 : IntsAt w tv1 T.east) (h2 : IntsAt w tv2 T.north) (h3 : IntsAt w tv3 T.se) (h4 : IntsAt w tv4 T.sn) :
    Cal 54 #[.agg #[ev, nv, .int .i64 F.gap, sv], .agg #[tv1, tv2, tv3, tv4]] w fun e w' => e = .returned (.tuple #[.agg #[.slice none 0 0, .slice none 0 0, .int .i64 0, .slice none 0 0, .slice none 0 0, .slice none 0 0, .slice none 0 0, .slice none 0 0, .slice none 0 0], .int .i64 20]) ∧ Ext w w' := by
  have HIN := hid (fun (u : World) (hu : Ext w u) => And.intro (he.mono hu) (And.intro (hn.mono hu) (hs.mono hu)))
  obtain ⟨ta, tac, rfl, _, _⟩ := (show IntsAt w tv1 T.east from h1)
  obtain ⟨tb, tbc, rfl, _, _⟩ := (show IntsAt w tv2 T.north from h2)
  obtain ⟨tc, tcc, rfl, _, _⟩ := (show IntsAt w tv3 T.se from h3)
  obtain ⟨td, tdc, rfl, _, _⟩ := (show IntsAt w tv4 T.sn from h4)
  have HTR := hid (fun (u : World) (hu : Ext w u) => And.intro (h1.mono hu) (And.intro (h2.mono hu) (And.intro (h3.mono hu) (h4.mono hu))))
  obtain ⟨sea, sec, rfl, _, _⟩ := (show SpansAt w ev F.east from he)
  obtain ⟨sna, snc, rfl, _, _⟩ := (show SpansAt w nv F.north from hn)
  obtain ⟨ssa, ssc, rfl, _, _⟩ := (show ShotsAt w sv F.nets from hs)
  clear he hn hs h1 h2 h3 h4
  gi_enter Try.func54, Try.ntmps54
  gi_upto_region 1 with fail
  have hW : Ext w (((w.alloc (.cells #[.slice sea F.east.length sec, .slice sna F.north.length snc, .int .i64 F.gap, .slice ssa F.nets.length ssc] 40)).alloc (.cells #[.slice ta T.east.length tac, .slice tb T.north.length tbc, .slice tc T.se.length tcc, .slice td T.sn.length tdc] 50)).alloc (.cells #[.slice none 0 0, .slice none 0 0, .int .i64 0, .slice none 0 0, .slice none 0 0, .slice none 0 0, .slice none 0 0, .slice none 0 0, .slice none 0 0] 116)) := (((Ext.refl _).alloc _).alloc _).alloc _
  have hW0 : (((w.alloc (.cells #[.slice sea F.east.length sec, .slice sna F.north.length snc, .int .i64 F.gap, .slice ssa F.nets.length ssc] 40)).alloc (.cells #[.slice ta T.east.length tac, .slice tb T.north.length tbc, .slice tc T.se.length tcc, .slice td T.sn.length tdc] 50)).alloc (.cells #[.slice none 0 0, .slice none 0 0, .int .i64 0, .slice none 0 0, .slice none 0 0, .slice none 0 0, .slice none 0 0, .slice none 0 0, .slice none 0 0] 116)).heap[w.heap.size]? = some (.cells #[.slice sea F.east.length sec, .slice sna F.north.length snc, .int .i64 F.gap, .slice ssa F.nets.length ssc] 40 (0, 0)) := by simp only [alloc_at, World.size_alloc]; (repeat rw [if_neg (by omega)]); first | rfl | rw [if_pos (by omega)] | rw [if_pos trivial]
  have hW1 : (((w.alloc (.cells #[.slice sea F.east.length sec, .slice sna F.north.length snc, .int .i64 F.gap, .slice ssa F.nets.length ssc] 40)).alloc (.cells #[.slice ta T.east.length tac, .slice tb T.north.length tbc, .slice tc T.se.length tcc, .slice td T.sn.length tdc] 50)).alloc (.cells #[.slice none 0 0, .slice none 0 0, .int .i64 0, .slice none 0 0, .slice none 0 0, .slice none 0 0, .slice none 0 0, .slice none 0 0, .slice none 0 0] 116)).heap[w.heap.size + 1]? = some (.cells #[.slice ta T.east.length tac, .slice tb T.north.length tbc, .slice tc T.se.length tcc, .slice td T.sn.length tdc] 50 (0, 0)) := by simp only [alloc_at, World.size_alloc]; (repeat rw [if_neg (by omega)]); first | rfl | rw [if_pos (by omega)] | rw [if_pos trivial]
  have hW2 : (((w.alloc (.cells #[.slice sea F.east.length sec, .slice sna F.north.length snc, .int .i64 F.gap, .slice ssa F.nets.length ssc] 40)).alloc (.cells #[.slice ta T.east.length tac, .slice tb T.north.length tbc, .slice tc T.se.length tcc, .slice td T.sn.length tdc] 50)).alloc (.cells #[.slice none 0 0, .slice none 0 0, .int .i64 0, .slice none 0 0, .slice none 0 0, .slice none 0 0, .slice none 0 0, .slice none 0 0, .slice none 0 0] 116)).heap[w.heap.size + 1 + 1]? = some (.cells #[.slice none 0 0, .slice none 0 0, .int .i64 0, .slice none 0 0, .slice none 0 0, .slice none 0 0, .slice none 0 0, .slice none 0 0, .slice none 0 0] 116 (0, 0)) := by simp only [alloc_at, World.size_alloc]; (repeat rw [if_neg (by omega)]); first | rfl | rw [if_pos (by omega)] | rw [if_pos trivial]
  generalize ((w.alloc (.cells #[.slice sea F.east.length sec, .slice sna F.north.length snc, .int .i64 F.gap, .slice ssa F.nets.length ssc] 40)).alloc (.cells #[.slice ta T.east.length tac, .slice tb T.north.length tbc, .slice tc T.se.length tcc, .slice td T.sn.length tdc] 50)).alloc (.cells #[.slice none 0 0, .slice none 0 0, .int .i64 0, .slice none 0 0, .slice none 0 0, .slice none 0 0, .slice none 0 0, .slice none 0 0, .slice none 0 0] 116) = W at *
  have HW := hid hW
  have HB2 := hid hW2
  have hc := cell_of hW0
  clear hW hW0 hW1 hW2
  gi_wp2_with (first | (gi_at_call 51; ((with_reducible refine (newFleet_no F hF _ _ _ _ (HIN.out _ HW.out).1 (HIN.out _ HW.out).2.1 (HIN.out _ HW.out).2.2).mono ?_); rintro e w1 ⟨rfl, hx1⟩; have hxa := hx1.alloc (.cells #[.slice none 0 0, .slice none 0 0, .int .i64 0, .slice none 0 0, .slice none 0 0] 108); have hbk := hxa.block HB2.out)) | (refine wpIn_store_new 116 (.tmp 4) (.tmp 19) rfl (fun _ => trivial) (g := w.heap.size + 1 + 1) rfl (cells := #[.slice none 0 0, .slice none 0 0, .int .i64 0, .slice none 0 0, .slice none 0 0, .slice none 0 0, .slice none 0 0, .slice none 0 0, .slice none 0 0]) rfl hbk info116 rfl (by kernel_rfl) ?_; intro w9 hb9 hoth hext))
  have hE : Ext w w9 := hext w (by omega) (HW.out.trans hxa)
  have hc9 := cell_of hb9
  clear hoth hext
  exact bodyPost_ret (v := .tuple #[.agg #[.slice none 0 0, .slice none 0 0, .int .i64 0, .slice none 0 0, .slice none 0 0, .slice none 0 0, .slice none 0 0, .slice none 0 0, .slice none 0 0], .int .i64 20]) (by simp [results, Try.results54, go_sem, hc9]) rfl ⟨rfl, hE⟩
set_option maxRecDepth 100000 in
set_option maxHeartbeats 16000000 in
theorem newNight_any (F : FleetD) (hF : fleetB F = true) (T : TruthD) (ev nv sv tv1 tv2 tv3 tv4 : Value) (w : World) (he : SpansAt w ev F.east) (hn : SpansAt w nv F.north) (hs : ShotsAt w sv F.nets) (h1 : IntsAt w tv1 T.east) (h2 : IntsAt w tv2 T.north) (h3 : IntsAt w tv3 T.se) (h4 : IntsAt w tv4 T.sn) :
    Cal 54 #[.agg #[ev, nv, .int .i64 F.gap, sv], .agg #[tv1, tv2, tv3, tv4]] w fun e w' => Ext w w' ∧ ((truthB F T = false ∧ e = .returned (.tuple #[.agg #[.slice none 0 0, .slice none 0 0, .int .i64 0, .slice none 0 0, .slice none 0 0, .slice none 0 0, .slice none 0 0, .slice none 0 0, .slice none 0 0], .int .i64 21])) ∨ (truthB F T = true ∧ ∃ v, e = .returned (.tuple #[v, .int .i64 0]) ∧ Hid (NightIn w' v F T))) := by
  have HOK := hid (fleetB_ok hF)
  have HIN := hid (fun (u : World) (hu : Ext w u) => And.intro (he.mono hu) (And.intro (hn.mono hu) (hs.mono hu)))
  obtain ⟨ta, tac, rfl, _, _⟩ := (show IntsAt w tv1 T.east from h1)
  obtain ⟨tb, tbc, rfl, _, _⟩ := (show IntsAt w tv2 T.north from h2)
  obtain ⟨tc, tcc, rfl, _, _⟩ := (show IntsAt w tv3 T.se from h3)
  obtain ⟨td, tdc, rfl, _, _⟩ := (show IntsAt w tv4 T.sn from h4)
  have HTR := hid (fun (u : World) (hu : Ext w u) => And.intro (h1.mono hu) (And.intro (h2.mono hu) (And.intro (h3.mono hu) (h4.mono hu))))
  obtain ⟨eb, eo, ec, rfl⟩ := he.slice HOK.out.hours.1
  obtain ⟨nb, no, nc, rfl⟩ := hn.slice (by rw [HOK.out.same]; exact HOK.out.hours.1)
  obtain ⟨sa, sc, rfl, _, _⟩ := (show ShotsAt w sv F.nets from hs)
  clear he hn hs h1 h2 h3 h4
  gi_enter Try.func54, Try.ntmps54
  gi_upto_region 1 with fail
  have hW : Ext w (((w.alloc (.cells #[.slice (some ⟨eb, eo, none⟩) F.east.length ec, .slice (some ⟨nb, no, none⟩) F.north.length nc, .int .i64 F.gap, .slice sa F.nets.length sc] 40)).alloc (.cells #[.slice ta T.east.length tac, .slice tb T.north.length tbc, .slice tc T.se.length tcc, .slice td T.sn.length tdc] 50)).alloc (.cells #[.slice none 0 0, .slice none 0 0, .int .i64 0, .slice none 0 0, .slice none 0 0, .slice none 0 0, .slice none 0 0, .slice none 0 0, .slice none 0 0] 116)) := (((Ext.refl _).alloc _).alloc _).alloc _
  have hW0 : (((w.alloc (.cells #[.slice (some ⟨eb, eo, none⟩) F.east.length ec, .slice (some ⟨nb, no, none⟩) F.north.length nc, .int .i64 F.gap, .slice sa F.nets.length sc] 40)).alloc (.cells #[.slice ta T.east.length tac, .slice tb T.north.length tbc, .slice tc T.se.length tcc, .slice td T.sn.length tdc] 50)).alloc (.cells #[.slice none 0 0, .slice none 0 0, .int .i64 0, .slice none 0 0, .slice none 0 0, .slice none 0 0, .slice none 0 0, .slice none 0 0, .slice none 0 0] 116)).heap[w.heap.size]? = some (.cells #[.slice (some ⟨eb, eo, none⟩) F.east.length ec, .slice (some ⟨nb, no, none⟩) F.north.length nc, .int .i64 F.gap, .slice sa F.nets.length sc] 40 (0, 0)) := by simp only [alloc_at, World.size_alloc]; (repeat rw [if_neg (by omega)]); first | rfl | rw [if_pos (by omega)] | rw [if_pos trivial]
  have hW1 : (((w.alloc (.cells #[.slice (some ⟨eb, eo, none⟩) F.east.length ec, .slice (some ⟨nb, no, none⟩) F.north.length nc, .int .i64 F.gap, .slice sa F.nets.length sc] 40)).alloc (.cells #[.slice ta T.east.length tac, .slice tb T.north.length tbc, .slice tc T.se.length tcc, .slice td T.sn.length tdc] 50)).alloc (.cells #[.slice none 0 0, .slice none 0 0, .int .i64 0, .slice none 0 0, .slice none 0 0, .slice none 0 0, .slice none 0 0, .slice none 0 0, .slice none 0 0] 116)).heap[w.heap.size + 1]? = some (.cells #[.slice ta T.east.length tac, .slice tb T.north.length tbc, .slice tc T.se.length tcc, .slice td T.sn.length tdc] 50 (0, 0)) := by simp only [alloc_at, World.size_alloc]; (repeat rw [if_neg (by omega)]); first | rfl | rw [if_pos (by omega)] | rw [if_pos trivial]
  have hW2 : (((w.alloc (.cells #[.slice (some ⟨eb, eo, none⟩) F.east.length ec, .slice (some ⟨nb, no, none⟩) F.north.length nc, .int .i64 F.gap, .slice sa F.nets.length sc] 40)).alloc (.cells #[.slice ta T.east.length tac, .slice tb T.north.length tbc, .slice tc T.se.length tcc, .slice td T.sn.length tdc] 50)).alloc (.cells #[.slice none 0 0, .slice none 0 0, .int .i64 0, .slice none 0 0, .slice none 0 0, .slice none 0 0, .slice none 0 0, .slice none 0 0, .slice none 0 0] 116)).heap[w.heap.size + 1 + 1]? = some (.cells #[.slice none 0 0, .slice none 0 0, .int .i64 0, .slice none 0 0, .slice none 0 0, .slice none 0 0, .slice none 0 0, .slice none 0 0, .slice none 0 0] 116 (0, 0)) := by simp only [alloc_at, World.size_alloc]; (repeat rw [if_neg (by omega)]); first | rfl | rw [if_pos (by omega)] | rw [if_pos trivial]
  generalize ((w.alloc (.cells #[.slice (some ⟨eb, eo, none⟩) F.east.length ec, .slice (some ⟨nb, no, none⟩) F.north.length nc, .int .i64 F.gap, .slice sa F.nets.length sc] 40)).alloc (.cells #[.slice ta T.east.length tac, .slice tb T.north.length tbc, .slice tc T.se.length tcc, .slice td T.sn.length tdc] 50)).alloc (.cells #[.slice none 0 0, .slice none 0 0, .int .i64 0, .slice none 0 0, .slice none 0 0, .slice none 0 0, .slice none 0 0, .slice none 0 0, .slice none 0 0] 116) = W at *
  have HW := hid hW
  have HB0 := hid hW0
  have HB1 := hid hW1
  have HB2 := hid hW2
  have hc := cell_of hW0
  clear hW hW0 hW1 hW2
  gi_upto_region 2 with (gi_at_call 51; ((with_reducible refine (newFleet_row F hF _ _ _ _ (HIN.out _ HW.out).1 (HIN.out _ HW.out).2.1 (HIN.out _ HW.out).2.2).mono ?_); rintro e w1 ⟨ma, mc, rfl, hx1, hfa⟩))
  have hxa := hx1.alloc (.cells #[.slice (some ⟨eb, eo, none⟩) F.east.length ec, .slice (some ⟨nb, no, none⟩) F.north.length nc, .int .i64 F.gap, .slice sa F.nets.length sc, .slice ma F.nets.length mc] 108)
  have HB2' := HB2
  have HX := hid (HW.out.trans hxa)
  have HB0 := hid (hxa.block HB0.out)
  have HB1 := hid (hxa.block HB1.out)
  have HB2 := hid (hxa.block HB2.out)
  have HB3 : Hid ((w1.alloc (.cells #[.slice (some ⟨eb, eo, none⟩) F.east.length ec, .slice (some ⟨nb, no, none⟩) F.north.length nc, .int .i64 F.gap, .slice sa F.nets.length sc, .slice ma F.nets.length mc] 108)).heap[w1.heap.size]? = some (.cells #[.slice (some ⟨eb, eo, none⟩) F.east.length ec, .slice (some ⟨nb, no, none⟩) F.north.length nc, .int .i64 F.gap, .slice sa F.nets.length sc, .slice ma F.nets.length mc] 108 (0, 0))) := Ext.new (Ext.refl _)
  have HWS := hid (show w.heap.size + 1 + 1 < W.heap.size from lt_of_block HB2'.out)
  have HROW := hid (And.intro (hfa.out.1.mono ((Ext.refl w1).alloc (.cells #[.slice (some ⟨eb, eo, none⟩) F.east.length ec, .slice (some ⟨nb, no, none⟩) F.north.length nc, .int .i64 F.gap, .slice sa F.nets.length sc, .slice ma F.nets.length mc] 108))) hfa.out.2)
  clear hxa hx1 hfa HW hc hF HB2'
  generalize w1.alloc (.cells #[.slice (some ⟨eb, eo, none⟩) F.east.length ec, .slice (some ⟨nb, no, none⟩) F.north.length nc, .int .i64 F.gap, .slice sa F.nets.length sc, .slice ma F.nets.length mc] 108) = W1 at *
  generalize w1.heap.size = G3 at *
  have hc1 := cell_of HB1.out
  gi_upto_region 5 with fail
  have hxb : Ext W1 (W1.alloc (.cells #[.slice ta T.east.length tac, .slice tb T.north.length tbc, .slice tc T.se.length tcc, .slice td T.sn.length tdc] 114)) := (Ext.refl _).alloc _
  have hb4 : (W1.alloc (.cells #[.slice ta T.east.length tac, .slice tb T.north.length tbc, .slice tc T.se.length tcc, .slice td T.sn.length tdc] 114)).heap[W1.heap.size]? = some (.cells #[.slice ta T.east.length tac, .slice tb T.north.length tbc, .slice tc T.se.length tcc, .slice td T.sn.length tdc] 114 (0, 0)) := Ext.new (Ext.refl _)
  have HX := hid (HX.out.trans hxb)
  have HB0 := hid (hxb.block HB0.out)
  have HB2 := hid (hxb.block HB2.out)
  have HB3 := hid (hxb.block HB3.out)
  have HB4 := hid hb4
  have HROW := hid (And.intro (HROW.out.1.mono hxb) HROW.out.2)
  clear hxb hb4 hc1 HB1
  generalize W1.alloc (.cells #[.slice ta T.east.length tac, .slice tb T.north.length tbc, .slice tc T.se.length tcc, .slice td T.sn.length tdc] 114) = W2 at *
  generalize W1.heap.size = G4 at *
  gi_wp2_with (gi_at_call 79; ((with_reducible refine (sides_any _).mono ?_); rintro e w2 ⟨rfl, hx2⟩))
  have HX := hid (HX.out.trans hx2)
  have HB0 := hid (hx2.block HB0.out)
  have HB2 := hid (hx2.block HB2.out)
  have HB3 := hid (hx2.block HB3.out)
  have HB4 := hid (hx2.block HB4.out)
  have HROW := hid (And.intro (HROW.out.1.mono hx2) HROW.out.2)
  have HFA := hid (fun (u : World) (hu : Ext w2 u) => NetsAt.of_row (HROW.out.1.mono hu) (by have := HOK.out.count; omega))
  clear hx2
  gi_loopw [24] (fun j wr => ∃ m : Nat, m ≤ 2 ∧ j = .int .i64 m ∧ Hid (Ext w2 wr ∧ (1 ≤ m → withinB T.east F.east = true ∧ withinB T.se (F.nets.map (·.se)) = true) ∧ (2 ≤ m → withinB T.north F.north = true ∧ withinB T.sn (F.nets.map (·.sn)) = true))) (fun j _ => 2 - (intOf j).toNat)
  case atStart => exact ⟨0, by omega, rfl, Ext.refl _, fun h => absurd h (by omega), fun h => absurd h (by omega)⟩
  case round =>
    obtain ⟨m, hm, rfl, HI⟩ := hrel
    rcases (by omega : m = 0 ∨ m = 1 ∨ m = 2) with rfl | rfl | rfl
    · have hix := index_0 (.int .i64 0) (.func (.func 84) #[] #[]) (.func (.func 85) #[] #[]) (.func (.func 86) #[] #[]) (.func (.func 87) #[] #[]) (.int .i64 1) (.func (.func 88) #[] #[]) (.func (.func 89) #[] #[]) (.func (.func 90) #[] #[]) (.func (.func 91) #[] #[]) wr
      have hxs : Ext wr (wr.alloc (.cells #[.int .i64 0, .func (.func 84) #[] #[], .func (.func 85) #[] #[], .func (.func 86) #[] #[], .func (.func 87) #[] #[]] 133)) := (Ext.refl _).alloc _
      have hbs : (wr.alloc (.cells #[.int .i64 0, .func (.func 84) #[] #[], .func (.func 85) #[] #[], .func (.func 86) #[] #[], .func (.func 87) #[] #[]] 133)).heap[wr.heap.size]? = some (.cells #[.int .i64 0, .func (.func 84) #[] #[], .func (.func 85) #[] #[], .func (.func 86) #[] #[], .func (.func 87) #[] #[]] 133 (0, 0)) := Ext.new (Ext.refl _)
      gi_upto_region 8 with fail
      clear hix
      have HBS := hid hbs
      have HX1 := hid (HI.out.1.trans hxs)
      clear hxs hbs
      generalize wr.alloc (.cells #[.int .i64 0, .func (.func 84) #[] #[], .func (.func 85) #[] #[], .func (.func 86) #[] #[], .func (.func 87) #[] #[]] 133) = W3 at *
      generalize wr.heap.size = GS at *
      have hcs := cell_of HBS.out
      have hct := cell_of (HX1.out.block HB4.out)
      gi_upto_region 9 with (gi_at_call 87; ((with_reducible refine (said_e _ _ _ _ _ _ _ _ _ _ _ _ _).mono ?_); rintro e w4 ⟨rfl, hx4⟩))
      have hxw := hx4.alloc (.cells #[.slice ta T.east.length tac, .slice tc T.se.length tcc] 159)
      have hbw : (w4.alloc (.cells #[.slice ta T.east.length tac, .slice tc T.se.length tcc] 159)).heap[w4.heap.size]? = some (.cells #[.slice ta T.east.length tac, .slice tc T.se.length tcc] 159 (0, 0)) := Ext.new (Ext.refl _)
      have HBS := hid (hxw.block HBS.out)
      have HX1 := hid (HX1.out.trans hxw)
      have HBW := hid hbw
      clear hxw hbw hx4 hcs hct
      generalize w4.alloc (.cells #[.slice ta T.east.length tac, .slice tc T.se.length tcc] 159) = W4 at *
      generalize w4.heap.size = GW at *
      have HXA := hid (HX.out.trans HX1.out)
      have HTRU := hid (fun (u : World) (hu : Ext w u) => And.intro (HTR.out u hu).1 (And.intro ((HIN.out u hu).1) (HTR.out u hu).2.2.1))
      cases hv1 : withinB T.east F.east
      case false =>
        have HV1 := hid hv1
        clear hv1
        refine lex_wide 17 [] (by kernel_rfl) (by kernel_rfl) (nStab_nil) ?_
        simp only [List.take_succ_cons, List.take_zero, List.drop_succ_cons, List.drop_zero]
        apply lex_fun (rfl : psAt _ _ = none)
        · intro x u hR hf
          clear hR hf
          go_simp
          exact ⟨rfl, Ext.refl _⟩
        simp only [Act.put, List.setIfInBounds_toArray, List.set_cons_succ, List.set_cons_zero]
        apply lex_fun (rfl : psAt _ _ = none)
        · intro x u hR hf
          have cw := cell_of (hR.block HBW.out)
          clear hR hf
          go_simp
          exact ⟨rfl, Ext.refl _⟩
        simp only [Act.put, List.setIfInBounds_toArray, List.set_cons_succ, List.set_cons_zero]
        apply lex_fun (rfl : psAt _ _ = none)
        · intro x u hR hf
          clear hR hf
          go_simp
          exact ⟨rfl, Ext.refl _⟩
        simp only [Act.put, List.setIfInBounds_toArray, List.set_cons_succ, List.set_cons_zero]
        apply lex_fun (rfl : psAt _ _ = none)
        · intro x u hR hf
          have cs := cell_of (hR.block HBS.out)
          clear hR hf
          go_simp
          exact ⟨rfl, Ext.refl _⟩
        simp only [Act.put, List.setIfInBounds_toArray, List.set_cons_succ, List.set_cons_zero]
        apply lex_fun (rfl : psAt _ _ = none)
        · intro x u hR hf
          have c0 := cell_of (hR.block (HX1.out.block HB0.out))
          clear hR hf
          go_simp
          exact ⟨rfl, Ext.refl _⟩
        simp only [Act.put, List.setIfInBounds_toArray, List.set_cons_succ, List.set_cons_zero]
        refine lex_fun (v := .slice (some ⟨eb, eo, none⟩) F.east.length ec) (rfl : psAt _ _ = none) ?_ ?_
        · intro x u hR hf
          have hcal := hid (tide_e (.slice (some ⟨eb, eo, none⟩) F.east.length ec) (.slice (some ⟨nb, no, none⟩) F.north.length nc) (.slice sa F.nets.length sc) F.gap u)
          clear hR hf
          go_simp
          exact hcal.out.mono fun e w'' ⟨he, hx'⟩ => ⟨_, he, rfl, hx'⟩
        simp only [Act.put, List.setIfInBounds_toArray, List.set_cons_succ, List.set_cons_zero]
        refine lex_fun (v := .bool false) (rfl : psAt _ _ = none) ?_ ?_
        · intro x u hR hf
          have hcal := hid ((by have h := areWithin_any T.east F.east _ _ u (HTRU.out u (HXA.out.trans hR)).1 (HTRU.out u (HXA.out.trans hR)).2.1; rw [HV1.out] at h; exact h : Cal 80 _ u _))
          clear hR hf
          go_simp
          exact hcal.out.mono fun e w'' ⟨he, hx'⟩ => ⟨_, he, rfl, hx'⟩
        simp only [Act.put, List.setIfInBounds_toArray, List.set_cons_succ, List.set_cons_zero]
        apply lex_fun (rfl : psAt _ _ = none)
        · intro x u hR hf
          clear hR hf
          go_simp
          exact ⟨rfl, Ext.refl _⟩
        simp only [Act.put, List.setIfInBounds_toArray, List.set_cons_succ, List.set_cons_zero]
        apply lex_fun (rfl : psAt _ _ = none)
        · intro x u hR hf
          clear hR hf
          go_simp
          exact ⟨rfl, Ext.refl _⟩
        simp only [Act.put, List.setIfInBounds_toArray, List.set_cons_succ, List.set_cons_zero]
        refine lex_fun (v := undef) (rfl : psAt _ _ = none) ?_ ?_
        · intro x u hR hf
          clear hR hf
          first | (go_simp; done) | (go_simp; rfl)
        simp only [Act.put, List.setIfInBounds_toArray, List.set_cons_succ, List.set_cons_zero]
        refine lex_fun (v := undef) (rfl : psAt _ _ = none) ?_ ?_
        · intro x u hR hf
          clear hR hf
          first | (go_simp; done) | (go_simp; rfl)
        simp only [Act.put, List.setIfInBounds_toArray, List.set_cons_succ, List.set_cons_zero]
        refine lex_fun (v := undef) (rfl : psAt _ _ = none) ?_ ?_
        · intro x u hR hf
          clear hR hf
          first | (go_simp; done) | (go_simp; rfl)
        simp only [Act.put, List.setIfInBounds_toArray, List.set_cons_succ, List.set_cons_zero]
        refine lex_fun (v := undef) (rfl : psAt _ _ = none) ?_ ?_
        · intro x u hR hf
          clear hR hf
          first | (go_simp; done) | (go_simp; rfl)
        simp only [Act.put, List.setIfInBounds_toArray, List.set_cons_succ, List.set_cons_zero]
        refine lex_fun (v := undef) (rfl : psAt _ _ = none) ?_ ?_
        · intro x u hR hf
          clear hR hf
          first | (go_simp; done) | (go_simp; rfl)
        simp only [Act.put, List.setIfInBounds_toArray, List.set_cons_succ, List.set_cons_zero]
        refine lex_fun (v := undef) (rfl : psAt _ _ = none) ?_ ?_
        · intro x u hR hf
          clear hR hf
          first | (go_simp; done) | (go_simp; rfl)
        simp only [Act.put, List.setIfInBounds_toArray, List.set_cons_succ, List.set_cons_zero]
        refine lex_fun (v := undef) (rfl : psAt _ _ = none) ?_ ?_
        · intro x u hR hf
          clear hR hf
          first | (go_simp; done) | (go_simp; rfl)
        simp only [Act.put, List.setIfInBounds_toArray, List.set_cons_succ, List.set_cons_zero]
        apply lex_fun (rfl : psAt _ _ = none)
        · intro x u hR hf
          clear hR hf
          go_simp
          exact ⟨rfl, Ext.refl _⟩
        simp only [Act.put, List.setIfInBounds_toArray, List.set_cons_succ, List.set_cons_zero]
        refine lex_nil fun x w6 hE hfacts => ?_
        clear hfacts
        clear x
        have hbk := hE.block (HX1.out.block HB2.out)
        have HG : Hid (truthB F T = false) := by show truthB F T = false; unfold truthB; rw [HV1.out]; rfl
        gi_wp2_with (refine wpIn_store_new 116 (.tmp 4) (.tmp 48) rfl (fun _ => trivial) (g := w.heap.size + 1 + 1) rfl (cells := #[.slice none 0 0, .slice none 0 0, .int .i64 0, .slice none 0 0, .slice none 0 0, .slice none 0 0, .slice none 0 0, .slice none 0 0, .slice none 0 0]) rfl hbk info116 rfl (by kernel_rfl) ?_; intro w9 hb9 hoth hext)
        have hEx : Ext w w9 := hext w (by omega) (HXA.out.trans hE)
        have hc9 := cell_of hb9
        clear hoth hext
        exact bodyPost_ret (v := .tuple #[.agg #[.slice none 0 0, .slice none 0 0, .int .i64 0, .slice none 0 0, .slice none 0 0, .slice none 0 0, .slice none 0 0, .slice none 0 0, .slice none 0 0], .int .i64 21]) (by simp [results, Try.results54, go_sem, hc9]) rfl ⟨hEx, .inl ⟨HG.out, rfl⟩⟩

      case true =>
        have HV1 := hid hv1
        clear hv1
        cases hv2 : withinB T.se (F.nets.map (·.se))
        case false =>
          have HV2 := hid hv2
          clear hv2
          refine lex_wide 17 [(13, pSp (F.nets.map (·.se)))] (by kernel_rfl) (by kernel_rfl) (nStab_cons (pSp_s _) nStab_nil) ?_
          simp only [List.take_succ_cons, List.take_zero, List.drop_succ_cons, List.drop_zero]
          apply lex_fun (rfl : psAt _ _ = none)
          · intro x u hR hf
            clear hR hf
            go_simp
            exact ⟨rfl, Ext.refl _⟩
          simp only [Act.put, List.setIfInBounds_toArray, List.set_cons_succ, List.set_cons_zero]
          apply lex_fun (rfl : psAt _ _ = none)
          · intro x u hR hf
            have cw := cell_of (hR.block HBW.out)
            clear hR hf
            go_simp
            exact ⟨rfl, Ext.refl _⟩
          simp only [Act.put, List.setIfInBounds_toArray, List.set_cons_succ, List.set_cons_zero]
          apply lex_fun (rfl : psAt _ _ = none)
          · intro x u hR hf
            clear hR hf
            go_simp
            exact ⟨rfl, Ext.refl _⟩
          simp only [Act.put, List.setIfInBounds_toArray, List.set_cons_succ, List.set_cons_zero]
          apply lex_fun (rfl : psAt _ _ = none)
          · intro x u hR hf
            have cs := cell_of (hR.block HBS.out)
            clear hR hf
            go_simp
            exact ⟨rfl, Ext.refl _⟩
          simp only [Act.put, List.setIfInBounds_toArray, List.set_cons_succ, List.set_cons_zero]
          apply lex_fun (rfl : psAt _ _ = none)
          · intro x u hR hf
            have c0 := cell_of (hR.block (HX1.out.block HB0.out))
            clear hR hf
            go_simp
            exact ⟨rfl, Ext.refl _⟩
          simp only [Act.put, List.setIfInBounds_toArray, List.set_cons_succ, List.set_cons_zero]
          refine lex_fun (v := .slice (some ⟨eb, eo, none⟩) F.east.length ec) (rfl : psAt _ _ = none) ?_ ?_
          · intro x u hR hf
            have hcal := hid (tide_e (.slice (some ⟨eb, eo, none⟩) F.east.length ec) (.slice (some ⟨nb, no, none⟩) F.north.length nc) (.slice sa F.nets.length sc) F.gap u)
            clear hR hf
            go_simp
            exact hcal.out.mono fun e w'' ⟨he, hx'⟩ => ⟨_, he, rfl, hx'⟩
          simp only [Act.put, List.setIfInBounds_toArray, List.set_cons_succ, List.set_cons_zero]
          refine lex_fun (v := .bool true) (rfl : psAt _ _ = none) ?_ ?_
          · intro x u hR hf
            have hcal := hid ((by have h := areWithin_any T.east F.east _ _ u (HTRU.out u (HXA.out.trans hR)).1 (HTRU.out u (HXA.out.trans hR)).2.1; rw [HV1.out] at h; exact h : Cal 80 _ u _))
            clear hR hf
            go_simp
            exact hcal.out.mono fun e w'' ⟨he, hx'⟩ => ⟨_, he, rfl, hx'⟩
          simp only [Act.put, List.setIfInBounds_toArray, List.set_cons_succ, List.set_cons_zero]
          apply lex_fun (rfl : psAt _ _ = none)
          · intro x u hR hf
            clear hR hf
            go_simp
            exact ⟨rfl, Ext.refl _⟩
          simp only [Act.put, List.setIfInBounds_toArray, List.set_cons_succ, List.set_cons_zero]
          apply lex_fun (rfl : psAt _ _ = none)
          · intro x u hR hf
            clear hR hf
            go_simp
            exact ⟨rfl, Ext.refl _⟩
          simp only [Act.put, List.setIfInBounds_toArray, List.set_cons_succ, List.set_cons_zero]
          apply lex_fun (rfl : psAt _ _ = none)
          · intro x u hR hf
            clear hR hf
            go_simp
            exact ⟨rfl, Ext.refl _⟩
          simp only [Act.put, List.setIfInBounds_toArray, List.set_cons_succ, List.set_cons_zero]
          apply lex_fun (rfl : psAt _ _ = none)
          · intro x u hR hf
            have cw := cell_of (hR.block HBW.out)
            clear hR hf
            go_simp
            exact ⟨rfl, Ext.refl _⟩
          simp only [Act.put, List.setIfInBounds_toArray, List.set_cons_succ, List.set_cons_zero]
          apply lex_fun (rfl : psAt _ _ = none)
          · intro x u hR hf
            have c3 := cell_of (hR.block (HX1.out.block HB3.out))
            clear hR hf
            go_simp
            exact ⟨rfl, Ext.refl _⟩
          simp only [Act.put, List.setIfInBounds_toArray, List.set_cons_succ, List.set_cons_zero]
          apply lex_fun (rfl : psAt _ _ = none)
          · intro x u hR hf
            have cs := cell_of (hR.block HBS.out)
            clear hR hf
            go_simp
            exact ⟨rfl, Ext.refl _⟩
          simp only [Act.put, List.setIfInBounds_toArray, List.set_cons_succ, List.set_cons_zero]
          refine lex_pred (p := pSp (F.nets.map (·.se))) rfl ?_ ?_
          · intro x u hR hf
            have hcal := hid (slips_e F HOK.out (.slice (some ⟨eb, eo, none⟩) F.east.length ec) (.slice (some ⟨nb, no, none⟩) F.north.length nc) (.slice sa F.nets.length sc) ma mc u (HFA.out u (HX1.out.trans hR)))
            clear hR hf
            go_simp
            exact hcal.out.mono fun e w'' ⟨v, he, hx', hs'⟩ => ⟨_, he, hs', hx'⟩
          simp only [Act.put, List.setIfInBounds_toArray, List.set_cons_succ, List.set_cons_zero]
          refine lex_fun (v := .bool false) (rfl : psAt _ _ = none) ?_ ?_
          · intro x u hR hf
            have h13 : SpansAt u (x 13) (F.nets.map (·.se)) := by first | exact hf.1 rfl | exact hf.2.1 rfl
            have hcal := hid ((by have h := areWithin_any T.se (F.nets.map (·.se)) _ _ u (HTRU.out u (HXA.out.trans hR)).2.2 h13; rw [HV2.out] at h; exact h : Cal 80 _ u _))
            clear hR hf
            go_simp
            exact hcal.out.mono fun e w'' ⟨he, hx'⟩ => ⟨_, he, rfl, hx'⟩
          simp only [Act.put, List.setIfInBounds_toArray, List.set_cons_succ, List.set_cons_zero]
          apply lex_fun (rfl : psAt _ _ = none)
          · intro x u hR hf
            clear hR hf
            go_simp
            exact ⟨rfl, Ext.refl _⟩
          simp only [Act.put, List.setIfInBounds_toArray, List.set_cons_succ, List.set_cons_zero]
          apply lex_fun (rfl : psAt _ _ = none)
          · intro x u hR hf
            clear hR hf
            go_simp
            exact ⟨rfl, Ext.refl _⟩
          simp only [Act.put, List.setIfInBounds_toArray, List.set_cons_succ, List.set_cons_zero]
          refine lex_nil fun x w6 hE hfacts => ?_
          clear hfacts
          generalize x 13 = x13
          clear x
          have hbk := hE.block (HX1.out.block HB2.out)
          have HG : Hid (truthB F T = false) := by show truthB F T = false; unfold truthB; rw [HV1.out, HV2.out]; rfl
          gi_wp2_with (refine wpIn_store_new 116 (.tmp 4) (.tmp 48) rfl (fun _ => trivial) (g := w.heap.size + 1 + 1) rfl (cells := #[.slice none 0 0, .slice none 0 0, .int .i64 0, .slice none 0 0, .slice none 0 0, .slice none 0 0, .slice none 0 0, .slice none 0 0, .slice none 0 0]) rfl hbk info116 rfl (by kernel_rfl) ?_; intro w9 hb9 hoth hext)
          have hEx : Ext w w9 := hext w (by omega) (HXA.out.trans hE)
          have hc9 := cell_of hb9
          clear hoth hext
          exact bodyPost_ret (v := .tuple #[.agg #[.slice none 0 0, .slice none 0 0, .int .i64 0, .slice none 0 0, .slice none 0 0, .slice none 0 0, .slice none 0 0, .slice none 0 0, .slice none 0 0], .int .i64 21]) (by simp [results, Try.results54, go_sem, hc9]) rfl ⟨hEx, .inl ⟨HG.out, rfl⟩⟩

        case true =>
          have HV2 := hid hv2
          clear hv2
          refine lex_wide 17 [(13, pSp (F.nets.map (·.se)))] (by kernel_rfl) (by kernel_rfl) (nStab_cons (pSp_s _) nStab_nil) ?_
          simp only [List.take_succ_cons, List.take_zero, List.drop_succ_cons, List.drop_zero]
          apply lex_fun (rfl : psAt _ _ = none)
          · intro x u hR hf
            clear hR hf
            go_simp
            exact ⟨rfl, Ext.refl _⟩
          simp only [Act.put, List.setIfInBounds_toArray, List.set_cons_succ, List.set_cons_zero]
          apply lex_fun (rfl : psAt _ _ = none)
          · intro x u hR hf
            have cw := cell_of (hR.block HBW.out)
            clear hR hf
            go_simp
            exact ⟨rfl, Ext.refl _⟩
          simp only [Act.put, List.setIfInBounds_toArray, List.set_cons_succ, List.set_cons_zero]
          apply lex_fun (rfl : psAt _ _ = none)
          · intro x u hR hf
            clear hR hf
            go_simp
            exact ⟨rfl, Ext.refl _⟩
          simp only [Act.put, List.setIfInBounds_toArray, List.set_cons_succ, List.set_cons_zero]
          apply lex_fun (rfl : psAt _ _ = none)
          · intro x u hR hf
            have cs := cell_of (hR.block HBS.out)
            clear hR hf
            go_simp
            exact ⟨rfl, Ext.refl _⟩
          simp only [Act.put, List.setIfInBounds_toArray, List.set_cons_succ, List.set_cons_zero]
          apply lex_fun (rfl : psAt _ _ = none)
          · intro x u hR hf
            have c0 := cell_of (hR.block (HX1.out.block HB0.out))
            clear hR hf
            go_simp
            exact ⟨rfl, Ext.refl _⟩
          simp only [Act.put, List.setIfInBounds_toArray, List.set_cons_succ, List.set_cons_zero]
          refine lex_fun (v := .slice (some ⟨eb, eo, none⟩) F.east.length ec) (rfl : psAt _ _ = none) ?_ ?_
          · intro x u hR hf
            have hcal := hid (tide_e (.slice (some ⟨eb, eo, none⟩) F.east.length ec) (.slice (some ⟨nb, no, none⟩) F.north.length nc) (.slice sa F.nets.length sc) F.gap u)
            clear hR hf
            go_simp
            exact hcal.out.mono fun e w'' ⟨he, hx'⟩ => ⟨_, he, rfl, hx'⟩
          simp only [Act.put, List.setIfInBounds_toArray, List.set_cons_succ, List.set_cons_zero]
          refine lex_fun (v := .bool true) (rfl : psAt _ _ = none) ?_ ?_
          · intro x u hR hf
            have hcal := hid ((by have h := areWithin_any T.east F.east _ _ u (HTRU.out u (HXA.out.trans hR)).1 (HTRU.out u (HXA.out.trans hR)).2.1; rw [HV1.out] at h; exact h : Cal 80 _ u _))
            clear hR hf
            go_simp
            exact hcal.out.mono fun e w'' ⟨he, hx'⟩ => ⟨_, he, rfl, hx'⟩
          simp only [Act.put, List.setIfInBounds_toArray, List.set_cons_succ, List.set_cons_zero]
          apply lex_fun (rfl : psAt _ _ = none)
          · intro x u hR hf
            clear hR hf
            go_simp
            exact ⟨rfl, Ext.refl _⟩
          simp only [Act.put, List.setIfInBounds_toArray, List.set_cons_succ, List.set_cons_zero]
          apply lex_fun (rfl : psAt _ _ = none)
          · intro x u hR hf
            clear hR hf
            go_simp
            exact ⟨rfl, Ext.refl _⟩
          simp only [Act.put, List.setIfInBounds_toArray, List.set_cons_succ, List.set_cons_zero]
          apply lex_fun (rfl : psAt _ _ = none)
          · intro x u hR hf
            clear hR hf
            go_simp
            exact ⟨rfl, Ext.refl _⟩
          simp only [Act.put, List.setIfInBounds_toArray, List.set_cons_succ, List.set_cons_zero]
          apply lex_fun (rfl : psAt _ _ = none)
          · intro x u hR hf
            have cw := cell_of (hR.block HBW.out)
            clear hR hf
            go_simp
            exact ⟨rfl, Ext.refl _⟩
          simp only [Act.put, List.setIfInBounds_toArray, List.set_cons_succ, List.set_cons_zero]
          apply lex_fun (rfl : psAt _ _ = none)
          · intro x u hR hf
            have c3 := cell_of (hR.block (HX1.out.block HB3.out))
            clear hR hf
            go_simp
            exact ⟨rfl, Ext.refl _⟩
          simp only [Act.put, List.setIfInBounds_toArray, List.set_cons_succ, List.set_cons_zero]
          apply lex_fun (rfl : psAt _ _ = none)
          · intro x u hR hf
            have cs := cell_of (hR.block HBS.out)
            clear hR hf
            go_simp
            exact ⟨rfl, Ext.refl _⟩
          simp only [Act.put, List.setIfInBounds_toArray, List.set_cons_succ, List.set_cons_zero]
          refine lex_pred (p := pSp (F.nets.map (·.se))) rfl ?_ ?_
          · intro x u hR hf
            have hcal := hid (slips_e F HOK.out (.slice (some ⟨eb, eo, none⟩) F.east.length ec) (.slice (some ⟨nb, no, none⟩) F.north.length nc) (.slice sa F.nets.length sc) ma mc u (HFA.out u (HX1.out.trans hR)))
            clear hR hf
            go_simp
            exact hcal.out.mono fun e w'' ⟨v, he, hx', hs'⟩ => ⟨_, he, hs', hx'⟩
          simp only [Act.put, List.setIfInBounds_toArray, List.set_cons_succ, List.set_cons_zero]
          refine lex_fun (v := .bool true) (rfl : psAt _ _ = none) ?_ ?_
          · intro x u hR hf
            have h13 : SpansAt u (x 13) (F.nets.map (·.se)) := by first | exact hf.1 rfl | exact hf.2.1 rfl
            have hcal := hid ((by have h := areWithin_any T.se (F.nets.map (·.se)) _ _ u (HTRU.out u (HXA.out.trans hR)).2.2 h13; rw [HV2.out] at h; exact h : Cal 80 _ u _))
            clear hR hf
            go_simp
            exact hcal.out.mono fun e w'' ⟨he, hx'⟩ => ⟨_, he, rfl, hx'⟩
          simp only [Act.put, List.setIfInBounds_toArray, List.set_cons_succ, List.set_cons_zero]
          apply lex_fun (rfl : psAt _ _ = none)
          · intro x u hR hf
            clear hR hf
            go_simp
            exact ⟨rfl, Ext.refl _⟩
          simp only [Act.put, List.setIfInBounds_toArray, List.set_cons_succ, List.set_cons_zero]
          apply lex_fun (rfl : psAt _ _ = none)
          · intro x u hR hf
            clear hR hf
            go_simp
            exact ⟨rfl, Ext.refl _⟩
          simp only [Act.put, List.setIfInBounds_toArray, List.set_cons_succ, List.set_cons_zero]
          refine lex_nil fun x w6 hE hfacts => ?_
          clear hfacts
          generalize x 13 = x13
          clear x
          gi_wp2
          go_roundw
          case rel => exact ⟨1, by omega, by go_num, HX1.out.trans hE, fun _ => ⟨HV1.out, HV2.out⟩, fun h => absurd h (by omega)⟩
          case measure => simp [intOf]
    · have hix := index_1 (.int .i64 0) (.func (.func 84) #[] #[]) (.func (.func 85) #[] #[]) (.func (.func 86) #[] #[]) (.func (.func 87) #[] #[]) (.int .i64 1) (.func (.func 88) #[] #[]) (.func (.func 89) #[] #[]) (.func (.func 90) #[] #[]) (.func (.func 91) #[] #[]) wr
      have hxs : Ext wr (wr.alloc (.cells #[.int .i64 1, .func (.func 88) #[] #[], .func (.func 89) #[] #[], .func (.func 90) #[] #[], .func (.func 91) #[] #[]] 133)) := (Ext.refl _).alloc _
      have hbs : (wr.alloc (.cells #[.int .i64 1, .func (.func 88) #[] #[], .func (.func 89) #[] #[], .func (.func 90) #[] #[], .func (.func 91) #[] #[]] 133)).heap[wr.heap.size]? = some (.cells #[.int .i64 1, .func (.func 88) #[] #[], .func (.func 89) #[] #[], .func (.func 90) #[] #[], .func (.func 91) #[] #[]] 133 (0, 0)) := Ext.new (Ext.refl _)
      gi_upto_region 8 with fail
      clear hix
      have HBS := hid hbs
      have HX1 := hid (HI.out.1.trans hxs)
      clear hxs hbs
      generalize wr.alloc (.cells #[.int .i64 1, .func (.func 88) #[] #[], .func (.func 89) #[] #[], .func (.func 90) #[] #[], .func (.func 91) #[] #[]] 133) = W3 at *
      generalize wr.heap.size = GS at *
      have hcs := cell_of HBS.out
      have hct := cell_of (HX1.out.block HB4.out)
      gi_upto_region 9 with (gi_at_call 91; ((with_reducible refine (said_n _ _ _ _ _ _ _ _ _ _ _ _ _).mono ?_); rintro e w4 ⟨rfl, hx4⟩))
      have hxw := hx4.alloc (.cells #[.slice tb T.north.length tbc, .slice td T.sn.length tdc] 159)
      have hbw : (w4.alloc (.cells #[.slice tb T.north.length tbc, .slice td T.sn.length tdc] 159)).heap[w4.heap.size]? = some (.cells #[.slice tb T.north.length tbc, .slice td T.sn.length tdc] 159 (0, 0)) := Ext.new (Ext.refl _)
      have HBS := hid (hxw.block HBS.out)
      have HX1 := hid (HX1.out.trans hxw)
      have HBW := hid hbw
      clear hxw hbw hx4 hcs hct
      generalize w4.alloc (.cells #[.slice tb T.north.length tbc, .slice td T.sn.length tdc] 159) = W4 at *
      generalize w4.heap.size = GW at *
      have HXA := hid (HX.out.trans HX1.out)
      have HTRU := hid (fun (u : World) (hu : Ext w u) => And.intro (HTR.out u hu).2.1 (And.intro ((HIN.out u hu).2.1) (HTR.out u hu).2.2.2))
      cases hv1 : withinB T.north F.north
      case false =>
        have HV1 := hid hv1
        clear hv1
        refine lex_wide 17 [] (by kernel_rfl) (by kernel_rfl) (nStab_nil) ?_
        simp only [List.take_succ_cons, List.take_zero, List.drop_succ_cons, List.drop_zero]
        apply lex_fun (rfl : psAt _ _ = none)
        · intro x u hR hf
          clear hR hf
          go_simp
          exact ⟨rfl, Ext.refl _⟩
        simp only [Act.put, List.setIfInBounds_toArray, List.set_cons_succ, List.set_cons_zero]
        apply lex_fun (rfl : psAt _ _ = none)
        · intro x u hR hf
          have cw := cell_of (hR.block HBW.out)
          clear hR hf
          go_simp
          exact ⟨rfl, Ext.refl _⟩
        simp only [Act.put, List.setIfInBounds_toArray, List.set_cons_succ, List.set_cons_zero]
        apply lex_fun (rfl : psAt _ _ = none)
        · intro x u hR hf
          clear hR hf
          go_simp
          exact ⟨rfl, Ext.refl _⟩
        simp only [Act.put, List.setIfInBounds_toArray, List.set_cons_succ, List.set_cons_zero]
        apply lex_fun (rfl : psAt _ _ = none)
        · intro x u hR hf
          have cs := cell_of (hR.block HBS.out)
          clear hR hf
          go_simp
          exact ⟨rfl, Ext.refl _⟩
        simp only [Act.put, List.setIfInBounds_toArray, List.set_cons_succ, List.set_cons_zero]
        apply lex_fun (rfl : psAt _ _ = none)
        · intro x u hR hf
          have c0 := cell_of (hR.block (HX1.out.block HB0.out))
          clear hR hf
          go_simp
          exact ⟨rfl, Ext.refl _⟩
        simp only [Act.put, List.setIfInBounds_toArray, List.set_cons_succ, List.set_cons_zero]
        refine lex_fun (v := .slice (some ⟨nb, no, none⟩) F.north.length nc) (rfl : psAt _ _ = none) ?_ ?_
        · intro x u hR hf
          have hcal := hid (tide_n (.slice (some ⟨eb, eo, none⟩) F.east.length ec) (.slice (some ⟨nb, no, none⟩) F.north.length nc) (.slice sa F.nets.length sc) F.gap u)
          clear hR hf
          go_simp
          exact hcal.out.mono fun e w'' ⟨he, hx'⟩ => ⟨_, he, rfl, hx'⟩
        simp only [Act.put, List.setIfInBounds_toArray, List.set_cons_succ, List.set_cons_zero]
        refine lex_fun (v := .bool false) (rfl : psAt _ _ = none) ?_ ?_
        · intro x u hR hf
          have hcal := hid ((by have h := areWithin_any T.north F.north _ _ u (HTRU.out u (HXA.out.trans hR)).1 (HTRU.out u (HXA.out.trans hR)).2.1; rw [HV1.out] at h; exact h : Cal 80 _ u _))
          clear hR hf
          go_simp
          exact hcal.out.mono fun e w'' ⟨he, hx'⟩ => ⟨_, he, rfl, hx'⟩
        simp only [Act.put, List.setIfInBounds_toArray, List.set_cons_succ, List.set_cons_zero]
        apply lex_fun (rfl : psAt _ _ = none)
        · intro x u hR hf
          clear hR hf
          go_simp
          exact ⟨rfl, Ext.refl _⟩
        simp only [Act.put, List.setIfInBounds_toArray, List.set_cons_succ, List.set_cons_zero]
        apply lex_fun (rfl : psAt _ _ = none)
        · intro x u hR hf
          clear hR hf
          go_simp
          exact ⟨rfl, Ext.refl _⟩
        simp only [Act.put, List.setIfInBounds_toArray, List.set_cons_succ, List.set_cons_zero]
        refine lex_fun (v := undef) (rfl : psAt _ _ = none) ?_ ?_
        · intro x u hR hf
          clear hR hf
          first | (go_simp; done) | (go_simp; rfl)
        simp only [Act.put, List.setIfInBounds_toArray, List.set_cons_succ, List.set_cons_zero]
        refine lex_fun (v := undef) (rfl : psAt _ _ = none) ?_ ?_
        · intro x u hR hf
          clear hR hf
          first | (go_simp; done) | (go_simp; rfl)
        simp only [Act.put, List.setIfInBounds_toArray, List.set_cons_succ, List.set_cons_zero]
        refine lex_fun (v := undef) (rfl : psAt _ _ = none) ?_ ?_
        · intro x u hR hf
          clear hR hf
          first | (go_simp; done) | (go_simp; rfl)
        simp only [Act.put, List.setIfInBounds_toArray, List.set_cons_succ, List.set_cons_zero]
        refine lex_fun (v := undef) (rfl : psAt _ _ = none) ?_ ?_
        · intro x u hR hf
          clear hR hf
          first | (go_simp; done) | (go_simp; rfl)
        simp only [Act.put, List.setIfInBounds_toArray, List.set_cons_succ, List.set_cons_zero]
        refine lex_fun (v := undef) (rfl : psAt _ _ = none) ?_ ?_
        · intro x u hR hf
          clear hR hf
          first | (go_simp; done) | (go_simp; rfl)
        simp only [Act.put, List.setIfInBounds_toArray, List.set_cons_succ, List.set_cons_zero]
        refine lex_fun (v := undef) (rfl : psAt _ _ = none) ?_ ?_
        · intro x u hR hf
          clear hR hf
          first | (go_simp; done) | (go_simp; rfl)
        simp only [Act.put, List.setIfInBounds_toArray, List.set_cons_succ, List.set_cons_zero]
        refine lex_fun (v := undef) (rfl : psAt _ _ = none) ?_ ?_
        · intro x u hR hf
          clear hR hf
          first | (go_simp; done) | (go_simp; rfl)
        simp only [Act.put, List.setIfInBounds_toArray, List.set_cons_succ, List.set_cons_zero]
        apply lex_fun (rfl : psAt _ _ = none)
        · intro x u hR hf
          clear hR hf
          go_simp
          exact ⟨rfl, Ext.refl _⟩
        simp only [Act.put, List.setIfInBounds_toArray, List.set_cons_succ, List.set_cons_zero]
        refine lex_nil fun x w6 hE hfacts => ?_
        clear hfacts
        clear x
        have hbk := hE.block (HX1.out.block HB2.out)
        have HG : Hid (truthB F T = false) := by show truthB F T = false; unfold truthB; rw [(HI.out.2.1 (by omega)).1, (HI.out.2.1 (by omega)).2, HV1.out]; rfl
        gi_wp2_with (refine wpIn_store_new 116 (.tmp 4) (.tmp 48) rfl (fun _ => trivial) (g := w.heap.size + 1 + 1) rfl (cells := #[.slice none 0 0, .slice none 0 0, .int .i64 0, .slice none 0 0, .slice none 0 0, .slice none 0 0, .slice none 0 0, .slice none 0 0, .slice none 0 0]) rfl hbk info116 rfl (by kernel_rfl) ?_; intro w9 hb9 hoth hext)
        have hEx : Ext w w9 := hext w (by omega) (HXA.out.trans hE)
        have hc9 := cell_of hb9
        clear hoth hext
        exact bodyPost_ret (v := .tuple #[.agg #[.slice none 0 0, .slice none 0 0, .int .i64 0, .slice none 0 0, .slice none 0 0, .slice none 0 0, .slice none 0 0, .slice none 0 0, .slice none 0 0], .int .i64 21]) (by simp [results, Try.results54, go_sem, hc9]) rfl ⟨hEx, .inl ⟨HG.out, rfl⟩⟩

      case true =>
        have HV1 := hid hv1
        clear hv1
        cases hv2 : withinB T.sn (F.nets.map (·.sn))
        case false =>
          have HV2 := hid hv2
          clear hv2
          refine lex_wide 17 [(13, pSp (F.nets.map (·.sn)))] (by kernel_rfl) (by kernel_rfl) (nStab_cons (pSp_s _) nStab_nil) ?_
          simp only [List.take_succ_cons, List.take_zero, List.drop_succ_cons, List.drop_zero]
          apply lex_fun (rfl : psAt _ _ = none)
          · intro x u hR hf
            clear hR hf
            go_simp
            exact ⟨rfl, Ext.refl _⟩
          simp only [Act.put, List.setIfInBounds_toArray, List.set_cons_succ, List.set_cons_zero]
          apply lex_fun (rfl : psAt _ _ = none)
          · intro x u hR hf
            have cw := cell_of (hR.block HBW.out)
            clear hR hf
            go_simp
            exact ⟨rfl, Ext.refl _⟩
          simp only [Act.put, List.setIfInBounds_toArray, List.set_cons_succ, List.set_cons_zero]
          apply lex_fun (rfl : psAt _ _ = none)
          · intro x u hR hf
            clear hR hf
            go_simp
            exact ⟨rfl, Ext.refl _⟩
          simp only [Act.put, List.setIfInBounds_toArray, List.set_cons_succ, List.set_cons_zero]
          apply lex_fun (rfl : psAt _ _ = none)
          · intro x u hR hf
            have cs := cell_of (hR.block HBS.out)
            clear hR hf
            go_simp
            exact ⟨rfl, Ext.refl _⟩
          simp only [Act.put, List.setIfInBounds_toArray, List.set_cons_succ, List.set_cons_zero]
          apply lex_fun (rfl : psAt _ _ = none)
          · intro x u hR hf
            have c0 := cell_of (hR.block (HX1.out.block HB0.out))
            clear hR hf
            go_simp
            exact ⟨rfl, Ext.refl _⟩
          simp only [Act.put, List.setIfInBounds_toArray, List.set_cons_succ, List.set_cons_zero]
          refine lex_fun (v := .slice (some ⟨nb, no, none⟩) F.north.length nc) (rfl : psAt _ _ = none) ?_ ?_
          · intro x u hR hf
            have hcal := hid (tide_n (.slice (some ⟨eb, eo, none⟩) F.east.length ec) (.slice (some ⟨nb, no, none⟩) F.north.length nc) (.slice sa F.nets.length sc) F.gap u)
            clear hR hf
            go_simp
            exact hcal.out.mono fun e w'' ⟨he, hx'⟩ => ⟨_, he, rfl, hx'⟩
          simp only [Act.put, List.setIfInBounds_toArray, List.set_cons_succ, List.set_cons_zero]
          refine lex_fun (v := .bool true) (rfl : psAt _ _ = none) ?_ ?_
          · intro x u hR hf
            have hcal := hid ((by have h := areWithin_any T.north F.north _ _ u (HTRU.out u (HXA.out.trans hR)).1 (HTRU.out u (HXA.out.trans hR)).2.1; rw [HV1.out] at h; exact h : Cal 80 _ u _))
            clear hR hf
            go_simp
            exact hcal.out.mono fun e w'' ⟨he, hx'⟩ => ⟨_, he, rfl, hx'⟩
          simp only [Act.put, List.setIfInBounds_toArray, List.set_cons_succ, List.set_cons_zero]
          apply lex_fun (rfl : psAt _ _ = none)
          · intro x u hR hf
            clear hR hf
            go_simp
            exact ⟨rfl, Ext.refl _⟩
          simp only [Act.put, List.setIfInBounds_toArray, List.set_cons_succ, List.set_cons_zero]
          apply lex_fun (rfl : psAt _ _ = none)
          · intro x u hR hf
            clear hR hf
            go_simp
            exact ⟨rfl, Ext.refl _⟩
          simp only [Act.put, List.setIfInBounds_toArray, List.set_cons_succ, List.set_cons_zero]
          apply lex_fun (rfl : psAt _ _ = none)
          · intro x u hR hf
            clear hR hf
            go_simp
            exact ⟨rfl, Ext.refl _⟩
          simp only [Act.put, List.setIfInBounds_toArray, List.set_cons_succ, List.set_cons_zero]
          apply lex_fun (rfl : psAt _ _ = none)
          · intro x u hR hf
            have cw := cell_of (hR.block HBW.out)
            clear hR hf
            go_simp
            exact ⟨rfl, Ext.refl _⟩
          simp only [Act.put, List.setIfInBounds_toArray, List.set_cons_succ, List.set_cons_zero]
          apply lex_fun (rfl : psAt _ _ = none)
          · intro x u hR hf
            have c3 := cell_of (hR.block (HX1.out.block HB3.out))
            clear hR hf
            go_simp
            exact ⟨rfl, Ext.refl _⟩
          simp only [Act.put, List.setIfInBounds_toArray, List.set_cons_succ, List.set_cons_zero]
          apply lex_fun (rfl : psAt _ _ = none)
          · intro x u hR hf
            have cs := cell_of (hR.block HBS.out)
            clear hR hf
            go_simp
            exact ⟨rfl, Ext.refl _⟩
          simp only [Act.put, List.setIfInBounds_toArray, List.set_cons_succ, List.set_cons_zero]
          refine lex_pred (p := pSp (F.nets.map (·.sn))) rfl ?_ ?_
          · intro x u hR hf
            have hcal := hid (slips_n F HOK.out (.slice (some ⟨eb, eo, none⟩) F.east.length ec) (.slice (some ⟨nb, no, none⟩) F.north.length nc) (.slice sa F.nets.length sc) ma mc u (HFA.out u (HX1.out.trans hR)))
            clear hR hf
            go_simp
            exact hcal.out.mono fun e w'' ⟨v, he, hx', hs'⟩ => ⟨_, he, hs', hx'⟩
          simp only [Act.put, List.setIfInBounds_toArray, List.set_cons_succ, List.set_cons_zero]
          refine lex_fun (v := .bool false) (rfl : psAt _ _ = none) ?_ ?_
          · intro x u hR hf
            have h13 : SpansAt u (x 13) (F.nets.map (·.sn)) := by first | exact hf.1 rfl | exact hf.2.1 rfl
            have hcal := hid ((by have h := areWithin_any T.sn (F.nets.map (·.sn)) _ _ u (HTRU.out u (HXA.out.trans hR)).2.2 h13; rw [HV2.out] at h; exact h : Cal 80 _ u _))
            clear hR hf
            go_simp
            exact hcal.out.mono fun e w'' ⟨he, hx'⟩ => ⟨_, he, rfl, hx'⟩
          simp only [Act.put, List.setIfInBounds_toArray, List.set_cons_succ, List.set_cons_zero]
          apply lex_fun (rfl : psAt _ _ = none)
          · intro x u hR hf
            clear hR hf
            go_simp
            exact ⟨rfl, Ext.refl _⟩
          simp only [Act.put, List.setIfInBounds_toArray, List.set_cons_succ, List.set_cons_zero]
          apply lex_fun (rfl : psAt _ _ = none)
          · intro x u hR hf
            clear hR hf
            go_simp
            exact ⟨rfl, Ext.refl _⟩
          simp only [Act.put, List.setIfInBounds_toArray, List.set_cons_succ, List.set_cons_zero]
          refine lex_nil fun x w6 hE hfacts => ?_
          clear hfacts
          generalize x 13 = x13
          clear x
          have hbk := hE.block (HX1.out.block HB2.out)
          have HG : Hid (truthB F T = false) := by show truthB F T = false; unfold truthB; rw [(HI.out.2.1 (by omega)).1, (HI.out.2.1 (by omega)).2, HV1.out, HV2.out]; rfl
          gi_wp2_with (refine wpIn_store_new 116 (.tmp 4) (.tmp 48) rfl (fun _ => trivial) (g := w.heap.size + 1 + 1) rfl (cells := #[.slice none 0 0, .slice none 0 0, .int .i64 0, .slice none 0 0, .slice none 0 0, .slice none 0 0, .slice none 0 0, .slice none 0 0, .slice none 0 0]) rfl hbk info116 rfl (by kernel_rfl) ?_; intro w9 hb9 hoth hext)
          have hEx : Ext w w9 := hext w (by omega) (HXA.out.trans hE)
          have hc9 := cell_of hb9
          clear hoth hext
          exact bodyPost_ret (v := .tuple #[.agg #[.slice none 0 0, .slice none 0 0, .int .i64 0, .slice none 0 0, .slice none 0 0, .slice none 0 0, .slice none 0 0, .slice none 0 0, .slice none 0 0], .int .i64 21]) (by simp [results, Try.results54, go_sem, hc9]) rfl ⟨hEx, .inl ⟨HG.out, rfl⟩⟩

        case true =>
          have HV2 := hid hv2
          clear hv2
          refine lex_wide 17 [(13, pSp (F.nets.map (·.sn)))] (by kernel_rfl) (by kernel_rfl) (nStab_cons (pSp_s _) nStab_nil) ?_
          simp only [List.take_succ_cons, List.take_zero, List.drop_succ_cons, List.drop_zero]
          apply lex_fun (rfl : psAt _ _ = none)
          · intro x u hR hf
            clear hR hf
            go_simp
            exact ⟨rfl, Ext.refl _⟩
          simp only [Act.put, List.setIfInBounds_toArray, List.set_cons_succ, List.set_cons_zero]
          apply lex_fun (rfl : psAt _ _ = none)
          · intro x u hR hf
            have cw := cell_of (hR.block HBW.out)
            clear hR hf
            go_simp
            exact ⟨rfl, Ext.refl _⟩
          simp only [Act.put, List.setIfInBounds_toArray, List.set_cons_succ, List.set_cons_zero]
          apply lex_fun (rfl : psAt _ _ = none)
          · intro x u hR hf
            clear hR hf
            go_simp
            exact ⟨rfl, Ext.refl _⟩
          simp only [Act.put, List.setIfInBounds_toArray, List.set_cons_succ, List.set_cons_zero]
          apply lex_fun (rfl : psAt _ _ = none)
          · intro x u hR hf
            have cs := cell_of (hR.block HBS.out)
            clear hR hf
            go_simp
            exact ⟨rfl, Ext.refl _⟩
          simp only [Act.put, List.setIfInBounds_toArray, List.set_cons_succ, List.set_cons_zero]
          apply lex_fun (rfl : psAt _ _ = none)
          · intro x u hR hf
            have c0 := cell_of (hR.block (HX1.out.block HB0.out))
            clear hR hf
            go_simp
            exact ⟨rfl, Ext.refl _⟩
          simp only [Act.put, List.setIfInBounds_toArray, List.set_cons_succ, List.set_cons_zero]
          refine lex_fun (v := .slice (some ⟨nb, no, none⟩) F.north.length nc) (rfl : psAt _ _ = none) ?_ ?_
          · intro x u hR hf
            have hcal := hid (tide_n (.slice (some ⟨eb, eo, none⟩) F.east.length ec) (.slice (some ⟨nb, no, none⟩) F.north.length nc) (.slice sa F.nets.length sc) F.gap u)
            clear hR hf
            go_simp
            exact hcal.out.mono fun e w'' ⟨he, hx'⟩ => ⟨_, he, rfl, hx'⟩
          simp only [Act.put, List.setIfInBounds_toArray, List.set_cons_succ, List.set_cons_zero]
          refine lex_fun (v := .bool true) (rfl : psAt _ _ = none) ?_ ?_
          · intro x u hR hf
            have hcal := hid ((by have h := areWithin_any T.north F.north _ _ u (HTRU.out u (HXA.out.trans hR)).1 (HTRU.out u (HXA.out.trans hR)).2.1; rw [HV1.out] at h; exact h : Cal 80 _ u _))
            clear hR hf
            go_simp
            exact hcal.out.mono fun e w'' ⟨he, hx'⟩ => ⟨_, he, rfl, hx'⟩
          simp only [Act.put, List.setIfInBounds_toArray, List.set_cons_succ, List.set_cons_zero]
          apply lex_fun (rfl : psAt _ _ = none)
          · intro x u hR hf
            clear hR hf
            go_simp
            exact ⟨rfl, Ext.refl _⟩
          simp only [Act.put, List.setIfInBounds_toArray, List.set_cons_succ, List.set_cons_zero]
          apply lex_fun (rfl : psAt _ _ = none)
          · intro x u hR hf
            clear hR hf
            go_simp
            exact ⟨rfl, Ext.refl _⟩
          simp only [Act.put, List.setIfInBounds_toArray, List.set_cons_succ, List.set_cons_zero]
          apply lex_fun (rfl : psAt _ _ = none)
          · intro x u hR hf
            clear hR hf
            go_simp
            exact ⟨rfl, Ext.refl _⟩
          simp only [Act.put, List.setIfInBounds_toArray, List.set_cons_succ, List.set_cons_zero]
          apply lex_fun (rfl : psAt _ _ = none)
          · intro x u hR hf
            have cw := cell_of (hR.block HBW.out)
            clear hR hf
            go_simp
            exact ⟨rfl, Ext.refl _⟩
          simp only [Act.put, List.setIfInBounds_toArray, List.set_cons_succ, List.set_cons_zero]
          apply lex_fun (rfl : psAt _ _ = none)
          · intro x u hR hf
            have c3 := cell_of (hR.block (HX1.out.block HB3.out))
            clear hR hf
            go_simp
            exact ⟨rfl, Ext.refl _⟩
          simp only [Act.put, List.setIfInBounds_toArray, List.set_cons_succ, List.set_cons_zero]
          apply lex_fun (rfl : psAt _ _ = none)
          · intro x u hR hf
            have cs := cell_of (hR.block HBS.out)
            clear hR hf
            go_simp
            exact ⟨rfl, Ext.refl _⟩
          simp only [Act.put, List.setIfInBounds_toArray, List.set_cons_succ, List.set_cons_zero]
          refine lex_pred (p := pSp (F.nets.map (·.sn))) rfl ?_ ?_
          · intro x u hR hf
            have hcal := hid (slips_n F HOK.out (.slice (some ⟨eb, eo, none⟩) F.east.length ec) (.slice (some ⟨nb, no, none⟩) F.north.length nc) (.slice sa F.nets.length sc) ma mc u (HFA.out u (HX1.out.trans hR)))
            clear hR hf
            go_simp
            exact hcal.out.mono fun e w'' ⟨v, he, hx', hs'⟩ => ⟨_, he, hs', hx'⟩
          simp only [Act.put, List.setIfInBounds_toArray, List.set_cons_succ, List.set_cons_zero]
          refine lex_fun (v := .bool true) (rfl : psAt _ _ = none) ?_ ?_
          · intro x u hR hf
            have h13 : SpansAt u (x 13) (F.nets.map (·.sn)) := by first | exact hf.1 rfl | exact hf.2.1 rfl
            have hcal := hid ((by have h := areWithin_any T.sn (F.nets.map (·.sn)) _ _ u (HTRU.out u (HXA.out.trans hR)).2.2 h13; rw [HV2.out] at h; exact h : Cal 80 _ u _))
            clear hR hf
            go_simp
            exact hcal.out.mono fun e w'' ⟨he, hx'⟩ => ⟨_, he, rfl, hx'⟩
          simp only [Act.put, List.setIfInBounds_toArray, List.set_cons_succ, List.set_cons_zero]
          apply lex_fun (rfl : psAt _ _ = none)
          · intro x u hR hf
            clear hR hf
            go_simp
            exact ⟨rfl, Ext.refl _⟩
          simp only [Act.put, List.setIfInBounds_toArray, List.set_cons_succ, List.set_cons_zero]
          apply lex_fun (rfl : psAt _ _ = none)
          · intro x u hR hf
            clear hR hf
            go_simp
            exact ⟨rfl, Ext.refl _⟩
          simp only [Act.put, List.setIfInBounds_toArray, List.set_cons_succ, List.set_cons_zero]
          refine lex_nil fun x w6 hE hfacts => ?_
          clear hfacts
          generalize x 13 = x13
          clear x
          gi_wp2
          go_roundw
          case rel => exact ⟨2, by omega, by go_num, HX1.out.trans hE, fun _ => HI.out.2.1 (by omega), fun _ => ⟨HV1.out, HV2.out⟩⟩
          case measure => simp [intOf]
    · have HG : Hid (truthB F T = true) := by show truthB F T = true; unfold truthB; rw [(HI.out.2.1 (by omega)).1, (HI.out.2.1 (by omega)).2, (HI.out.2.2 (by omega)).1, (HI.out.2.2 (by omega)).2]; rfl
      have hc3 := cell_of (HI.out.1.block HB3.out)
      have hc4 := cell_of (HI.out.1.block HB4.out)
      have hbk := HI.out.1.block HB2.out
      gi_wp2_with (refine wpIn_store_new 116 (.tmp 4) (.tmp 52) rfl (fun _ => trivial) (g := w.heap.size + 1 + 1) rfl (cells := #[.slice (some ⟨eb, eo, none⟩) F.east.length ec, .slice (some ⟨nb, no, none⟩) F.north.length nc, .int .i64 F.gap, .slice sa F.nets.length sc, .slice ma F.nets.length mc, .slice ta T.east.length tac, .slice tb T.north.length tbc, .slice tc T.se.length tcc, .slice td T.sn.length tdc]) rfl hbk info116 rfl (by kernel_rfl) ?_; intro w9 hb9 hoth hext)
      have hEx : Ext w w9 := hext w (by omega) (HX.out.trans HI.out.1)
      have hc9 := cell_of hb9
      refine bodyPost_ret (v := .tuple #[.agg #[.slice (some ⟨eb, eo, none⟩) F.east.length ec, .slice (some ⟨nb, no, none⟩) F.north.length nc, .int .i64 F.gap, .slice sa F.nets.length sc, .slice ma F.nets.length mc, .slice ta T.east.length tac, .slice tb T.north.length tbc, .slice tc T.se.length tcc, .slice td T.sn.length tdc], .int .i64 0]) (by simp [results, Try.results54, go_sem, hc9]) rfl ⟨hEx, .inr ⟨HG.out, _, rfl, ?_⟩⟩
      have hr9 : Row w9 125 11 (.slice ma F.nets.length mc) F.nets.length (netTo F.nets F.nets.length) := (HROW.out.1.mono HI.out.1).kept fun k o hk ho => by
        have := HROW.out.2 k hk
        have := HWS.out
        rw [hoth k (by omega)]; exact ho
      exact ⟨eb, eo, ec, nb, no, nc, sa, sc, ma, mc, ta, tac, tb, tbc, tc, tcc, td, tdc, rfl, ⟨(HIN.out _ hEx).1, (HIN.out _ hEx).2.1, NetsAt.of_row hr9 (by have := HOK.out.count; omega)⟩, (HTR.out _ hEx).1, (HTR.out _ hEx).2.1, (HTR.out _ hEx).2.2.1, (HTR.out _ hEx).2.2.2⟩

end Go.Proofs.Ytmjelgonhpgmbaa
