/- The reference: is it a truth? -/
import Derived.Test.YtmjelgonhpgmbaaGreatSB
import Derived.Test.YtmjelgonhpgmbaaGreatSE
import Derived.Test.YtmjelgonhpgmbaaGreatMI
set_option linter.unusedSimpArgs false
set_option linter.unusedVariables false
namespace Go.Proofs.YtmjelgonhpgmbaaGreat
open Go Go.RowKit Go.Shelf

theorem tr_assoc (F : FleetD) (T : TruthD) : truthB F T = (withinB T.east F.east && (withinB T.north F.north && (withinB T.se (F.nets.map (·.se)) && withinB T.sn (F.nets.map (·.sn))))) := by
  unfold truthB
  generalize withinB T.east F.east = a
  generalize withinB T.se (F.nets.map (·.se)) = b
  generalize withinB T.north F.north = c
  cases a <;> cases b <;> cases c <;> rfl
set_option maxRecDepth 100000 in
set_option maxHeartbeats 8000000 in
theorem isTruth_z (F : FleetD) (hcount : F.nets.length ≤ 1000) (T : TruthD) (ev nv sv tv1 tv2 tv3 tv4 : Value) (w : World) (he : SpansAt w ev F.east) (hn : SpansAt w nv F.north) (hs : ShotsAt w sv F.nets) (h1 : IntsAt w tv1 T.east) (h2 : IntsAt w tv2 T.north) (h3 : IntsAt w tv3 T.se) (h4 : IntsAt w tv4 T.sn) : Cal 24 #[.agg #[ev, nv, .int .i64 F.gap, sv], .agg #[tv1, tv2, tv3, tv4]] w fun e w' => e = .returned (.bool (truthB F T)) ∧ Ext w w' := by
  have HW1 := hid (fun (u : World) (hu : Ext w u) => within_any T.east F.east _ _ u (h1.mono hu) (he.mono hu))
  have HW2 := hid (fun (u : World) (hu : Ext w u) => within_any T.north F.north _ _ u (h2.mono hu) (hn.mono hu))
  have HW3 := hid (fun (v : Value) (u : World) (hu : Ext w u) (hv : SpansAt u v (F.nets.map (·.se))) => within_any T.se _ _ v u (h3.mono hu) hv)
  have HW4 := hid (fun (v : Value) (u : World) (hu : Ext w u) (hv : SpansAt u v (F.nets.map (·.sn))) => within_any T.sn _ _ v u (h4.mono hu) hv)
  have HS1 := hid (fun (u : World) (hu : Ext w u) => slips_zse F hcount ev nv sv u (he.mono hu) (hn.mono hu) (hs.mono hu))
  have HS2 := hid (fun (u : World) (hu : Ext w u) => slips_zsn F hcount ev nv sv u (he.mono hu) (hn.mono hu) (hs.mono hu))
  obtain ⟨ea, ec, rfl, ⟨hec, hel⟩, _⟩ := he
  obtain ⟨na, nc, rfl, ⟨hnc, hnl⟩, _⟩ := hn
  obtain ⟨sa, sc, rfl, ⟨hsc, hsl⟩, hcs⟩ := hs
  obtain ⟨ta, tac, rfl, ht1, hd1⟩ := h1
  obtain ⟨tb, tbc, rfl, ht2, hd2⟩ := h2
  obtain ⟨tc, tcc, rfl, ht3, hd3⟩ := h3
  obtain ⟨td, tdc, rfl, ht4, hd4⟩ := h4
  clear hcs hd1 hd2 hd3 hd4
  gi_enter Tryz.func24, Tryz.ntmps24
  gi_upto_region 1 with fail
  have hW : Ext w ((w.alloc (.cells #[.slice ea F.east.length ec, .slice na F.north.length nc, .int .i64 F.gap, .slice sa F.nets.length sc] 25)).alloc (.cells #[.slice ta T.east.length tac, .slice tb T.north.length tbc, .slice tc T.se.length tcc, .slice td T.sn.length tdc] 28)) := ((Ext.refl _).alloc _).alloc _
  have hB0 : ((w.alloc (.cells #[.slice ea F.east.length ec, .slice na F.north.length nc, .int .i64 F.gap, .slice sa F.nets.length sc] 25)).alloc (.cells #[.slice ta T.east.length tac, .slice tb T.north.length tbc, .slice tc T.se.length tcc, .slice td T.sn.length tdc] 28)).heap[w.heap.size]? = some (.cells #[.slice ea F.east.length ec, .slice na F.north.length nc, .int .i64 F.gap, .slice sa F.nets.length sc] 25 (0, 0)) := two_new
  have hB1 : ((w.alloc (.cells #[.slice ea F.east.length ec, .slice na F.north.length nc, .int .i64 F.gap, .slice sa F.nets.length sc] 25)).alloc (.cells #[.slice ta T.east.length tac, .slice tb T.north.length tbc, .slice tc T.se.length tcc, .slice td T.sn.length tdc] 28)).heap[w.heap.size + 1]? = some (.cells #[.slice ta T.east.length tac, .slice tb T.north.length tbc, .slice tc T.se.length tcc, .slice td T.sn.length tdc] 28 (0, 0)) := by have := Ext.new (w := (w.alloc (.cells #[.slice ea F.east.length ec, .slice na F.north.length nc, .int .i64 F.gap, .slice sa F.nets.length sc] 25))) (o := .cells #[.slice ta T.east.length tac, .slice tb T.north.length tbc, .slice tc T.se.length tcc, .slice td T.sn.length tdc] 28) (Ext.refl _); rwa [World.size_alloc] at this
  generalize ((w.alloc (.cells #[.slice ea F.east.length ec, .slice na F.north.length nc, .int .i64 F.gap, .slice sa F.nets.length sc] 25)).alloc (.cells #[.slice ta T.east.length tac, .slice tb T.north.length tbc, .slice tc T.se.length tcc, .slice td T.sn.length tdc] 28)) = W at *
  have HX := hid hW
  have HB0 := hid hB0
  have HB1 := hid hB1
  have c0 := cell_of hB0
  have c1 := cell_of hB1
  clear hW hB0 hB1
  clear c0 c1
  have HC := hid (fun (u : World) (hu : Ext W u) => And.intro (HX.out.trans hu) (And.intro (cell_of (hu.block HB0.out)) (cell_of (hu.block HB1.out))))
  cases q1 : withinB T.east F.east
  case false =>
    rw [q1] at HW1
    have HG : Hid (truthB F T = false) := by show _ = _; rw [tr_assoc]; simp only [q1, Bool.false_and, Bool.and_false, Bool.true_and]
    refine lex_wide 26 [] (by kernel_rfl) (by kernel_rfl) (nStab_nil) ?_
    simp only [List.take_succ_cons, List.take_zero, List.drop_succ_cons, List.drop_zero]
    apply lex_fun (rfl : psAt _ _ = none)
    · intro x u hR hf
      have c0 := (HC.out u hR).2.1; have c1 := (HC.out u hR).2.2
      clear hR hf
      go_simp
      first | exact ⟨rfl, Ext.refl _⟩ | rfl
    simp only [Act.put, List.setIfInBounds_toArray, List.set_cons_succ, List.set_cons_zero]
    apply lex_fun (rfl : psAt _ _ = none)
    · intro x u hR hf
      have c0 := (HC.out u hR).2.1; have c1 := (HC.out u hR).2.2
      clear hR hf
      go_simp
      first | exact ⟨rfl, Ext.refl _⟩ | rfl
    simp only [Act.put, List.setIfInBounds_toArray, List.set_cons_succ, List.set_cons_zero]
    apply lex_fun (rfl : psAt _ _ = none)
    · intro x u hR hf
      have c0 := (HC.out u hR).2.1; have c1 := (HC.out u hR).2.2
      clear hR hf
      go_simp
      first | exact ⟨rfl, Ext.refl _⟩ | rfl
    simp only [Act.put, List.setIfInBounds_toArray, List.set_cons_succ, List.set_cons_zero]
    apply lex_fun (rfl : psAt _ _ = none)
    · intro x u hR hf
      have c0 := (HC.out u hR).2.1; have c1 := (HC.out u hR).2.2
      clear hR hf
      go_simp
      first | exact ⟨rfl, Ext.refl _⟩ | rfl
    simp only [Act.put, List.setIfInBounds_toArray, List.set_cons_succ, List.set_cons_zero]
    apply lex_fun (rfl : psAt _ _ = none)
    · intro x u hR hf
      have hcal := hid (HW1.out u (HC.out u hR).1)
      clear hR hf
      go_simp
      exact hcal.out.mono fun e w'' ⟨he, hx'⟩ => ⟨_, he, rfl, hx'⟩
    simp only [Act.put, List.setIfInBounds_toArray, List.set_cons_succ, List.set_cons_zero]
    apply lex_fun (rfl : psAt _ _ = none)
    · intro x u hR hf
      clear hR hf
      go_simp
      first | exact ⟨rfl, Ext.refl _⟩ | rfl
    simp only [Act.put, List.setIfInBounds_toArray, List.set_cons_succ, List.set_cons_zero]
    apply lex_fun (rfl : psAt _ _ = none)
    · intro x u hR hf
      have c0 := (HC.out u hR).2.1; have c1 := (HC.out u hR).2.2
      clear hR hf
      go_simp
      first | exact ⟨rfl, Ext.refl _⟩ | rfl
    simp only [Act.put, List.setIfInBounds_toArray, List.set_cons_succ, List.set_cons_zero]
    apply lex_fun (rfl : psAt _ _ = none)
    · intro x u hR hf
      have c0 := (HC.out u hR).2.1; have c1 := (HC.out u hR).2.2
      clear hR hf
      go_simp
      first | exact ⟨rfl, Ext.refl _⟩ | rfl
    simp only [Act.put, List.setIfInBounds_toArray, List.set_cons_succ, List.set_cons_zero]
    apply lex_fun (rfl : psAt _ _ = none)
    · intro x u hR hf
      have c0 := (HC.out u hR).2.1; have c1 := (HC.out u hR).2.2
      clear hR hf
      go_simp
      first | exact ⟨rfl, Ext.refl _⟩ | rfl
    simp only [Act.put, List.setIfInBounds_toArray, List.set_cons_succ, List.set_cons_zero]
    apply lex_fun (rfl : psAt _ _ = none)
    · intro x u hR hf
      have c0 := (HC.out u hR).2.1; have c1 := (HC.out u hR).2.2
      clear hR hf
      go_simp
      first | exact ⟨rfl, Ext.refl _⟩ | rfl
    simp only [Act.put, List.setIfInBounds_toArray, List.set_cons_succ, List.set_cons_zero]
    apply lex_fun (rfl : psAt _ _ = none)
    · intro x u hR hf
      clear hR hf
      go_simp
      first | exact ⟨rfl, Ext.refl _⟩ | rfl
    simp only [Act.put, List.setIfInBounds_toArray, List.set_cons_succ, List.set_cons_zero]
    apply lex_fun (rfl : psAt _ _ = none)
    · intro x u hR hf
      clear hR hf
      go_simp
      first | exact ⟨rfl, Ext.refl _⟩ | rfl
    simp only [Act.put, List.setIfInBounds_toArray, List.set_cons_succ, List.set_cons_zero]
    apply lex_fun (rfl : psAt _ _ = none)
    · intro x u hR hf
      clear hR hf
      go_simp
      first | exact ⟨rfl, Ext.refl _⟩ | rfl
    simp only [Act.put, List.setIfInBounds_toArray, List.set_cons_succ, List.set_cons_zero]
    apply lex_fun (rfl : psAt _ _ = none)
    · intro x u hR hf
      have c0 := (HC.out u hR).2.1; have c1 := (HC.out u hR).2.2
      clear hR hf
      go_simp
      first | exact ⟨rfl, Ext.refl _⟩ | rfl
    simp only [Act.put, List.setIfInBounds_toArray, List.set_cons_succ, List.set_cons_zero]
    apply lex_fun (rfl : psAt _ _ = none)
    · intro x u hR hf
      have c0 := (HC.out u hR).2.1; have c1 := (HC.out u hR).2.2
      clear hR hf
      go_simp
      first | exact ⟨rfl, Ext.refl _⟩ | rfl
    simp only [Act.put, List.setIfInBounds_toArray, List.set_cons_succ, List.set_cons_zero]
    apply lex_fun (rfl : psAt _ _ = none)
    · intro x u hR hf
      have c0 := (HC.out u hR).2.1; have c1 := (HC.out u hR).2.2
      clear hR hf
      go_simp
      first | exact ⟨rfl, Ext.refl _⟩ | rfl
    simp only [Act.put, List.setIfInBounds_toArray, List.set_cons_succ, List.set_cons_zero]
    apply lex_fun (rfl : psAt _ _ = none)
    · intro x u hR hf
      clear hR hf
      go_simp
      first | exact ⟨rfl, Ext.refl _⟩ | rfl
    simp only [Act.put, List.setIfInBounds_toArray, List.set_cons_succ, List.set_cons_zero]
    apply lex_fun (rfl : psAt _ _ = none)
    · intro x u hR hf
      clear hR hf
      go_simp
      first | exact ⟨rfl, Ext.refl _⟩ | rfl
    simp only [Act.put, List.setIfInBounds_toArray, List.set_cons_succ, List.set_cons_zero]
    apply lex_fun (rfl : psAt _ _ = none)
    · intro x u hR hf
      clear hR hf
      go_simp
      first | exact ⟨rfl, Ext.refl _⟩ | rfl
    simp only [Act.put, List.setIfInBounds_toArray, List.set_cons_succ, List.set_cons_zero]
    apply lex_fun (rfl : psAt _ _ = none)
    · intro x u hR hf
      clear hR hf
      go_simp
      first | exact ⟨rfl, Ext.refl _⟩ | rfl
    simp only [Act.put, List.setIfInBounds_toArray, List.set_cons_succ, List.set_cons_zero]
    apply lex_fun (rfl : psAt _ _ = none)
    · intro x u hR hf
      have c0 := (HC.out u hR).2.1; have c1 := (HC.out u hR).2.2
      clear hR hf
      go_simp
      first | exact ⟨rfl, Ext.refl _⟩ | rfl
    simp only [Act.put, List.setIfInBounds_toArray, List.set_cons_succ, List.set_cons_zero]
    apply lex_fun (rfl : psAt _ _ = none)
    · intro x u hR hf
      have c0 := (HC.out u hR).2.1; have c1 := (HC.out u hR).2.2
      clear hR hf
      go_simp
      first | exact ⟨rfl, Ext.refl _⟩ | rfl
    simp only [Act.put, List.setIfInBounds_toArray, List.set_cons_succ, List.set_cons_zero]
    apply lex_fun (rfl : psAt _ _ = none)
    · intro x u hR hf
      have c0 := (HC.out u hR).2.1; have c1 := (HC.out u hR).2.2
      clear hR hf
      go_simp
      first | exact ⟨rfl, Ext.refl _⟩ | rfl
    simp only [Act.put, List.setIfInBounds_toArray, List.set_cons_succ, List.set_cons_zero]
    apply lex_fun (rfl : psAt _ _ = none)
    · intro x u hR hf
      clear hR hf
      go_simp
      first | exact ⟨rfl, Ext.refl _⟩ | rfl
    simp only [Act.put, List.setIfInBounds_toArray, List.set_cons_succ, List.set_cons_zero]
    apply lex_fun (rfl : psAt _ _ = none)
    · intro x u hR hf
      clear hR hf
      go_simp
      first | exact ⟨rfl, Ext.refl _⟩ | rfl
    simp only [Act.put, List.setIfInBounds_toArray, List.set_cons_succ, List.set_cons_zero]
    apply lex_fun (rfl : psAt _ _ = none)
    · intro x u hR hf
      clear hR hf
      go_simp
      first | exact ⟨rfl, Ext.refl _⟩ | rfl
    simp only [Act.put, List.setIfInBounds_toArray, List.set_cons_succ, List.set_cons_zero]
    apply lex_nil
    intro x w5 hE hf
    have hx5 : Ext W w5 := hE
    clear hE hf
    gi_wp2_with fail
    go_ret
    exact ⟨by rw [HG.out]; first | done | rfl, HX.out.trans hx5⟩
  case true =>
  rw [q1] at HW1
  cases q2 : withinB T.north F.north
  case false =>
    rw [q2] at HW2
    have HG : Hid (truthB F T = false) := by show _ = _; rw [tr_assoc]; simp only [q1, q2, Bool.false_and, Bool.and_false, Bool.true_and]
    refine lex_wide 26 [] (by kernel_rfl) (by kernel_rfl) (nStab_nil) ?_
    simp only [List.take_succ_cons, List.take_zero, List.drop_succ_cons, List.drop_zero]
    apply lex_fun (rfl : psAt _ _ = none)
    · intro x u hR hf
      have c0 := (HC.out u hR).2.1; have c1 := (HC.out u hR).2.2
      clear hR hf
      go_simp
      first | exact ⟨rfl, Ext.refl _⟩ | rfl
    simp only [Act.put, List.setIfInBounds_toArray, List.set_cons_succ, List.set_cons_zero]
    apply lex_fun (rfl : psAt _ _ = none)
    · intro x u hR hf
      have c0 := (HC.out u hR).2.1; have c1 := (HC.out u hR).2.2
      clear hR hf
      go_simp
      first | exact ⟨rfl, Ext.refl _⟩ | rfl
    simp only [Act.put, List.setIfInBounds_toArray, List.set_cons_succ, List.set_cons_zero]
    apply lex_fun (rfl : psAt _ _ = none)
    · intro x u hR hf
      have c0 := (HC.out u hR).2.1; have c1 := (HC.out u hR).2.2
      clear hR hf
      go_simp
      first | exact ⟨rfl, Ext.refl _⟩ | rfl
    simp only [Act.put, List.setIfInBounds_toArray, List.set_cons_succ, List.set_cons_zero]
    apply lex_fun (rfl : psAt _ _ = none)
    · intro x u hR hf
      have c0 := (HC.out u hR).2.1; have c1 := (HC.out u hR).2.2
      clear hR hf
      go_simp
      first | exact ⟨rfl, Ext.refl _⟩ | rfl
    simp only [Act.put, List.setIfInBounds_toArray, List.set_cons_succ, List.set_cons_zero]
    apply lex_fun (rfl : psAt _ _ = none)
    · intro x u hR hf
      have hcal := hid (HW1.out u (HC.out u hR).1)
      clear hR hf
      go_simp
      exact hcal.out.mono fun e w'' ⟨he, hx'⟩ => ⟨_, he, rfl, hx'⟩
    simp only [Act.put, List.setIfInBounds_toArray, List.set_cons_succ, List.set_cons_zero]
    apply lex_fun (rfl : psAt _ _ = none)
    · intro x u hR hf
      clear hR hf
      go_simp
      first | exact ⟨rfl, Ext.refl _⟩ | rfl
    simp only [Act.put, List.setIfInBounds_toArray, List.set_cons_succ, List.set_cons_zero]
    apply lex_fun (rfl : psAt _ _ = none)
    · intro x u hR hf
      have c0 := (HC.out u hR).2.1; have c1 := (HC.out u hR).2.2
      clear hR hf
      go_simp
      first | exact ⟨rfl, Ext.refl _⟩ | rfl
    simp only [Act.put, List.setIfInBounds_toArray, List.set_cons_succ, List.set_cons_zero]
    apply lex_fun (rfl : psAt _ _ = none)
    · intro x u hR hf
      have c0 := (HC.out u hR).2.1; have c1 := (HC.out u hR).2.2
      clear hR hf
      go_simp
      first | exact ⟨rfl, Ext.refl _⟩ | rfl
    simp only [Act.put, List.setIfInBounds_toArray, List.set_cons_succ, List.set_cons_zero]
    apply lex_fun (rfl : psAt _ _ = none)
    · intro x u hR hf
      have c0 := (HC.out u hR).2.1; have c1 := (HC.out u hR).2.2
      clear hR hf
      go_simp
      first | exact ⟨rfl, Ext.refl _⟩ | rfl
    simp only [Act.put, List.setIfInBounds_toArray, List.set_cons_succ, List.set_cons_zero]
    apply lex_fun (rfl : psAt _ _ = none)
    · intro x u hR hf
      have c0 := (HC.out u hR).2.1; have c1 := (HC.out u hR).2.2
      clear hR hf
      go_simp
      first | exact ⟨rfl, Ext.refl _⟩ | rfl
    simp only [Act.put, List.setIfInBounds_toArray, List.set_cons_succ, List.set_cons_zero]
    apply lex_fun (rfl : psAt _ _ = none)
    · intro x u hR hf
      have hcal := hid (HW2.out u (HC.out u hR).1)
      clear hR hf
      go_simp
      exact hcal.out.mono fun e w'' ⟨he, hx'⟩ => ⟨_, he, rfl, hx'⟩
    simp only [Act.put, List.setIfInBounds_toArray, List.set_cons_succ, List.set_cons_zero]
    apply lex_fun (rfl : psAt _ _ = none)
    · intro x u hR hf
      clear hR hf
      go_simp
      first | exact ⟨rfl, Ext.refl _⟩ | rfl
    simp only [Act.put, List.setIfInBounds_toArray, List.set_cons_succ, List.set_cons_zero]
    apply lex_fun (rfl : psAt _ _ = none)
    · intro x u hR hf
      clear hR hf
      go_simp
      first | exact ⟨rfl, Ext.refl _⟩ | rfl
    simp only [Act.put, List.setIfInBounds_toArray, List.set_cons_succ, List.set_cons_zero]
    apply lex_fun (rfl : psAt _ _ = none)
    · intro x u hR hf
      have c0 := (HC.out u hR).2.1; have c1 := (HC.out u hR).2.2
      clear hR hf
      go_simp
      first | exact ⟨rfl, Ext.refl _⟩ | rfl
    simp only [Act.put, List.setIfInBounds_toArray, List.set_cons_succ, List.set_cons_zero]
    apply lex_fun (rfl : psAt _ _ = none)
    · intro x u hR hf
      have c0 := (HC.out u hR).2.1; have c1 := (HC.out u hR).2.2
      clear hR hf
      go_simp
      first | exact ⟨rfl, Ext.refl _⟩ | rfl
    simp only [Act.put, List.setIfInBounds_toArray, List.set_cons_succ, List.set_cons_zero]
    apply lex_fun (rfl : psAt _ _ = none)
    · intro x u hR hf
      have c0 := (HC.out u hR).2.1; have c1 := (HC.out u hR).2.2
      clear hR hf
      go_simp
      first | exact ⟨rfl, Ext.refl _⟩ | rfl
    simp only [Act.put, List.setIfInBounds_toArray, List.set_cons_succ, List.set_cons_zero]
    apply lex_fun (rfl : psAt _ _ = none)
    · intro x u hR hf
      clear hR hf
      go_simp
      first | exact ⟨rfl, Ext.refl _⟩ | rfl
    simp only [Act.put, List.setIfInBounds_toArray, List.set_cons_succ, List.set_cons_zero]
    apply lex_fun (rfl : psAt _ _ = none)
    · intro x u hR hf
      clear hR hf
      go_simp
      first | exact ⟨rfl, Ext.refl _⟩ | rfl
    simp only [Act.put, List.setIfInBounds_toArray, List.set_cons_succ, List.set_cons_zero]
    apply lex_fun (rfl : psAt _ _ = none)
    · intro x u hR hf
      clear hR hf
      go_simp
      first | exact ⟨rfl, Ext.refl _⟩ | rfl
    simp only [Act.put, List.setIfInBounds_toArray, List.set_cons_succ, List.set_cons_zero]
    apply lex_fun (rfl : psAt _ _ = none)
    · intro x u hR hf
      clear hR hf
      go_simp
      first | exact ⟨rfl, Ext.refl _⟩ | rfl
    simp only [Act.put, List.setIfInBounds_toArray, List.set_cons_succ, List.set_cons_zero]
    apply lex_fun (rfl : psAt _ _ = none)
    · intro x u hR hf
      have c0 := (HC.out u hR).2.1; have c1 := (HC.out u hR).2.2
      clear hR hf
      go_simp
      first | exact ⟨rfl, Ext.refl _⟩ | rfl
    simp only [Act.put, List.setIfInBounds_toArray, List.set_cons_succ, List.set_cons_zero]
    apply lex_fun (rfl : psAt _ _ = none)
    · intro x u hR hf
      have c0 := (HC.out u hR).2.1; have c1 := (HC.out u hR).2.2
      clear hR hf
      go_simp
      first | exact ⟨rfl, Ext.refl _⟩ | rfl
    simp only [Act.put, List.setIfInBounds_toArray, List.set_cons_succ, List.set_cons_zero]
    apply lex_fun (rfl : psAt _ _ = none)
    · intro x u hR hf
      have c0 := (HC.out u hR).2.1; have c1 := (HC.out u hR).2.2
      clear hR hf
      go_simp
      first | exact ⟨rfl, Ext.refl _⟩ | rfl
    simp only [Act.put, List.setIfInBounds_toArray, List.set_cons_succ, List.set_cons_zero]
    apply lex_fun (rfl : psAt _ _ = none)
    · intro x u hR hf
      clear hR hf
      go_simp
      first | exact ⟨rfl, Ext.refl _⟩ | rfl
    simp only [Act.put, List.setIfInBounds_toArray, List.set_cons_succ, List.set_cons_zero]
    apply lex_fun (rfl : psAt _ _ = none)
    · intro x u hR hf
      clear hR hf
      go_simp
      first | exact ⟨rfl, Ext.refl _⟩ | rfl
    simp only [Act.put, List.setIfInBounds_toArray, List.set_cons_succ, List.set_cons_zero]
    apply lex_fun (rfl : psAt _ _ = none)
    · intro x u hR hf
      clear hR hf
      go_simp
      first | exact ⟨rfl, Ext.refl _⟩ | rfl
    simp only [Act.put, List.setIfInBounds_toArray, List.set_cons_succ, List.set_cons_zero]
    apply lex_nil
    intro x w5 hE hf
    have hx5 : Ext W w5 := hE
    clear hE hf
    gi_wp2_with fail
    go_ret
    exact ⟨by rw [HG.out]; first | done | rfl, HX.out.trans hx5⟩
  case true =>
  rw [q2] at HW2
  cases q3 : withinB T.se (F.nets.map (·.se))
  case false =>
    rw [q3] at HW3
    have HG : Hid (truthB F T = false) := by show _ = _; rw [tr_assoc]; simp only [q1, q2, q3, Bool.false_and, Bool.and_false, Bool.true_and]
    refine lex_wide 26 [(16, pSp (F.nets.map (·.se)))] (by kernel_rfl) (by kernel_rfl) (nStab_cons (pSp_s _) nStab_nil) ?_
    simp only [List.take_succ_cons, List.take_zero, List.drop_succ_cons, List.drop_zero]
    apply lex_fun (rfl : psAt _ _ = none)
    · intro x u hR hf
      have c0 := (HC.out u hR).2.1; have c1 := (HC.out u hR).2.2
      clear hR hf
      go_simp
      first | exact ⟨rfl, Ext.refl _⟩ | rfl
    simp only [Act.put, List.setIfInBounds_toArray, List.set_cons_succ, List.set_cons_zero]
    apply lex_fun (rfl : psAt _ _ = none)
    · intro x u hR hf
      have c0 := (HC.out u hR).2.1; have c1 := (HC.out u hR).2.2
      clear hR hf
      go_simp
      first | exact ⟨rfl, Ext.refl _⟩ | rfl
    simp only [Act.put, List.setIfInBounds_toArray, List.set_cons_succ, List.set_cons_zero]
    apply lex_fun (rfl : psAt _ _ = none)
    · intro x u hR hf
      have c0 := (HC.out u hR).2.1; have c1 := (HC.out u hR).2.2
      clear hR hf
      go_simp
      first | exact ⟨rfl, Ext.refl _⟩ | rfl
    simp only [Act.put, List.setIfInBounds_toArray, List.set_cons_succ, List.set_cons_zero]
    apply lex_fun (rfl : psAt _ _ = none)
    · intro x u hR hf
      have c0 := (HC.out u hR).2.1; have c1 := (HC.out u hR).2.2
      clear hR hf
      go_simp
      first | exact ⟨rfl, Ext.refl _⟩ | rfl
    simp only [Act.put, List.setIfInBounds_toArray, List.set_cons_succ, List.set_cons_zero]
    apply lex_fun (rfl : psAt _ _ = none)
    · intro x u hR hf
      have hcal := hid (HW1.out u (HC.out u hR).1)
      clear hR hf
      go_simp
      exact hcal.out.mono fun e w'' ⟨he, hx'⟩ => ⟨_, he, rfl, hx'⟩
    simp only [Act.put, List.setIfInBounds_toArray, List.set_cons_succ, List.set_cons_zero]
    apply lex_fun (rfl : psAt _ _ = none)
    · intro x u hR hf
      clear hR hf
      go_simp
      first | exact ⟨rfl, Ext.refl _⟩ | rfl
    simp only [Act.put, List.setIfInBounds_toArray, List.set_cons_succ, List.set_cons_zero]
    apply lex_fun (rfl : psAt _ _ = none)
    · intro x u hR hf
      have c0 := (HC.out u hR).2.1; have c1 := (HC.out u hR).2.2
      clear hR hf
      go_simp
      first | exact ⟨rfl, Ext.refl _⟩ | rfl
    simp only [Act.put, List.setIfInBounds_toArray, List.set_cons_succ, List.set_cons_zero]
    apply lex_fun (rfl : psAt _ _ = none)
    · intro x u hR hf
      have c0 := (HC.out u hR).2.1; have c1 := (HC.out u hR).2.2
      clear hR hf
      go_simp
      first | exact ⟨rfl, Ext.refl _⟩ | rfl
    simp only [Act.put, List.setIfInBounds_toArray, List.set_cons_succ, List.set_cons_zero]
    apply lex_fun (rfl : psAt _ _ = none)
    · intro x u hR hf
      have c0 := (HC.out u hR).2.1; have c1 := (HC.out u hR).2.2
      clear hR hf
      go_simp
      first | exact ⟨rfl, Ext.refl _⟩ | rfl
    simp only [Act.put, List.setIfInBounds_toArray, List.set_cons_succ, List.set_cons_zero]
    apply lex_fun (rfl : psAt _ _ = none)
    · intro x u hR hf
      have c0 := (HC.out u hR).2.1; have c1 := (HC.out u hR).2.2
      clear hR hf
      go_simp
      first | exact ⟨rfl, Ext.refl _⟩ | rfl
    simp only [Act.put, List.setIfInBounds_toArray, List.set_cons_succ, List.set_cons_zero]
    apply lex_fun (rfl : psAt _ _ = none)
    · intro x u hR hf
      have hcal := hid (HW2.out u (HC.out u hR).1)
      clear hR hf
      go_simp
      exact hcal.out.mono fun e w'' ⟨he, hx'⟩ => ⟨_, he, rfl, hx'⟩
    simp only [Act.put, List.setIfInBounds_toArray, List.set_cons_succ, List.set_cons_zero]
    apply lex_fun (rfl : psAt _ _ = none)
    · intro x u hR hf
      clear hR hf
      go_simp
      first | exact ⟨rfl, Ext.refl _⟩ | rfl
    simp only [Act.put, List.setIfInBounds_toArray, List.set_cons_succ, List.set_cons_zero]
    apply lex_fun (rfl : psAt _ _ = none)
    · intro x u hR hf
      clear hR hf
      go_simp
      first | exact ⟨rfl, Ext.refl _⟩ | rfl
    simp only [Act.put, List.setIfInBounds_toArray, List.set_cons_succ, List.set_cons_zero]
    apply lex_fun (rfl : psAt _ _ = none)
    · intro x u hR hf
      have c0 := (HC.out u hR).2.1; have c1 := (HC.out u hR).2.2
      clear hR hf
      go_simp
      first | exact ⟨rfl, Ext.refl _⟩ | rfl
    simp only [Act.put, List.setIfInBounds_toArray, List.set_cons_succ, List.set_cons_zero]
    apply lex_fun (rfl : psAt _ _ = none)
    · intro x u hR hf
      have c0 := (HC.out u hR).2.1; have c1 := (HC.out u hR).2.2
      clear hR hf
      go_simp
      first | exact ⟨rfl, Ext.refl _⟩ | rfl
    simp only [Act.put, List.setIfInBounds_toArray, List.set_cons_succ, List.set_cons_zero]
    apply lex_fun (rfl : psAt _ _ = none)
    · intro x u hR hf
      have c0 := (HC.out u hR).2.1; have c1 := (HC.out u hR).2.2
      clear hR hf
      go_simp
      first | exact ⟨rfl, Ext.refl _⟩ | rfl
    simp only [Act.put, List.setIfInBounds_toArray, List.set_cons_succ, List.set_cons_zero]
    refine lex_pred (p := pSp (F.nets.map (·.se))) rfl ?_ ?_
    · intro x u hR hf
      have hcal := hid (HS1.out u (HC.out u hR).1)
      clear hR hf
      go_simp
      exact hcal.out.mono fun e w'' ⟨v, he, hx', hs'⟩ => ⟨v, he, hs', hx'⟩
    simp only [Act.put, List.setIfInBounds_toArray, List.set_cons_succ, List.set_cons_zero]
    apply lex_fun (rfl : psAt _ _ = none)
    · intro x u hR hf
      have hcal := hid (HW3.out (x 16) u (HC.out u hR).1 (by first | exact hf.1 rfl | exact hf.2.1 rfl | exact hf.2.2.1 rfl))
      clear hR hf
      go_simp
      exact hcal.out.mono fun e w'' ⟨he, hx'⟩ => ⟨_, he, rfl, hx'⟩
    simp only [Act.put, List.setIfInBounds_toArray, List.set_cons_succ, List.set_cons_zero]
    apply lex_fun (rfl : psAt _ _ = none)
    · intro x u hR hf
      clear hR hf
      go_simp
      first | exact ⟨rfl, Ext.refl _⟩ | rfl
    simp only [Act.put, List.setIfInBounds_toArray, List.set_cons_succ, List.set_cons_zero]
    apply lex_fun (rfl : psAt _ _ = none)
    · intro x u hR hf
      clear hR hf
      go_simp
      first | exact ⟨rfl, Ext.refl _⟩ | rfl
    simp only [Act.put, List.setIfInBounds_toArray, List.set_cons_succ, List.set_cons_zero]
    apply lex_fun (rfl : psAt _ _ = none)
    · intro x u hR hf
      have c0 := (HC.out u hR).2.1; have c1 := (HC.out u hR).2.2
      clear hR hf
      go_simp
      first | exact ⟨rfl, Ext.refl _⟩ | rfl
    simp only [Act.put, List.setIfInBounds_toArray, List.set_cons_succ, List.set_cons_zero]
    apply lex_fun (rfl : psAt _ _ = none)
    · intro x u hR hf
      have c0 := (HC.out u hR).2.1; have c1 := (HC.out u hR).2.2
      clear hR hf
      go_simp
      first | exact ⟨rfl, Ext.refl _⟩ | rfl
    simp only [Act.put, List.setIfInBounds_toArray, List.set_cons_succ, List.set_cons_zero]
    apply lex_fun (rfl : psAt _ _ = none)
    · intro x u hR hf
      have c0 := (HC.out u hR).2.1; have c1 := (HC.out u hR).2.2
      clear hR hf
      go_simp
      first | exact ⟨rfl, Ext.refl _⟩ | rfl
    simp only [Act.put, List.setIfInBounds_toArray, List.set_cons_succ, List.set_cons_zero]
    apply lex_fun (rfl : psAt _ _ = none)
    · intro x u hR hf
      clear hR hf
      go_simp
      first | exact ⟨rfl, Ext.refl _⟩ | rfl
    simp only [Act.put, List.setIfInBounds_toArray, List.set_cons_succ, List.set_cons_zero]
    apply lex_fun (rfl : psAt _ _ = none)
    · intro x u hR hf
      clear hR hf
      go_simp
      first | exact ⟨rfl, Ext.refl _⟩ | rfl
    simp only [Act.put, List.setIfInBounds_toArray, List.set_cons_succ, List.set_cons_zero]
    apply lex_fun (rfl : psAt _ _ = none)
    · intro x u hR hf
      clear hR hf
      go_simp
      first | exact ⟨rfl, Ext.refl _⟩ | rfl
    simp only [Act.put, List.setIfInBounds_toArray, List.set_cons_succ, List.set_cons_zero]
    apply lex_nil
    intro x w5 hE hf
    have hx5 : Ext W w5 := hE
    clear hE hf
    gi_wp2_with fail
    go_ret
    exact ⟨by rw [HG.out]; first | done | rfl, HX.out.trans hx5⟩
  case true =>
  rw [q3] at HW3
  have HG : Hid (truthB F T = withinB T.sn (F.nets.map (·.sn))) := by show _ = _; rw [tr_assoc]; simp only [q1, q2, q3, Bool.false_and, Bool.and_false, Bool.true_and]
  generalize withinB T.sn (F.nets.map (·.sn)) = r at *
  refine lex_wide 26 [(16, pSp (F.nets.map (·.se))), (23, pSp (F.nets.map (·.sn)))] (by kernel_rfl) (by kernel_rfl) (nStab_cons (pSp_s _) (nStab_cons (pSp_s _) nStab_nil)) ?_
  simp only [List.take_succ_cons, List.take_zero, List.drop_succ_cons, List.drop_zero]
  apply lex_fun (rfl : psAt _ _ = none)
  · intro x u hR hf
    have c0 := (HC.out u hR).2.1; have c1 := (HC.out u hR).2.2
    clear hR hf
    go_simp
    first | exact ⟨rfl, Ext.refl _⟩ | rfl
  simp only [Act.put, List.setIfInBounds_toArray, List.set_cons_succ, List.set_cons_zero]
  apply lex_fun (rfl : psAt _ _ = none)
  · intro x u hR hf
    have c0 := (HC.out u hR).2.1; have c1 := (HC.out u hR).2.2
    clear hR hf
    go_simp
    first | exact ⟨rfl, Ext.refl _⟩ | rfl
  simp only [Act.put, List.setIfInBounds_toArray, List.set_cons_succ, List.set_cons_zero]
  apply lex_fun (rfl : psAt _ _ = none)
  · intro x u hR hf
    have c0 := (HC.out u hR).2.1; have c1 := (HC.out u hR).2.2
    clear hR hf
    go_simp
    first | exact ⟨rfl, Ext.refl _⟩ | rfl
  simp only [Act.put, List.setIfInBounds_toArray, List.set_cons_succ, List.set_cons_zero]
  apply lex_fun (rfl : psAt _ _ = none)
  · intro x u hR hf
    have c0 := (HC.out u hR).2.1; have c1 := (HC.out u hR).2.2
    clear hR hf
    go_simp
    first | exact ⟨rfl, Ext.refl _⟩ | rfl
  simp only [Act.put, List.setIfInBounds_toArray, List.set_cons_succ, List.set_cons_zero]
  apply lex_fun (rfl : psAt _ _ = none)
  · intro x u hR hf
    have hcal := hid (HW1.out u (HC.out u hR).1)
    clear hR hf
    go_simp
    exact hcal.out.mono fun e w'' ⟨he, hx'⟩ => ⟨_, he, rfl, hx'⟩
  simp only [Act.put, List.setIfInBounds_toArray, List.set_cons_succ, List.set_cons_zero]
  apply lex_fun (rfl : psAt _ _ = none)
  · intro x u hR hf
    clear hR hf
    go_simp
    first | exact ⟨rfl, Ext.refl _⟩ | rfl
  simp only [Act.put, List.setIfInBounds_toArray, List.set_cons_succ, List.set_cons_zero]
  apply lex_fun (rfl : psAt _ _ = none)
  · intro x u hR hf
    have c0 := (HC.out u hR).2.1; have c1 := (HC.out u hR).2.2
    clear hR hf
    go_simp
    first | exact ⟨rfl, Ext.refl _⟩ | rfl
  simp only [Act.put, List.setIfInBounds_toArray, List.set_cons_succ, List.set_cons_zero]
  apply lex_fun (rfl : psAt _ _ = none)
  · intro x u hR hf
    have c0 := (HC.out u hR).2.1; have c1 := (HC.out u hR).2.2
    clear hR hf
    go_simp
    first | exact ⟨rfl, Ext.refl _⟩ | rfl
  simp only [Act.put, List.setIfInBounds_toArray, List.set_cons_succ, List.set_cons_zero]
  apply lex_fun (rfl : psAt _ _ = none)
  · intro x u hR hf
    have c0 := (HC.out u hR).2.1; have c1 := (HC.out u hR).2.2
    clear hR hf
    go_simp
    first | exact ⟨rfl, Ext.refl _⟩ | rfl
  simp only [Act.put, List.setIfInBounds_toArray, List.set_cons_succ, List.set_cons_zero]
  apply lex_fun (rfl : psAt _ _ = none)
  · intro x u hR hf
    have c0 := (HC.out u hR).2.1; have c1 := (HC.out u hR).2.2
    clear hR hf
    go_simp
    first | exact ⟨rfl, Ext.refl _⟩ | rfl
  simp only [Act.put, List.setIfInBounds_toArray, List.set_cons_succ, List.set_cons_zero]
  apply lex_fun (rfl : psAt _ _ = none)
  · intro x u hR hf
    have hcal := hid (HW2.out u (HC.out u hR).1)
    clear hR hf
    go_simp
    exact hcal.out.mono fun e w'' ⟨he, hx'⟩ => ⟨_, he, rfl, hx'⟩
  simp only [Act.put, List.setIfInBounds_toArray, List.set_cons_succ, List.set_cons_zero]
  apply lex_fun (rfl : psAt _ _ = none)
  · intro x u hR hf
    clear hR hf
    go_simp
    first | exact ⟨rfl, Ext.refl _⟩ | rfl
  simp only [Act.put, List.setIfInBounds_toArray, List.set_cons_succ, List.set_cons_zero]
  apply lex_fun (rfl : psAt _ _ = none)
  · intro x u hR hf
    clear hR hf
    go_simp
    first | exact ⟨rfl, Ext.refl _⟩ | rfl
  simp only [Act.put, List.setIfInBounds_toArray, List.set_cons_succ, List.set_cons_zero]
  apply lex_fun (rfl : psAt _ _ = none)
  · intro x u hR hf
    have c0 := (HC.out u hR).2.1; have c1 := (HC.out u hR).2.2
    clear hR hf
    go_simp
    first | exact ⟨rfl, Ext.refl _⟩ | rfl
  simp only [Act.put, List.setIfInBounds_toArray, List.set_cons_succ, List.set_cons_zero]
  apply lex_fun (rfl : psAt _ _ = none)
  · intro x u hR hf
    have c0 := (HC.out u hR).2.1; have c1 := (HC.out u hR).2.2
    clear hR hf
    go_simp
    first | exact ⟨rfl, Ext.refl _⟩ | rfl
  simp only [Act.put, List.setIfInBounds_toArray, List.set_cons_succ, List.set_cons_zero]
  apply lex_fun (rfl : psAt _ _ = none)
  · intro x u hR hf
    have c0 := (HC.out u hR).2.1; have c1 := (HC.out u hR).2.2
    clear hR hf
    go_simp
    first | exact ⟨rfl, Ext.refl _⟩ | rfl
  simp only [Act.put, List.setIfInBounds_toArray, List.set_cons_succ, List.set_cons_zero]
  refine lex_pred (p := pSp (F.nets.map (·.se))) rfl ?_ ?_
  · intro x u hR hf
    have hcal := hid (HS1.out u (HC.out u hR).1)
    clear hR hf
    go_simp
    exact hcal.out.mono fun e w'' ⟨v, he, hx', hs'⟩ => ⟨v, he, hs', hx'⟩
  simp only [Act.put, List.setIfInBounds_toArray, List.set_cons_succ, List.set_cons_zero]
  apply lex_fun (rfl : psAt _ _ = none)
  · intro x u hR hf
    have hcal := hid (HW3.out (x 16) u (HC.out u hR).1 (by first | exact hf.1 rfl | exact hf.2.1 rfl | exact hf.2.2.1 rfl))
    clear hR hf
    go_simp
    exact hcal.out.mono fun e w'' ⟨he, hx'⟩ => ⟨_, he, rfl, hx'⟩
  simp only [Act.put, List.setIfInBounds_toArray, List.set_cons_succ, List.set_cons_zero]
  apply lex_fun (rfl : psAt _ _ = none)
  · intro x u hR hf
    clear hR hf
    go_simp
    first | exact ⟨rfl, Ext.refl _⟩ | rfl
  simp only [Act.put, List.setIfInBounds_toArray, List.set_cons_succ, List.set_cons_zero]
  apply lex_fun (rfl : psAt _ _ = none)
  · intro x u hR hf
    clear hR hf
    go_simp
    first | exact ⟨rfl, Ext.refl _⟩ | rfl
  simp only [Act.put, List.setIfInBounds_toArray, List.set_cons_succ, List.set_cons_zero]
  apply lex_fun (rfl : psAt _ _ = none)
  · intro x u hR hf
    have c0 := (HC.out u hR).2.1; have c1 := (HC.out u hR).2.2
    clear hR hf
    go_simp
    first | exact ⟨rfl, Ext.refl _⟩ | rfl
  simp only [Act.put, List.setIfInBounds_toArray, List.set_cons_succ, List.set_cons_zero]
  apply lex_fun (rfl : psAt _ _ = none)
  · intro x u hR hf
    have c0 := (HC.out u hR).2.1; have c1 := (HC.out u hR).2.2
    clear hR hf
    go_simp
    first | exact ⟨rfl, Ext.refl _⟩ | rfl
  simp only [Act.put, List.setIfInBounds_toArray, List.set_cons_succ, List.set_cons_zero]
  apply lex_fun (rfl : psAt _ _ = none)
  · intro x u hR hf
    have c0 := (HC.out u hR).2.1; have c1 := (HC.out u hR).2.2
    clear hR hf
    go_simp
    first | exact ⟨rfl, Ext.refl _⟩ | rfl
  simp only [Act.put, List.setIfInBounds_toArray, List.set_cons_succ, List.set_cons_zero]
  refine lex_pred (p := pSp (F.nets.map (·.sn))) rfl ?_ ?_
  · intro x u hR hf
    have hcal := hid (HS2.out u (HC.out u hR).1)
    clear hR hf
    go_simp
    exact hcal.out.mono fun e w'' ⟨v, he, hx', hs'⟩ => ⟨v, he, hs', hx'⟩
  simp only [Act.put, List.setIfInBounds_toArray, List.set_cons_succ, List.set_cons_zero]
  apply lex_fun (rfl : psAt _ _ = none)
  · intro x u hR hf
    have hcal := hid (HW4.out (x 23) u (HC.out u hR).1 (by first | exact hf.1 rfl | exact hf.2.1 rfl | exact hf.2.2.1 rfl))
    clear hR hf
    go_simp
    exact hcal.out.mono fun e w'' ⟨he, hx'⟩ => ⟨_, he, rfl, hx'⟩
  simp only [Act.put, List.setIfInBounds_toArray, List.set_cons_succ, List.set_cons_zero]
  apply lex_fun (rfl : psAt _ _ = none)
  · intro x u hR hf
    clear hR hf
    go_simp
    first | exact ⟨rfl, Ext.refl _⟩ | rfl
  simp only [Act.put, List.setIfInBounds_toArray, List.set_cons_succ, List.set_cons_zero]
  apply lex_nil
  intro x w5 hE hf
  have hx5 : Ext W w5 := hE
  clear hE hf
  gi_wp2_with fail
  go_ret
  exact ⟨by rw [HG.out]; first | done | rfl, HX.out.trans hx5⟩

end Go.Proofs.YtmjelgonhpgmbaaGreat
