/- The law SharePenny. -/
import Derived.Test.YtjocoadhalimjaaGreatRBS
import Derived.Test.YtjocoadhalimjaaGreatRBT
import Derived.Test.YtjocoadhalimjaaGreatRBL
import Derived.Test.YtjocoadhalimjaaGreatRBJ
import Derived.Test.YtjocoadhalimjaaGreatRBI
import Derived.Test.YtjocoadhalimjaaGreatRBG
set_option linter.unusedSimpArgs false
set_option linter.unusedVariables false
namespace Go.Proofs.YtjocoadhalimjaaGreat
open Go Go.RowKit Go.Shelf
set_option maxRecDepth 100000 in
set_option maxHeartbeats 32000000 in
theorem SharePenny_any (V : Voy) (s : VS) (w : World) (h : VoyAt w V s) : Cal 8 #[.agg (voyA V s)] w fun e w' => e = .returned (.bool true) ∧ Ext w w' := by
  have HWK := hid (fun (u : World) => works_any u)
  have HX0 : Hid (Ext w (w.alloc (.cells (voyA V s) 32))) := hid ((Ext.refl _).alloc _)
  have HB0 : Hid ((w.alloc (.cells (voyA V s) 32)).heap[w.heap.size]? = some (.cells (voyA V s) 32 (0, 0))) := hid (Ext.new (Ext.refl _))
  by_cases hE : voyE V = 0
  · have hok := (voyE_ok hE).1
    have HSH := hid (fun (u : World) (hu : Ext w u) => Shares_ok V s u (h.mono hu) hE)
    have HPA := hid (fun (u : World) (hu : Ext w u) => Parts_ok V s u (h.mono hu) hE)
    have HCL := hid (fun (u : World) (hu : Ext w u) => Claims_ok V s u (h.mono hu) hE)
    have HSO := hid (fun (u : World) (hu : Ext w u) => sound_true V s u (h.mono hu) hE)
    have HSM := hid (fun (u : World) (hu : Ext w u) => Sum_any _ V.cs u (h.cs.mono hu) (fun x hx => by have := hok.cs x hx; have := hok.gr; omega) (by have := hok.csl; omega))
    have hnb := net_bound hok
    have HWN : Hid (IntKind.i64.wrap (V.gr - V.cs.sum) = netV V ∧ wrap64 (V.gr - V.cs.sum) = netV V) := hid ⟨by rw [IntKind.wrap_i64]; unfold netV at *; omega, by unfold netV at *; unfold wrap64; omega⟩
    have HE := hid hE
    have HV := hid h
    clear h hE hok hnb
    unfold voyA at *
    gi_enter Tryz.func8, Tryz.ntmps8
    gi_upto_region 1 with fail
    generalize w.alloc (.cells _ 32) = wa at *
    obtain ⟨bx, hbx⟩ : ∃ bx, bx = w.heap.size := ⟨_, rfl⟩
    rw [← hbx] at HB0 ⊢
    have HBX := hid hbx
    clear hbx
    have c0 := cell_of HB0.out
    gi_upto_region 6 with (first | (gi_at_call 25; ((with_reducible refine (HSH.out _ HX0.out).mono ?_); rintro e w1 ⟨lr, ns, rfl, hx1, hdn, hnl, HR1⟩; have HX1 := hid (HX0.out.trans hx1); have HA1 := hid hx1; have c0 := cell_of (hx1.block HB0.out); clear hx1)) | (gi_at_call 23; ((with_reducible refine (HPA.out _ HX1.out).mono ?_); rintro e w2 ⟨rfl, hx2⟩; have HX2 := hid (HX1.out.trans hx2); have HA2 := hid hx2; have c0 := cell_of ((HA1.out.trans hx2).block HB0.out); clear hx2)) | (gi_at_call 19; ((with_reducible refine (HCL.out _ HX2.out).mono ?_); rintro e w3 ⟨cr, rfl, hx3, HR3⟩; obtain ⟨cra, crc, rfl⟩ := HR3.out.isSliceN; have HX3 := hid (HX2.out.trans hx3); have HA3 := hid hx3; have c0 := cell_of ((HA1.out.trans (HA2.out.trans hx3)).block HB0.out); clear hx3)) | (gi_at_call 33; ((with_reducible refine (HSO.out _ HX3.out).mono ?_); rintro e w4 ⟨rfl, hx4⟩; have HX4 := hid (HX3.out.trans hx4); have HA4 := hid hx4; clear hx4)))
    clear c0
    have HBW := hid ((HA1.out.trans (HA2.out.trans (HA3.out.trans HA4.out))).block HB0.out)
    have HBC := hid (fun (u : World) (hu : Ext w4 u) => (show u.cell? ⟨bx, 0, none⟩ = some (.int .i64 V.gr) ∧ u.cell? ⟨bx, 1, none⟩ = some (.slice s.ca V.cs.length s.cc) from ⟨(cell_of (hu.block HBW.out) 0).trans rfl, (cell_of (hu.block HBW.out) 1).trans rfl⟩))
    have HSM := hid (fun (u : World) (hu : Ext w4 u) => HSM.out u (HX4.out.trans hu))
    refine lex_wide 6 [] (by kernel_rfl) (by kernel_rfl) (nStab_nil) ?_
    simp only [List.take_succ_cons, List.take_zero, List.drop_succ_cons, List.drop_zero]
    apply lex_fun (rfl : psAt _ _ = none)
    · intro x u hR hf
      clear hR hf
      go_simp
      first | exact ⟨rfl, Ext.refl _⟩ | rfl
    simp only [Act.put, List.setIfInBounds_toArray, List.set_cons_succ, List.set_cons_zero]
    apply lex_fun (rfl : psAt _ _ = none)
    · intro x u hR hf
      obtain ⟨c0, c1⟩ := HBC.out u hR
      clear hR hf
      go_simp
      first | exact ⟨rfl, Ext.refl _⟩ | rfl
    simp only [Act.put, List.setIfInBounds_toArray, List.set_cons_succ, List.set_cons_zero]
    apply lex_fun (rfl : psAt _ _ = none)
    · intro x u hR hf
      clear hR hf
      go_simp
      first | exact ⟨rfl, Ext.refl _⟩ | rfl
    simp only [Act.put, List.setIfInBounds_toArray, List.set_cons_succ, List.set_cons_zero]
    apply lex_fun (rfl : psAt _ _ = none)
    · intro x u hR hf
      obtain ⟨c0, c1⟩ := HBC.out u hR
      clear hR hf
      go_simp
      first | exact ⟨rfl, Ext.refl _⟩ | rfl
    simp only [Act.put, List.setIfInBounds_toArray, List.set_cons_succ, List.set_cons_zero]
    refine lex_fun (v := .int .i64 V.cs.sum) (rfl : psAt _ _ = none) ?_ ?_
    · intro x u hR hf
      have hcal := hid (HSM.out u hR)
      clear hR hf
      go_simp
      exact hcal.out.mono fun e w'' ⟨he, hx'⟩ => ⟨_, he, rfl, by subst hx'; exact Ext.refl _⟩
    simp only [Act.put, List.setIfInBounds_toArray, List.set_cons_succ, List.set_cons_zero]
    apply lex_fun (rfl : psAt _ _ = none)
    · intro x u hR hf
      clear hR hf
      go_simp
      first | exact ⟨rfl, Ext.refl _⟩ | rfl
    simp only [Act.put, List.setIfInBounds_toArray, List.set_cons_succ, List.set_cons_zero]
    refine lex_nil fun x' w6 hE6 hfacts => ?_
    clear hfacts x'
    try simp only [HWN.out.1, HWN.out.2]
    have HB6 := hid (hE6.block HBW.out)
    have HX6w := hid (HX4.out.trans hE6)
    have c0 := cell_of HB6.out
    have c1 := cell_of (((Ext.refl w6).alloc (.cells #[.int .i64 (partP V 0), .int .i64 (partP V 1), .int .i64 (partP V 2)] 3)).block HB6.out)
    have hxa : Ext w6 ((w6.alloc (.cells #[.int .i64 (partP V 0), .int .i64 (partP V 1), .int .i64 (partP V 2)] 3)).alloc (.cells #[.int .i64 V.bo, .int .i64 V.ne, .int .i64 V.cr] 3)) := ((Ext.refl _).alloc _).alloc _
    have HFC := hid (fair_true (netV V) (.slice (some ⟨w6.heap.size, 0, none⟩) 3 3) (.slice (some ⟨w6.heap.size + 1, 0, none⟩) 3 3) _ _ ((w6.alloc (.cells #[.int .i64 (partP V 0), .int .i64 (partP V 1), .int .i64 (partP V 2)] 3)).alloc (.cells #[.int .i64 V.bo, .int .i64 V.ne, .int .i64 V.cr] 3)) (ints3 (two_new (w := w6) (o1 := .cells #[.int .i64 (partP V 0), .int .i64 (partP V 1), .int .i64 (partP V 2)] 3) (o2 := .cells #[.int .i64 V.bo, .int .i64 V.ne, .int .i64 V.cr] 3))) (ints3 (by
      have := Ext.new (w := w6.alloc (.cells #[.int .i64 (partP V 0), .int .i64 (partP V 1), .int .i64 (partP V 2)] 3)) (o := .cells #[.int .i64 V.bo, .int .i64 V.ne, .int .i64 V.cr] 3) (Ext.refl _); rwa [World.size_alloc] at this)) (fair_parts HE.out))
    gi_upto_region 9 with (gi_at_call 30; ((with_reducible refine (HFC.out).mono ?_); rintro e w9 ⟨rfl, hx9⟩))
    have HX69 := hid (hxa.trans hx9)
    have HX9 := hid (HX6w.out.trans HX69.out)
    have HB9 := hid (HX69.out.block HB6.out)
    have HRC := hid (HR3.out.mono (HA4.out.trans (hE6.trans HX69.out)))
    have HRL := hid (HR1.out.mono (HA2.out.trans (HA3.out.trans (HA4.out.trans (hE6.trans HX69.out)))))
    have HDN := hid hdn
    have HNL := hid hnl
    have HDC := hid (fun (k : Nat) (hk : k < ns.length) => (show ∃ g cap, lr = .slice (some ⟨g, 0, none⟩) ns.length cap ∧ ∀ u, Ext w9 u → (u.cell? ⟨g, k * 4, none⟩ = some (.string ns[k]) ∧ u.cell? ⟨g, k * 4 + 1, none⟩ = some (.int .i64 (dvv V ns[k] 0)) ∧ u.cell? ⟨g, k * 4 + 2, none⟩ = some (.int .i64 (dvv V ns[k] 1)) ∧ u.cell? ⟨g, k * 4 + 3, none⟩ = some (.int .i64 (dvv V ns[k] 2))) by
      obtain ⟨g, cap, e, hg, h0⟩ := due_cells HRL.out hk
      refine ⟨g, cap, e, fun u hu => ?_⟩
      rw [hu.cell (p := ⟨g, _, none⟩) hg, hu.cell (p := ⟨g, _, none⟩) hg, hu.cell (p := ⟨g, _, none⟩) hg, hu.cell (p := ⟨g, _, none⟩) hg]
      exact h0))
    obtain ⟨lra, lrc, rfl⟩ := HRL.out.isSliceN
    clear c0 c1 hxa hx9 HFC HB6 HX6w hE6 HR1 HR3 HA1 HA2 HA3 HA4 HSM HBC HBW HSH HPA HCL HSO HX1 HX2 HX3 HX4 hdn hnl
    gi_wp2_with fail
    gi_loopw [12, 13] (fun sm i wr => ∃ k : Nat, k ≤ ns.length ∧ i = .int .i64 k ∧ sm = .int .i64 (dueTo V ns k) ∧ Hid (Ext w9 wr)) (fun _ i _ => ns.length - (intOf i).toNat)
    case atStart => exact ⟨0, Nat.zero_le _, rfl, by simp [dueTo], hid (Ext.refl _)⟩
    case round =>
      obtain ⟨k, hk, rfl, rfl, HXk⟩ := hrel
      by_cases hlt : k < ns.length
      · have hki : (k : Int) < (ns.length : Int) := by omega
        have hnl := HNL.out
        obtain ⟨g, cap, e, h0⟩ := HDC.out k hlt
        cases e
        have c0 : ∀ e : Later wr, e.1.cell? ⟨g, k * 4 + 1, none⟩ = some (.int .i64 (dvv V ns[k] 0)) := fun e => (h0 _ (HXk.out.trans e.grown)).2.1
        have c1 : ∀ e : Later wr, e.1.cell? ⟨g, k * 4 + 2, none⟩ = some (.int .i64 (dvv V ns[k] 1)) := fun e => (h0 _ (HXk.out.trans e.grown)).2.2.1
        have c2 : ∀ e : Later wr, e.1.cell? ⟨g, k * 4 + 3, none⟩ = some (.int .i64 (dvv V ns[k] 2)) := fun e => (h0 _ (HXk.out.trans e.grown)).2.2.2
        have b0 := dvv_bound HE.out ns[k] (j := 0) (by omega)
        have b1 := dvv_bound HE.out ns[k] (j := 1) (by omega)
        have b2 := dvv_bound HE.out ns[k] (j := 2) (by omega)
        have bt := dueTo_bound HE.out ns k (by omega)
        have HSU := hid (dueTo_succ V hlt)
        have HLT := hid hlt
        have HN0 := hid (fun (u : World) (hu : Ext w9 u) => (h0 u hu).1)
        generalize dueTo V ns k = S at *
        generalize dvv V ns[k] 0 = x0 at *
        generalize dvv V ns[k] 1 = x1 at *
        generalize dvv V ns[k] 2 = x2 at *
        have hwA := wrap_mid (x := x0 + x1) (by omega) (by omega)
        have HWB := hid (And.intro (wrap_mid (x := x0 + x1 + x2) (by omega) (by omega)) (wrap_mid (x := S + (x0 + x1 + x2)) (by omega) (by omega)))
        clear b0 b1 b2 bt h0
        gi_upto_region 13 with fail
        refine quiet_wide 19 (by kernel_rfl) (by kernel_rfl) ?_
        simp only [List.take_succ_cons, List.take_zero, List.drop_succ_cons, List.drop_zero]
        repeat (any_goals (first | go_big_quiet_step (fail) | quiet_step (fail)))
        refine wpQuiet_nil ?_
        rintro w6 ⟨⟨w6q, hx5⟩, hew5⟩
        obtain rfl : w6 = w6q := hew5
        have HX6 : Hid (Ext wr w6) := hid (show Ext wr w6 from hx5)
        clear hx5
        have HXk := hid (HXk.out.trans HX6.out)
        simp only [hwA, HWB.out.1, HWB.out.2]
        clear c0 c1 c2 hwA HWB HX6
        cases k with
        | zero =>
          gi_upto_region 14 with fail
          refine lex_wide 16 [] (by kernel_rfl) (by kernel_rfl) (nStab_nil) ?_
          simp only [List.take_succ_cons, List.take_zero, List.drop_succ_cons, List.drop_zero]
          apply lex_fun (rfl : psAt _ _ = none)
          · intro x u hR hf
            clear hR hf
            go_simp
            first | exact ⟨rfl, Ext.refl _⟩ | rfl
          simp only [Act.put, List.setIfInBounds_toArray, List.set_cons_succ, List.set_cons_zero]
          apply lex_fun (rfl : psAt _ _ = none)
          · intro x u hR hf
            clear hR hf
            go_simp
            first | exact ⟨rfl, Ext.refl _⟩ | rfl
          simp only [Act.put, List.setIfInBounds_toArray, List.set_cons_succ, List.set_cons_zero]
          apply lex_fun (rfl : psAt _ _ = none)
          · intro x u hR hf
            clear hR hf
            go_simp
            first | exact ⟨rfl, Ext.refl _⟩ | rfl
          simp only [Act.put, List.setIfInBounds_toArray, List.set_cons_succ, List.set_cons_zero]
          apply lex_fun (rfl : psAt _ _ = none)
          · intro x u hR hf
            clear hR hf
            go_simp
            first | exact ⟨rfl, Ext.refl _⟩ | rfl
          simp only [Act.put, List.setIfInBounds_toArray, List.set_cons_succ, List.set_cons_zero]
          apply lex_fun (rfl : psAt _ _ = none)
          · intro x u hR hf
            clear hR hf
            go_simp
            first | exact ⟨rfl, Ext.refl _⟩ | rfl
          simp only [Act.put, List.setIfInBounds_toArray, List.set_cons_succ, List.set_cons_zero]
          apply lex_fun (rfl : psAt _ _ = none)
          · intro x u hR hf
            clear hR hf
            go_simp
            first | exact ⟨rfl, Ext.refl _⟩ | rfl
          simp only [Act.put, List.setIfInBounds_toArray, List.set_cons_succ, List.set_cons_zero]
          apply lex_fun (rfl : psAt _ _ = none)
          · intro x u hR hf
            clear hR hf
            go_simp
            first | exact ⟨rfl, Ext.refl _⟩ | rfl
          simp only [Act.put, List.setIfInBounds_toArray, List.set_cons_succ, List.set_cons_zero]
          apply lex_fun (rfl : psAt _ _ = none)
          · intro x u hR hf
            clear hR hf
            go_simp
            first | exact ⟨rfl, Ext.refl _⟩ | rfl
          simp only [Act.put, List.setIfInBounds_toArray, List.set_cons_succ, List.set_cons_zero]
          apply lex_fun (rfl : psAt _ _ = none)
          · intro x u hR hf
            clear hR hf
            go_simp
            first | exact ⟨rfl, Ext.refl _⟩ | rfl
          simp only [Act.put, List.setIfInBounds_toArray, List.set_cons_succ, List.set_cons_zero]
          apply lex_fun (rfl : psAt _ _ = none)
          · intro x u hR hf
            clear hR hf
            go_simp
            first | exact ⟨rfl, Ext.refl _⟩ | rfl
          simp only [Act.put, List.setIfInBounds_toArray, List.set_cons_succ, List.set_cons_zero]
          apply lex_fun (rfl : psAt _ _ = none)
          · intro x u hR hf
            clear hR hf
            go_simp
            first | exact ⟨rfl, Ext.refl _⟩ | rfl
          simp only [Act.put, List.setIfInBounds_toArray, List.set_cons_succ, List.set_cons_zero]
          apply lex_fun (rfl : psAt _ _ = none)
          · intro x u hR hf
            clear hR hf
            go_simp
            first | exact ⟨rfl, Ext.refl _⟩ | rfl
          simp only [Act.put, List.setIfInBounds_toArray, List.set_cons_succ, List.set_cons_zero]
          apply lex_fun (rfl : psAt _ _ = none)
          · intro x u hR hf
            clear hR hf
            go_simp
            first | exact ⟨rfl, Ext.refl _⟩ | rfl
          simp only [Act.put, List.setIfInBounds_toArray, List.set_cons_succ, List.set_cons_zero]
          apply lex_fun (rfl : psAt _ _ = none)
          · intro x u hR hf
            clear hR hf
            go_simp
            first | exact ⟨rfl, Ext.refl _⟩ | rfl
          simp only [Act.put, List.setIfInBounds_toArray, List.set_cons_succ, List.set_cons_zero]
          apply lex_fun (rfl : psAt _ _ = none)
          · intro x u hR hf
            clear hR hf
            go_simp
            first | exact ⟨rfl, Ext.refl _⟩ | rfl
          simp only [Act.put, List.setIfInBounds_toArray, List.set_cons_succ, List.set_cons_zero]
          apply lex_fun (rfl : psAt _ _ = none)
          · intro x u hR hf
            clear hR hf
            go_simp
            first | exact ⟨rfl, Ext.refl _⟩ | rfl
          simp only [Act.put, List.setIfInBounds_toArray, List.set_cons_succ, List.set_cons_zero]
          refine lex_nil fun x' w7 hE7 hfacts => ?_
          clear hfacts x'
          have HX7 := hid (HXk.out.trans hE7)
          clear hE7
          gi_wp2_with fail
          go_roundw
          case rel => exact ⟨1, HLT.out, by go_num, by rw [HSU.out], HX7⟩
          case measure => have := HLT.out; simp [intOf]; omega
        | succ j =>
          have hjl : j < ns.length := by omega
          obtain ⟨g', cap', e9, h0'⟩ := HDC.out j hjl
          cases e9
          have HN1 := hid (fun (u : World) (hu : Ext w9 u) => (h0' u hu).1)
          have hji : (j : Int) < (ns.length : Int) := by omega
          have hki2 : (j : Int) + 1 < (ns.length : Int) := by omega
          have hj6 : j ≤ 1000000 := by omega
          have hgt : decide ((j : Int) + 1 > 0) = true := decide_eq_true (by omega)
          have hbl : Op.bytesLess ns[j].toList ns[j + 1].toList = true := List.pairwise_iff_getElem.1 HDN.out.rise j (j + 1) hjl hlt (by omega)
          clear h0' hki hk
          generalize ns[j] = nj at *
          generalize ns[j + 1] = nk at *
          have hwj : IntKind.i64.wrap (j : Int) = (j : Int) := wrapk_nat j hj6
          have hwc : IntKind.i64.wrap ((j : Int) + 1 - 1) = (j : Int) := wrapk_back j hj6
          have hwb : wrap64 ((j : Int) + 1 - 1) = (j : Int) := wrap_back j hj6
          have hwx : wrap64 ((j : Int) + 1 + 1) = (j : Int) + 1 + 1 := wrap_next2 j hj6
          gi_upto_region 14 with fail
          refine lex_wide 16 [] (by kernel_rfl) (by kernel_rfl) (nStab_nil) ?_
          simp only [List.take_succ_cons, List.take_zero, List.drop_succ_cons, List.drop_zero]
          apply lex_fun (rfl : psAt _ _ = none)
          · intro x u hR hf
            clear hR hf
            go_simp
            first | exact ⟨rfl, Ext.refl _⟩ | rfl
          simp only [Act.put, List.setIfInBounds_toArray, List.set_cons_succ, List.set_cons_zero]
          apply lex_fun (rfl : psAt _ _ = none)
          · intro x u hR hf
            clear hR hf
            go_simp
            first | exact ⟨rfl, Ext.refl _⟩ | rfl
          simp only [Act.put, List.setIfInBounds_toArray, List.set_cons_succ, List.set_cons_zero]
          apply lex_fun (rfl : psAt _ _ = none)
          · intro x u hR hf
            clear hR hf
            go_simp
            first | exact ⟨rfl, Ext.refl _⟩ | rfl
          simp only [Act.put, List.setIfInBounds_toArray, List.set_cons_succ, List.set_cons_zero]
          apply lex_fun (rfl : psAt _ _ = none)
          · intro x u hR hf
            clear hR hf
            go_simp
            first | exact ⟨rfl, Ext.refl _⟩ | rfl
          simp only [Act.put, List.setIfInBounds_toArray, List.set_cons_succ, List.set_cons_zero]
          apply lex_fun (rfl : psAt _ _ = none)
          · intro x u hR hf
            clear hR hf
            go_simp
            first | exact ⟨rfl, Ext.refl _⟩ | rfl
          simp only [Act.put, List.setIfInBounds_toArray, List.set_cons_succ, List.set_cons_zero]
          apply lex_fun (rfl : psAt _ _ = none)
          · intro x u hR hf
            clear hR hf
            go_simp
            first | exact ⟨rfl, Ext.refl _⟩ | rfl
          simp only [Act.put, List.setIfInBounds_toArray, List.set_cons_succ, List.set_cons_zero]
          apply lex_fun (rfl : psAt _ _ = none)
          · intro x u hR hf
            clear hR hf
            go_simp
            first | exact ⟨rfl, Ext.refl _⟩ | rfl
          simp only [Act.put, List.setIfInBounds_toArray, List.set_cons_succ, List.set_cons_zero]
          apply lex_fun (rfl : psAt _ _ = none)
          · intro x u hR hf
            clear hR hf
            go_simp
            first | exact ⟨rfl, Ext.refl _⟩ | rfl
          simp only [Act.put, List.setIfInBounds_toArray, List.set_cons_succ, List.set_cons_zero]
          apply lex_fun (rfl : psAt _ _ = none)
          · intro x u hR hf
            have d0 := HN1.out u (HXk.out.trans hR)
            clear hR hf
            go_simp
            first | exact ⟨rfl, Ext.refl _⟩ | rfl
          simp only [Act.put, List.setIfInBounds_toArray, List.set_cons_succ, List.set_cons_zero]
          apply lex_fun (rfl : psAt _ _ = none)
          · intro x u hR hf
            clear hR hf
            go_simp
            first | exact ⟨rfl, Ext.refl _⟩ | rfl
          simp only [Act.put, List.setIfInBounds_toArray, List.set_cons_succ, List.set_cons_zero]
          apply lex_fun (rfl : psAt _ _ = none)
          · intro x u hR hf
            clear hR hf
            go_simp
            first | exact ⟨rfl, Ext.refl _⟩ | rfl
          simp only [Act.put, List.setIfInBounds_toArray, List.set_cons_succ, List.set_cons_zero]
          apply lex_fun (rfl : psAt _ _ = none)
          · intro x u hR hf
            clear hR hf
            go_simp
            first | exact ⟨rfl, Ext.refl _⟩ | rfl
          simp only [Act.put, List.setIfInBounds_toArray, List.set_cons_succ, List.set_cons_zero]
          apply lex_fun (rfl : psAt _ _ = none)
          · intro x u hR hf
            clear hR hf
            go_simp
            first | exact ⟨rfl, Ext.refl _⟩ | rfl
          simp only [Act.put, List.setIfInBounds_toArray, List.set_cons_succ, List.set_cons_zero]
          apply lex_fun (rfl : psAt _ _ = none)
          · intro x u hR hf
            have d0 := HN0.out u (HXk.out.trans hR)
            clear hR hf
            go_simp
            first | exact ⟨rfl, Ext.refl _⟩ | rfl
          simp only [Act.put, List.setIfInBounds_toArray, List.set_cons_succ, List.set_cons_zero]
          apply lex_fun (rfl : psAt _ _ = none)
          · intro x u hR hf
            clear hR hf
            go_simp
            first | exact ⟨rfl, Ext.refl _⟩ | rfl
          simp only [Act.put, List.setIfInBounds_toArray, List.set_cons_succ, List.set_cons_zero]
          apply lex_fun (rfl : psAt _ _ = none)
          · intro x u hR hf
            clear hR hf
            go_simp
            first | exact ⟨rfl, Ext.refl _⟩ | rfl
          simp only [Act.put, List.setIfInBounds_toArray, List.set_cons_succ, List.set_cons_zero]
          refine lex_nil fun x' w7 hE7 hfacts => ?_
          clear hfacts x'
          have HX7 := hid (HXk.out.trans hE7)
          clear hE7 hwj hwc hwb hgt hbl
          gi_wp2_with fail
          go_roundw
          case rel => exact ⟨j + 1 + 1, HLT.out, by go_num, by rw [HSU.out], HX7⟩
          case measure => have := HLT.out; simp [intOf]; omega
      · obtain rfl : k = ns.length := by omega
        have hki : ¬ (ns.length : Int) < (ns.length : Int) := by omega
        have HXs := hid HXk.out
        rw [due_all HE.out HDN.out]
        clear HXk hlt
        obtain ⟨i3, hi3, hy0, hy1, hy2⟩ := info_parts info3
        have HZ3 := hid (And.intro hi3 (And.intro hy0 (And.intro hy1 hy2)))
        clear hi3 hy0 hy1 hy2
        have HOKV := hid (voyE_ok HE.out).1
        have HTN0 : Hid (V.ow.length ≤ 10) := hid (stakes_ok HOKV.out.ow).1
        have HTN1 : Hid (V.le.length ≤ 10) := hid (stakes_ok HOKV.out.le).1
        have HTN2 : Hid (V.ha.length ≤ 10) := hid (stakes_ok HOKV.out.ha).1
        have HMV0 := hid (fun (k : Nat) (hk : k < V.ow.length) => (show (V.ow.getD k noStk).name ∈ ns ∧ dvv V (V.ow.getD k noStk).name 0 = partG V 0 k from ⟨name_in HDN.out (j := 0) (by omega) hk, due_own HE.out (j := 0) (by omega) hk⟩))
        have HMV2 := hid (fun (k : Nat) (hk : k < V.ha.length) => (show (V.ha.getD k noStk).name ∈ ns ∧ dvv V (V.ha.getD k noStk).name 2 = partG V 2 k from ⟨name_in HDN.out (j := 2) (by omega) hk, due_own HE.out (j := 2) (by omega) hk⟩))
        have HMV1 := hid (fun (k : Nat) (hk : k < V.le.length) => (show (V.le.getD k noStk).name ∈ ns ∧ dvv V (V.le.getD k noStk).name 1 = partG V 1 k by
          have hk2 : k < (partL V 1).length := by show k < (clm V.le (lentV V) V.le.length).length; rw [clm_len]; exact hk
          have e : ((partL V 1).getD k noStk).name = (V.le.getD k noStk).name := by
            rw [getD_of hk2]
            show ((clm V.le (lentV V) V.le.length)[k]'hk2).name = _
            simp [clm]
          rw [← e]
          exact ⟨name_in HDN.out (j := 1) (by omega) hk2, due_own HE.out (j := 1) (by omega) hk2⟩))
        have HST0 := hid (fun (k : Nat) (hk : k < V.ow.length) => (show ∃ b off, s.oa = some ⟨b, off, none⟩ ∧ ∀ u, Ext w u → u.cell? ⟨b, off + k * 2, none⟩ = some (.string (V.ow.getD k noStk).name) by
          obtain ⟨a1, c1, e, _, hc⟩ := HV.out.ow
          obtain ⟨e1, _, _⟩ := Value.slice.inj e
          obtain ⟨b, off, e2, hb, h0, _⟩ := hc k hk
          exact ⟨b, off, e1.trans e2, fun u hu => by rw [hu.cell (p := ⟨b, _, none⟩) hb, h0, getD_of hk]⟩))
        have HST1 := hid (fun (k : Nat) (hk : k < V.le.length) => (show ∃ b off, s.la = some ⟨b, off, none⟩ ∧ ∀ u, Ext w u → u.cell? ⟨b, off + k * 2, none⟩ = some (.string (V.le.getD k noStk).name) by
          obtain ⟨a1, c1, e, _, hc⟩ := HV.out.le
          obtain ⟨e1, _, _⟩ := Value.slice.inj e
          obtain ⟨b, off, e2, hb, h0, _⟩ := hc k hk
          exact ⟨b, off, e1.trans e2, fun u hu => by rw [hu.cell (p := ⟨b, _, none⟩) hb, h0, getD_of hk]⟩))
        have HST2 := hid (fun (k : Nat) (hk : k < V.ha.length) => (show ∃ b off, s.ha = some ⟨b, off, none⟩ ∧ ∀ u, Ext w u → u.cell? ⟨b, off + k * 2, none⟩ = some (.string (V.ha.getD k noStk).name) by
          obtain ⟨a1, c1, e, _, hc⟩ := HV.out.ha
          obtain ⟨e1, _, _⟩ := Value.slice.inj e
          obtain ⟨b, off, e2, hb, h0, _⟩ := hc k hk
          exact ⟨b, off, e1.trans e2, fun u hu => by rw [hu.cell (p := ⟨b, _, none⟩) hb, h0, getD_of hk]⟩))
        have HXb0 := hid HXs.out
        obtain ⟨wb0, rfl⟩ : ∃ wb, wb = wr := ⟨wr, rfl⟩
        gi_wp2_with fail
        gi_loopw [14, 17, 18, 19] (fun r i ub uq wr => ∃ k : Nat, k ≤ V.ow.length ∧ i = .int .i64 k ∧ Hid (Ext wb0 wr ∧ Row wr 3 1 r k (intsF k (partG V 0)) ∧ ∀ g, r.ownBlock = some g → wb0.heap.size ≤ g)) (fun _ i _ _ _ => V.ow.length - (intOf i).toNat)
        case atStart => exact ⟨0, Nat.zero_le _, rfl, hid ⟨Ext.refl _, by simpa [intsF] using Row.nil _ _ _, fun g h => by simp [Value.ownBlock] at h⟩⟩
        case round =>
          obtain ⟨k, hk, rfl, HI⟩ := hrel
          by_cases hlt : k < V.ow.length
          · have hki : (k : Int) < (V.ow.length : Int) := by omega
            obtain ⟨b, off, hsa, hc⟩ := HST0.out k hlt
            obtain ⟨hx, hrow, hown⟩ := HI.out
            have c0 := (cell_of ((HXb0.out.trans hx).block HB9.out) 5).trans (show some (Value.slice s.oa V.ow.length s.oc) = some (Value.slice (some ⟨b, off, none⟩) V.ow.length s.oc) by rw [hsa])
            have c1 := hc wr (HX9.out.trans (HXb0.out.trans hx))
            obtain ⟨hmem, hval⟩ := HMV0.out k hlt
            have hk10 := HTN0.out
            have HSU := hid (intsF_succ k (partG V 0))
            generalize (V.ow.getD k noStk).name = nm at *
            have HDU := hid (fun (u : World) (hu : Ext w9 u) => due_any V ns _ nm u (HRL.out.mono hu) HDN.out.rise hmem HNL.out)
            unfold fullD at HDU
            rw [hval] at HDU
            generalize partG V 0 k = x at *
            generalize dvv V nm 1 = q1 at *
            generalize dvv V nm 2 = q2 at *
            have HX := hid hx
            have HR := hid hrow
            have HO := hid hown
            have HLT := hid hlt
            obtain ⟨na, nc, rfl⟩ := hrow.isSliceN
            clear HI hx hrow hown hmem hval hc hlt hsa
            gi_upto_region 21 with (first | (gi_at_call 35; ((with_reducible refine (HDU.out _ (HXb0.out.trans HX.out)).mono ?_); rintro e w5 ⟨rfl, hx5⟩; have HX5 := hid hx5; clear hx5)) | (refine wpIn_store_fresh (fun _ => trivial) 53 (.tmp 18) (.tmp 163) rfl (W := w5) (c' := #[.string nm, .int .i64 x, .int .i64 q1, .int .i64 q2]) rfl rfl rfl size53 rfl (by kernel_rfl) ?_))
            have hb := Ext.new (w := w5) (o := .cells #[.string nm, .int .i64 x, .int .i64 q1, .int .i64 q2] 53) (Ext.refl _)
            have hxn : Ext wr (w5.alloc (.cells #[.string nm, .int .i64 x, .int .i64 q1, .int .i64 q2] 53)) := HX5.out.alloc _
            have HR2 := hid (HR.out.mono hxn)
            have HX2a := hid (HX.out.trans hxn)
            clear c0 c1 hxn HX5 HDU
            generalize w5.alloc (.cells #[.string nm, .int .i64 x, .int .i64 q1, .int .i64 q2] 53) = W2 at *
            generalize w5.heap.size = nb at *
            have cn := cell_of hb
            have hx2 : Ext W2 (W2.alloc (.cells #[.int .i64 x] 3)) := (Ext.refl _).alloc _
            have HRW := hid (HR2.out.mono hx2)
            have HX2 := hid (HX2a.out.trans hx2)
            have HNW : Hid (∀ j u, ([.int .i64 x] : List Value)[j]? = some u → (W2.alloc (.cells #[.int .i64 x] 3)).cell? ((⟨W2.heap.size, 0, none⟩ : Addr).add j) = some u) := fun j u hj => by rw [Addr.add_mid, Nat.zero_add, new_cell _ _ rfl]; simpa using hj
            have hmax : k + 1 ≤ 1000000000 := by omega
            clear hx2 hb
            gi_wp2_with (refine wpIn_append_row (fun _ => trivial) rfl (.tmp 167) (.tmp 170) rfl Tryz.underlying23 HZ3.out.1 HZ3.out.2.1 HZ3.out.2.2.1 HZ3.out.2.2.2 (by simp [Value.cells]) (by omega) (v := .slice na k nc) rfl HRW.out ⟨W2.heap.size, 0, none⟩ 1 rfl [.int .i64 x] rfl HNW.out (fun u hu => by simp at hu; subst hu; rfl) hmax (by omega) ?_; intro v' w' hrow' hgr' how')
            have hn := own_next HX2.out HO.out hgr' how'
            go_roundw
            case rel => exact ⟨k + 1, by have := HLT.out; omega, by go_num, hid ⟨hn.1, by rw [HSU.out]; exact hrow', hn.2⟩⟩
            case measure => have := HLT.out; simp [intOf]; omega
          · obtain rfl : k = V.ow.length := by omega
            have hki : ¬ (V.ow.length : Int) < (V.ow.length : Int) := by omega
            have c0 := (cell_of ((HXb0.out.trans HI.out.1).block HB9.out) 5).trans (show some (Value.slice s.oa V.ow.length s.oc) = some (Value.slice s.oa V.ow.length s.oc) from rfl)
            have HXb1 := hid (HXb0.out.trans HI.out.1)

            have HQ0 := hid HI.out.2.1
            obtain ⟨wb1, rfl⟩ : ∃ wb, wb = wr := ⟨wr, rfl⟩
            clear HI hlt
            gi_wp2_with fail
            gi_loopw [15, 20, 21, 22] (fun r i ub uq wr => ∃ k : Nat, k ≤ V.le.length ∧ i = .int .i64 k ∧ Hid (Ext wb1 wr ∧ Row wr 3 1 r k (intsF k (partG V 1)) ∧ ∀ g, r.ownBlock = some g → wb1.heap.size ≤ g)) (fun _ i _ _ _ => V.le.length - (intOf i).toNat)
            case atStart => exact ⟨0, Nat.zero_le _, rfl, hid ⟨Ext.refl _, by simpa [intsF] using Row.nil _ _ _, fun g h => by simp [Value.ownBlock] at h⟩⟩
            case round =>
              obtain ⟨k, hk, rfl, HI⟩ := hrel
              by_cases hlt : k < V.le.length
              · have hki : (k : Int) < (V.le.length : Int) := by omega
                obtain ⟨b, off, hsa, hc⟩ := HST1.out k hlt
                obtain ⟨hx, hrow, hown⟩ := HI.out
                have c0 := (cell_of ((HXb1.out.trans hx).block HB9.out) 6).trans (show some (Value.slice s.la V.le.length s.lc) = some (Value.slice (some ⟨b, off, none⟩) V.le.length s.lc) by rw [hsa])
                have c1 := hc wr (HX9.out.trans (HXb1.out.trans hx))
                obtain ⟨hmem, hval⟩ := HMV1.out k hlt
                have hk10 := HTN1.out
                have HSU := hid (intsF_succ k (partG V 1))
                generalize (V.le.getD k noStk).name = nm at *
                have HDU := hid (fun (u : World) (hu : Ext w9 u) => due_any V ns _ nm u (HRL.out.mono hu) HDN.out.rise hmem HNL.out)
                unfold fullD at HDU
                rw [hval] at HDU
                generalize partG V 1 k = x at *
                generalize dvv V nm 0 = q0 at *
                generalize dvv V nm 2 = q2 at *
                have HX := hid hx
                have HR := hid hrow
                have HO := hid hown
                have HLT := hid hlt
                obtain ⟨na, nc, rfl⟩ := hrow.isSliceN
                clear HI hx hrow hown hmem hval hc hlt hsa
                gi_upto_region 28 with (first | (gi_at_call 35; ((with_reducible refine (HDU.out _ (HXb1.out.trans HX.out)).mono ?_); rintro e w5 ⟨rfl, hx5⟩; have HX5 := hid hx5; clear hx5)) | (refine wpIn_store_fresh (fun _ => trivial) 53 (.tmp 21) (.tmp 188) rfl (W := w5) (c' := #[.string nm, .int .i64 q0, .int .i64 x, .int .i64 q2]) rfl rfl rfl size53 rfl (by kernel_rfl) ?_))
                have hb := Ext.new (w := w5) (o := .cells #[.string nm, .int .i64 q0, .int .i64 x, .int .i64 q2] 53) (Ext.refl _)
                have hxn : Ext wr (w5.alloc (.cells #[.string nm, .int .i64 q0, .int .i64 x, .int .i64 q2] 53)) := HX5.out.alloc _
                have HR2 := hid (HR.out.mono hxn)
                have HX2a := hid (HX.out.trans hxn)
                clear c0 c1 hxn HX5 HDU
                generalize w5.alloc (.cells #[.string nm, .int .i64 q0, .int .i64 x, .int .i64 q2] 53) = W2 at *
                generalize w5.heap.size = nb at *
                have cn := cell_of hb
                have hx2 : Ext W2 (W2.alloc (.cells #[.int .i64 x] 3)) := (Ext.refl _).alloc _
                have HRW := hid (HR2.out.mono hx2)
                have HX2 := hid (HX2a.out.trans hx2)
                have HNW : Hid (∀ j u, ([.int .i64 x] : List Value)[j]? = some u → (W2.alloc (.cells #[.int .i64 x] 3)).cell? ((⟨W2.heap.size, 0, none⟩ : Addr).add j) = some u) := fun j u hj => by rw [Addr.add_mid, Nat.zero_add, new_cell _ _ rfl]; simpa using hj
                have hmax : k + 1 ≤ 1000000000 := by omega
                clear hx2 hb
                gi_wp2_with (refine wpIn_append_row (fun _ => trivial) rfl (.tmp 192) (.tmp 195) rfl Tryz.underlying23 HZ3.out.1 HZ3.out.2.1 HZ3.out.2.2.1 HZ3.out.2.2.2 (by simp [Value.cells]) (by omega) (v := .slice na k nc) rfl HRW.out ⟨W2.heap.size, 0, none⟩ 1 rfl [.int .i64 x] rfl HNW.out (fun u hu => by simp at hu; subst hu; rfl) hmax (by omega) ?_; intro v' w' hrow' hgr' how')
                have hn := own_next HX2.out HO.out hgr' how'
                go_roundw
                case rel => exact ⟨k + 1, by have := HLT.out; omega, by go_num, hid ⟨hn.1, by rw [HSU.out]; exact hrow', hn.2⟩⟩
                case measure => have := HLT.out; simp [intOf]; omega
              · obtain rfl : k = V.le.length := by omega
                have hki : ¬ (V.le.length : Int) < (V.le.length : Int) := by omega
                have c0 := (cell_of ((HXb1.out.trans HI.out.1).block HB9.out) 6).trans (show some (Value.slice s.la V.le.length s.lc) = some (Value.slice s.la V.le.length s.lc) from rfl)
                have HXb2 := hid (HXb1.out.trans HI.out.1)
                have HQ0 := hid (HQ0.out.mono HI.out.1)
                have HQ1 := hid HI.out.2.1
                obtain ⟨wb2, rfl⟩ : ∃ wb, wb = wr := ⟨wr, rfl⟩
                clear HI hlt
                gi_wp2_with fail
                gi_loopw [16, 23, 24, 25] (fun r i ub uq wr => ∃ k : Nat, k ≤ V.ha.length ∧ i = .int .i64 k ∧ Hid (Ext wb2 wr ∧ Row wr 3 1 r k (intsF k (partG V 2)) ∧ ∀ g, r.ownBlock = some g → wb2.heap.size ≤ g)) (fun _ i _ _ _ => V.ha.length - (intOf i).toNat)
                case atStart => exact ⟨0, Nat.zero_le _, rfl, hid ⟨Ext.refl _, by simpa [intsF] using Row.nil _ _ _, fun g h => by simp [Value.ownBlock] at h⟩⟩
                case round =>
                  obtain ⟨k, hk, rfl, HI⟩ := hrel
                  by_cases hlt : k < V.ha.length
                  · have hki : (k : Int) < (V.ha.length : Int) := by omega
                    obtain ⟨b, off, hsa, hc⟩ := HST2.out k hlt
                    obtain ⟨hx, hrow, hown⟩ := HI.out
                    have c0 := (cell_of ((HXb2.out.trans hx).block HB9.out) 7).trans (show some (Value.slice s.ha V.ha.length s.hc) = some (Value.slice (some ⟨b, off, none⟩) V.ha.length s.hc) by rw [hsa])
                    have c1 := hc wr (HX9.out.trans (HXb2.out.trans hx))
                    obtain ⟨hmem, hval⟩ := HMV2.out k hlt
                    have hk10 := HTN2.out
                    have HSU := hid (intsF_succ k (partG V 2))
                    generalize (V.ha.getD k noStk).name = nm at *
                    have HDU := hid (fun (u : World) (hu : Ext w9 u) => due_any V ns _ nm u (HRL.out.mono hu) HDN.out.rise hmem HNL.out)
                    unfold fullD at HDU
                    rw [hval] at HDU
                    generalize partG V 2 k = x at *
                    generalize dvv V nm 0 = q0 at *
                    generalize dvv V nm 1 = q1 at *
                    have HX := hid hx
                    have HR := hid hrow
                    have HO := hid hown
                    have HLT := hid hlt
                    obtain ⟨na, nc, rfl⟩ := hrow.isSliceN
                    clear HI hx hrow hown hmem hval hc hlt hsa
                    gi_upto_region 35 with (first | (gi_at_call 35; ((with_reducible refine (HDU.out _ (HXb2.out.trans HX.out)).mono ?_); rintro e w5 ⟨rfl, hx5⟩; have HX5 := hid hx5; clear hx5)) | (refine wpIn_store_fresh (fun _ => trivial) 53 (.tmp 24) (.tmp 213) rfl (W := w5) (c' := #[.string nm, .int .i64 q0, .int .i64 q1, .int .i64 x]) rfl rfl rfl size53 rfl (by kernel_rfl) ?_))
                    have hb := Ext.new (w := w5) (o := .cells #[.string nm, .int .i64 q0, .int .i64 q1, .int .i64 x] 53) (Ext.refl _)
                    have hxn : Ext wr (w5.alloc (.cells #[.string nm, .int .i64 q0, .int .i64 q1, .int .i64 x] 53)) := HX5.out.alloc _
                    have HR2 := hid (HR.out.mono hxn)
                    have HX2a := hid (HX.out.trans hxn)
                    clear c0 c1 hxn HX5 HDU
                    generalize w5.alloc (.cells #[.string nm, .int .i64 q0, .int .i64 q1, .int .i64 x] 53) = W2 at *
                    generalize w5.heap.size = nb at *
                    have cn := cell_of hb
                    have hx2 : Ext W2 (W2.alloc (.cells #[.int .i64 x] 3)) := (Ext.refl _).alloc _
                    have HRW := hid (HR2.out.mono hx2)
                    have HX2 := hid (HX2a.out.trans hx2)
                    have HNW : Hid (∀ j u, ([.int .i64 x] : List Value)[j]? = some u → (W2.alloc (.cells #[.int .i64 x] 3)).cell? ((⟨W2.heap.size, 0, none⟩ : Addr).add j) = some u) := fun j u hj => by rw [Addr.add_mid, Nat.zero_add, new_cell _ _ rfl]; simpa using hj
                    have hmax : k + 1 ≤ 1000000000 := by omega
                    clear hx2 hb
                    gi_wp2_with (refine wpIn_append_row (fun _ => trivial) rfl (.tmp 217) (.tmp 220) rfl Tryz.underlying23 HZ3.out.1 HZ3.out.2.1 HZ3.out.2.2.1 HZ3.out.2.2.2 (by simp [Value.cells]) (by omega) (v := .slice na k nc) rfl HRW.out ⟨W2.heap.size, 0, none⟩ 1 rfl [.int .i64 x] rfl HNW.out (fun u hu => by simp at hu; subst hu; rfl) hmax (by omega) ?_; intro v' w' hrow' hgr' how')
                    have hn := own_next HX2.out HO.out hgr' how'
                    go_roundw
                    case rel => exact ⟨k + 1, by have := HLT.out; omega, by go_num, hid ⟨hn.1, by rw [HSU.out]; exact hrow', hn.2⟩⟩
                    case measure => have := HLT.out; simp [intOf]; omega
                  · obtain rfl : k = V.ha.length := by omega
                    have hki : ¬ (V.ha.length : Int) < (V.ha.length : Int) := by omega
                    have c0 := (cell_of ((HXb2.out.trans HI.out.1).block HB9.out) 7).trans (show some (Value.slice s.ha V.ha.length s.hc) = some (Value.slice s.ha V.ha.length s.hc) from rfl)
                    have HXb3 := hid (HXb2.out.trans HI.out.1)
                    have HQ0 := hid (HQ0.out.mono HI.out.1)
                    have HQ1 := hid (HQ1.out.mono HI.out.1)
                    have HQ2 := hid HI.out.2.1
                    obtain ⟨wb3, rfl⟩ : ∃ wb, wb = wr := ⟨wr, rfl⟩
                    clear HI hlt
                    obtain ⟨o0a, o0c, e0⟩ := HQ0.out.isSliceN
                    subst e0
                    obtain ⟨o1a, o1c, e1⟩ := HQ1.out.isSliceN
                    subst e1
                    obtain ⟨o2a, o2c, e2⟩ := HQ2.out.isSliceN
                    subst e2
                    have HG0 := hid (fun (u : World) (hu : Ext wb3 u) => (show IntsAt u (.slice o0a V.ow.length o0c) (gvs (partP V 0) (partL V 0)) from IntsAt.of_row (xs := gvs (partP V 0) (partL V 0)) (by rw [gvs_len, ← intsF_gvs]; exact HQ0.out.mono hu) (by rw [gvs_len]; have := HTN0.out; show V.ow.length ≤ _; omega)))
                    have HG2 := hid (fun (u : World) (hu : Ext wb3 u) => (show IntsAt u (.slice o2a V.ha.length o2c) (gvs (partP V 2) (partL V 2)) from IntsAt.of_row (xs := gvs (partP V 2) (partL V 2)) (by rw [gvs_len, ← intsF_gvs]; exact HQ2.out.mono hu) (by rw [gvs_len]; have := HTN2.out; show V.ha.length ≤ _; omega)))
                    have hl1 : (partL V 1).length = V.le.length := clm_len _ _ _
                    have HG1 := hid (fun (u : World) (hu : Ext wb3 u) => (show IntsAt u (.slice o1a V.le.length o1c) (gvs (partP V 1) (partL V 1)) by
                      have e : intsV (gvs (partP V 1) (partL V 1)) = intsF V.le.length (partG V 1) := by rw [← intsF_gvs, hl1]; rfl
                      have h2 := HQ1.out.mono hu
                      rw [← e] at h2
                      have h3 : (gvs (partP V 1) (partL V 1)).length = V.le.length := by rw [gvs_len, hl1]
                      rw [← h3] at h2 ⊢
                      exact IntsAt.of_row h2 (by rw [h3]; have := HTN1.out; omega)))
                    have HGC := hid (fun (u : World) (hu : Ext wb3 u) => (show IntsAt u (.slice cra V.le.length crc) (wtsL (partL V 1)) by
                      have h2 : Row u 3 1 (.slice cra V.le.length crc) V.le.length (intsV (wtsL (partL V 1))) := HRC.out.mono (HXb3.out.trans hu)
                      have h3 : (wtsL (partL V 1)).length = V.le.length := by rw [wtsL_len, hl1]
                      rw [← h3] at h2 ⊢
                      exact IntsAt.of_row h2 (by rw [h3]; have := HTN1.out; omega)))
                    have HWO := hid (fun (u : World) (hu : Ext wb3 u) => wtsL_any _ V.ow u (HV.out.ow.mono (HX9.out.trans (HXb3.out.trans hu))) (by have := HTN0.out; omega))
                    have HWH := hid (fun (u : World) (hu : Ext wb3 u) => wtsL_any _ V.ha u (HV.out.ha.mono (HX9.out.trans (HXb3.out.trans hu))) (by have := HTN2.out; omega))
                    have HBF := hid (HXb3.out.block HB9.out)
                    have HXC := hid (Ext.refl wb3)
                    have HXF := hid (HX9.out.trans HXb3.out)
                    have HPP := hid (pos_part HE.out)
                    clear hl1 HQ0 HQ1 HQ2 HRC HX69 HSM c0
                    have c0 := cell_of HBF.out
                    by_cases hbj : V.bo = 0
                    · have hbz0 : (V.bo == 0) = true := by simpa using hbj
                      clear hbj
                      by_cases hbj : V.ne = 0
                      · have hbz1 : (V.ne == 0) = true := by simpa using hbj
                        clear hbj
                        by_cases hbj : V.cr = 0
                        · have hbz2 : (V.cr == 0) = true := by simpa using hbj
                          clear hbj
                          gi_wp2_with (first | (gi_at_call 31; first | ((with_reducible refine (HWO.out _ HXC.out).mono ?_); rintro e wx ⟨wo, rfl, hxo, HWo⟩; have HXC := hid (HXC.out.trans hxo); have c0 := cell_of (HXC.out.block HBF.out); have HFA := hid (HFO.out _ wo HXC.out HWo.out); clear hxo) | ((with_reducible refine (HWH.out _ HXC.out).mono ?_); rintro e wx ⟨wo, rfl, hxo, HWo⟩; have HXC := hid (HXC.out.trans hxo); have c0 := cell_of (HXC.out.block HBF.out); have HFA := hid (HFH.out _ wo HXC.out HWo.out); clear hxo)) | (gi_at_call 30; first | ((with_reducible refine (HFA.out).mono ?_); rintro e wy ⟨rfl, hxy⟩; have HXC := hid (HXC.out.trans hxy); have c0 := cell_of (HXC.out.block HBF.out); clear hxy) | ((with_reducible refine (HFN.out _ HXC.out).mono ?_); rintro e wy ⟨rfl, hxy⟩; have HXC := hid (HXC.out.trans hxy); have c0 := cell_of (HXC.out.block HBF.out); clear hxy)) | (gi_at_call 18; ((with_reducible refine (HWK.out _).mono ?_); rintro e wz ⟨rfl, hxz⟩; have HXD := hid (HXF.out.trans (HXC.out.trans hxz)); clear hxz)))
                          all_goals first | exact (undef_no' ‹_›).elim | (go_ret; exact ⟨rfl, HXD.out⟩)
                        · have hbz2 : (V.cr == 0) = false := by simpa using hbj
                          have HFH := hid (fun (u : World) (wo : Value) (hu : Ext wb3 u) (hr : Row u 3 1 wo V.ha.length (intsV (wtsL V.ha))) => fair_true (partP V 2) (.slice o2a V.ha.length o2c) wo (gvs (partP V 2) (partL V 2)) (wtsL (partL V 2)) u (HG2.out u hu) (IntsAt.of_row (xs := wtsL V.ha) (by rw [wtsL_len]; exact hr) (by rw [wtsL_len]; have := HTN2.out; omega)) (fair_part HE.out (j := 2) (by omega) (HPP.out.2.2 hbj)))
                          clear hbj
                          gi_wp2_with (first | (gi_at_call 31; first | ((with_reducible refine (HWO.out _ HXC.out).mono ?_); rintro e wx ⟨wo, rfl, hxo, HWo⟩; have HXC := hid (HXC.out.trans hxo); have c0 := cell_of (HXC.out.block HBF.out); have HFA := hid (HFO.out _ wo HXC.out HWo.out); clear hxo) | ((with_reducible refine (HWH.out _ HXC.out).mono ?_); rintro e wx ⟨wo, rfl, hxo, HWo⟩; have HXC := hid (HXC.out.trans hxo); have c0 := cell_of (HXC.out.block HBF.out); have HFA := hid (HFH.out _ wo HXC.out HWo.out); clear hxo)) | (gi_at_call 30; first | ((with_reducible refine (HFA.out).mono ?_); rintro e wy ⟨rfl, hxy⟩; have HXC := hid (HXC.out.trans hxy); have c0 := cell_of (HXC.out.block HBF.out); clear hxy) | ((with_reducible refine (HFN.out _ HXC.out).mono ?_); rintro e wy ⟨rfl, hxy⟩; have HXC := hid (HXC.out.trans hxy); have c0 := cell_of (HXC.out.block HBF.out); clear hxy)) | (gi_at_call 18; ((with_reducible refine (HWK.out _).mono ?_); rintro e wz ⟨rfl, hxz⟩; have HXD := hid (HXF.out.trans (HXC.out.trans hxz)); clear hxz)))
                          all_goals first | exact (undef_no' ‹_›).elim | (go_ret; exact ⟨rfl, HXD.out⟩)
                      · have hbz1 : (V.ne == 0) = false := by simpa using hbj
                        have HFN := hid (fun (u : World) (hu : Ext wb3 u) => fair_true (partP V 1) (.slice o1a V.le.length o1c) (.slice cra V.le.length crc) (gvs (partP V 1) (partL V 1)) (wtsL (partL V 1)) u (HG1.out u hu) (HGC.out u hu) (fair_part HE.out (j := 1) (by omega) (HPP.out.2.1 hbj)))
                        clear hbj
                        by_cases hbj : V.cr = 0
                        · have hbz2 : (V.cr == 0) = true := by simpa using hbj
                          clear hbj
                          gi_wp2_with (first | (gi_at_call 31; first | ((with_reducible refine (HWO.out _ HXC.out).mono ?_); rintro e wx ⟨wo, rfl, hxo, HWo⟩; have HXC := hid (HXC.out.trans hxo); have c0 := cell_of (HXC.out.block HBF.out); have HFA := hid (HFO.out _ wo HXC.out HWo.out); clear hxo) | ((with_reducible refine (HWH.out _ HXC.out).mono ?_); rintro e wx ⟨wo, rfl, hxo, HWo⟩; have HXC := hid (HXC.out.trans hxo); have c0 := cell_of (HXC.out.block HBF.out); have HFA := hid (HFH.out _ wo HXC.out HWo.out); clear hxo)) | (gi_at_call 30; first | ((with_reducible refine (HFA.out).mono ?_); rintro e wy ⟨rfl, hxy⟩; have HXC := hid (HXC.out.trans hxy); have c0 := cell_of (HXC.out.block HBF.out); clear hxy) | ((with_reducible refine (HFN.out _ HXC.out).mono ?_); rintro e wy ⟨rfl, hxy⟩; have HXC := hid (HXC.out.trans hxy); have c0 := cell_of (HXC.out.block HBF.out); clear hxy)) | (gi_at_call 18; ((with_reducible refine (HWK.out _).mono ?_); rintro e wz ⟨rfl, hxz⟩; have HXD := hid (HXF.out.trans (HXC.out.trans hxz)); clear hxz)))
                          all_goals first | exact (undef_no' ‹_›).elim | (go_ret; exact ⟨rfl, HXD.out⟩)
                        · have hbz2 : (V.cr == 0) = false := by simpa using hbj
                          have HFH := hid (fun (u : World) (wo : Value) (hu : Ext wb3 u) (hr : Row u 3 1 wo V.ha.length (intsV (wtsL V.ha))) => fair_true (partP V 2) (.slice o2a V.ha.length o2c) wo (gvs (partP V 2) (partL V 2)) (wtsL (partL V 2)) u (HG2.out u hu) (IntsAt.of_row (xs := wtsL V.ha) (by rw [wtsL_len]; exact hr) (by rw [wtsL_len]; have := HTN2.out; omega)) (fair_part HE.out (j := 2) (by omega) (HPP.out.2.2 hbj)))
                          clear hbj
                          gi_wp2_with (first | (gi_at_call 31; first | ((with_reducible refine (HWO.out _ HXC.out).mono ?_); rintro e wx ⟨wo, rfl, hxo, HWo⟩; have HXC := hid (HXC.out.trans hxo); have c0 := cell_of (HXC.out.block HBF.out); have HFA := hid (HFO.out _ wo HXC.out HWo.out); clear hxo) | ((with_reducible refine (HWH.out _ HXC.out).mono ?_); rintro e wx ⟨wo, rfl, hxo, HWo⟩; have HXC := hid (HXC.out.trans hxo); have c0 := cell_of (HXC.out.block HBF.out); have HFA := hid (HFH.out _ wo HXC.out HWo.out); clear hxo)) | (gi_at_call 30; first | ((with_reducible refine (HFA.out).mono ?_); rintro e wy ⟨rfl, hxy⟩; have HXC := hid (HXC.out.trans hxy); have c0 := cell_of (HXC.out.block HBF.out); clear hxy) | ((with_reducible refine (HFN.out _ HXC.out).mono ?_); rintro e wy ⟨rfl, hxy⟩; have HXC := hid (HXC.out.trans hxy); have c0 := cell_of (HXC.out.block HBF.out); clear hxy)) | (gi_at_call 18; ((with_reducible refine (HWK.out _).mono ?_); rintro e wz ⟨rfl, hxz⟩; have HXD := hid (HXF.out.trans (HXC.out.trans hxz)); clear hxz)))
                          all_goals first | exact (undef_no' ‹_›).elim | (go_ret; exact ⟨rfl, HXD.out⟩)
                    · have hbz0 : (V.bo == 0) = false := by simpa using hbj
                      have HFO := hid (fun (u : World) (wo : Value) (hu : Ext wb3 u) (hr : Row u 3 1 wo V.ow.length (intsV (wtsL V.ow))) => fair_true (partP V 0) (.slice o0a V.ow.length o0c) wo (gvs (partP V 0) (partL V 0)) (wtsL (partL V 0)) u (HG0.out u hu) (IntsAt.of_row (xs := wtsL V.ow) (by rw [wtsL_len]; exact hr) (by rw [wtsL_len]; have := HTN0.out; omega)) (fair_part HE.out (j := 0) (by omega) (HPP.out.1 hbj)))
                      clear hbj
                      by_cases hbj : V.ne = 0
                      · have hbz1 : (V.ne == 0) = true := by simpa using hbj
                        clear hbj
                        by_cases hbj : V.cr = 0
                        · have hbz2 : (V.cr == 0) = true := by simpa using hbj
                          clear hbj
                          gi_wp2_with (first | (gi_at_call 31; first | ((with_reducible refine (HWO.out _ HXC.out).mono ?_); rintro e wx ⟨wo, rfl, hxo, HWo⟩; have HXC := hid (HXC.out.trans hxo); have c0 := cell_of (HXC.out.block HBF.out); have HFA := hid (HFO.out _ wo HXC.out HWo.out); clear hxo) | ((with_reducible refine (HWH.out _ HXC.out).mono ?_); rintro e wx ⟨wo, rfl, hxo, HWo⟩; have HXC := hid (HXC.out.trans hxo); have c0 := cell_of (HXC.out.block HBF.out); have HFA := hid (HFH.out _ wo HXC.out HWo.out); clear hxo)) | (gi_at_call 30; first | ((with_reducible refine (HFA.out).mono ?_); rintro e wy ⟨rfl, hxy⟩; have HXC := hid (HXC.out.trans hxy); have c0 := cell_of (HXC.out.block HBF.out); clear hxy) | ((with_reducible refine (HFN.out _ HXC.out).mono ?_); rintro e wy ⟨rfl, hxy⟩; have HXC := hid (HXC.out.trans hxy); have c0 := cell_of (HXC.out.block HBF.out); clear hxy)) | (gi_at_call 18; ((with_reducible refine (HWK.out _).mono ?_); rintro e wz ⟨rfl, hxz⟩; have HXD := hid (HXF.out.trans (HXC.out.trans hxz)); clear hxz)))
                          all_goals first | exact (undef_no' ‹_›).elim | (go_ret; exact ⟨rfl, HXD.out⟩)
                        · have hbz2 : (V.cr == 0) = false := by simpa using hbj
                          have HFH := hid (fun (u : World) (wo : Value) (hu : Ext wb3 u) (hr : Row u 3 1 wo V.ha.length (intsV (wtsL V.ha))) => fair_true (partP V 2) (.slice o2a V.ha.length o2c) wo (gvs (partP V 2) (partL V 2)) (wtsL (partL V 2)) u (HG2.out u hu) (IntsAt.of_row (xs := wtsL V.ha) (by rw [wtsL_len]; exact hr) (by rw [wtsL_len]; have := HTN2.out; omega)) (fair_part HE.out (j := 2) (by omega) (HPP.out.2.2 hbj)))
                          clear hbj
                          gi_wp2_with (first | (gi_at_call 31; first | ((with_reducible refine (HWO.out _ HXC.out).mono ?_); rintro e wx ⟨wo, rfl, hxo, HWo⟩; have HXC := hid (HXC.out.trans hxo); have c0 := cell_of (HXC.out.block HBF.out); have HFA := hid (HFO.out _ wo HXC.out HWo.out); clear hxo) | ((with_reducible refine (HWH.out _ HXC.out).mono ?_); rintro e wx ⟨wo, rfl, hxo, HWo⟩; have HXC := hid (HXC.out.trans hxo); have c0 := cell_of (HXC.out.block HBF.out); have HFA := hid (HFH.out _ wo HXC.out HWo.out); clear hxo)) | (gi_at_call 30; first | ((with_reducible refine (HFA.out).mono ?_); rintro e wy ⟨rfl, hxy⟩; have HXC := hid (HXC.out.trans hxy); have c0 := cell_of (HXC.out.block HBF.out); clear hxy) | ((with_reducible refine (HFN.out _ HXC.out).mono ?_); rintro e wy ⟨rfl, hxy⟩; have HXC := hid (HXC.out.trans hxy); have c0 := cell_of (HXC.out.block HBF.out); clear hxy)) | (gi_at_call 18; ((with_reducible refine (HWK.out _).mono ?_); rintro e wz ⟨rfl, hxz⟩; have HXD := hid (HXF.out.trans (HXC.out.trans hxz)); clear hxz)))
                          all_goals first | exact (undef_no' ‹_›).elim | (go_ret; exact ⟨rfl, HXD.out⟩)
                      · have hbz1 : (V.ne == 0) = false := by simpa using hbj
                        have HFN := hid (fun (u : World) (hu : Ext wb3 u) => fair_true (partP V 1) (.slice o1a V.le.length o1c) (.slice cra V.le.length crc) (gvs (partP V 1) (partL V 1)) (wtsL (partL V 1)) u (HG1.out u hu) (HGC.out u hu) (fair_part HE.out (j := 1) (by omega) (HPP.out.2.1 hbj)))
                        clear hbj
                        by_cases hbj : V.cr = 0
                        · have hbz2 : (V.cr == 0) = true := by simpa using hbj
                          clear hbj
                          gi_wp2_with (first | (gi_at_call 31; first | ((with_reducible refine (HWO.out _ HXC.out).mono ?_); rintro e wx ⟨wo, rfl, hxo, HWo⟩; have HXC := hid (HXC.out.trans hxo); have c0 := cell_of (HXC.out.block HBF.out); have HFA := hid (HFO.out _ wo HXC.out HWo.out); clear hxo) | ((with_reducible refine (HWH.out _ HXC.out).mono ?_); rintro e wx ⟨wo, rfl, hxo, HWo⟩; have HXC := hid (HXC.out.trans hxo); have c0 := cell_of (HXC.out.block HBF.out); have HFA := hid (HFH.out _ wo HXC.out HWo.out); clear hxo)) | (gi_at_call 30; first | ((with_reducible refine (HFA.out).mono ?_); rintro e wy ⟨rfl, hxy⟩; have HXC := hid (HXC.out.trans hxy); have c0 := cell_of (HXC.out.block HBF.out); clear hxy) | ((with_reducible refine (HFN.out _ HXC.out).mono ?_); rintro e wy ⟨rfl, hxy⟩; have HXC := hid (HXC.out.trans hxy); have c0 := cell_of (HXC.out.block HBF.out); clear hxy)) | (gi_at_call 18; ((with_reducible refine (HWK.out _).mono ?_); rintro e wz ⟨rfl, hxz⟩; have HXD := hid (HXF.out.trans (HXC.out.trans hxz)); clear hxz)))
                          all_goals first | exact (undef_no' ‹_›).elim | (go_ret; exact ⟨rfl, HXD.out⟩)
                        · have hbz2 : (V.cr == 0) = false := by simpa using hbj
                          have HFH := hid (fun (u : World) (wo : Value) (hu : Ext wb3 u) (hr : Row u 3 1 wo V.ha.length (intsV (wtsL V.ha))) => fair_true (partP V 2) (.slice o2a V.ha.length o2c) wo (gvs (partP V 2) (partL V 2)) (wtsL (partL V 2)) u (HG2.out u hu) (IntsAt.of_row (xs := wtsL V.ha) (by rw [wtsL_len]; exact hr) (by rw [wtsL_len]; have := HTN2.out; omega)) (fair_part HE.out (j := 2) (by omega) (HPP.out.2.2 hbj)))
                          clear hbj
                          gi_wp2_with (first | (gi_at_call 31; first | ((with_reducible refine (HWO.out _ HXC.out).mono ?_); rintro e wx ⟨wo, rfl, hxo, HWo⟩; have HXC := hid (HXC.out.trans hxo); have c0 := cell_of (HXC.out.block HBF.out); have HFA := hid (HFO.out _ wo HXC.out HWo.out); clear hxo) | ((with_reducible refine (HWH.out _ HXC.out).mono ?_); rintro e wx ⟨wo, rfl, hxo, HWo⟩; have HXC := hid (HXC.out.trans hxo); have c0 := cell_of (HXC.out.block HBF.out); have HFA := hid (HFH.out _ wo HXC.out HWo.out); clear hxo)) | (gi_at_call 30; first | ((with_reducible refine (HFA.out).mono ?_); rintro e wy ⟨rfl, hxy⟩; have HXC := hid (HXC.out.trans hxy); have c0 := cell_of (HXC.out.block HBF.out); clear hxy) | ((with_reducible refine (HFN.out _ HXC.out).mono ?_); rintro e wy ⟨rfl, hxy⟩; have HXC := hid (HXC.out.trans hxy); have c0 := cell_of (HXC.out.block HBF.out); clear hxy)) | (gi_at_call 18; ((with_reducible refine (HWK.out _).mono ?_); rintro e wz ⟨rfl, hxz⟩; have HXD := hid (HXF.out.trans (HXC.out.trans hxz)); clear hxz)))
                          all_goals first | exact (undef_no' ‹_›).elim | (go_ret; exact ⟨rfl, HXD.out⟩)
  · have hz : (voyE V == 0) = false := by simpa using hE
    have hz2 : (voyE V != 0) = true := by simpa using hE
    have hz3 : (voyE V == voyE V) = true := by simp
    have HSH := hid (fun (u : World) (hu : Ext w u) => Shares_bad V s u (h.mono hu) hE)
    have HPA := hid (fun (u : World) (hu : Ext w u) => Parts_bad V s u (h.mono hu) hE)
    have HCL := hid (fun (u : World) (hu : Ext w u) => Claims_bad V s u (h.mono hu) hE)
    generalize voyE V = E at *
    clear h hE
    unfold voyA at *
    gi_enter Tryz.func8, Tryz.ntmps8
    gi_upto_region 1 with fail
    generalize w.alloc (.cells _ 32) = wa at *
    generalize w.heap.size = bx at *
    have c0 := cell_of HB0.out
    gi_wp2_with (first | (gi_at_call 25; ((with_reducible refine (HSH.out _ HX0.out).mono ?_); rintro e w1 ⟨rfl, hx1⟩; have HX1 := hid (HX0.out.trans hx1); have HA1 := hid hx1; have c0 := cell_of (hx1.block HB0.out); clear hx1)) | (gi_at_call 23; ((with_reducible refine (HPA.out _ HX1.out).mono ?_); rintro e w2 ⟨rfl, hx2⟩; have HX2 := hid (HX1.out.trans hx2); have c0 := cell_of ((HA1.out.trans hx2).block HB0.out); clear hx2)) | (gi_at_call 19; ((with_reducible refine (HCL.out _ HX2.out).mono ?_); rintro e w3 ⟨rfl, hx3⟩; have HX3 := hid (HX2.out.trans hx3); clear hx3)) | (gi_at_call 18; ((with_reducible refine (HWK.out _).mono ?_); rintro e w4 ⟨rfl, hx4⟩; have HX := hid (HX3.out.trans hx4); clear hx4)))
    go_ret
    exact ⟨rfl, HX.out⟩

end Go.Proofs.YtjocoadhalimjaaGreat
