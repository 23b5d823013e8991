/- Rising lists. -/
import Derived.Test.YtjocoadhalimjaaGreatRBS
set_option linter.unusedSimpArgs false
set_option linter.unusedVariables false
namespace Go.Proofs.YtjocoadhalimjaaGreat
open Go Go.RowKit Go.Shelf

theorem wrap_pred (n : Nat) (h : n ≤ 1000000) : wrap64 ((n : Int) - 1) = (n : Int) - 1 := by unfold wrap64; omega
theorem wrapk_pred (n : Nat) (h : n ≤ 1000000) : IntKind.i64.wrap ((n : Int) - 1) = (n : Int) - 1 := by rw [IntKind.wrap_i64]; omega
theorem wrapk_back (n : Nat) (h : n ≤ 1000000) : IntKind.i64.wrap ((n : Int) + 1 - 1) = (n : Int) := by rw [IntKind.wrap_i64]; omega
theorem wrapk_nat (n : Nat) (h : n ≤ 1000000) : IntKind.i64.wrap (n : Int) = (n : Int) := by rw [IntKind.wrap_i64]; omega
theorem wrap_next (n : Nat) (h : n ≤ 1000000) : wrap64 ((n : Int) + 1) = (n : Int) + 1 := by unfold wrap64; omega
theorem wrap_next2 (n : Nat) (h : n ≤ 1000000) : wrap64 ((n : Int) + 1 + 1) = (n : Int) + 1 + 1 := by unfold wrap64; omega
theorem wrap_one : wrap64 ((0 : Int) + 1) = 1 := by unfold wrap64; omega
theorem wrap_back (n : Nat) (h : n ≤ 1000000) : wrap64 ((n : Int) + 1 - 1) = (n : Int) := by unfold wrap64; omega
set_option maxRecDepth 100000 in
set_option maxHeartbeats 8000000 in
theorem Rising_true (v : Value) (xs : List Int) (n : Nat) (w : World) (hv : IntsAt w v xs) (hn : n ≤ 1000000) (hl : xs.length ≤ 1000000) (h : ∀ i (hi : i < xs.length), (0 ≤ xs[i] ∧ xs[i] < (n : Int)) ∧ ∀ (h0 : 0 < i), xs[i - 1] < xs[i]) : Cal 39 #[v, .int .i64 n] w fun e w' => e = .returned (.bool true) ∧ Ext w w' := by
  obtain ⟨a, cap, rfl, hll, hc⟩ := hv
  have HC := hid hc
  have HH := hid h
  clear hc h
  gi_enter Tryz.func39, Tryz.ntmps39
  gi_wp2_with fail
  gi_loopw [5] (fun i wr => ∃ k : Nat, k ≤ xs.length ∧ i = .int .i64 k ∧ Hid (Ext w wr)) (fun i _ => xs.length - (intOf i).toNat)
  case atStart => exact ⟨0, Nat.zero_le _, rfl, hid (Ext.refl _)⟩
  case round =>
    obtain ⟨k, hk, rfl, HX⟩ := hrel
    by_cases hlt : k < xs.length
    · have hki : (k : Int) < (xs.length : Int) := by omega
      obtain ⟨b, off, rfl, hb, hcell⟩ := HC.out k hlt
      obtain ⟨⟨hx0, hx1⟩, hx2⟩ := HH.out k hlt
      have hbr : b < wr.heap.size := Nat.lt_of_lt_of_le hb HX.out.size
      have HCL := hid (fun (u : World) (hu : Ext wr u) => ((HX.out.trans hu).cell (p := ⟨b, _, none⟩) hb).trans hcell)
      have HI := hid (fun (u : World) => In_b xs[k] 0 ((n : Int) - 1) true u (by unfold inB; simp; omega))
      have HLT := hid hlt
      clear hx0 hx1
      cases k with
      | zero =>
        clear hx2 hcell hb hbr
        have hw1 : wrap64 ((0 : Int) + 1) = 1 := wrap_one
        have hwn : wrap64 ((n : Int) - 1) = (n : Int) - 1 := wrap_pred n hn
        have hwm : IntKind.i64.wrap ((n : Int) - 1) = (n : Int) - 1 := wrapk_pred n hn
        generalize xs[0] = x at *
        gi_upto_region 4 with fail
        refine lex_wide 24 [] (by kernel_rfl) (by kernel_rfl) (nStab_nil) ?_
        simp only [List.take_succ_cons, List.take_zero, List.drop_succ_cons, List.drop_zero]
        apply lex_fun (rfl : psAt _ _ = none)
        · intro x u hR hf
          clear hR hf
          go_simp
          first | exact ⟨rfl, Ext.refl _⟩ | rfl
        simp only [Act.put, List.setIfInBounds_toArray, List.set_cons_succ, List.set_cons_zero]
        apply lex_fun (rfl : psAt _ _ = none)
        · intro x u hR hf
          clear hR hf
          go_simp
          first | exact ⟨rfl, Ext.refl _⟩ | rfl
        simp only [Act.put, List.setIfInBounds_toArray, List.set_cons_succ, List.set_cons_zero]
        apply lex_fun (rfl : psAt _ _ = none)
        · intro x u hR hf
          clear hR hf
          go_simp
          first | exact ⟨rfl, Ext.refl _⟩ | rfl
        simp only [Act.put, List.setIfInBounds_toArray, List.set_cons_succ, List.set_cons_zero]
        apply lex_fun (rfl : psAt _ _ = none)
        · intro x u hR hf
          have d0 := HCL.out u hR
          simp only [Nat.add_zero] at d0
          clear hR hf
          go_simp
          first | exact ⟨rfl, Ext.refl _⟩ | rfl
        simp only [Act.put, List.setIfInBounds_toArray, List.set_cons_succ, List.set_cons_zero]
        apply lex_fun (rfl : psAt _ _ = none)
        · intro x u hR hf
          clear hR hf
          go_simp
          first | exact ⟨rfl, Ext.refl _⟩ | rfl
        simp only [Act.put, List.setIfInBounds_toArray, List.set_cons_succ, List.set_cons_zero]
        apply lex_fun (rfl : psAt _ _ = none)
        · intro x u hR hf
          clear hR hf
          go_simp
          first | exact ⟨rfl, Ext.refl _⟩ | rfl
        simp only [Act.put, List.setIfInBounds_toArray, List.set_cons_succ, List.set_cons_zero]
        refine lex_fun (v := .bool true) (rfl : psAt _ _ = none) ?_ ?_
        · intro x u hR hf
          have hcal := hid (HI.out u)
          clear hR hf
          go_simp
          exact hcal.out.mono fun e w'' ⟨he, hx'⟩ => ⟨_, he, rfl, by subst hx'; exact Ext.refl _⟩
        simp only [Act.put, List.setIfInBounds_toArray, List.set_cons_succ, List.set_cons_zero]
        apply lex_fun (rfl : psAt _ _ = none)
        · intro x u hR hf
          clear hR hf
          go_simp
          first | exact ⟨rfl, Ext.refl _⟩ | rfl
        simp only [Act.put, List.setIfInBounds_toArray, List.set_cons_succ, List.set_cons_zero]
        apply lex_fun (rfl : psAt _ _ = none)
        · intro x u hR hf
          clear hR hf
          go_simp
          first | exact ⟨rfl, Ext.refl _⟩ | rfl
        simp only [Act.put, List.setIfInBounds_toArray, List.set_cons_succ, List.set_cons_zero]
        apply lex_fun (rfl : psAt _ _ = none)
        · intro x u hR hf
          clear hR hf
          go_simp
          first | exact ⟨rfl, Ext.refl _⟩ | rfl
        simp only [Act.put, List.setIfInBounds_toArray, List.set_cons_succ, List.set_cons_zero]
        apply lex_fun (rfl : psAt _ _ = none)
        · intro x u hR hf
          clear hR hf
          go_simp
          first | exact ⟨rfl, Ext.refl _⟩ | rfl
        simp only [Act.put, List.setIfInBounds_toArray, List.set_cons_succ, List.set_cons_zero]
        apply lex_fun (rfl : psAt _ _ = none)
        · intro x u hR hf
          clear hR hf
          go_simp
          first | exact ⟨rfl, Ext.refl _⟩ | rfl
        simp only [Act.put, List.setIfInBounds_toArray, List.set_cons_succ, List.set_cons_zero]
        apply lex_fun (rfl : psAt _ _ = none)
        · intro x u hR hf
          clear hR hf
          go_simp
          first | exact ⟨rfl, Ext.refl _⟩ | rfl
        simp only [Act.put, List.setIfInBounds_toArray, List.set_cons_succ, List.set_cons_zero]
        apply lex_fun (rfl : psAt _ _ = none)
        · intro x u hR hf
          clear hR hf
          go_simp
          first | exact ⟨rfl, Ext.refl _⟩ | rfl
        simp only [Act.put, List.setIfInBounds_toArray, List.set_cons_succ, List.set_cons_zero]
        apply lex_fun (rfl : psAt _ _ = none)
        · intro x u hR hf
          clear hR hf
          go_simp
          first | exact ⟨rfl, Ext.refl _⟩ | rfl
        simp only [Act.put, List.setIfInBounds_toArray, List.set_cons_succ, List.set_cons_zero]
        apply lex_fun (rfl : psAt _ _ = none)
        · intro x u hR hf
          clear hR hf
          go_simp
          first | exact ⟨rfl, Ext.refl _⟩ | rfl
        simp only [Act.put, List.setIfInBounds_toArray, List.set_cons_succ, List.set_cons_zero]
        apply lex_fun (rfl : psAt _ _ = none)
        · intro x u hR hf
          clear hR hf
          go_simp
          first | exact ⟨rfl, Ext.refl _⟩ | rfl
        simp only [Act.put, List.setIfInBounds_toArray, List.set_cons_succ, List.set_cons_zero]
        apply lex_fun (rfl : psAt _ _ = none)
        · intro x u hR hf
          clear hR hf
          go_simp
          first | exact ⟨rfl, Ext.refl _⟩ | rfl
        simp only [Act.put, List.setIfInBounds_toArray, List.set_cons_succ, List.set_cons_zero]
        apply lex_fun (rfl : psAt _ _ = none)
        · intro x u hR hf
          clear hR hf
          go_simp
          first | exact ⟨rfl, Ext.refl _⟩ | rfl
        simp only [Act.put, List.setIfInBounds_toArray, List.set_cons_succ, List.set_cons_zero]
        apply lex_fun (rfl : psAt _ _ = none)
        · intro x u hR hf
          clear hR hf
          go_simp
          first | exact ⟨rfl, Ext.refl _⟩ | rfl
        simp only [Act.put, List.setIfInBounds_toArray, List.set_cons_succ, List.set_cons_zero]
        apply lex_fun (rfl : psAt _ _ = none)
        · intro x u hR hf
          clear hR hf
          go_simp
          first | exact ⟨rfl, Ext.refl _⟩ | rfl
        simp only [Act.put, List.setIfInBounds_toArray, List.set_cons_succ, List.set_cons_zero]
        apply lex_fun (rfl : psAt _ _ = none)
        · intro x u hR hf
          clear hR hf
          go_simp
          first | exact ⟨rfl, Ext.refl _⟩ | rfl
        simp only [Act.put, List.setIfInBounds_toArray, List.set_cons_succ, List.set_cons_zero]
        apply lex_fun (rfl : psAt _ _ = none)
        · intro x u hR hf
          clear hR hf
          go_simp
          first | exact ⟨rfl, Ext.refl _⟩ | rfl
        simp only [Act.put, List.setIfInBounds_toArray, List.set_cons_succ, List.set_cons_zero]
        apply lex_fun (rfl : psAt _ _ = none)
        · intro x u hR hf
          clear hR hf
          go_simp
          first | exact ⟨rfl, Ext.refl _⟩ | rfl
        simp only [Act.put, List.setIfInBounds_toArray, List.set_cons_succ, List.set_cons_zero]
        refine lex_nil fun x' w6 hE hfacts => ?_
        clear hfacts x'
        have HX6 := hid (HX.out.trans hE)
        clear hwn hE hwm
        gi_wp2_with fail
        go_roundw
        case rel => exact ⟨1, HLT.out, by go_num, HX6⟩
        case measure => have := HLT.out; simp [intOf]; omega
      | succ j =>
        have hlt2 := hx2 (by omega)
        simp only [Nat.add_sub_cancel] at hlt2
        have hjl : j < xs.length := by omega
        obtain ⟨b', off', e9, _, hcell2⟩ := HC.out j hjl
        cases e9
        have HCL2 := hid (fun (u : World) (hu : Ext wr u) => ((HX.out.trans hu).cell (p := ⟨b, _, none⟩) hb).trans hcell2)
        have hji : (j : Int) < (xs.length : Int) := by omega
        have hyx : decide (xs[j + 1] ≤ xs[j]) = false := decide_eq_false (by omega)
        have hj6 : j ≤ 1000000 := by omega
        have hgt : decide ((j : Int) + 1 > 0) = true := decide_eq_true (by omega)
        have hki2 : (j : Int) + 1 < (xs.length : Int) := by omega
        have hwn : wrap64 ((n : Int) - 1) = (n : Int) - 1 := wrap_pred n hn
        have hwm : IntKind.i64.wrap ((n : Int) - 1) = (n : Int) - 1 := wrapk_pred n hn
        have hwj : IntKind.i64.wrap (j : Int) = (j : Int) := wrapk_nat j hj6
        have hwc : IntKind.i64.wrap ((j : Int) + 1 - 1) = (j : Int) := wrapk_back j hj6
        have hwb : wrap64 ((j : Int) + 1 - 1) = (j : Int) := wrap_back j hj6
        have hwx : wrap64 ((j : Int) + 1 + 1) = (j : Int) + 1 + 1 := wrap_next2 j hj6
        clear hx2 hcell hcell2 hb hbr hlt2 hki
        generalize xs[j] = y at *
        generalize xs[j + 1] = x at *
        gi_upto_region 4 with fail
        refine lex_wide 24 [] (by kernel_rfl) (by kernel_rfl) (nStab_nil) ?_
        simp only [List.take_succ_cons, List.take_zero, List.drop_succ_cons, List.drop_zero]
        apply lex_fun (rfl : psAt _ _ = none)
        · intro x u hR hf
          clear hR hf
          go_simp
          first | exact ⟨rfl, Ext.refl _⟩ | rfl
        simp only [Act.put, List.setIfInBounds_toArray, List.set_cons_succ, List.set_cons_zero]
        apply lex_fun (rfl : psAt _ _ = none)
        · intro x u hR hf
          clear hR hf
          go_simp
          first | exact ⟨rfl, Ext.refl _⟩ | rfl
        simp only [Act.put, List.setIfInBounds_toArray, List.set_cons_succ, List.set_cons_zero]
        apply lex_fun (rfl : psAt _ _ = none)
        · intro x u hR hf
          clear hR hf
          go_simp
          first | exact ⟨rfl, Ext.refl _⟩ | rfl
        simp only [Act.put, List.setIfInBounds_toArray, List.set_cons_succ, List.set_cons_zero]
        apply lex_fun (rfl : psAt _ _ = none)
        · intro x u hR hf
          have d0 := HCL.out u hR
          clear hR hf
          go_simp
          first | exact ⟨rfl, Ext.refl _⟩ | rfl
        simp only [Act.put, List.setIfInBounds_toArray, List.set_cons_succ, List.set_cons_zero]
        apply lex_fun (rfl : psAt _ _ = none)
        · intro x u hR hf
          clear hR hf
          go_simp
          first | exact ⟨rfl, Ext.refl _⟩ | rfl
        simp only [Act.put, List.setIfInBounds_toArray, List.set_cons_succ, List.set_cons_zero]
        apply lex_fun (rfl : psAt _ _ = none)
        · intro x u hR hf
          clear hR hf
          go_simp
          first | exact ⟨rfl, Ext.refl _⟩ | rfl
        simp only [Act.put, List.setIfInBounds_toArray, List.set_cons_succ, List.set_cons_zero]
        refine lex_fun (v := .bool true) (rfl : psAt _ _ = none) ?_ ?_
        · intro x u hR hf
          have hcal := hid (HI.out u)
          clear hR hf
          go_simp
          exact hcal.out.mono fun e w'' ⟨he, hx'⟩ => ⟨_, he, rfl, by subst hx'; exact Ext.refl _⟩
        simp only [Act.put, List.setIfInBounds_toArray, List.set_cons_succ, List.set_cons_zero]
        apply lex_fun (rfl : psAt _ _ = none)
        · intro x u hR hf
          clear hR hf
          go_simp
          first | exact ⟨rfl, Ext.refl _⟩ | rfl
        simp only [Act.put, List.setIfInBounds_toArray, List.set_cons_succ, List.set_cons_zero]
        apply lex_fun (rfl : psAt _ _ = none)
        · intro x u hR hf
          clear hR hf
          go_simp
          first | exact ⟨rfl, Ext.refl _⟩ | rfl
        simp only [Act.put, List.setIfInBounds_toArray, List.set_cons_succ, List.set_cons_zero]
        apply lex_fun (rfl : psAt _ _ = none)
        · intro x u hR hf
          clear hR hf
          go_simp
          first | exact ⟨rfl, Ext.refl _⟩ | rfl
        simp only [Act.put, List.setIfInBounds_toArray, List.set_cons_succ, List.set_cons_zero]
        apply lex_fun (rfl : psAt _ _ = none)
        · intro x u hR hf
          clear hR hf
          go_simp
          first | exact ⟨rfl, Ext.refl _⟩ | rfl
        simp only [Act.put, List.setIfInBounds_toArray, List.set_cons_succ, List.set_cons_zero]
        apply lex_fun (rfl : psAt _ _ = none)
        · intro x u hR hf
          clear hR hf
          go_simp
          first | exact ⟨rfl, Ext.refl _⟩ | rfl
        simp only [Act.put, List.setIfInBounds_toArray, List.set_cons_succ, List.set_cons_zero]
        apply lex_fun (rfl : psAt _ _ = none)
        · intro x u hR hf
          clear hR hf
          go_simp
          first | exact ⟨rfl, Ext.refl _⟩ | rfl
        simp only [Act.put, List.setIfInBounds_toArray, List.set_cons_succ, List.set_cons_zero]
        apply lex_fun (rfl : psAt _ _ = none)
        · intro x u hR hf
          clear hR hf
          go_simp
          first | exact ⟨rfl, Ext.refl _⟩ | rfl
        simp only [Act.put, List.setIfInBounds_toArray, List.set_cons_succ, List.set_cons_zero]
        apply lex_fun (rfl : psAt _ _ = none)
        · intro x u hR hf
          clear hR hf
          go_simp
          first | exact ⟨rfl, Ext.refl _⟩ | rfl
        simp only [Act.put, List.setIfInBounds_toArray, List.set_cons_succ, List.set_cons_zero]
        apply lex_fun (rfl : psAt _ _ = none)
        · intro x u hR hf
          have d0 := HCL.out u hR
          clear hR hf
          go_simp
          first | exact ⟨rfl, Ext.refl _⟩ | rfl
        simp only [Act.put, List.setIfInBounds_toArray, List.set_cons_succ, List.set_cons_zero]
        apply lex_fun (rfl : psAt _ _ = none)
        · intro x u hR hf
          clear hR hf
          go_simp
          first | exact ⟨rfl, Ext.refl _⟩ | rfl
        simp only [Act.put, List.setIfInBounds_toArray, List.set_cons_succ, List.set_cons_zero]
        apply lex_fun (rfl : psAt _ _ = none)
        · intro x u hR hf
          clear hR hf
          go_simp
          first | exact ⟨rfl, Ext.refl _⟩ | rfl
        simp only [Act.put, List.setIfInBounds_toArray, List.set_cons_succ, List.set_cons_zero]
        apply lex_fun (rfl : psAt _ _ = none)
        · intro x u hR hf
          clear hR hf
          go_simp
          first | exact ⟨rfl, Ext.refl _⟩ | rfl
        simp only [Act.put, List.setIfInBounds_toArray, List.set_cons_succ, List.set_cons_zero]
        apply lex_fun (rfl : psAt _ _ = none)
        · intro x u hR hf
          clear hR hf
          go_simp
          first | exact ⟨rfl, Ext.refl _⟩ | rfl
        simp only [Act.put, List.setIfInBounds_toArray, List.set_cons_succ, List.set_cons_zero]
        apply lex_fun (rfl : psAt _ _ = none)
        · intro x u hR hf
          have d0 := HCL2.out u hR
          clear hR hf
          go_simp
          first | exact ⟨rfl, Ext.refl _⟩ | rfl
        simp only [Act.put, List.setIfInBounds_toArray, List.set_cons_succ, List.set_cons_zero]
        apply lex_fun (rfl : psAt _ _ = none)
        · intro x u hR hf
          clear hR hf
          go_simp
          first | exact ⟨rfl, Ext.refl _⟩ | rfl
        simp only [Act.put, List.setIfInBounds_toArray, List.set_cons_succ, List.set_cons_zero]
        apply lex_fun (rfl : psAt _ _ = none)
        · intro x u hR hf
          clear hR hf
          go_simp
          first | exact ⟨rfl, Ext.refl _⟩ | rfl
        simp only [Act.put, List.setIfInBounds_toArray, List.set_cons_succ, List.set_cons_zero]
        apply lex_fun (rfl : psAt _ _ = none)
        · intro x u hR hf
          clear hR hf
          go_simp
          first | exact ⟨rfl, Ext.refl _⟩ | rfl
        simp only [Act.put, List.setIfInBounds_toArray, List.set_cons_succ, List.set_cons_zero]
        refine lex_nil fun x' w6 hE hfacts => ?_
        clear hfacts x'
        have HX6 := hid (HX.out.trans hE)
        clear hwn hE hwb hgt hwm hwc hwj
        gi_wp2_with fail
        go_roundw
        case rel => exact ⟨j + 1 + 1, HLT.out, by go_num, HX6⟩
        case measure => have := HLT.out; simp [intOf]; omega
    · obtain rfl : k = xs.length := by omega
      have hki : ¬ (xs.length : Int) < (xs.length : Int) := by omega
      gi_wp2_with fail
      go_ret
      exact ⟨rfl, HX.out⟩

end Go.Proofs.YtjocoadhalimjaaGreat
