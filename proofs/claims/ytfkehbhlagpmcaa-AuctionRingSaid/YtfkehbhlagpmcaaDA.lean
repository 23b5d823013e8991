/- Comparisons of lists; the laws' own sale and baskets. -/
import Derived.Test.YtfkehbhlagpmcaaCX
set_option linter.unusedSimpArgs false
set_option linter.unusedVariables false
namespace Go.Proofs.Ytfkehbhlagpmcaa
open Go Go.RowKit Go.Shelf
open Au
set_option maxRecDepth 100000 in
set_option maxHeartbeats 4000000 in
theorem same_any (v u : Value) (xs ys : List Int) (w : World) (hv : IntsAt w v xs) (hu : IntsAt w u ys) (hl : xs.length ≤ 1000000000) : Cal 29 #[v, u] w fun e w' => e = .returned (.bool (decide (xs = ys))) ∧ Ext w w' := by
  obtain ⟨a, cap, rfl, ⟨hcap, hlen⟩, hc⟩ := hv
  obtain ⟨a', cap', rfl, ⟨hcap', hlen'⟩, hc'⟩ := hu
  have HC := hid hc
  have HC' := hid hc'
  clear hc hc'
  by_cases hxy : xs.length = ys.length
  · have hli : (xs.length : Int) = (ys.length : Int) := by omega
    have hli2 : ((xs.length : Int) != (ys.length : Int)) = false := by simpa using hli
    have HXY := hid hxy
    clear hxy hli
    gi_enter Try.func29, Try.ntmps29
    gi_wp2
    gi_loopw [5] (fun i wr => ∃ k : Nat, k ≤ xs.length ∧ i = .int .i64 k ∧ Hid (Ext w wr ∧ ∀ j, j < k → xs.getD j 0 = ys.getD j 0)) (fun i _ => xs.length - (intOf i).toNat)
    case atStart => exact ⟨0, Nat.zero_le _, rfl, hid ⟨Ext.refl _, fun _ h => absurd h (by omega)⟩⟩
    case round =>
      obtain ⟨k, hk, rfl, HI⟩ := hrel
      by_cases hlt : k < xs.length
      · have hlt2 : k < ys.length := by have := HXY.out; omega
        obtain ⟨b, off, rfl, hbb, hck⟩ := HC.out k hlt
        obtain ⟨b', off', rfl, hbb', hck'⟩ := HC'.out k hlt2
        have HX := hid HI.out.1
        have HG1 := hid (getD_of (d := (0 : Int)) hlt)
        have HG2 := hid (getD_of (d := (0 : Int)) hlt2)
        have HK := hid hck
        have HK' := hid hck'
        have HBB := hid hbb
        have HBB' := hid hbb'
        have hki : (k : Int) < (xs.length : Int) := by omega
        have hki2 : (k : Int) < (ys.length : Int) := by omega
        generalize xs[k] = x at *
        generalize ys[k] = y at *
        clear hck hck' hbb hbb'
        gi_upto_region 6 with fail
        refine lex_wide 9 [] (by kernel_rfl) (by kernel_rfl) nStab_nil ?_
        simp only [List.take_succ_cons, List.take_zero, List.drop_succ_cons, List.drop_zero]
        apply lex_fun (rfl : psAt _ _ = none)
        · intro x u hR hf
          clear hR hf
          go_simp
          first | exact ⟨rfl, Ext.refl _⟩ | rfl
        simp only [Act.put, List.setIfInBounds_toArray, List.set_cons_succ, List.set_cons_zero]
        apply lex_fun (rfl : psAt _ _ = none)
        · intro x u hR hf
          clear hR hf
          go_simp
          first | exact ⟨rfl, Ext.refl _⟩ | rfl
        simp only [Act.put, List.setIfInBounds_toArray, List.set_cons_succ, List.set_cons_zero]
        apply lex_fun (rfl : psAt _ _ = none)
        · intro x u hR hf
          clear hR hf
          go_simp
          first | exact ⟨rfl, Ext.refl _⟩ | rfl
        simp only [Act.put, List.setIfInBounds_toArray, List.set_cons_succ, List.set_cons_zero]
        apply lex_fun (rfl : psAt _ _ = none)
        · intro x u hR hf
          have c0 := HK.out
          rw [← (HX.out.trans hR).cell (p := ⟨b, _, none⟩) HBB.out] at c0
          clear hR hf
          go_simp
          first | exact ⟨rfl, Ext.refl _⟩ | rfl
        simp only [Act.put, List.setIfInBounds_toArray, List.set_cons_succ, List.set_cons_zero]
        apply lex_fun (rfl : psAt _ _ = none)
        · intro x u hR hf
          clear hR hf
          go_simp
          first | exact ⟨rfl, Ext.refl _⟩ | rfl
        simp only [Act.put, List.setIfInBounds_toArray, List.set_cons_succ, List.set_cons_zero]
        apply lex_fun (rfl : psAt _ _ = none)
        · intro x u hR hf
          clear hR hf
          go_simp
          first | exact ⟨rfl, Ext.refl _⟩ | rfl
        simp only [Act.put, List.setIfInBounds_toArray, List.set_cons_succ, List.set_cons_zero]
        apply lex_fun (rfl : psAt _ _ = none)
        · intro x u hR hf
          clear hR hf
          go_simp
          first | exact ⟨rfl, Ext.refl _⟩ | rfl
        simp only [Act.put, List.setIfInBounds_toArray, List.set_cons_succ, List.set_cons_zero]
        apply lex_fun (rfl : psAt _ _ = none)
        · intro x u hR hf
          have c0 := HK'.out
          rw [← (HX.out.trans hR).cell (p := ⟨b', _, none⟩) HBB'.out] at c0
          clear hR hf
          go_simp
          first | exact ⟨rfl, Ext.refl _⟩ | rfl
        simp only [Act.put, List.setIfInBounds_toArray, List.set_cons_succ, List.set_cons_zero]
        apply lex_fun (rfl : psAt _ _ = none)
        · intro x u hR hf
          clear hR hf
          go_simp
          first | exact ⟨rfl, Ext.refl _⟩ | rfl
        simp only [Act.put, List.setIfInBounds_toArray, List.set_cons_succ, List.set_cons_zero]
        refine lex_nil fun x9 w6 hE hfacts => ?_
        clear hfacts x9
        have HY := hid hE
        clear hE
        by_cases hxy : x = y
        · have HN : Hid (Ext w w6 ∧ ∀ j, j < k + 1 → xs.getD j 0 = ys.getD j 0) := hid ⟨HX.out.trans HY.out, fun j hj => by
            by_cases hjk : j < k
            · exact HI.out.2 j hjk
            · have : j = k := by omega
              subst this
              rw [HG1.out, HG2.out]; exact hxy⟩
          have hne : (x != y) = false := by simpa using hxy
          clear hxy
          gi_wp2
          go_roundw
          case rel => exact ⟨k + 1, by omega, by go_num, HN⟩
          case measure => simp [intOf]; omega
        · have HF : Hid (decide (xs = ys) = false) := hid (decide_eq_false fun h => hxy (by rw [← HG1.out, ← HG2.out, h]))
          have hne : (x != y) = true := by simpa using hxy
          clear hxy
          gi_wp2
          go_ret
          exact ⟨by rw [HF.out]; rfl, HX.out.trans HY.out⟩
      · obtain rfl : k = xs.length := by omega
        have HT : Hid (decide (xs = ys) = true) := hid (decide_eq_true (List.ext_getElem HXY.out fun i h1 h2 => by
          have := HI.out.2 i h1
          rwa [getD_of h1, getD_of h2] at this))
        have HX := hid HI.out.1
        clear HI
        gi_wp2
        go_ret
        exact ⟨by rw [HT.out]; rfl, HX.out⟩
  · have hli : ((xs.length : Int) != (ys.length : Int)) = true := by simp; omega
    have HF : Hid (decide (xs = ys) = false) := hid (decide_eq_false fun h => hxy (by rw [h]))
    clear hxy
    gi_enter Try.func29, Try.ntmps29
    gi_wp2
    go_ret
    exact ⟨by rw [HF.out]; rfl, Ext.refl _⟩
theorem eq_dl (a b c d : Int) (w : World) : (Op.equalIn 10000 50 (.agg #[.int .i64 a, .int .i64 b]) (.agg #[.int .i64 c, .int .i64 d])).run Try.prog w = .ok (a == c && b == d) w := by
  simp [go_sem]
  by_cases h1 : a = c <;> by_cases h2 : b = d <;> simp [h1, h2]
set_option maxRecDepth 100000 in
set_option maxHeartbeats 4000000 in
theorem sameD_any (v u : Value) (xs ys : List Dl) (w : World) (hv : DealsAt w v xs) (hu : DealsAt w u ys) (hl : xs.length ≤ 1000000000) : Cal 17 #[v, u] w fun e w' => e = .returned (.bool (decide (xs = ys))) ∧ Ext w w' := by
  obtain ⟨a, cap, rfl, ⟨hcap, hlen⟩, hc⟩ := hv
  obtain ⟨a', cap', rfl, ⟨hcap', hlen'⟩, hc'⟩ := hu
  have HC := hid hc
  have HC' := hid hc'
  clear hc hc'
  by_cases hxy : xs.length = ys.length
  · have hli : ((xs.length : Int) == (ys.length : Int)) = true := by simp; omega
    have HXY := hid hxy
    clear hxy
    gi_enter Try.func17, Try.ntmps17
    gi_wp2
    gi_loopw [5, 6] (fun ok i wr => ∃ k : Nat, k ≤ xs.length ∧ i = .int .i64 k ∧ Hid (Ext w wr) ∧ ((ok = .bool true ∧ Hid (∀ j, j < k → xs.getD j noDl = ys.getD j noDl)) ∨ (ok = .bool false ∧ Hid (decide (xs = ys) = false)))) (fun _ i _ => xs.length + 1 - (intOf i).toNat)
    case atStart =>
      refine ⟨0, Nat.zero_le _, rfl, hid (Ext.refl _), .inl ⟨?_, hid fun _ h => absurd h (by omega)⟩⟩
      first | rfl | (rw [hli]) | simp [hli]
    case round =>
      obtain ⟨k, hk, rfl, HX, ⟨rfl, HI⟩ | ⟨rfl, HI⟩⟩ := hrel
      · by_cases hlt : k < xs.length
        · have hlt2 : k < ys.length := by have := HXY.out; omega
          obtain ⟨b, off, rfl, hbb, hck, hck2⟩ := HC.out k hlt
          obtain ⟨b', off', rfl, hbb', hck', hck2'⟩ := HC'.out k hlt2
          have HG1 := hid (getD_of (d := noDl) hlt)
          have HG2 := hid (getD_of (d := noDl) hlt2)
          have hki : (k : Int) < (xs.length : Int) := by omega
          have hki2 : (k : Int) < (ys.length : Int) := by omega
          generalize xs[k] = x at *
          generalize ys[k] = y at *
          obtain ⟨x1, x2⟩ := x
          obtain ⟨y1, y2⟩ := y
          have HK := hid (And.intro hck hck2)
          have HK' := hid (And.intro hck' hck2')
          have HBB := hid hbb
          have HBB' := hid hbb'
          have HQ := hid (eq_dl x1 x2 y1 y2)
          clear hck hck' hbb hbb' hck2 hck2'
          simp only at HK HK'
          gi_upto_region 5 with fail
          refine lex_wide 10 [] (by kernel_rfl) (by kernel_rfl) nStab_nil ?_
          simp only [List.take_succ_cons, List.take_zero, List.drop_succ_cons, List.drop_zero]
          apply lex_fun (rfl : psAt _ _ = none)
          · intro x u hR hf
            clear hR hf
            go_simp
            first | exact ⟨rfl, Ext.refl _⟩ | rfl
          simp only [Act.put, List.setIfInBounds_toArray, List.set_cons_succ, List.set_cons_zero]
          apply lex_fun (rfl : psAt _ _ = none)
          · intro x u hR hf
            clear hR hf
            go_simp
            first | exact ⟨rfl, Ext.refl _⟩ | rfl
          simp only [Act.put, List.setIfInBounds_toArray, List.set_cons_succ, List.set_cons_zero]
          apply lex_fun (rfl : psAt _ _ = none)
          · intro x u hR hf
            clear hR hf
            go_simp
            first | exact ⟨rfl, Ext.refl _⟩ | rfl
          simp only [Act.put, List.setIfInBounds_toArray, List.set_cons_succ, List.set_cons_zero]
          apply lex_fun (rfl : psAt _ _ = none)
          · intro x u hR hf
            have c0 := HK.out.1
            have c1 := HK.out.2
            rw [← (HX.out.trans hR).cell (p := ⟨b, _, none⟩) HBB.out] at c0 c1
            clear hR hf
            go_simp
            first | exact ⟨rfl, Ext.refl _⟩ | rfl
          simp only [Act.put, List.setIfInBounds_toArray, List.set_cons_succ, List.set_cons_zero]
          apply lex_fun (rfl : psAt _ _ = none)
          · intro x u hR hf
            clear hR hf
            go_simp
            first | exact ⟨rfl, Ext.refl _⟩ | rfl
          simp only [Act.put, List.setIfInBounds_toArray, List.set_cons_succ, List.set_cons_zero]
          apply lex_fun (rfl : psAt _ _ = none)
          · intro x u hR hf
            clear hR hf
            go_simp
            first | exact ⟨rfl, Ext.refl _⟩ | rfl
          simp only [Act.put, List.setIfInBounds_toArray, List.set_cons_succ, List.set_cons_zero]
          apply lex_fun (rfl : psAt _ _ = none)
          · intro x u hR hf
            clear hR hf
            go_simp
            first | exact ⟨rfl, Ext.refl _⟩ | rfl
          simp only [Act.put, List.setIfInBounds_toArray, List.set_cons_succ, List.set_cons_zero]
          apply lex_fun (rfl : psAt _ _ = none)
          · intro x u hR hf
            have c0 := HK'.out.1
            have c1 := HK'.out.2
            rw [← (HX.out.trans hR).cell (p := ⟨b', _, none⟩) HBB'.out] at c0 c1
            clear hR hf
            go_simp
            first | exact ⟨rfl, Ext.refl _⟩ | rfl
          simp only [Act.put, List.setIfInBounds_toArray, List.set_cons_succ, List.set_cons_zero]
          apply lex_fun (rfl : psAt _ _ = none)
          · intro x u hR hf
            have hq := HQ.out
            clear hR hf
            go_simp
            first | exact ⟨rfl, Ext.refl _⟩ | rfl
          simp only [Act.put, List.setIfInBounds_toArray, List.set_cons_succ, List.set_cons_zero]
          apply lex_fun (rfl : psAt _ _ = none)
          · intro x u hR hf
            clear hR hf
            go_simp
            first | exact ⟨rfl, Ext.refl _⟩ | rfl
          simp only [Act.put, List.setIfInBounds_toArray, List.set_cons_succ, List.set_cons_zero]
          refine lex_nil fun x9 w6 hE hfacts => ?_
          clear hfacts x9
          have HY := hid (HX.out.trans hE)
          clear hE
          cases hq : (x1 == y1 && x2 == y2) with
          | true =>
            have HN : Hid (∀ j, j < k + 1 → xs.getD j noDl = ys.getD j noDl) := hid fun j hj => by
              by_cases hjk : j < k
              · exact HI.out j hjk
              · have : j = k := by omega
                subst this
                rw [HG1.out, HG2.out]
                simp at hq; rw [hq.1, hq.2]
            gi_wp2
            go_roundw
            case rel => exact ⟨k + 1, by omega, by go_num, HY, .inl ⟨by first | rfl | rw [hq], HN⟩⟩
            case measure => simp [intOf]; omega
          | false =>
            have HF : Hid (decide (xs = ys) = false) := hid (decide_eq_false fun h => by
              have : xs.getD k noDl = ys.getD k noDl := by rw [h]
              rw [HG1.out, HG2.out] at this
              cases this
              simp at hq)
            gi_wp2
            go_roundw
            case rel => exact ⟨k + 1, by omega, by go_num, HY, .inr ⟨by first | rfl | rw [hq], HF⟩⟩
            case measure => simp [intOf]; omega
        · obtain rfl : k = xs.length := by omega
          have HT : Hid (decide (xs = ys) = true) := hid (decide_eq_true (List.ext_getElem HXY.out fun i h1 h2 => by
            have := HI.out i h1
            rwa [getD_of h1, getD_of h2] at this))
          clear HI
          gi_wp2
          go_ret
          exact ⟨by rw [HT.out]; rfl, HX.out⟩
      · gi_wp2
        go_ret
        exact ⟨by rw [HI.out]; rfl, HX.out⟩
  · have hli : ((xs.length : Int) == (ys.length : Int)) = false := by simp; omega
    have HF : Hid (decide (xs = ys) = false) := hid (decide_eq_false fun h => hxy (by rw [h]))
    clear hxy
    gi_enter Try.func17, Try.ntmps17
    gi_wp2
    gi_loopw [5] (fun ok wr => ok = .bool false ∧ Hid (Ext w wr)) (fun _ _ => 0)
    case atStart => exact ⟨by first | rfl | rw [hli], hid (Ext.refl _)⟩
    case round =>
      obtain ⟨rfl, HX⟩ := hrel
      gi_wp2
      go_ret
      exact ⟨by rw [HF.out]; rfl, HX.out⟩

end Go.Proofs.Ytfkehbhlagpmcaa
