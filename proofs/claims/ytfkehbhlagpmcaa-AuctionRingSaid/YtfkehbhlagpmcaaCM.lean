/- What a buyer pays; what they gain. -/
import Derived.Test.YtfkehbhlagpmcaaCL
set_option linter.unusedSimpArgs false
set_option linter.unusedVariables false
namespace Go.Proofs.Ytfkehbhlagpmcaa
open Go Go.RowKit Go.Shelf
open Au
theorem lost_offer {s : Sal} (ho : Ok s) {i : Nat} {b : Bd} (hb : b ∈ lost s i) : 0 ≤ b.offer ∧ b.offer ≤ 10000 := offer_nonneg ho (lost_mem hb)
theorem lost_length {s : Sal} (ho : Ok s) (i : Nat) : (lost s i).length ≤ 40 := by
  have h1 := lost_le ho i
  have h2 := (wn_length ho).2.1
  have h3 : gets s i ≤ (wn s).length := List.countP_le_length
  omega
theorem gets_le {s : Sal} (ho : Ok s) (i : Nat) : gets s i ≤ 40 := by
  have h2 := (wn_length ho).2.1
  have h3 : gets s i ≤ (wn s).length := List.countP_le_length
  omega
theorem pays_bound {s : Sal} (ho : Ok s) (i : Nat) : 0 ≤ pays s i ∧ pays s i ≤ 400000 := by
  have h1 := pays_in ho i
  have h2 := gets_le ho i
  have h3 : 0 ≤ s.least * (gets s i : Int) := Int.mul_nonneg ho.least.1 (by omega)
  have h4 : own s i ≤ 400000 := by
    unfold own
    have := sum_within (M := 10000) (by omega) ((s.of i).take (gets s i)) (fun x hx => by
      obtain ⟨j, hj, rfl⟩ := List.getElem_of_mem (List.mem_of_mem_take hx)
      have := (ho.fall i).low j hj
      rw [getD_of hj] at this; omega)
    have h5 : ((s.of i).take (gets s i)).length ≤ 40 := by rw [List.length_take]; omega
    omega
  omega
set_option maxRecDepth 100000 in
set_option maxHeartbeats 4000000 in
theorem pays_any (v : Value) (s : Sal) (i : Nat) (w : World) (hv : ListsAt w v s.offers) (ho : Ok s) (hi : i < s.offers.length) :
    Cal 71 #[saleW s v, .int .i64 (i : Int)] w fun e w' => e = .returned (.int .i64 (pays s i)) ∧ Ext w w' := by
  have HW := hid (fun (u : World) (hu : Ext w u) => lost_any v s i u (hv.mono hu) ho hi)
  have HG := hid (fun (u : World) (hu : Ext w u) => gets_any v s i u (hv.mono hu) ho)
  have HS := hid (fun (r : Value) (u : World) (hr : BidsAt u r (lost s i)) => sumB_any r (lost s i) u hr (fun b hb => by have := lost_offer ho hb; omega) (by have := lost_length ho i; omega))
  have hl := lost_length ho i
  have hg := gets_le ho i
  have hle := ho.least
  have hsb := sumO_bound (m := 10000) (n := 0) (l := lost s i) fun b hb => lost_offer ho hb
  have hm := mul_small hle (m := 40) (b := (gets s i : Int) - ((lost s i).length : Int)) (by omega)
  have HE : Hid (pays s i = sumO (lost s i) + s.least * ((gets s i : Int) - ((lost s i).length : Int))) := hid rfl
  have W1 := hid (wrap_small (x := (gets s i : Int) - ((lost s i).length : Int)) (by omega))
  have W2 := hid (wrap_small (x := s.least * ((gets s i : Int) - ((lost s i).length : Int))) (by omega))
  have W3 := hid (wrap_small (x := sumO (lost s i) + s.least * ((gets s i : Int) - ((lost s i).length : Int))) (by omega))
  obtain ⟨a, cap, rfl, ⟨hcap, hlen⟩, _⟩ := hv
  unfold saleW at *
  clear ho hl hm hsb hg hi
  generalize lost s i = l at *
  generalize gets s i = G at *
  gi_enter Try.func71, Try.ntmps71
  gi_wp2_with (gi_at_call 88; ((with_reducible refine (HW.out _ ((Ext.refl _).alloc _)).mono ?_); rintro e w1 ⟨r, rfl, hx1, hr⟩; have HR := hid hr; obtain ⟨a2, cap2, rfl, _, _⟩ := hr; have HB := hid (hx1.block (Ext.new (Ext.refl _))); have HX := hid (((Ext.refl w).alloc _).trans hx1); clear hx1))
  refine lex_wide 14 [] (by kernel_rfl) (by kernel_rfl) nStab_nil ?_
  simp only [List.take_succ_cons, List.take_zero, List.drop_succ_cons, List.drop_zero]
  apply lex_fun (rfl : psAt _ _ = none)
  · intro x u hR hf
    clear hR hf
    go_simp
    first | exact ⟨rfl, Ext.refl _⟩ | rfl
  simp only [Act.put, List.setIfInBounds_toArray, List.set_cons_succ, List.set_cons_zero]
  refine lex_fun (v := .int .i64 (sumO l)) (rfl : psAt _ _ = none) ?_ ?_
  · intro x u hR hf
    have hcal := hid (HS.out _ u (HR.out.mono hR))
    clear hR hf
    go_simp
    exact hcal.out.mono fun e w'' ⟨he, hx'⟩ => ⟨_, he, rfl, hx'⟩
  simp only [Act.put, List.setIfInBounds_toArray, List.set_cons_succ, List.set_cons_zero]
  apply lex_fun (rfl : psAt _ _ = none)
  · intro x u hR hf
    clear hR hf
    go_simp
    first | exact ⟨rfl, Ext.refl _⟩ | rfl
  simp only [Act.put, List.setIfInBounds_toArray, List.set_cons_succ, List.set_cons_zero]
  apply lex_fun (rfl : psAt _ _ = none)
  · intro x u hR hf
    clear hR hf
    go_simp
    first | exact ⟨rfl, Ext.refl _⟩ | rfl
  simp only [Act.put, List.setIfInBounds_toArray, List.set_cons_succ, List.set_cons_zero]
  apply lex_fun (rfl : psAt _ _ = none)
  · intro x u hR hf
    have c0 := cell_of (hR.block HB.out)
    clear hR hf
    go_simp
    first | exact ⟨rfl, Ext.refl _⟩ | rfl
  simp only [Act.put, List.setIfInBounds_toArray, List.set_cons_succ, List.set_cons_zero]
  apply lex_fun (rfl : psAt _ _ = none)
  · intro x u hR hf
    have c0 := cell_of (hR.block HB.out)
    clear hR hf
    go_simp
    first | exact ⟨rfl, Ext.refl _⟩ | rfl
  simp only [Act.put, List.setIfInBounds_toArray, List.set_cons_succ, List.set_cons_zero]
  apply lex_fun (rfl : psAt _ _ = none)
  · intro x u hR hf
    clear hR hf
    go_simp
    first | exact ⟨rfl, Ext.refl _⟩ | rfl
  simp only [Act.put, List.setIfInBounds_toArray, List.set_cons_succ, List.set_cons_zero]
  refine lex_fun (v := .int .i64 (G : Int)) (rfl : psAt _ _ = none) ?_ ?_
  · intro x u hR hf
    have hcal := hid (HG.out u (HX.out.trans hR))
    clear hR hf
    go_simp
    exact hcal.out.mono fun e w'' ⟨he, hx'⟩ => ⟨_, he, rfl, hx'⟩
  simp only [Act.put, List.setIfInBounds_toArray, List.set_cons_succ, List.set_cons_zero]
  apply lex_fun (rfl : psAt _ _ = none)
  · intro x u hR hf
    clear hR hf
    go_simp
    first | exact ⟨rfl, Ext.refl _⟩ | rfl
  simp only [Act.put, List.setIfInBounds_toArray, List.set_cons_succ, List.set_cons_zero]
  apply lex_fun (rfl : psAt _ _ = none)
  · intro x u hR hf
    clear hR hf
    go_simp
    first | exact ⟨rfl, Ext.refl _⟩ | rfl
  simp only [Act.put, List.setIfInBounds_toArray, List.set_cons_succ, List.set_cons_zero]
  apply lex_fun (rfl : psAt _ _ = none)
  · intro x u hR hf
    have hw := W1.out
    clear hR hf
    go_simp
    first | exact ⟨rfl, Ext.refl _⟩ | rfl
  simp only [Act.put, List.setIfInBounds_toArray, List.set_cons_succ, List.set_cons_zero]
  apply lex_fun (rfl : psAt _ _ = none)
  · intro x u hR hf
    have hw := W2.out
    clear hR hf
    go_simp
    first | exact ⟨rfl, Ext.refl _⟩ | rfl
  simp only [Act.put, List.setIfInBounds_toArray, List.set_cons_succ, List.set_cons_zero]
  apply lex_fun (rfl : psAt _ _ = none)
  · intro x u hR hf
    have hw := W3.out
    clear hR hf
    go_simp
    first | exact ⟨rfl, Ext.refl _⟩ | rfl
  simp only [Act.put, List.setIfInBounds_toArray, List.set_cons_succ, List.set_cons_zero]
  apply lex_fun (rfl : psAt _ _ = none)
  · intro x u hR hf
    clear hR hf
    go_simp
    first | exact ⟨rfl, Ext.refl _⟩ | rfl
  simp only [Act.put, List.setIfInBounds_toArray, List.set_cons_succ, List.set_cons_zero]
  refine lex_nil fun x w6 hE hfacts => ?_
  clear hfacts x
  have HY := hid hE
  clear hE
  gi_wp2
  go_ret
  exact ⟨by rw [HE.out]; rfl, HX.out.trans HY.out⟩
theorem IntsAt.take {w : World} {a : Option Addr} {n cap : Nat} {xs : List Int} (h : IntsAt w (.slice a n cap) xs) {N : Nat} (hN : N ≤ xs.length) : IntsAt w (.slice a N N) (xs.take N) := by
  obtain ⟨a', cap', e, hl, hc⟩ := h
  cases e
  have hlen : (xs.take N).length = N := by rw [List.length_take]; omega
  refine ⟨a, N, by rw [hlen], by rw [hlen]; omega, fun i hi => ?_⟩
  rw [hlen] at hi
  obtain ⟨b, off, ha, hb, h0⟩ := hc i (by omega)
  exact ⟨b, off, ha, hb, by rw [List.getElem_take]; exact h0⟩
theorem fall_mem {l : List Int} (h : Fall l) : ∀ x ∈ l, 0 ≤ x ∧ x ≤ 10000 := fun x hx => by
  obtain ⟨j, hj, rfl⟩ := List.getElem_of_mem hx
  have := h.low j hj
  rwa [getD_of hj] at this
set_option maxRecDepth 100000 in
set_option maxHeartbeats 4000000 in
theorem gain_any (v : Value) (s : Sal) (i : Nat) (wv : Value) (wl : List Int) (w : World) (hv : ListsAt w v s.offers) (ho : Ok s) (hi : i < s.offers.length) (hwv : IntsAt w wv wl) (hf : Fall wl) :
    Cal 55 #[saleW s v, .int .i64 (i : Int), wv] w fun e w' => e = .returned (.int .i64 (gain s i wl)) ∧ Ext w w' := by
  have HG := hid (fun (u : World) (hu : Ext w u) => gets_any v s i u (hv.mono hu) ho)
  have HP := hid (fun (u : World) (hu : Ext w u) => pays_any v s i u (hv.mono hu) ho hi)
  have hpb := pays_bound ho i
  have hmem := fall_mem hf
  have hN : min (gets s i) wl.length ≤ wl.length := Nat.min_le_right _ _
  have htk : wl.take (gets s i) = wl.take (min (gets s i) wl.length) := by rw [List.take_eq_take_iff]; omega
  have HE : Hid (gain s i wl = (wl.take (min (gets s i) wl.length)).sum - pays s i) := hid (by unfold gain; rw [htk])
  have HMN : Hid (min (gets s i : Int) (wl.length : Int) = ((min (gets s i) wl.length : Nat) : Int)) := hid (by omega)
  obtain ⟨aw, cw, rfl, ⟨hcw, hlw⟩, _⟩ := id hwv
  have HI := hid (fun (u : World) (hu : Ext w u) => (hwv.mono hu).take hN)
  have hsb := sum_within (M := 10000) (by omega) (wl.take (min (gets s i) wl.length)) (fun x hx => by have := hmem x (List.mem_of_mem_take hx); omega)
  have hln : (wl.take (min (gets s i) wl.length)).length ≤ 40 := by rw [List.length_take]; have := hf.len; omega
  have HS := hid (fun (r : Value) (u : World) (hr : IntsAt u r (wl.take (min (gets s i) wl.length))) => sumI_any r _ u hr (fun x hx => by have := hmem x (List.mem_of_mem_take hx); omega) (by omega))
  have W1 := hid (wrap_small (x := (wl.take (min (gets s i) wl.length)).sum - pays s i) (by omega))
  generalize hSS : (wl.take (min (gets s i) wl.length)).sum = S at *
  generalize hLL : wl.take (min (gets s i) wl.length) = L at *
  generalize min (gets s i) wl.length = N at *
  obtain ⟨a, cap, rfl, ⟨hcap, hlen⟩, _⟩ := hv
  unfold saleW at *
  generalize pays s i = P at *
  generalize gets s i = G at *
  clear ho hwv hf hmem htk hsb hln hpb hi hSS hLL
  gi_enter Try.func55, Try.ntmps55
  gi_upto_region 2 with (gi_at_call 70; ((with_reducible refine (HG.out _ ((Ext.refl _).alloc _)).mono ?_); rintro e w1 ⟨rfl, hx1⟩; have HB := hid (hx1.block (Ext.new (Ext.refl _))); have HX := hid (((Ext.refl w).alloc _).trans hx1); clear hx1))
  rw [HMN.out]
  have hNc : N ≤ cw := by omega
  clear HMN HG
  refine lex_wide 10 [] (by kernel_rfl) (by kernel_rfl) nStab_nil ?_
  simp only [List.take_succ_cons, List.take_zero, List.drop_succ_cons, List.drop_zero]
  apply lex_fun (rfl : psAt _ _ = none)
  · intro x u hR hf
    clear hR hf
    go_simp
    first | exact ⟨rfl, Ext.refl _⟩ | rfl
  simp only [Act.put, List.setIfInBounds_toArray, List.set_cons_succ, List.set_cons_zero]
  apply lex_fun (rfl : psAt _ _ = none)
  · intro x u hR hf
    clear hR hf
    go_simp
    first | exact ⟨rfl, Ext.refl _⟩ | rfl
  simp only [Act.put, List.setIfInBounds_toArray, List.set_cons_succ, List.set_cons_zero]
  apply lex_fun (rfl : psAt _ _ = none)
  · intro x u hR hf
    clear hR hf
    go_simp
    first | exact ⟨rfl, Ext.refl _⟩ | rfl
  simp only [Act.put, List.setIfInBounds_toArray, List.set_cons_succ, List.set_cons_zero]
  apply lex_fun (rfl : psAt _ _ = none)
  · intro x u hR hf
    clear hR hf
    go_simp
    first | exact ⟨rfl, Ext.refl _⟩ | rfl
  simp only [Act.put, List.setIfInBounds_toArray, List.set_cons_succ, List.set_cons_zero]
  refine lex_fun (v := .int .i64 S) (rfl : psAt _ _ = none) ?_ ?_
  · intro x u hR hf
    have hcal := hid (HS.out _ u (HI.out u (HX.out.trans hR)))
    clear hR hf
    go_simp
    exact hcal.out.mono fun e w'' ⟨he, hx'⟩ => ⟨_, he, rfl, by subst hx'; exact Ext.refl _⟩
  simp only [Act.put, List.setIfInBounds_toArray, List.set_cons_succ, List.set_cons_zero]
  apply lex_fun (rfl : psAt _ _ = none)
  · intro x u hR hf
    have c0 := cell_of (hR.block HB.out)
    clear hR hf
    go_simp
    first | exact ⟨rfl, Ext.refl _⟩ | rfl
  simp only [Act.put, List.setIfInBounds_toArray, List.set_cons_succ, List.set_cons_zero]
  apply lex_fun (rfl : psAt _ _ = none)
  · intro x u hR hf
    clear hR hf
    go_simp
    first | exact ⟨rfl, Ext.refl _⟩ | rfl
  simp only [Act.put, List.setIfInBounds_toArray, List.set_cons_succ, List.set_cons_zero]
  refine lex_fun (v := .int .i64 P) (rfl : psAt _ _ = none) ?_ ?_
  · intro x u hR hf
    have hcal := hid (HP.out u (HX.out.trans hR))
    clear hR hf
    go_simp
    exact hcal.out.mono fun e w'' ⟨he, hx'⟩ => ⟨_, he, rfl, hx'⟩
  simp only [Act.put, List.setIfInBounds_toArray, List.set_cons_succ, List.set_cons_zero]
  apply lex_fun (rfl : psAt _ _ = none)
  · intro x u hR hf
    have hw := W1.out
    clear hR hf
    go_simp
    first | exact ⟨rfl, Ext.refl _⟩ | rfl
  simp only [Act.put, List.setIfInBounds_toArray, List.set_cons_succ, List.set_cons_zero]
  apply lex_fun (rfl : psAt _ _ = none)
  · intro x u hR hf
    clear hR hf
    go_simp
    first | exact ⟨rfl, Ext.refl _⟩ | rfl
  simp only [Act.put, List.setIfInBounds_toArray, List.set_cons_succ, List.set_cons_zero]
  refine lex_nil fun x w6 hE hfacts => ?_
  clear hfacts x
  have HY := hid hE
  clear hE
  gi_wp2
  go_ret
  exact ⟨by rw [HE.out]; rfl, HX.out.trans HY.out⟩

end Go.Proofs.Ytfkehbhlagpmcaa
