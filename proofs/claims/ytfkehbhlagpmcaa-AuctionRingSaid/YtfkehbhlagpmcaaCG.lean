/- What a sale is worth; how many crans a buyer gets. -/
import Derived.Test.YtfkehbhlagpmcaaCF
set_option linter.unusedSimpArgs false
set_option linter.unusedVariables false
namespace Go.Proofs.Ytfkehbhlagpmcaa
open Go Go.RowKit Go.Shelf
open Au
theorem wn_offer {s : Sal} (ho : Ok s) : ∀ b ∈ wn s, -1000000000 ≤ b.offer ∧ b.offer ≤ 1000000000 := fun b hb => by have := offer_nonneg ho (wn_bids hb); omega
theorem sumO_bound {m : Int} {n : Nat} : ∀ {l : List Bd}, (∀ b ∈ l, 0 ≤ b.offer ∧ b.offer ≤ m) → 0 ≤ sumO l ∧ sumO l ≤ m * l.length
  | [], _ => by simp [sumO]
  | b :: l, h => by
    have h1 := sumO_bound (m := m) (n := n) (l := l) fun x hx => h x (.tail _ hx)
    have h2 := h b (.head _)
    rw [sumO_cons, List.length_cons, Int.natCast_add, Int.natCast_one, Int.mul_add]
    omega
theorem wn_bound {s : Sal} (ho : Ok s) : 0 ≤ sumO (wn s) ∧ sumO (wn s) ≤ 400000 := by
  have h1 := sumO_bound (m := 10000) (n := 0) (l := wn s) fun b hb => offer_nonneg ho (wn_bids hb)
  have h2 := (wn_length ho).2.1
  omega
theorem wrap_small {x : Int} (h : -1000000000000 ≤ x ∧ x ≤ 1000000000000) : IntKind.i64.wrap x = x := by rw [IntKind.wrap_i64]; omega
theorem mul_small {a b m : Int} (ha : 0 ≤ a ∧ a ≤ 10000) (hb : -m ≤ b ∧ b ≤ m) : -(10000 * m) ≤ a * b ∧ a * b ≤ 10000 * m := by
  have h1 := Int.mul_le_mul_of_nonneg_left hb.2 ha.1
  have h2 := Int.mul_le_mul_of_nonneg_left hb.1 ha.1
  have h3 : a * m ≤ 10000 * m := Int.mul_le_mul_of_nonneg_right ha.2 (by omega)
  rw [Int.mul_neg] at h2
  omega
set_option maxRecDepth 100000 in
set_option maxHeartbeats 4000000 in
theorem worth_any (v : Value) (s : Sal) (w : World) (hv : ListsAt w v s.offers) (ho : Ok s) :
    Cal 51 #[saleW s v] w fun e w' => e = .returned (.int .i64 (worth s)) ∧ Ext w w' := by
  have HW := hid (fun (u : World) (hu : Ext w u) => winners_any v s u (hv.mono hu) ho)
  have HS := hid (fun (r : Value) (u : World) (hr : BidsAt u r (wn s)) => sumB_any r (wn s) u hr (wn_offer ho) (by have := (wn_length ho).2.1; omega))
  have hl := wn_length ho
  have hcr := ho.crans
  have hle := ho.least
  have hsb := wn_bound ho
  have hm := mul_small hle (m := 40) (b := s.crans - ((wn s).length : Int)) (by omega)
  have HE : Hid (worth s = sumO (wn s) + s.least * (s.crans - ((wn s).length : Int))) := hid rfl
  have W1 := hid (wrap_small (x := s.crans - ((wn s).length : Int)) (by omega))
  have W2 := hid (wrap_small (x := s.least * (s.crans - ((wn s).length : Int))) (by omega))
  have W3 := hid (wrap_small (x := sumO (wn s) + s.least * (s.crans - ((wn s).length : Int))) (by omega))
  obtain ⟨a, cap, rfl, ⟨hcap, hlen⟩, _⟩ := hv
  unfold saleW at *
  clear ho hl hm hsb
  generalize wn s = l at *
  gi_enter Try.func51, Try.ntmps51
  gi_wp2_with (gi_at_call 73; ((with_reducible refine (HW.out _ ((Ext.refl _).alloc _)).mono ?_); rintro e w1 ⟨r, rfl, hx1, hr⟩; have HR := hid hr.1; obtain ⟨⟨a2, cap2, rfl, _, _⟩, _⟩ := hr; have HB := hid (hx1.block (Ext.new (Ext.refl _))); have HX := hid (((Ext.refl w).alloc _).trans hx1); clear hx1))
  refine lex_wide 14 [] (by kernel_rfl) (by kernel_rfl) nStab_nil ?_
  simp only [List.take_succ_cons, List.take_zero, List.drop_succ_cons, List.drop_zero]
  apply lex_fun (rfl : psAt _ _ = none)
  · intro x u hR hf
    clear hR hf
    go_simp
    first | exact ⟨rfl, Ext.refl _⟩ | rfl
  simp only [Act.put, List.setIfInBounds_toArray, List.set_cons_succ, List.set_cons_zero]
  refine lex_fun (v := .int .i64 (sumO l)) (rfl : psAt _ _ = none) ?_ ?_
  · intro x u hR hf
    have hcal := hid (HS.out _ u (HR.out.mono hR))
    clear hR hf
    go_simp
    exact hcal.out.mono fun e w'' ⟨he, hx'⟩ => ⟨_, he, rfl, hx'⟩
  simp only [Act.put, List.setIfInBounds_toArray, List.set_cons_succ, List.set_cons_zero]
  apply lex_fun (rfl : psAt _ _ = none)
  · intro x u hR hf
    clear hR hf
    go_simp
    first | exact ⟨rfl, Ext.refl _⟩ | rfl
  simp only [Act.put, List.setIfInBounds_toArray, List.set_cons_succ, List.set_cons_zero]
  apply lex_fun (rfl : psAt _ _ = none)
  · intro x u hR hf
    clear hR hf
    go_simp
    first | exact ⟨rfl, Ext.refl _⟩ | rfl
  simp only [Act.put, List.setIfInBounds_toArray, List.set_cons_succ, List.set_cons_zero]
  apply lex_fun (rfl : psAt _ _ = none)
  · intro x u hR hf
    have c0 := cell_of (hR.block HB.out)
    clear hR hf
    go_simp
    first | exact ⟨rfl, Ext.refl _⟩ | rfl
  simp only [Act.put, List.setIfInBounds_toArray, List.set_cons_succ, List.set_cons_zero]
  apply lex_fun (rfl : psAt _ _ = none)
  · intro x u hR hf
    clear hR hf
    go_simp
    first | exact ⟨rfl, Ext.refl _⟩ | rfl
  simp only [Act.put, List.setIfInBounds_toArray, List.set_cons_succ, List.set_cons_zero]
  apply lex_fun (rfl : psAt _ _ = none)
  · intro x u hR hf
    clear hR hf
    go_simp
    first | exact ⟨rfl, Ext.refl _⟩ | rfl
  simp only [Act.put, List.setIfInBounds_toArray, List.set_cons_succ, List.set_cons_zero]
  apply lex_fun (rfl : psAt _ _ = none)
  · intro x u hR hf
    have c0 := cell_of (hR.block HB.out)
    clear hR hf
    go_simp
    first | exact ⟨rfl, Ext.refl _⟩ | rfl
  simp only [Act.put, List.setIfInBounds_toArray, List.set_cons_succ, List.set_cons_zero]
  apply lex_fun (rfl : psAt _ _ = none)
  · intro x u hR hf
    clear hR hf
    go_simp
    first | exact ⟨rfl, Ext.refl _⟩ | rfl
  simp only [Act.put, List.setIfInBounds_toArray, List.set_cons_succ, List.set_cons_zero]
  apply lex_fun (rfl : psAt _ _ = none)
  · intro x u hR hf
    clear hR hf
    go_simp
    first | exact ⟨rfl, Ext.refl _⟩ | rfl
  simp only [Act.put, List.setIfInBounds_toArray, List.set_cons_succ, List.set_cons_zero]
  apply lex_fun (rfl : psAt _ _ = none)
  · intro x u hR hf
    have hw := W1.out
    clear hR hf
    go_simp
    first | exact ⟨rfl, Ext.refl _⟩ | rfl
  simp only [Act.put, List.setIfInBounds_toArray, List.set_cons_succ, List.set_cons_zero]
  apply lex_fun (rfl : psAt _ _ = none)
  · intro x u hR hf
    have hw := W2.out
    clear hR hf
    go_simp
    first | exact ⟨rfl, Ext.refl _⟩ | rfl
  simp only [Act.put, List.setIfInBounds_toArray, List.set_cons_succ, List.set_cons_zero]
  apply lex_fun (rfl : psAt _ _ = none)
  · intro x u hR hf
    have hw := W3.out
    clear hR hf
    go_simp
    first | exact ⟨rfl, Ext.refl _⟩ | rfl
  simp only [Act.put, List.setIfInBounds_toArray, List.set_cons_succ, List.set_cons_zero]
  apply lex_fun (rfl : psAt _ _ = none)
  · intro x u hR hf
    clear hR hf
    go_simp
    first | exact ⟨rfl, Ext.refl _⟩ | rfl
  simp only [Act.put, List.setIfInBounds_toArray, List.set_cons_succ, List.set_cons_zero]
  refine lex_nil fun x w6 hE hfacts => ?_
  clear hfacts x
  have HY := hid hE
  clear hE
  gi_wp2
  go_ret
  exact ⟨by rw [HE.out]; rfl, HX.out.trans HY.out⟩
def cntB (i : Int) (l : List Bd) : Nat := l.countP fun b => decide ((b.buyer : Int) = i)
theorem cntB_snoc (i : Int) (l : List Bd) (k : Nat) (h : k < l.length) : cntB i (l.take (k + 1)) = cntB i (l.take k) + if (l[k].buyer : Int) = i then 1 else 0 := by
  unfold cntB; rw [List.take_succ_eq_append_getElem h, List.countP_append]; simp [List.countP_cons]
theorem cntB_gets (s : Sal) (i : Nat) : cntB (i : Int) (wn s) = gets s i := by
  unfold cntB gets
  refine List.countP_congr fun b _ => ?_
  simp; omega
set_option maxRecDepth 100000 in
set_option maxHeartbeats 4000000 in
theorem gets_any (v : Value) (s : Sal) (i : Nat) (w : World) (hv : ListsAt w v s.offers) (ho : Ok s) :
    Cal 70 #[saleW s v, .int .i64 (i : Int)] w fun e w' => e = .returned (.int .i64 (gets s i : Int)) ∧ Ext w w' := by
  have HW := hid (fun (u : World) (hu : Ext w u) => winners_any v s u (hv.mono hu) ho)
  have hl := (wn_length ho).2.1
  have HG := hid (cntB_gets s i)
  obtain ⟨a, cap, rfl, ⟨hcap, hlen⟩, _⟩ := hv
  unfold saleW at *
  clear ho
  generalize wn s = l at *
  generalize gets s i = G at *
  generalize (i : Int) = ii at *
  gi_enter Try.func70, Try.ntmps70
  gi_wp2_with (gi_at_call 73; ((with_reducible refine (HW.out _ ((Ext.refl _).alloc _)).mono ?_); rintro e w1 ⟨r, rfl, hx1, hr⟩; have HR := hid hr.1; obtain ⟨⟨a2, cap2, rfl, _, _⟩, _⟩ := hr; have HX := hid (((Ext.refl w).alloc _).trans hx1); clear hx1))
  obtain ⟨a3, cap3, e3, ⟨hcap3, hlen3⟩, hc3⟩ := HR.out
  cases e3
  have HC := hid hc3
  clear hc3
  gi_loopw [5, 11] (fun n i wr => ∃ k : Nat, k ≤ l.length ∧ i = .int .i64 k ∧ n = .int .i64 ((cntB ii (l.take k) : Nat) : Int) ∧ Hid (Ext w1 wr)) (fun _ i _ => l.length - (intOf i).toNat)
  case atStart => exact ⟨0, Nat.zero_le _, rfl, rfl, hid (Ext.refl _)⟩
  case round =>
    obtain ⟨k, hk, rfl, rfl, HI⟩ := hrel
    by_cases hlt : k < l.length
    · obtain ⟨b, off, rfl, hbb, hc0, hc1, hc2⟩ := HC.out k hlt
      rw [← HI.out.cell (p := ⟨b, _, none⟩) hbb] at hc0 hc1 hc2
      have HS := hid (cntB_snoc ii l k hlt)
      have hle : cntB ii (l.take k) ≤ (l.take k).length := List.countP_le_length
      rw [List.length_take] at hle
      generalize l[k] = x at *
      obtain ⟨x1, x2, x3⟩ := x
      simp only at hc0 hc1 hc2 HS
      generalize (x1 : Int) = y1 at *
      generalize (x2 : Int) = y2 at *
      generalize cntB ii (l.take k) = c at *
      have hx := HI.out.alloc (.cells #[.int .i64 y1, .int .i64 y2, .int .i64 x3] 102)
      have HI2 := hid hx
      clear hx HI
      by_cases hy : y1 = ii
      · have HS2 : Hid (cntB ii (l.take (k + 1)) = c + 1) := hid (by rw [HS.out, if_pos hy])
        clear HS
        subst hy
        gi_wp2
        go_roundw
        case rel => exact ⟨k + 1, by omega, by go_num, by rw [HS2.out]; go_num, HI2⟩
        case measure => simp [intOf]; omega
      · have HS2 : Hid (cntB ii (l.take (k + 1)) = c) := hid (by rw [HS.out, if_neg hy]; rfl)
        clear HS
        gi_wp2
        go_roundw
        case rel => exact ⟨k + 1, by omega, by go_num, by rw [HS2.out], HI2⟩
        case measure => simp [intOf]; omega
    · obtain rfl : k = l.length := by omega
      have HT : Hid (cntB ii (l.take l.length) = G) := hid (by rw [List.take_length]; exact HG.out)
      gi_wp2
      go_ret
      exact ⟨by rw [← HT.out]; rfl, HX.out.trans HI.out⟩

end Go.Proofs.Ytfkehbhlagpmcaa
