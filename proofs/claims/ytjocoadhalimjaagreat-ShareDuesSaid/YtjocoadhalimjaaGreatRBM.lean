/- What a division gives is fair; the law ShareFair. -/
import Derived.Test.YtjocoadhalimjaaGreatRBL
import Derived.Test.YtjocoadhalimjaaGreatRBJ
import Derived.Test.YtjocoadhalimjaaGreatRAT
set_option linter.unusedSimpArgs false
set_option linter.unusedVariables false
namespace Go.Proofs.YtjocoadhalimjaaGreat
section
open Go Go.RowKit Go.Shelf

def gvs (P : Int) (l : List Stk) : List Int := (List.range l.length).map (giveTo P l)
theorem gvs_len (P : Int) (l : List Stk) : (gvs P l).length = l.length := by simp [gvs]
theorem gvs_get (P : Int) (l : List Stk) {i : Nat} (hi : i < l.length) : (gvs P l).getD i 0 = giveTo P l i := by
  rw [getD_of (by rw [gvs_len]; exact hi)]; simp [gvs]
theorem wtsL_len (l : List Stk) : (wtsL l).length = l.length := by simp [wtsL]
theorem wtsL_get (l : List Stk) {i : Nat} (hi : i < l.length) : (wtsL l).getD i 0 = (l.getD i noStk).weight := by
  rw [getD_of (by rw [wtsL_len]; exact hi), getD_of hi]; simp [wtsL]
theorem wtsL_sum (l : List Stk) : (wtsL l).sum = sumW l := rfl
theorem give_fair {P : Int} {l : List Stk} (hP : 0 ≤ P ∧ P ≤ 10000000) (hw : ∀ s ∈ l, 0 ≤ s.weight ∧ s.weight ≤ 1000000) (hl : l.length ≤ 10) (hA : 0 < sumW l) (hd : (l.map (·.name)).Nodup) : FairOk P (gvs P l) (wtsL l) := by
  have hw0 : ∀ s ∈ l, 0 ≤ s.weight := fun s hs => (hw s hs).1
  have hO := ltN_orders hd
  have hst := sumW_tot hw0
  have ht : 0 < Sv.tot (List.range l.length) (wN l) := by omega
  have hg := fun i (hi : i < l.length) => giveTo_eq hP.1 hw0 hA hd hi
  have hf := give_facts hP.1 hw0 hA hd
  have hPn : P = (P.toNat : Int) := (Int.toNat_of_nonneg hP.1).symm
  refine ⟨by rw [gvs_len, wtsL_len], by rw [gvs_len]; exact hl, hP, fun i hi => ?_, fun i hi => ?_, hf.2.2, ⟨by rw [wtsL_sum]; omega, ?_⟩, fun i hi => ?_, fun i k hi hk hlt => ?_⟩
  · rw [gvs_len] at hi
    rw [wtsL_get l hi, getD_of hi]; exact hw _ (List.getElem_mem hi)
  · rw [gvs_len] at hi
    rw [gvs_get P l hi]
    have := hf.1 i hi; omega
  · rw [wtsL_sum]
    have h := sum_within (M := 1000000) (by omega) (l.map (·.weight)) (fun x hx => by obtain ⟨s, hs, rfl⟩ := List.mem_map.1 hx; have := hw s hs; omega)
    rw [List.length_map] at h
    unfold sumW; omega
  · rw [gvs_len] at hi
    rw [gvs_get P l hi, wtsL_get l hi, wN_cast hw0 hi, wtsL_sum, hst, hg i hi]
    have h := Sv.gets_near (s := P.toNat) hO List.nodup_range ht (List.mem_range.2 hi)
    have e : P * ((wN l i : Nat) : Int) = ((P.toNat * wN l i : Nat) : Int) := by
      conv => lhs; rw [hPn]
      norm_cast
    have e2 : ((Sv.gets (List.range l.length) P.toNat (wN l) (ltN l) i : Nat) : Int) * ((Sv.tot (List.range l.length) (wN l) : Nat) : Int) = ((Sv.tot (List.range l.length) (wN l) * Sv.gets (List.range l.length) P.toNat (wN l) (ltN l) i : Nat) : Int) := by
      rw [Int.mul_comm]; norm_cast
    rw [e, e2]
    omega
  · rw [gvs_len] at hi hk
    rw [wtsL_get l hi, wtsL_get l hk, wN_cast hw0 hi, wN_cast hw0 hk] at hlt
    rw [gvs_get P l hi, gvs_get P l hk, hg i hi, hg k hk]
    have := Sv.gets_mono (s := P.toNat) hO ht (List.mem_range.2 hi) (List.mem_range.2 hk) (by omega)
    omega
theorem give_step {P : Int} {l : List Stk} (hP : 0 ≤ P) (hw : ∀ s ∈ l, 0 ≤ s.weight) (hA : 0 < sumW l) (hd : (l.map (·.name)).Nodup) {i : Nat} (hi : i < l.length) : giveTo (P + 1) l i ≤ giveTo P l i + 1 ∧ giveTo P l i - 1 ≤ giveTo (P + 1) l i := by
  have hst := sumW_tot hw
  have h := Sv.gets_step (s := P.toNat) (ltN_orders hd) List.nodup_range (show 0 < Sv.tot (List.range l.length) (wN l) by omega) (List.mem_range.2 hi)
  rw [giveTo_eq hP hw hA hd hi, giveTo_eq (by omega) hw hA hd hi, show (P + 1).toNat = P.toNat + 1 by omega]
  omega
theorem intsF_gvs (P : Int) (l : List Stk) : intsF l.length (giveTo P l) = intsV (gvs P l) := intsV_intsF _ _
theorem divE_ok {P : Int} {l : List Stk} (h : divE P l = 0) : (0 ≤ P ∧ P ≤ 10000000) ∧ stakesB l = true ∧ sumW l ≠ 0 := by
  unfold divE at h
  cases h1 : inB P 0 10000000 with
  | false => rw [h1] at h; simp at h
  | true =>
    rw [h1] at h
    cases h2 : stakesB l with
    | false => rw [h2] at h; simp at h
    | true =>
      refine ⟨inB_spec h1, rfl, fun h3 => ?_⟩
      rw [h2, h3] at h; simp at h
theorem divE_more {P : Int} {l : List Stk} (h : divE P l = 0) (hP : P ≠ 10000000) : divE (P + 1) l = 0 := by
  obtain ⟨h1, h2, h3⟩ := divE_ok h
  unfold divE
  rw [show inB (P + 1) 0 10000000 = true by unfold inB; simp; omega, h2]
  simp [h3]

set_option maxRecDepth 100000 in
set_option maxHeartbeats 16000000 in
theorem ShareFair_any (P : Int) (v : Value) (l : List Stk) (w : World) (hv : StakesAt w v l) (hn : ∀ s ∈ l, s.name.size ≤ maxLen) : Cal 6 #[.int .i64 P, v] w fun e w' => e = .returned (.bool true) ∧ Ext w w' := by
  have HWK := hid (fun (u : World) => works_any u)
  by_cases he : divE P l = 0
  · obtain ⟨hP, hst, hz⟩ := divE_ok he
    have hok := stakes_ok hst
    have hsw : 0 < sumW l := by
      have := sumW_nonneg (l := l) fun s hs => (hok.2.1 s hs).2.1
      omega
    have HDV := hid (Divide_ok P v l w hv hn he)
    have HSM := hid (fun (u : World) (hu : Ext w u) => small_true v l u (hv.mono hu) hok.1 fun s hs => (hok.2.1 s hs).2)
    have HIN := hid (fun (u : World) => In_b P 0 10000000 true u (by unfold inB; simp; omega))
    have HWT := hid (fun (u : World) (hu : Ext w u) => wtsL_any v l u (hv.mono hu) (by omega))
    have HD2 := hid (fun (h : P ≠ 10000000) (u : World) (hu : Ext w u) => Divide_ok (P + 1) v l u (hv.mono hu) hn (divE_more he h))
    have hwt : ∀ s ∈ l, 0 ≤ s.weight ∧ s.weight ≤ 1000000 := fun s hs => by have := (hok.2.1 s hs).2; omega
    have HF1 := hid (give_fair hP hwt hok.1 hsw hok.2.2)
    have HF2 := hid (fun (h : P ≠ 10000000) => give_fair (P := P + 1) (by omega) hwt hok.1 hsw hok.2.2)
    have HST := hid (fun (i : Nat) (hi : i < l.length) => give_step hP.1 (fun s hs => (hwt s hs).1) hsw hok.2.2 hi)
    have HL := hid hok.1
    have HGB := hid (fun (i : Nat) (hi : i < l.length) => (give_facts hP.1 (fun s hs => (hwt s hs).1) hsw hok.2.2).1 i hi)
    clear hv hn he hst hz hok hsw hwt
    gi_enter Tryz.func6, Tryz.ntmps6
    gi_upto_region 2 with (gi_at_call 15; ((with_reducible refine (HDV.out).mono ?_); rintro e w1 ⟨r, rfl, hx1, HR⟩))
    obtain ⟨ra, rc, rfl⟩ := HR.out.isSliceN
    have HX1 := hid hx1
    have HI1 := hid (fun (u : World) (hu : Ext w1 u) => (show IntsAt u (.slice ra l.length rc) (gvs P l) by
      have := IntsAt.of_row (xs := gvs P l) (by rw [gvs_len, ← intsF_gvs]; exact HR.out.mono hu) (by rw [gvs_len]; have := HL.out; omega)
      exact this))
    clear hx1 HDV
    gi_upto_region 6 with (first | (gi_at_call 28; ((with_reducible refine (HSM.out _ HX1.out).mono ?_); rintro e w2 ⟨rfl, rfl⟩)) | (gi_at_call 29; ((with_reducible refine (HIN.out _).mono ?_); rintro e w3 ⟨rfl, rfl⟩)) | (gi_at_call 31; ((with_reducible refine (HWT.out _ HX1.out).mono ?_); rintro e w4 ⟨wr1, rfl, hx4, HW4⟩; have HX4 := hid hx4; have HFC := hid (fair_true P _ wr1 (gvs P l) (wtsL l) w4 (HI1.out _ hx4) (IntsAt.of_row (by rw [wtsL_len]; exact HW4.out) (by rw [wtsL_len]; have := HL.out; omega)) HF1.out); clear hx4)) | (gi_at_call 30; ((with_reducible refine (HFC.out).mono ?_); rintro e w5 ⟨rfl, hx5⟩; have HX5 := hid (HX4.out.trans hx5); clear hx5)))
    by_cases hmax : P = 10000000
    · have hm : (P == 10000000) = true := by simpa using hmax
      clear hmax
      gi_wp2_with (gi_at_call 18; ((with_reducible refine (HWK.out _).mono ?_); rintro e w9 ⟨rfl, hx9⟩; have HXD := hid (HX1.out.trans (HX5.out.trans hx9)); clear hx9))
      go_ret
      exact ⟨rfl, HXD.out⟩
    · have hm : (P == 10000000) = false := by simpa using hmax
      have HX5w := hid (HX1.out.trans HX5.out)
      have HDV := hid (HD2.out hmax _ HX5w.out)
      have HFF := hid (HF2.out hmax)
      have hw1 : wrap64 (P + 1) = P + 1 := wrap_mid (by omega) (by omega)
      have hw2 : IntKind.i64.wrap (P + 1) = P + 1 := by rw [IntKind.wrap_i64]; omega
      clear hmax HD2 HF2 HFC
      gi_upto_region 11 with (first | (gi_at_call 15; ((with_reducible refine (HDV.out).mono ?_); rintro e w6 ⟨r2, rfl, hx6, HR2⟩; have HX6 := hid hx6; clear hx6)) | (gi_at_call 31; ((with_reducible refine (HWT.out _ (HX5w.out.trans HX6.out)).mono ?_); rintro e w7 ⟨wr2, rfl, hx7, HW7⟩; have HX7 := hid hx7; have HFC := hid (fair_true (P + 1) _ wr2 (gvs (P + 1) l) (wtsL l) w7 (IntsAt.of_row (by rw [gvs_len, ← intsF_gvs]; exact HR2.out.mono hx7) (by rw [gvs_len]; have := HL.out; omega)) (IntsAt.of_row (by rw [wtsL_len]; exact HW7.out) (by rw [wtsL_len]; have := HL.out; omega)) HFF.out); clear hx7)) | (gi_at_call 30; ((with_reducible refine (HFC.out).mono ?_); rintro e w8 ⟨rfl, hx8⟩; have HX8 := hid (HX7.out.trans hx8); clear hx8)))
      obtain ⟨r2a, r2c, rfl⟩ := HR2.out.isSliceN
      have hx17 := HX7.out
      have HC1 := hid (fun (i : Nat) (hi : i < l.length) => (show ∃ b, ra = some ⟨b, 0, none⟩ ∧ ∀ u, Ext w8 u → u.cell? ⟨b, i, none⟩ = some (.int .i64 (giveTo P l i)) by
        obtain ⟨g, cap, cur, e, _, hg, hc, _⟩ := HR.out.cells1 hi
        cases e
        refine ⟨g, rfl, fun u hu => ?_⟩
        rw [(HX5.out.trans (HX6.out.trans (HX8.out.trans hu))).cell (p := ⟨g, _, none⟩) (lt_of_block hg), hc]; simp [intsF, hi]))
      have HC2 := hid (fun (i : Nat) (hi : i < l.length) => (show ∃ b, r2a = some ⟨b, 0, none⟩ ∧ ∀ u, Ext w8 u → u.cell? ⟨b, i, none⟩ = some (.int .i64 (giveTo (P + 1) l i)) by
        obtain ⟨g, cap, cur, e, _, hg, hc, _⟩ := HR2.out.cells1 hi
        cases e
        refine ⟨g, rfl, fun u hu => ?_⟩
        rw [(HX8.out.trans hu).cell (p := ⟨g, _, none⟩) (lt_of_block hg), hc]; simp [intsF, hi]))
      have hlc : l.length ≤ rc := by
        rcases HR.out.2 with ⟨e, h0⟩ | ⟨g, cap, cur, e, _, h1, _⟩
        · omega
        · cases e; exact h1
      have HXE := hid (HX5w.out.trans (HX6.out.trans HX8.out))
      clear hx17 HX7 HX8 HX6 HX5 HX5w HX4 HR HR2 HI1 HFC hw1 hw2 HDV HFF
      gi_wp2_with fail
      gi_loopw [8] (fun i wr => ∃ k : Nat, k ≤ l.length ∧ i = .int .i64 k ∧ Hid (Ext w8 wr)) (fun i _ => l.length - (intOf i).toNat)
      case atStart => exact ⟨0, Nat.zero_le _, rfl, hid (Ext.refl _)⟩
      case round =>
        obtain ⟨k, hk, rfl, HX⟩ := hrel
        by_cases hlt : k < l.length
        · have hki : (k : Int) < (l.length : Int) := by omega
          obtain ⟨b1, rfl, h1⟩ := HC1.out k hlt
          obtain ⟨b2, rfl, h2⟩ := HC2.out k hlt
          have c1 : ∀ e : Later wr, e.1.cell? ⟨b1, k, none⟩ = some (.int .i64 (giveTo P l k)) := fun e => h1 _ (HX.out.trans e.grown)
          have c2 : ∀ e : Later wr, e.1.cell? ⟨b2, k, none⟩ = some (.int .i64 (giveTo (P + 1) l k)) := fun e => h2 _ (HX.out.trans e.grown)
          have hst := HST.out k hlt
          have hgb := HGB.out k hlt
          have hlc2 := HL.out
          have HLT := hid hlt
          generalize giveTo P l k = x at *
          generalize giveTo (P + 1) l k = y at *
          have HW := hid (And.intro (wrap_mid (x := x + 1) (by omega) (by omega)) (wrap_mid (x := x - 1) (by omega) (by omega)))
          have hd1 : decide (y > x + 1) = false := decide_eq_false (by omega)
          have hd2 : decide (y < x - 1) = false := decide_eq_false (by omega)
          clear h1 h2 hst hgb hlt
          obtain ⟨hw1, hw2⟩ := HW.out
          clear HW
          gi_upto_region 14 with fail
          refine quiet_wide 22 (by kernel_rfl) (by kernel_rfl) ?_
          simp only [List.take_succ_cons, List.take_zero, List.drop_succ_cons, List.drop_zero]
          repeat (any_goals (first | go_big_quiet_step (fail) | quiet_step (fail)))
          refine wpQuiet_nil ?_
          rintro w6 ⟨⟨w6q, hx5⟩, hew5⟩
          obtain rfl : w6 = w6q := hew5
          have HX6 : Hid (Ext wr w6) := hid (show Ext wr w6 from hx5)
          clear hx5
          clear c1 c2
          gi_wp2_with fail
          all_goals first
            | exact (undef_no' ‹_›).elim
            | (go_roundw
               case rel => exact ⟨k + 1, by have := HLT.out; omega, by go_num, hid (HX.out.trans HX6.out)⟩
               case measure => have := HLT.out; simp [intOf]; omega)
        · obtain rfl : k = l.length := by omega
          have hki : ¬ (l.length : Int) < (l.length : Int) := by omega
          gi_wp2_with (gi_at_call 18; ((with_reducible refine (HWK.out _).mono ?_); rintro e w9 ⟨rfl, hx9⟩; have HXD := hid (HXE.out.trans (HX.out.trans hx9)); clear hx9))
          go_ret
          exact ⟨rfl, HXD.out⟩
  · have HDV := hid (Divide_bad P v l w hv hn he)
    have hz : (divE P l == 0) = false := by simpa using he
    have hz2 : (divE P l != 0) = true := by simpa using he
    generalize divE P l = E at *
    clear hv hn he
    gi_enter Tryz.func6, Tryz.ntmps6
    gi_wp2_with (first | (gi_at_call 15; ((with_reducible refine (HDV.out).mono ?_); rintro e w1 ⟨rfl, hx1⟩; have HX := hid hx1; clear hx1)) | (gi_at_call 18; ((with_reducible refine (HWK.out _).mono ?_); rintro e w4 ⟨rfl, hx4⟩; have HX := hid (HX.out.trans hx4); clear hx4)))
    go_ret
    exact ⟨rfl, HX.out⟩
end
section
open Go Go.RowKit Go.Shelf
namespace Sv
variable {R : Nat → Int} {lt : Nat → Nat → Bool}
/-- One with a greater rest, or an earlier name. -/
def befR (R : Nat → Int) (lt : Nat → Nat → Bool) (i j : Nat) : Bool := decide (R j < R i) || (R i == R j && lt i j)
def takesR (R : Nat → Int) (lt : Nat → Nat → Bool) (k : Nat) (b : Int) : Bool := decide (0 ≤ R k) && (decide (b < 0) || (decide (R b.toNat < R k) || (R k == R b.toNat && lt k b.toNat)))
/-- The best of the first ones. -/
def bestTo (R : Nat → Int) (lt : Nat → Nat → Bool) : Nat → Int
  | 0 => -1
  | k + 1 => if takesR R lt k (bestTo R lt k) then (k : Int) else bestTo R lt k
theorem bestTo_low (R : Nat → Int) (lt : Nat → Nat → Bool) : ∀ k, -1 ≤ bestTo R lt k ∧ bestTo R lt k < k ∨ bestTo R lt k = -1
  | 0 => .inr rfl
  | k + 1 => by
    unfold bestTo
    split
    · exact .inl ⟨by omega, by omega⟩
    · rcases bestTo_low R lt k with h | h
      · exact .inl ⟨h.1, by omega⟩
      · exact .inr h
theorem bestTo_spec (hirr : ∀ i, lt i i = true → False) (htr : ∀ i j k, lt i j = true → lt j k = true → lt i k = true) (n : Nat) :
    (bestTo R lt n = -1 ∧ ∀ i, i < n → R i < 0) ∨ ∃ b, b < n ∧ bestTo R lt n = (b : Int) ∧ 0 ≤ R b ∧ ∀ i, i < n → 0 ≤ R i → i ≠ b → befR R lt i b = true → False := by
  induction n with
  | zero => exact .inl ⟨rfl, fun i h => absurd h (by omega)⟩
  | succ k ih =>
    have htrR : ∀ i j k, befR R lt i j = true → befR R lt j k = true → befR R lt i k = true := by
      intro i j k h1 h2
      simp only [befR, Bool.or_eq_true, Bool.and_eq_true, decide_eq_true_eq, beq_iff_eq] at *
      rcases h1 with h1 | ⟨h1, g1⟩ <;> rcases h2 with h2 | ⟨h2, g2⟩
      · exact .inl (by omega)
      · exact .inl (by omega)
      · exact .inl (by omega)
      · exact .inr ⟨by omega, htr _ _ _ g1 g2⟩
    have hasym : ∀ i j, befR R lt i j = true → befR R lt j i = true → lt i i = true := by
      intro i j h1 h2
      simp only [befR, Bool.or_eq_true, Bool.and_eq_true, decide_eq_true_eq, beq_iff_eq] at *
      rcases h1 with h1 | ⟨h1, g1⟩ <;> rcases h2 with h2 | ⟨h2, g2⟩
      · omega
      · omega
      · omega
      · exact htr _ _ _ g1 g2
    unfold bestTo
    rcases ih with ⟨h1, h2⟩ | ⟨b, hb, h1, h2, h3⟩
    · rw [h1]
      by_cases hk : 0 ≤ R k
      · right
        refine ⟨k, by omega, by simp [takesR, hk], hk, fun i hi hRi hne hbf => ?_⟩
        have := h2 i (by omega)
        omega
      · left
        refine ⟨by simp [takesR, hk], fun i hi => ?_⟩
        rcases Nat.lt_or_ge i k with h | h
        · exact h2 i h
        · obtain rfl : i = k := by omega
          omega
    · rw [h1]
      right
      by_cases ht : takesR R lt k (b : Int) = true
      · have hkb : 0 ≤ R k ∧ befR R lt k b = true := by
          simp only [takesR, befR, Bool.or_eq_true, Bool.and_eq_true, decide_eq_true_eq, beq_iff_eq, Int.toNat_natCast] at *
          refine ⟨ht.1, ?_⟩
          rcases ht.2 with h | h | h
          · omega
          · exact .inl h
          · exact .inr h
        refine ⟨k, by omega, by rw [if_pos ht], hkb.1, fun i hi hRi hne hbf => ?_⟩
        have hik : i < k := by omega
        by_cases hib : i = b
        · subst hib
          -- i before k and k before i
          have h4 := htrR _ _ _ hkb.2 hbf
          have h5 := hasym _ _ hkb.2 hbf
          have h6 := hasym _ _ hbf hkb.2
          simp only [befR, Bool.or_eq_true, Bool.and_eq_true, decide_eq_true_eq, beq_iff_eq] at hbf hkb
          rcases hbf with g | ⟨g, g'⟩ <;> rcases hkb.2 with u | ⟨u, u'⟩ <;> try omega
          exact hirr i h6
        · exact h3 i hik hRi hib (htrR _ _ _ hbf hkb.2)
      · refine ⟨b, by omega, by rw [if_neg ht], h2, fun i hi hRi hne hbf => ?_⟩
        rcases Nat.lt_or_ge i k with h | h
        · exact h3 i h hRi hne hbf
        · obtain rfl : i = k := by omega
          apply ht
          simp only [takesR, befR, Bool.or_eq_true, Bool.and_eq_true, decide_eq_true_eq, beq_iff_eq, Int.toNat_natCast] at *
          refine ⟨hRi, .inr ?_⟩
          exact hbf
end Sv
namespace Sv
/-- The rests of those who have not had their penny. -/
def restR (s a : Nat) (w : Nat → Nat) (lt : Nat → Nat → Bool) (l : List Nat) (r i : Nat) : Int := if rank l (bef s a w lt) i < r then -1 else (rst s a w i : Nat)
theorem restR_neg {s a : Nat} {w : Nat → Nat} {lt : Nat → Nat → Bool} {l : List Nat} {r i : Nat} : 0 ≤ restR s a w lt l r i ↔ r ≤ rank l (bef s a w lt) i := by
  unfold restR; split <;> omega
/-- The best of those is the next one. -/
theorem best_next {n s a : Nat} {w : Nat → Nat} {lt : Nat → Nat → Bool} (h : Orders (List.range n) lt) (hirr : ∀ i, lt i i = true → False) (htr : ∀ i j k, lt i j = true → lt j k = true → lt i k = true) {r : Nat} (hr : r < n) :
    ∃ b, b < n ∧ bestTo (restR s a w lt (List.range n) r) lt n = (b : Int) ∧ rank (List.range n) (bef s a w lt) b = r := by
  have hO := bef_orders s a w h
  rcases bestTo_spec (R := restR s a w lt (List.range n) r) hirr htr n with ⟨h1, h2⟩ | ⟨b, hb, h1, h2, h3⟩
  · exfalso
    obtain ⟨i, hi, he⟩ := rank_some hO List.nodup_range (k := r) (by simpa using hr)
    have := h2 i (List.mem_range.1 hi)
    have := (restR_neg (s := s) (a := a) (w := w) (lt := lt) (l := List.range n) (r := r) (i := i)).2 (by omega)
    omega
  · refine ⟨b, hb, h1, rank_next hO List.nodup_range (List.mem_range.2 hb) (restR_neg.1 h2) fun j hj hrj => ?_⟩
    cases hbj : bef s a w lt j b with
    | false => rfl
    | true =>
      exfalso
      have hne : j ≠ b := by
        rintro rfl
        have := hO.irr j hj
        rw [hbj] at this; cases this
      refine h3 j (List.mem_range.1 hj) (restR_neg.2 hrj) hne ?_
      have e1 : restR s a w lt (List.range n) r j = (rst s a w j : Nat) := by unfold restR; rw [if_neg (by omega)]
      have e2 : restR s a w lt (List.range n) r b = (rst s a w b : Nat) := by unfold restR; rw [if_neg (by have := restR_neg.1 h2; omega)]
      unfold befR
      rw [e1, e2]
      unfold bef at hbj
      simp only [Bool.or_eq_true, Bool.and_eq_true, decide_eq_true_eq, beq_iff_eq] at hbj ⊢
      rcases hbj with h | ⟨h, g⟩
      · exact .inl (by omega)
      · exact .inr ⟨by omega, g⟩
/-- What each has once r of them have had their penny. -/
def outR (s a : Nat) (w : Nat → Nat) (lt : Nat → Nat → Bool) (l : List Nat) (r i : Nat) : Int := (quo s a w i : Nat) + (if rank l (bef s a w lt) i < r then 1 else 0)
theorem outR_succ {n s a : Nat} {w : Nat → Nat} {lt : Nat → Nat → Bool} (h : Orders (List.range n) lt) {r b i : Nat} (hb : b < n) (hi : i < n) (hr : rank (List.range n) (bef s a w lt) b = r) :
    outR s a w lt (List.range n) (r + 1) i = (if i = b then outR s a w lt (List.range n) r i + 1 else outR s a w lt (List.range n) r i) ∧
    restR s a w lt (List.range n) (r + 1) i = (if i = b then -1 else restR s a w lt (List.range n) r i) := by
  have hO := bef_orders s a w h
  unfold outR restR
  by_cases he : i = b
  · subst he
    rw [if_pos rfl, if_pos rfl, hr, if_pos (by omega), if_neg (by omega), if_pos (by omega)]
    exact ⟨by omega, rfl⟩
  · rw [if_neg he, if_neg he]
    have hne : rank (List.range n) (bef s a w lt) i ≠ r := fun e => he (rank_inj hO (List.mem_range.2 hi) (List.mem_range.2 hb) (by omega))
    by_cases hlt : rank (List.range n) (bef s a w lt) i < r
    · rw [if_pos (by omega), if_pos hlt, if_pos (by omega), if_pos hlt]; exact ⟨rfl, rfl⟩
    · rw [if_neg (by omega), if_neg hlt, if_neg (by omega), if_neg hlt]; exact ⟨rfl, rfl⟩
theorem outR_zero (s a : Nat) (w : Nat → Nat) (lt : Nat → Nat → Bool) (l : List Nat) (i : Nat) : outR s a w lt l 0 i = (quo s a w i : Nat) ∧ restR s a w lt l 0 i = (rst s a w i : Nat) := by
  unfold outR restR; simp
theorem outR_left (l : List Nat) (s : Nat) (w : Nat → Nat) (lt : Nat → Nat → Bool) (i : Nat) : outR s (tot l w) w lt l (left l s w) i = (gets l s w lt i : Nat) := by
  unfold outR gets
  split <;> simp
end Sv

def qF (P A : Int) (l : List Stk) (i : Nat) : Int := P * (l.getD i noStk).weight / A
def rF (P A : Int) (l : List Stk) (i : Nat) : Int := P * (l.getD i noStk).weight % A
theorem leftTo_q (P A : Int) (l : List Stk) {k : Nat} (h : k < l.length) : leftTo P A l (k + 1) = leftTo P A l k - qF P A l k := by
  rw [leftTo_succ P A l h]; unfold qF; rw [getD_of h]
section
variable {P : Int} {l : List Stk}
theorem qr_cast (hP : 0 ≤ P) (hw : ∀ s ∈ l, 0 ≤ s.weight) {i : Nat} (hi : i < l.length) :
    qF P (sumW l) l i = (Sv.quo P.toNat (Sv.tot (List.range l.length) (wN l)) (wN l) i : Nat) ∧ rF P (sumW l) l i = (Sv.rst P.toNat (Sv.tot (List.range l.length) (wN l)) (wN l) i : Nat) := by
  have h := rest_cast (P := P) hP hw hi
  rw [shrs_get hi] at h
  exact ⟨h.2, h.1⟩
theorem left_nat (hP : 0 ≤ P) (hw : ∀ s ∈ l, 0 ≤ s.weight) (hA : 0 < sumW l) : leftTo P (sumW l) l l.length = (Sv.left (List.range l.length) P.toNat (wN l) : Nat) := by
  have hst := sumW_tot hw
  have hq := Sv.quo_le (l := List.range l.length) (s := P.toNat) (w := wN l) (by omega)
  unfold leftTo Sv.left
  rw [List.take_length, ← map_getD (fun s : Stk => P * s.weight / sumW l) noStk l]
  rw [sum_cast _ (fun i => P * (l.getD i noStk).weight / sumW l) (Sv.quo P.toNat (Sv.tot (List.range l.length) (wN l)) (wN l)) fun i hi => (qr_cast hP hw (List.mem_range.1 hi)).1]
  omega
/-- The rests and what is given, once r pence more have been given. -/
def oR (P : Int) (l : List Stk) (r i : Nat) : Int := Sv.outR P.toNat (Sv.tot (List.range l.length) (wN l)) (wN l) (ltN l) (List.range l.length) r i
def sR (P : Int) (l : List Stk) (r i : Nat) : Int := Sv.restR P.toNat (Sv.tot (List.range l.length) (wN l)) (wN l) (ltN l) (List.range l.length) r i
theorem oR_zero (hP : 0 ≤ P) (hw : ∀ s ∈ l, 0 ≤ s.weight) {i : Nat} (hi : i < l.length) : oR P l 0 i = qF P (sumW l) l i ∧ sR P l 0 i = rF P (sumW l) l i := by
  have h1 := Sv.outR_zero P.toNat (Sv.tot (List.range l.length) (wN l)) (wN l) (ltN l) (List.range l.length) i
  have h2 := qr_cast hP hw hi
  unfold oR sR
  rw [h1.1, h1.2, h2.1, h2.2]
  exact ⟨rfl, rfl⟩
theorem oR_left (hP : 0 ≤ P) (hw : ∀ s ∈ l, 0 ≤ s.weight) (hA : 0 < sumW l) (hd : (l.map (·.name)).Nodup) {i : Nat} (hi : i < l.length) : oR P l (Sv.left (List.range l.length) P.toNat (wN l)) i = giveTo P l i := by
  rw [giveTo_eq hP hw hA hd hi]
  exact Sv.outR_left _ _ _ _ _
theorem best_some (hd : (l.map (·.name)).Nodup) {r : Nat} (hr : r < l.length) : ∃ b, b < l.length ∧ Sv.bestTo (sR P l r) (ltN l) l.length = (b : Int) ∧ (∀ i, i < l.length → oR P l (r + 1) i = (if i = b then oR P l r i + 1 else oR P l r i) ∧ sR P l (r + 1) i = (if i = b then -1 else sR P l r i)) := by
  have hO := ltN_orders hd
  obtain ⟨b, h1, h2, h3⟩ := Sv.best_next (s := P.toNat) (a := Sv.tot (List.range l.length) (wN l)) (w := wN l) hO (fun i h => by unfold ltN at h; rw [nmLt_irr] at h; cases h) (fun i j k h1 h2 => nmLt_tr h1 h2) hr
  exact ⟨b, h1, h2, fun i hi => Sv.outR_succ hO h1 hi h3⟩
end
theorem best_take {R : Nat → Int} {lt : Nat → Nat → Bool} {k : Nat} (h : Sv.takesR R lt k (Sv.bestTo R lt k) = true) : Sv.bestTo R lt (k + 1) = (k : Int) := by
  show (if Sv.takesR R lt k (Sv.bestTo R lt k) then _ else _) = _
  rw [if_pos h]
theorem best_keep {R : Nat → Int} {lt : Nat → Nat → Bool} {k : Nat} (h : Sv.takesR R lt k (Sv.bestTo R lt k) = false) : Sv.bestTo R lt (k + 1) = Sv.bestTo R lt k := by
  show (if Sv.takesR R lt k (Sv.bestTo R lt k) then _ else _) = _
  rw [if_neg (by rw [h]; exact Bool.false_ne_true)]
theorem outR_bound {s a : Nat} {w : Nat → Nat} {lt : Nat → Nat → Bool} {l : List Nat} {r i : Nat} (h : Sv.quo s a w i ≤ 10000000000000) : 0 ≤ Sv.outR s a w lt l r i ∧ Sv.outR s a w lt l r i ≤ 10000000000001 := by
  unfold Sv.outR; split <;> omega
structure DvJ (w0 wr : World) (o s : Value) (n : Nat) (O S : Nat → Int) : Prop where
  ext : Ext w0 wr
  out : Row wr 3 1 o n (intsF n O)
  rst : Row wr 3 1 s n (intsF n S)
  oo : ∀ g, o.ownBlock = some g → w0.heap.size ≤ g
  os : ∀ g, s.ownBlock = some g → w0.heap.size ≤ g
  ne : ∀ g, o.ownBlock = some g → s.ownBlock ≠ some g
set_option maxRecDepth 100000 in
set_option maxHeartbeats 16000000 in
theorem refdiv_any (P : Int) (v : Value) (l : List Stk) (w : World) (hv : StakesAt w v l) (hP : 0 ≤ P ∧ P ≤ 10000000) (hw : ∀ s ∈ l, 0 ≤ s.weight ∧ s.weight ≤ 1000000) (hl : l.length ≤ 10) (hA : 0 < sumW l) (hd : (l.map (·.name)).Nodup) :
    Cal 52 #[.int .i64 P, v] w fun e w' => ∃ r, e = .returned r ∧ Ext w w' ∧ Hid (Row w' 3 1 r l.length (intsF l.length (giveTo P l)) ∧ ∀ g, r.ownBlock = some g → w.heap.size ≤ g) := by
  have hw0 : ∀ s ∈ l, 0 ≤ s.weight := fun s hs => (hw s hs).1
  have HWH := hid (whole_any v l w hv (fun s hs => by have := hw s hs; omega) (by omega))
  have HLB := hid (fun k => leftTo_bound (A := sumW l) hP (.inr hA) hw hl k)
  have HQB := hid (fun (i : Nat) (hi : i < l.length) => (show (0 ≤ P * (l.getD i noStk).weight ∧ P * (l.getD i noStk).weight ≤ 10000000000000) ∧ (0 ≤ qF P (sumW l) l i ∧ qF P (sumW l) l i ≤ 10000000000000) ∧ (0 ≤ rF P (sumW l) l i ∧ rF P (sumW l) l i ≤ 10000000000000) from by
    have := quo_bound hP (.inr hA) (hw l[i] (List.getElem_mem hi))
    unfold qF rF; rw [getD_of hi]; exact this))
  have HSL := hid (fun (k : Nat) (h : k < l.length) => leftTo_q P (sumW l) l h)
  have HL0 : Hid (leftTo P (sumW l) l 0 = P) := hid (by simp [leftTo])
  have HZ := hid (fun (i : Nat) (hi : i < l.length) => oR_zero (P := P) hP.1 hw0 hi)
  have HLE := hid (left_nat (P := P) hP.1 hw0 hA)
  have HLN := hid (Sv.left_lt (l := List.range l.length) (s := P.toNat) (w := wN l) (by have := sumW_tot hw0; omega))
  have HEN := hid (fun (i : Nat) (hi : i < l.length) => oR_left (P := P) hP.1 hw0 hA hd hi)
  have HBS := hid (fun (r : Nat) (hr : r < l.length) => best_some (P := P) hd hr)
  have HOB := hid (fun (r i : Nat) (hi : i < l.length) => (show 0 ≤ oR P l r i ∧ oR P l r i ≤ 10000000000001 from outR_bound (by
    have h1 := (qr_cast (P := P) hP.1 hw0 hi).1
    have h2 := quo_bound hP (.inr hA) (hw l[i] (List.getElem_mem hi))
    unfold qF at h1; rw [getD_of hi] at h1; omega)))
  have HLL := hid hl
  generalize hAA : sumW l = A at *
  have HAp := hid hA
  clear hAA hw0 hd hw
  obtain ⟨a, cap, rfl, ⟨hcap, hlen⟩, hc⟩ := hv
  have HC := hid hc
  have HPb := hid hP
  clear hc hP hA hl
  gi_enter Tryz.func52, Tryz.ntmps52
  gi_wp2_with (gi_at_call 51; ((with_reducible refine (HWH.out).mono ?_); rintro e w1 ⟨rfl, rfl⟩))
  clear HWH
  gi_loopw [6, 7, 8, 9] (fun lf o s i wr => ∃ k : Nat, k ≤ l.length ∧ i = .int .i64 k ∧ lf = .int .i64 (leftTo P A l k) ∧ Hid (DvJ w wr o s k (qF P A l) (rF P A l))) (fun _ _ _ i _ => l.length - (intOf i).toNat)
  case atStart => exact ⟨0, Nat.zero_le _, rfl, by rw [HL0.out], hid ⟨Ext.refl _, Row.nil _ _ _, Row.nil _ _ _, fun g h => by simp [Value.ownBlock] at h, fun g h => by simp [Value.ownBlock] at h, fun g h => by simp [Value.ownBlock] at h⟩⟩
  case round =>
    obtain ⟨k, hk, rfl, rfl, HI⟩ := hrel
    by_cases hlt : k < l.length
    · have hki : (k : Int) < (l.length : Int) := by omega
      obtain ⟨b, off, rfl, hb, c0, c1⟩ := HC.out k hlt
      have hqb := HQB.out k hlt
      have hl1 := HLB.out k
      have hl2 := HLB.out (k + 1)
      have HS := hid (HSL.out k hlt)
      have hA0 := HAp.out
      have hll := HLL.out
      have hp0 := HPb.out
      obtain ⟨hx, ho, hs, hoo, hos, hne⟩ := HI.out
      have HCL := hid (fun (u : World) (hu : Ext w u) => And.intro ((hu.cell (p := ⟨b, _, none⟩) hb).trans c0) ((hu.cell (p := ⟨b, _, none⟩) hb).trans c1))
      have hq : qF P A l k = P * l[k].weight / A := by unfold qF; rw [getD_of hlt]
      have hr : rF P A l k = P * l[k].weight % A := by unfold rF; rw [getD_of hlt]
      have HI1 := hid (intsF_succ k (qF P A l))
      have HI2 := hid (intsF_succ k (rF P A l))
      rw [getD_of hlt] at hqb
      rw [hq] at HS HI1 hqb
      rw [hr] at HI2 hqb
      clear hq hr
      generalize l[k] = st at *
      have HWL : Hid (wrap64 (leftTo P A l k - P * st.weight / A) = leftTo P A l k - P * st.weight / A) := hid (by unfold wrap64; omega)
      have hwk : IntKind.i64.wrap (P * st.weight) = P * st.weight := by rw [IntKind.wrap_i64]; omega
      have hwr : wrap64 (P * st.weight) = P * st.weight := wrap_mid (by omega) (by omega)
      have HTD : Hid (IntKind.i64.wrap ((P * st.weight).tdiv A) = P * st.weight / A) := hid (by
        rw [Int.tdiv_eq_ediv_of_nonneg hqb.1.1, IntKind.wrap_i64]; omega)
      have HTM : Hid ((P * st.weight).tmod A = P * st.weight % A) := hid (Int.tmod_eq_emod_of_nonneg hqb.1.1)
      have hAne : A ≠ 0 := by omega
      have hk6 : k ≤ 1000000 := by omega
      have HLT := hid hlt
      obtain ⟨na, nc, rfl⟩ := ho.isSliceN
      obtain ⟨sa, sc, rfl⟩ := hs.isSliceN
      generalize hLk : leftTo P A l k = Lk at *
      generalize hQ : P * st.weight / A = Q at *
      generalize hR : P * st.weight % A = R at *
      have HST := twoJ_start (i1 := 10) (j1 := 11) (i2 := 22) (j2 := 23) (e1 := .int .i64 Q) (e2 := .int .i64 R) hx ho hs hoo hos hne
      clear HI hx ho hs hoo hos hne c0 c1 hb hlt hLk hqb hl1 hl2
      gi_upto_region 6 with fail
      refine jj_own 24 [10, 11, 22, 23] _ (by kernel_rfl) (by kernel_rfl) HST ?_
      simp only [List.take_succ_cons, List.take_zero, List.drop_succ_cons, List.drop_zero]
      clear HST
      apply jj_fun (by decide)
      · intro L x u hL hd hJ
        have HJ := hid (twoJ_skip (k := 0) (by rfl) hJ)
        clear hJ hd hL
        go_simp
        first | exact ⟨rfl, HJ.out⟩ | exact ⟨HT.out, HJ.out⟩ | exact ⟨congrArg _ HT.out, HJ.out⟩
      simp only [Act.put, List.setIfInBounds_toArray, List.set_cons_succ, List.set_cons_zero]
      apply jj_fun (by decide)
      · intro L x u hL hd hJ
        have HJ := hid (twoJ_skip (k := 1) (by rfl) hJ)
        clear hJ hd hL
        go_simp
        first | exact ⟨rfl, HJ.out⟩ | exact ⟨HT.out, HJ.out⟩ | exact ⟨congrArg _ HT.out, HJ.out⟩
      simp only [Act.put, List.setIfInBounds_toArray, List.set_cons_succ, List.set_cons_zero]
      apply jj_fun (by decide)
      · intro L x u hL hd hJ
        have HJ := hid (twoJ_skip (k := 2) (by rfl) hJ)
        clear hJ hd hL
        go_simp
        first | exact ⟨rfl, HJ.out⟩ | exact ⟨HT.out, HJ.out⟩ | exact ⟨congrArg _ HT.out, HJ.out⟩
      simp only [Act.put, List.setIfInBounds_toArray, List.set_cons_succ, List.set_cons_zero]
      apply jj_fun (by decide)
      · intro L x u hL hd hJ
        have HJ := hid (twoJ_skip (k := 3) (by rfl) hJ)
        clear hJ hd hL
        go_simp
        first | exact ⟨rfl, HJ.out⟩ | exact ⟨HT.out, HJ.out⟩ | exact ⟨congrArg _ HT.out, HJ.out⟩
      simp only [Act.put, List.setIfInBounds_toArray, List.set_cons_succ, List.set_cons_zero]
      apply jj_fun (by decide)
      · intro L x u hL hd hJ
        have HJ := hid (twoJ_skip (k := 4) (by rfl) hJ)
        clear hJ hd hL
        go_simp
        first | exact ⟨rfl, HJ.out⟩ | exact ⟨HT.out, HJ.out⟩ | exact ⟨congrArg _ HT.out, HJ.out⟩
      simp only [Act.put, List.setIfInBounds_toArray, List.set_cons_succ, List.set_cons_zero]
      apply jj_fun (by decide)
      · intro L x u hL hd hJ
        have HJ := hid (twoJ_skip (k := 5) (by rfl) hJ)
        clear hJ hd hL
        go_simp
        first | exact ⟨rfl, HJ.out⟩ | exact ⟨HT.out, HJ.out⟩ | exact ⟨congrArg _ HT.out, HJ.out⟩
      simp only [Act.put, List.setIfInBounds_toArray, List.set_cons_succ, List.set_cons_zero]
      apply jj_fun (by decide)
      · intro L x u hL hd hJ
        obtain ⟨c0, c1⟩ := HCL.out _ hJ.1
        have HJ := hid (twoJ_skip (k := 6) (by rfl) hJ)
        clear hJ hd hL
        go_simp
        first | exact ⟨rfl, HJ.out⟩ | exact ⟨HT.out, HJ.out⟩ | exact ⟨congrArg _ HT.out, HJ.out⟩
      simp only [Act.put, List.setIfInBounds_toArray, List.set_cons_succ, List.set_cons_zero]
      apply jj_fun (by decide)
      · intro L x u hL hd hJ
        have HJ := hid (twoJ_skip (k := 7) (by rfl) hJ)
        clear hJ hd hL
        go_simp
        first | exact ⟨rfl, HJ.out⟩ | exact ⟨HT.out, HJ.out⟩ | exact ⟨congrArg _ HT.out, HJ.out⟩
      simp only [Act.put, List.setIfInBounds_toArray, List.set_cons_succ, List.set_cons_zero]
      apply jj_fun (by decide)
      · intro L x u hL hd hJ
        have HJ := hid (twoJ_skip (k := 8) (by rfl) hJ)
        clear hJ hd hL
        go_simp
        first | exact ⟨rfl, HJ.out⟩ | exact ⟨HT.out, HJ.out⟩ | exact ⟨congrArg _ HT.out, HJ.out⟩
      simp only [Act.put, List.setIfInBounds_toArray, List.set_cons_succ, List.set_cons_zero]
      refine jj_fun (v := .int .i64 Q) (by decide) ?_ ?_
      · intro L x u hL hd hJ
        have HT := HTD
        have HJ := hid (twoJ_skip (k := 9) (by rfl) hJ)
        clear hJ hd hL
        go_simp
        first | exact ⟨rfl, HJ.out⟩ | exact ⟨HT.out, HJ.out⟩ | exact ⟨congrArg _ HT.out, HJ.out⟩
      simp only [Act.put, List.setIfInBounds_toArray, List.set_cons_succ, List.set_cons_zero]
      refine jj_inv (by decide) ?_ ?_
      · intro L x u hL hd hJ
        have HJ := hid (twoJ_make1 (by rfl) hJ)
        clear hJ hd hL
        go_simp
        exact HJ.out
      simp only [Act.put, List.setIfInBounds_toArray, List.set_cons_succ, List.set_cons_zero]
      refine jj_inv (by decide) ?_ ?_
      · intro L x u hL hd hJ
        obtain ⟨v', u', h1, h2, h3, h4⟩ := twoJ_run1 hJ (by first | exact hd.1 rfl | exact hd.2.1 rfl) hL hk6 rfl
        rw [if_pos (show Region.wanted _ _ = true from rfl)]
        exact gives_append (.tmp 21) (.tmp 31) 23 rfl rfl rfl h1 ⟨twoJ_app1 (by rfl) hJ hL h2 h3 h4, trivial⟩
      simp only [Act.put, List.setIfInBounds_toArray, List.set_cons_succ, List.set_cons_zero]
      apply jj_fun (by decide)
      · intro L x u hL hd hJ
        have HJ := hid (twoJ_skip (k := 12) (by rfl) hJ)
        clear hJ hd hL
        go_simp
        first | exact ⟨rfl, HJ.out⟩ | exact ⟨HT.out, HJ.out⟩ | exact ⟨congrArg _ HT.out, HJ.out⟩
      simp only [Act.put, List.setIfInBounds_toArray, List.set_cons_succ, List.set_cons_zero]
      apply jj_fun (by decide)
      · intro L x u hL hd hJ
        have HJ := hid (twoJ_skip (k := 13) (by rfl) hJ)
        clear hJ hd hL
        go_simp
        first | exact ⟨rfl, HJ.out⟩ | exact ⟨HT.out, HJ.out⟩ | exact ⟨congrArg _ HT.out, HJ.out⟩
      simp only [Act.put, List.setIfInBounds_toArray, List.set_cons_succ, List.set_cons_zero]
      apply jj_fun (by decide)
      · intro L x u hL hd hJ
        have HJ := hid (twoJ_skip (k := 14) (by rfl) hJ)
        clear hJ hd hL
        go_simp
        first | exact ⟨rfl, HJ.out⟩ | exact ⟨HT.out, HJ.out⟩ | exact ⟨congrArg _ HT.out, HJ.out⟩
      simp only [Act.put, List.setIfInBounds_toArray, List.set_cons_succ, List.set_cons_zero]
      apply jj_fun (by decide)
      · intro L x u hL hd hJ
        have HJ := hid (twoJ_skip (k := 15) (by rfl) hJ)
        clear hJ hd hL
        go_simp
        first | exact ⟨rfl, HJ.out⟩ | exact ⟨HT.out, HJ.out⟩ | exact ⟨congrArg _ HT.out, HJ.out⟩
      simp only [Act.put, List.setIfInBounds_toArray, List.set_cons_succ, List.set_cons_zero]
      apply jj_fun (by decide)
      · intro L x u hL hd hJ
        have HJ := hid (twoJ_skip (k := 16) (by rfl) hJ)
        clear hJ hd hL
        go_simp
        first | exact ⟨rfl, HJ.out⟩ | exact ⟨HT.out, HJ.out⟩ | exact ⟨congrArg _ HT.out, HJ.out⟩
      simp only [Act.put, List.setIfInBounds_toArray, List.set_cons_succ, List.set_cons_zero]
      apply jj_fun (by decide)
      · intro L x u hL hd hJ
        have HJ := hid (twoJ_skip (k := 17) (by rfl) hJ)
        clear hJ hd hL
        go_simp
        first | exact ⟨rfl, HJ.out⟩ | exact ⟨HT.out, HJ.out⟩ | exact ⟨congrArg _ HT.out, HJ.out⟩
      simp only [Act.put, List.setIfInBounds_toArray, List.set_cons_succ, List.set_cons_zero]
      apply jj_fun (by decide)
      · intro L x u hL hd hJ
        obtain ⟨c0, c1⟩ := HCL.out _ hJ.1
        have HJ := hid (twoJ_skip (k := 18) (by rfl) hJ)
        clear hJ hd hL
        go_simp
        first | exact ⟨rfl, HJ.out⟩ | exact ⟨HT.out, HJ.out⟩ | exact ⟨congrArg _ HT.out, HJ.out⟩
      simp only [Act.put, List.setIfInBounds_toArray, List.set_cons_succ, List.set_cons_zero]
      apply jj_fun (by decide)
      · intro L x u hL hd hJ
        have HJ := hid (twoJ_skip (k := 19) (by rfl) hJ)
        clear hJ hd hL
        go_simp
        first | exact ⟨rfl, HJ.out⟩ | exact ⟨HT.out, HJ.out⟩ | exact ⟨congrArg _ HT.out, HJ.out⟩
      simp only [Act.put, List.setIfInBounds_toArray, List.set_cons_succ, List.set_cons_zero]
      apply jj_fun (by decide)
      · intro L x u hL hd hJ
        have HJ := hid (twoJ_skip (k := 20) (by rfl) hJ)
        clear hJ hd hL
        go_simp
        first | exact ⟨rfl, HJ.out⟩ | exact ⟨HT.out, HJ.out⟩ | exact ⟨congrArg _ HT.out, HJ.out⟩
      simp only [Act.put, List.setIfInBounds_toArray, List.set_cons_succ, List.set_cons_zero]
      refine jj_fun (v := .int .i64 R) (by decide) ?_ ?_
      · intro L x u hL hd hJ
        have HT := HTM
        have HJ := hid (twoJ_skip (k := 21) (by rfl) hJ)
        clear hJ hd hL
        go_simp
        first | exact ⟨rfl, HJ.out⟩ | exact ⟨HT.out, HJ.out⟩ | exact ⟨congrArg _ HT.out, HJ.out⟩
      simp only [Act.put, List.setIfInBounds_toArray, List.set_cons_succ, List.set_cons_zero]
      refine jj_inv (by decide) ?_ ?_
      · intro L x u hL hd hJ
        have HJ := hid (twoJ_make2 (by rfl) hJ)
        clear hJ hd hL
        go_simp
        exact HJ.out
      simp only [Act.put, List.setIfInBounds_toArray, List.set_cons_succ, List.set_cons_zero]
      refine jj_inv (by decide) ?_ ?_
      · intro L x u hL hd hJ
        obtain ⟨v', u', h1, h2, h3, h4⟩ := twoJ_run2 hJ (by first | exact hd.1 rfl | exact hd.2.1 rfl) hL hk6 rfl
        rw [if_pos (show Region.wanted _ _ = true from rfl)]
        exact gives_append (.tmp 33) (.tmp 43) 23 rfl rfl rfl h1 ⟨twoJ_app2 (by rfl) hJ hL h2 h3 h4, trivial⟩
      simp only [Act.put, List.setIfInBounds_toArray, List.set_cons_succ, List.set_cons_zero]
      refine jj_nil fun L x u hall hJ => ?_
      obtain ⟨hxu, ho, hs, hoo, hos, hne⟩ := twoJ_end hJ (hall 11 (by omega)) (hall 23 (by omega))
      clear hJ hall HTD HTM hwk hwr L
      simp only [Nat.zero_add, Nat.reduceAdd]
      rw [← HI1.out] at ho
      rw [← HI2.out] at hs
      generalize x 10 = bx1 at *
      generalize x 22 = bx2 at *
      generalize x 11 = o2 at *
      generalize x 23 = s2 at *
      clear x
      have hck : u.cell? ⟨b, off, none⟩ = u.cell? ⟨b, off, none⟩ := rfl
      obtain ⟨g, ocap, cur, e, hle, _, hcell, _⟩ := ho.cells1 (j := k) (by omega)
      subst e
      have hcq : u.cell? ⟨g, k, none⟩ = some (.int .i64 Q) := by
        rw [hcell, HI1.out, List.getElem?_append_right (by simp [intsF])]; simp [intsF]
      have hwl := HWL.out
      clear hcell hck hwl
      have HJ2 := hid (DvJ.mk hxu ho hs hoo hos hne)
      have hki2 : (k : Int) < (k : Int) + 1 := by omega
      clear hxu ho hs hoo hos hne HI1 HI2
      gi_upto_region 5 with fail
      simp only [HWL.out]
      clear hcq
      gi_wp2_with fail
      go_roundw
      case rel => exact ⟨k + 1, by have := HLT.out; omega, by go_num, by rw [HS.out], HJ2⟩
      case measure => have := HLT.out; simp [intOf]; omega
    · obtain rfl : k = l.length := by omega
      have hki : ¬ (l.length : Int) < (l.length : Int) := by omega
      have HI0 := hid (show DvJ w wr u7 u8 l.length (oR P l 0) (sR P l 0) from ⟨HI.out.ext, by rw [intsF_congr fun i hi => (HZ.out i hi).1]; exact HI.out.out, by rw [intsF_congr fun i hi => (HZ.out i hi).2]; exact HI.out.rst, HI.out.oo, HI.out.os, HI.out.ne⟩)
      clear HI HLB HQB HSL HL0 HZ hlt
      rw [HLE.out]
      obtain ⟨L0, hL0⟩ : ∃ L0, L0 = Sv.left (List.range l.length) P.toNat (wN l) := ⟨_, rfl⟩
      rw [← hL0] at HLN HEN ⊢
      clear hL0 HLE
      rw [List.length_range] at HLN
      have HNP : 0 < l.length := by have := HLN.out; omega
      obtain ⟨o, ho⟩ : ∃ o, o = u7 := ⟨_, rfl⟩
      obtain ⟨s, hs⟩ : ∃ s, s = u8 := ⟨_, rfl⟩
      rw [← ho, ← hs] at HI0 ⊢
      clear ho hs
      obtain ⟨og, oc, eo⟩ := row_addr HI0.out.out HNP
      obtain ⟨sg, sc, es⟩ := row_addr HI0.out.rst HNP
      subst eo
      subst es
      have hne : og ≠ sg := fun e => HI0.out.ne og rfl (by rw [e]; rfl)
      have HOW := hid (And.intro (HI0.out.oo og rfl) (HI0.out.os sg rfl))
      have hll := HLL.out
      have HJ0 := hid (And.intro HI0.out.ext (And.intro HI0.out.out HI0.out.rst))
      clear HI0
      gi_wp2_with fail
      gi_loopw [6, 10, 11] (fun lf u10 u11 wr => ∃ r : Nat, r ≤ L0 ∧ lf = .int .i64 ((L0 : Int) - r) ∧ Hid (Ext w wr ∧ Row wr 3 1 (.slice (some ⟨og, 0, none⟩) l.length oc) l.length (intsF l.length (oR P l r)) ∧ Row wr 3 1 (.slice (some ⟨sg, 0, none⟩) l.length sc) l.length (intsF l.length (sR P l r)))) (fun lf _ _ _ => (intOf lf).toNat)
      case atStart => exact ⟨0, Nat.zero_le _, by simp, HJ0⟩
      case round =>
        obtain ⟨r, hr, rfl, HI⟩ := hrel
        clear HJ0
        by_cases hrl : r < L0
        · have hrn : r < l.length := by have := HLN.out; omega
          have hgt := hrl
          obtain ⟨bb, hbl, hbt, hbn⟩ := HBS.out r hrn
          have HR := hid (And.intro hrl hrn)
          have HBT := hid (And.intro hbl (And.intro hbt hbn))
          clear hrl hrn hbl hbt hbn
          obtain ⟨wo, rfl⟩ : ∃ wo, wo = wr := ⟨wr, rfl⟩
          gi_wp2_with fail
          clear hgt
          gi_loopw [10, 11] (fun bs i wr => ∃ k : Nat, k ≤ l.length ∧ i = .int .i64 k ∧ bs = .int .i64 (Sv.bestTo (sR P l r) (ltN l) k) ∧ Hid (Ext wo wr)) (fun _ i _ => l.length - (intOf i).toNat)
          case atStart => exact ⟨0, Nat.zero_le _, rfl, rfl, hid (Ext.refl _)⟩
          case round =>
            obtain ⟨k, hk, rfl, rfl, HXK⟩ := hrel
            by_cases hlt : k < l.length
            · have hki : (k : Int) < (l.length : Int) := by omega
              have hsc : l.length ≤ sc := by
                rcases HI.out.2.2.2 with ⟨e, _⟩ | ⟨g', cap', cur, e, _, h1, _⟩
                · cases e
                · cases e; exact h1
              have HSC := hid (fun (j : Nat) (hj : j < l.length) (u : World) (hu : Ext wo u) => (show u.cell? ⟨sg, j, none⟩ = some (.int .i64 (sR P l r j)) by
                obtain ⟨g, cap', cur, e, _, hg, hcell, _⟩ := HI.out.2.2.cells1 hj
                cases e
                rw [hu.cell (p := ⟨sg, _, none⟩) (lt_of_block hg), hcell]; simp [intsF, hj]))
              have HNM := hid (fun (j : Nat) (hj : j < l.length) => (show ∃ b off, a = some ⟨b, off, none⟩ ∧ ∀ u, Ext wo u → u.cell? ⟨b, off + j * 2, none⟩ = some (.string (l.getD j noStk).name) by
                obtain ⟨b, off, e, hb, c0, _⟩ := HC.out j hj
                exact ⟨b, off, e, fun u hu => by rw [(HI.out.1.trans hu).cell (p := ⟨b, _, none⟩) hb, c0, getD_of hj]⟩))
              obtain ⟨b, off, rfl, hn0⟩ := HNM.out k hlt
              have c1 : ∀ e : Later wr, e.1.cell? ⟨sg, k, none⟩ = some (.int .i64 (sR P l r k)) := fun e => HSC.out k hlt _ (HXK.out.trans e.grown)
              have c2 : ∀ e : Later wr, e.1.cell? ⟨b, off + k * 2, none⟩ = some (.string (l.getD k noStk).name) := fun e => hn0 _ (HXK.out.trans e.grown)
              have HLT := hid hlt
              have HTK := hid (best_take (R := sR P l r) (lt := ltN l) (k := k))
              have HKP := hid (best_keep (R := sR P l r) (lt := ltN l) (k := k))
              have HTD := hid (show Sv.takesR (sR P l r) (ltN l) k (Sv.bestTo (sR P l r) (ltN l) k) = (decide (0 ≤ sR P l r k) && (decide (Sv.bestTo (sR P l r) (ltN l) k < 0) || (decide (sR P l r (Sv.bestTo (sR P l r) (ltN l) k).toNat < sR P l r k) || (sR P l r k == sR P l r (Sv.bestTo (sR P l r) (ltN l) k).toNat && ltN l k (Sv.bestTo (sR P l r) (ltN l) k).toNat)))) from rfl)
              clear hn0 hlt
              by_cases hx0 : 0 ≤ sR P l r k
              · have hd0 : decide (sR P l r k ≥ 0) = true := decide_eq_true hx0
                rcases Sv.bestTo_low (sR P l r) (ltN l) k with ⟨hb1, hb2⟩ | hb1
                · by_cases hbn : Sv.bestTo (sR P l r) (ltN l) k = -1
                  · rw [hbn] at HTD HKP ⊢
                    have HR1 := hid (HTK.out (by rw [hbn, HTD.out]; simp [hx0]))
                    generalize sR P l r k = x at *
                    clear HTK HKP HTD hbn hb1 hb2 hx0
                    gi_upto_region 14 with fail
                    refine quiet_wide 44 (by kernel_rfl) (by kernel_rfl) ?_
                    simp only [List.take_succ_cons, List.take_zero, List.drop_succ_cons, List.drop_zero]
                    repeat (any_goals (first | go_big_quiet_step (fail) | quiet_step (fail)))
                    refine wpQuiet_nil ?_
                    rintro w6 ⟨⟨w6q, hx5⟩, hew5⟩
                    obtain rfl : w6 = w6q := hew5
                    have HX6 : Hid (Ext wr w6) := hid (show Ext wr w6 from hx5)
                    clear hx5
                    have HXN := hid (HXK.out.trans HX6.out)
                    clear c1 c2
                    gi_wp2_with fail
                    all_goals first
                      | exact (undef_no' ‹_›).elim
                      | (go_roundw
                         case rel => exact ⟨k + 1, by have := HLT.out; omega, by go_num, by rw [HR1.out], HXN⟩
                         case measure => have := HLT.out; simp [intOf]; omega)
                  · obtain ⟨j, hj⟩ : ∃ j : Nat, Sv.bestTo (sR P l r) (ltN l) k = (j : Int) := ⟨(Sv.bestTo (sR P l r) (ltN l) k).toNat, by omega⟩
                    have hjl : j < l.length := by have := HLT.out; omega
                    have hji : (j : Int) < (l.length : Int) := by omega
                    rw [hj, Int.toNat_natCast] at HTD
                    have HTK2 := hid (fun h => HTK.out (by rw [hj]; exact h))
                    have HKP2 := hid (fun h => (HKP.out (by rw [hj]; exact h)).trans hj)
                    rw [hj]
                    obtain ⟨b', off', e9, hn1⟩ := HNM.out j hjl
                    cases e9
                    have c3 : ∀ e : Later wr, e.1.cell? ⟨sg, j, none⟩ = some (.int .i64 (sR P l r j)) := fun e => HSC.out j hjl _ (HXK.out.trans e.grown)
                    have c4 : ∀ e : Later wr, e.1.cell? ⟨b, off + j * 2, none⟩ = some (.string (l.getD j noStk).name) := fun e => hn1 _ (HXK.out.trans e.grown)
                    have hlt' : ltN l k j = Op.bytesLess (l.getD k noStk).name.toList (l.getD j noStk).name.toList := rfl
                    rw [hlt'] at HTD
                    generalize sR P l r k = x at *
                    generalize sR P l r j = y at *
                    generalize (l.getD k noStk).name = nk at *
                    generalize (l.getD j noStk).name = nj at *
                    clear HTK HKP hj hb1 hb2 hn1 hlt' hjl
                    by_cases hxy : y < x
                    · have hd1 : decide (x > y) = true := decide_eq_true hxy
                      have HR1 := hid (HTK2.out (by rw [HTD.out]; simp [hx0, hxy]))
                      clear HTK2 HKP2 HTD hx0 hxy
                      gi_upto_region 14 with fail
                      refine quiet_wide 44 (by kernel_rfl) (by kernel_rfl) ?_
                      simp only [List.take_succ_cons, List.take_zero, List.drop_succ_cons, List.drop_zero]
                      repeat (any_goals (first | go_big_quiet_step (fail) | quiet_step (fail)))
                      refine wpQuiet_nil ?_
                      rintro w6 ⟨⟨w6q, hx5⟩, hew5⟩
                      obtain rfl : w6 = w6q := hew5
                      have HX6 : Hid (Ext wr w6) := hid (show Ext wr w6 from hx5)
                      clear hx5
                      have HXN := hid (HXK.out.trans HX6.out)
                      clear c1 c2
                      gi_wp2_with fail
                      all_goals first
                        | exact (undef_no' ‹_›).elim
                        | (go_roundw
                           case rel => exact ⟨k + 1, by have := HLT.out; omega, by go_num, by rw [HR1.out], HXN⟩
                           case measure => have := HLT.out; simp [intOf]; omega)
                    · have hd1 : decide (x > y) = false := decide_eq_false hxy
                      by_cases hxe : x = y
                      · subst hxe
                        cases hbl : Op.bytesLess nk.toList nj.toList with
                        | true =>
                          have HR1 := hid (HTK2.out (by rw [HTD.out, hbl]; simp [hx0]))
                          clear HTK2 HKP2 HTD hx0 hxy
                          gi_upto_region 14 with fail
                          refine quiet_wide 44 (by kernel_rfl) (by kernel_rfl) ?_
                          simp only [List.take_succ_cons, List.take_zero, List.drop_succ_cons, List.drop_zero]
                          repeat (any_goals (first | go_big_quiet_step (fail) | quiet_step (fail)))
                          refine wpQuiet_nil ?_
                          rintro w6 ⟨⟨w6q, hx5⟩, hew5⟩
                          obtain rfl : w6 = w6q := hew5
                          have HX6 : Hid (Ext wr w6) := hid (show Ext wr w6 from hx5)
                          clear hx5
                          have HXN := hid (HXK.out.trans HX6.out)
                          clear c1 c2
                          gi_wp2_with fail
                          all_goals first
                            | exact (undef_no' ‹_›).elim
                            | (go_roundw
                               case rel => exact ⟨k + 1, by have := HLT.out; omega, by go_num, by rw [HR1.out], HXN⟩
                               case measure => have := HLT.out; simp [intOf]; omega)
                        | false =>
                          have HR1 := hid (HKP2.out (by rw [HTD.out, hbl]; simp))
                          clear HTK2 HKP2 HTD hx0 hxy
                          gi_upto_region 14 with fail
                          refine quiet_wide 44 (by kernel_rfl) (by kernel_rfl) ?_
                          simp only [List.take_succ_cons, List.take_zero, List.drop_succ_cons, List.drop_zero]
                          repeat (any_goals (first | go_big_quiet_step (fail) | quiet_step (fail)))
                          refine wpQuiet_nil ?_
                          rintro w6 ⟨⟨w6q, hx5⟩, hew5⟩
                          obtain rfl : w6 = w6q := hew5
                          have HX6 : Hid (Ext wr w6) := hid (show Ext wr w6 from hx5)
                          clear hx5
                          have HXN := hid (HXK.out.trans HX6.out)
                          clear c1 c2
                          gi_wp2_with fail
                          all_goals first
                            | exact (undef_no' ‹_›).elim
                            | (go_roundw
                               case rel => exact ⟨k + 1, by have := HLT.out; omega, by go_num, by rw [HR1.out], HXN⟩
                               case measure => have := HLT.out; simp [intOf]; omega)
                      · have hde : (x == y) = false := by simpa using hxe
                        have HR1 := hid (HKP2.out (by rw [HTD.out, hde]; simp; omega))
                        clear HTK2 HKP2 HTD hx0 hxy hxe
                        gi_upto_region 14 with fail
                        refine quiet_wide 44 (by kernel_rfl) (by kernel_rfl) ?_
                        simp only [List.take_succ_cons, List.take_zero, List.drop_succ_cons, List.drop_zero]
                        repeat (any_goals (first | go_big_quiet_step (fail) | quiet_step (fail)))
                        refine wpQuiet_nil ?_
                        rintro w6 ⟨⟨w6q, hx5⟩, hew5⟩
                        obtain rfl : w6 = w6q := hew5
                        have HX6 : Hid (Ext wr w6) := hid (show Ext wr w6 from hx5)
                        clear hx5
                        have HXN := hid (HXK.out.trans HX6.out)
                        clear c1 c2
                        gi_wp2_with fail
                        all_goals first
                          | exact (undef_no' ‹_›).elim
                          | (go_roundw
                             case rel => exact ⟨k + 1, by have := HLT.out; omega, by go_num, by rw [HR1.out], HXN⟩
                             case measure => have := HLT.out; simp [intOf]; omega)
                · rw [hb1] at HTD HKP ⊢
                  have HR1 := hid (HTK.out (by rw [hb1, HTD.out]; simp [hx0]))
                  generalize sR P l r k = x at *
                  clear HTK HKP HTD hb1 hx0
                  gi_upto_region 14 with fail
                  refine quiet_wide 44 (by kernel_rfl) (by kernel_rfl) ?_
                  simp only [List.take_succ_cons, List.take_zero, List.drop_succ_cons, List.drop_zero]
                  repeat (any_goals (first | go_big_quiet_step (fail) | quiet_step (fail)))
                  refine wpQuiet_nil ?_
                  rintro w6 ⟨⟨w6q, hx5⟩, hew5⟩
                  obtain rfl : w6 = w6q := hew5
                  have HX6 : Hid (Ext wr w6) := hid (show Ext wr w6 from hx5)
                  clear hx5
                  have HXN := hid (HXK.out.trans HX6.out)
                  clear c1 c2
                  gi_wp2_with fail
                  all_goals first
                    | exact (undef_no' ‹_›).elim
                    | (go_roundw
                       case rel => exact ⟨k + 1, by have := HLT.out; omega, by go_num, by rw [HR1.out], HXN⟩
                       case measure => have := HLT.out; simp [intOf]; omega)
              · have hd0 : decide (sR P l r k ≥ 0) = false := decide_eq_false (by omega)
                have HR1 := hid (HKP.out (by rw [HTD.out]; simp [hx0]))
                generalize sR P l r k = x at *
                generalize Sv.bestTo (sR P l r) (ltN l) k = B at *
                clear HTK HKP HTD hx0
                gi_upto_region 14 with fail
                refine quiet_wide 44 (by kernel_rfl) (by kernel_rfl) ?_
                simp only [List.take_succ_cons, List.take_zero, List.drop_succ_cons, List.drop_zero]
                repeat (any_goals (first | go_big_quiet_step (fail) | quiet_step (fail)))
                refine wpQuiet_nil ?_
                rintro w6 ⟨⟨w6q, hx5⟩, hew5⟩
                obtain rfl : w6 = w6q := hew5
                have HX6 : Hid (Ext wr w6) := hid (show Ext wr w6 from hx5)
                clear hx5
                have HXN := hid (HXK.out.trans HX6.out)
                clear c1 c2
                gi_wp2_with fail
                all_goals first
                  | exact (undef_no' ‹_›).elim
                  | (go_roundw
                     case rel => exact ⟨k + 1, by have := HLT.out; omega, by go_num, by rw [HR1.out], HXN⟩
                     case measure => have := HLT.out; simp [intOf]; omega)
            · obtain rfl : k = l.length := by omega
              have hki : ¬ (l.length : Int) < (l.length : Int) := by omega
              obtain ⟨hbl, hbt, hbn⟩ := HBT.out
              rw [hbt]
              have hbi : (bb : Int) < (l.length : Int) := by omega
              have ho := HI.out.2.1.mono HXK.out
              have hs := HI.out.2.2.mono HXK.out
              have HXW := hid (HI.out.1.trans HXK.out)
              obtain ⟨g1, p1, q1, e1, hoc, hg1, hc1, hf1⟩ := ho.cells1 hbl
              cases e1
              rw [show (intsF l.length (oR P l r))[bb]? = some (.int .i64 (oR P l r bb)) by simp [intsF, hbl]] at hc1
              have hfz := hf1 bb
              have hob := HOB.out r bb hbl
              have HSO := hid (ho.put1 bb (.int .i64 (oR P l r bb + 1)))
              have HSS := hid (hs.set (g := og) (fun e => hne (Option.some.inj e).symm) bb (.int .i64 (oR P l r bb + 1)))
              have HXO := hid (HXW.out.set (b := og) HOW.out.1 bb (.int .i64 (oR P l r bb + 1)))
              have HE1 := hid (show (intsF l.length (oR P l r)).set bb (.int .i64 (oR P l r bb + 1)) = intsF l.length (oR P l (r + 1)) by
                refine List.ext_getElem (by simp [intsF]) fun i h1 h2 => ?_
                have hi : i < l.length := by simpa [intsF] using h2
                rw [List.getElem_set]
                simp only [intsF, List.getElem_map, List.getElem_range]
                rw [(hbn i hi).1]
                by_cases h : bb = i
                · subst h; rw [if_pos rfl, if_pos rfl]
                · rw [if_neg h, if_neg (Ne.symm h)])
              have HE2 := hid (show (intsF l.length (sR P l r)).set bb (.int .i64 (-1)) = intsF l.length (sR P l (r + 1)) by
                refine List.ext_getElem (by simp [intsF]) fun i h1 h2 => ?_
                have hi : i < l.length := by simpa [intsF] using h2
                rw [List.getElem_set]
                simp only [intsF, List.getElem_map, List.getElem_range]
                rw [(hbn i hi).2]
                by_cases h : bb = i
                · subst h; rw [if_pos rfl, if_pos rfl]
                · rw [if_neg h, if_neg (Ne.symm h)])
              have HBL := hid hbl
              generalize oR P l r bb = xo at *
              have hwx : wrap64 (xo + 1) = xo + 1 := by unfold wrap64; omega
              clear ho hs hg1 hf1 hbn hbt hob hbl
              gi_upto_region 17 with fail
              clear hc1 hfz hwx
              generalize wr.setCell ⟨og, bb, none⟩ (.int .i64 (xo + 1)) = W2 at *
              rw [HE1.out] at HSO
              obtain ⟨g2, p2, q2, e2, hsc2, hg2, hcs, hf2⟩ := HSS.out.cells1 HBL.out
              cases e2
              have hfz := hf2 bb
              have HTO := hid (HSO.out.set (g := sg) (fun e => hne (Option.some.inj e)) bb (.int .i64 (-1)))
              have HTS := hid (HSS.out.put1 bb (.int .i64 (-1)))
              have HXT := hid (HXO.out.set (b := sg) HOW.out.2 bb (.int .i64 (-1)))
              rw [HE2.out] at HTS
              have HBL2 := HBL.out
              rw [show (intsF l.length (sR P l r))[bb]? = some (.int .i64 (sR P l r bb)) by simp [intsF, HBL2]] at hcs
              clear hg2 hf2 HBL2
              generalize sR P l r bb = oldv at *
              have HRL := hid (And.intro HR.out.1 HLN.out)
              have hrl9 := HR.out.1
              have hwl : wrap64 ((L0 : Int) - r - 1) = (L0 : Int) - r - 1 := by have := HLN.out; unfold wrap64; omega
              gi_wp2_with fail
              go_roundw
              case rel => exact ⟨r + 1, by have := HRL.out; omega, by rw [hwl]; congr 1; omega, hid ⟨HXT.out, HTO.out, HTS.out⟩⟩
              case measure => have := HRL.out; rw [hwl]; simp only [intOf]; omega
        · obtain rfl : r = L0 := by omega
          have hgt : ¬ r < r := by omega
          have HF := hid (show Row wr 3 1 (.slice (some ⟨og, 0, none⟩) l.length oc) l.length (intsF l.length (giveTo P l)) by
            rw [← intsF_congr fun i hi => HEN.out i hi]; exact HI.out.2.1)
          have HXE := hid HI.out.1
          clear HI HEN hrl
          gi_wp2_with fail
          go_ret
          exact ⟨_, rfl, HXE.out, hid ⟨HF.out, fun g hg => by
            have : og = g := by simpa [Value.ownBlock] using hg
            subst this; exact HOW.out.1⟩⟩
end
end Go.Proofs.YtjocoadhalimjaaGreat
