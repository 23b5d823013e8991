/- A sum that is divided by the weights of stakes. -/
import Derived.Test.YtjocoadhalimjaaGreatRAJ
import Derived.Test.YtjocoadhalimjaaGreatRAI
set_option linter.unusedSimpArgs false
set_option linter.unusedVariables false
namespace Go.Proofs.YtjocoadhalimjaaGreat
section
open Go Go.RowKit Go.Shelf

theorem quo_sum {P A : Int} (hA : 0 < A) : ∀ l : List Stk, A * (l.map fun s => P * s.weight / A).sum ≤ P * (l.map (·.weight)).sum ∧ P * (l.map (·.weight)).sum ≤ A * (l.map fun s => P * s.weight / A).sum + (A - 1) * l.length
  | [] => by simp
  | s :: l => by
    have h := quo_sum (P := P) hA l
    have h1 := Int.mul_ediv_add_emod (P * s.weight) A
    have h2 := Int.emod_nonneg (P * s.weight) (show A ≠ 0 by omega)
    have h3 := Int.emod_lt_of_pos (P * s.weight) hA
    simp only [List.map_cons, List.sum_cons, List.length_cons, Int.mul_add, Int.natCast_add, Int.natCast_one, Int.mul_one]
    generalize (l.map fun s => P * s.weight / A).sum = Q at *
    generalize (l.map (·.weight)).sum = W at *
    generalize P * s.weight / A = q at *
    generalize P * s.weight % A = r at *
    generalize P * s.weight = x at *
    generalize (A - 1) * (l.length : Int) = y at *
    omega
theorem left_bound {P : Int} {l : List Stk} (hP : 0 ≤ P) (hA : P = 0 ∨ 0 < sumW l) : 0 ≤ leftTo P (sumW l) l l.length ∧ leftTo P (sumW l) l l.length ≤ l.length := by
  unfold leftTo
  rw [List.take_length]
  rcases hA with rfl | hA
  · have : (l.map fun s => 0 * s.weight / sumW l).sum = 0 := by
      simp only [Int.zero_mul, Int.zero_ediv]
      clear hP
      generalize l.length = k
      induction l with
      | nil => rfl
      | cons a l ih => simp only [List.map_cons, List.sum_cons, ih]; rfl
    rw [this]; omega
  · have h := quo_sum (P := P) hA l
    have hW : (l.map (·.weight)).sum = sumW l := rfl
    rw [hW] at h
    generalize (l.map fun s => P * s.weight / sumW l).sum = Q at *
    generalize sumW l = A at *
    have h1 : Q ≤ P := by
      refine Int.le_of_mul_le_mul_left (a := A) ?_ hA
      rw [Int.mul_comm A P]; exact h.1
    have h2 : P - Q ≤ l.length := by
      refine Int.le_of_mul_le_mul_left (a := A) ?_ hA
      have h3 : (A - 1) * (l.length : Int) ≤ A * l.length := Int.mul_le_mul_of_nonneg_right (by omega) (by omega)
      rw [Int.mul_sub, Int.mul_comm A P]
      omega
    omega
/-- What each stake gets. -/
def giveTo (P : Int) (l : List Stk) (i : Nat) : Int := getsTo (shrs P (sumW l) l) (sortR (shrs P (sumW l) l)) (leftTo P (sumW l) l l.length).toNat i
set_option maxHeartbeats 1000000 in
theorem divide_any (P : Int) (v : Value) (l : List Stk) (w : World) (hv : StakesAt w v l) (hP : 0 ≤ P ∧ P ≤ 10000000) (hw : ∀ s ∈ l, 0 ≤ s.weight ∧ s.weight ≤ 1000000) (hl : l.length ≤ 10) (hA : P = 0 ∨ 0 < sumW l) (hd : (l.map (·.name)).Nodup) :
    Cal 49 #[.int .i64 P, v] w fun e w' => ∃ r, e = .returned r ∧ Ext w w' ∧ Hid (Row w' 3 1 r l.length (intsF l.length (giveTo P l))) := by
  have hlb := left_bound hP.1 hA
  obtain ⟨n, hn⟩ : ∃ n : Nat, leftTo P (sumW l) l l.length = n := ⟨_, (Int.toNat_of_nonneg hlb.1).symm⟩
  have hsl : (shrs P (sumW l) l).length = l.length := by simp [shrs]
  have HN := hid (newDivision_any P v l w hv hP hw hl hA)
  have HP := hid (fun (sv : Value) (u : World) (hr : Row u 146 4 sv l.length (flatS (shrs P (sumW l) l) l.length)) => pence_any sv (shrs P (sumW l) l) n u (by rw [hsl]; omega) (by rw [hsl]; omega) (by
      have : (shrs P (sumW l) l).map (·.name) = l.map (·.name) := by simp [shrs, shrOf, Function.comp_def]
      rw [this]; exact hd) (fun s hs => by
      obtain ⟨x, hx, rfl⟩ := List.mem_map.1 hs
      exact (quo_bound hP hA (hw x hx)).2.1) (SharesAt.of_row (by rw [hsl]; exact hr) (by rw [hsl]; omega)))
  rw [hn] at HN
  have HG : Hid (intsF l.length (getsTo (shrs P (sumW l) l) (sortR (shrs P (sumW l) l)) n) = intsF l.length (giveTo P l)) := hid (by
    unfold giveTo; rw [hn]; rfl)
  rw [hsl] at HP
  clear hv hP hw hl hA hd hlb hn hsl
  generalize leftTo P (sumW l) l l.length = L at *
  gi_enter Tryz.func49, Tryz.ntmps49
  gi_wp2_with (first | (gi_at_call 70; ((with_reducible refine HN.out.mono ?_); rintro e w1 ⟨sv, rfl, hx1, hr1⟩)) | (gi_at_call 71; ((with_reducible refine (HP.out _ _ hr1.out).mono ?_); rintro e w2 ⟨r, rfl, hx2, hr2⟩)))
  go_ret
  exact ⟨r, rfl, hx1.trans hx2, by rw [← HG.out]; exact hid hr2⟩
end
section
open Go Go.RowKit Go.Shelf

theorem stakes_ok {l : List Stk} (h : stakesB l = true) : l.length ≤ 10 ∧ (∀ s ∈ l, nameB s.name = true ∧ 0 ≤ s.weight ∧ s.weight ≤ 1000) ∧ (l.map (·.name)).Nodup := by
  unfold stakesB at h
  rw [Bool.and_eq_true, decide_eq_true_eq] at h
  have hg : ∀ i (hi : i < l.length), nameB l[i].name = true ∧ metB (l.take i) l[i].name = false ∧ inB l[i].weight 0 1000 = true := fun i hi => by
    have h1 := h.2
    unfold allTo at h1
    rw [List.all_eq_true] at h1
    have h2 := h1 i (List.mem_range.mpr hi)
    unfold stakeGood at h2
    rw [getD_of hi] at h2
    simpa using h2
  refine ⟨h.1, fun s hs => ?_, ?_⟩
  · obtain ⟨i, hi, rfl⟩ := List.getElem_of_mem hs
    have := hg i hi
    exact ⟨this.1, inB_spec this.2.2⟩
  · unfold List.Nodup
    rw [List.pairwise_iff_getElem]
    intro i j hi hj hij he
    simp only [List.length_map] at hi hj
    simp only [List.getElem_map] at he
    have h2 := (hg j hj).2.1
    unfold metB at h2
    rw [List.any_eq_false] at h2
    refine h2 l[i] (List.mem_take_iff_getElem.2 ⟨i, by omega, rfl⟩) ?_
    rw [he]; simp
/-- The error of a division. -/
def divE (P : Int) (l : List Stk) : Int := if inB P 0 10000000 then (if stakesB l && !(sumW l == 0) then 0 else 32) else 7
set_option maxHeartbeats 4000000 in
theorem Divide_bad (P : Int) (v : Value) (l : List Stk) (w : World) (hv : StakesAt w v l) (hn : ∀ s ∈ l, s.name.size ≤ maxLen) (he : divE P l ≠ 0) :
    Cal 15 #[.int .i64 P, v] w fun e w' => e = .returned (.tuple #[.slice none 0 0, .int .i64 (divE P l)]) ∧ Ext w w' := by
  have HS := hid (fun (u : World) (hu : Ext w u) => areStakes_any v l u (hv.mono hu) hn)
  have HI := hid (fun (u : World) => isIn_any P 0 10000000 u)
  cases hi : inB P 0 10000000 with
  | false =>
    rw [hi] at HI
    have HE : Hid (divE P l = 7) := hid (by unfold divE; rw [hi]; rfl)
    clear he hv hn hi
    gi_enter Tryz.func15, Tryz.ntmps15
    gi_wp2_with (gi_at_call 46; ((with_reducible refine (HI.out _).mono ?_); rintro e w1 ⟨rfl, rfl⟩))
    refine bodyPost_ret (v := .tuple #[.slice none 0 0, .int .i64 7]) (by simp [results, Tryz.results15, go_sem]) rfl ⟨by rw [HE.out], Ext.refl _⟩
  | true =>
    rw [hi] at HI
    cases hs : stakesB l with
    | false =>
      rw [hs] at HS
      have HE : Hid (divE P l = 32) := hid (by unfold divE; rw [hi, hs]; rfl)
      clear he hv hn hi hs
      gi_enter Tryz.func15, Tryz.ntmps15
      gi_wp2_with (first | (gi_at_call 46; ((with_reducible refine (HI.out _).mono ?_); rintro e w1 ⟨rfl, rfl⟩)) | (gi_at_call 47; ((with_reducible refine (HS.out _ (Ext.refl _)).mono ?_); rintro e w2 ⟨rfl, hx2⟩)))
      refine bodyPost_ret (v := .tuple #[.slice none 0 0, .int .i64 32]) (by simp [results, Tryz.results15, go_sem]) rfl ⟨by rw [HE.out], hx2⟩
    | true =>
      rw [hs] at HS
      have hz : sumW l = 0 := by
        by_cases h : sumW l = 0
        · exact h
        · exact absurd (by unfold divE; rw [hi, hs]; simp [h]) he
      have hok := stakes_ok hs
      have HW := hid (fun (u : World) (hu : Ext w u) => weights_any v l u (hv.mono hu) (fun s hs => by have := (hok.2.1 s hs).2; omega) (by omega))
      rw [hz] at HW
      have HE : Hid (divE P l = 32) := hid (by unfold divE; rw [hi, hs, hz]; rfl)
      clear he hv hn hi hs hok hz
      gi_enter Tryz.func15, Tryz.ntmps15
      gi_wp2_with (first | (gi_at_call 46; ((with_reducible refine (HI.out _).mono ?_); rintro e w1 ⟨rfl, rfl⟩)) | (gi_at_call 47; ((with_reducible refine (HS.out _ (Ext.refl _)).mono ?_); rintro e w2 ⟨rfl, hx2⟩)) | (gi_at_call 48; ((with_reducible refine (HW.out _ hx2).mono ?_); rintro e w3 ⟨rfl, hx3⟩)))
      refine bodyPost_ret (v := .tuple #[.slice none 0 0, .int .i64 32]) (by simp [results, Tryz.results15, go_sem]) rfl ⟨by rw [HE.out], hx2.trans hx3⟩
set_option maxHeartbeats 4000000 in
theorem Divide_ok (P : Int) (v : Value) (l : List Stk) (w : World) (hv : StakesAt w v l) (hn : ∀ s ∈ l, s.name.size ≤ maxLen) (he : divE P l = 0) :
    Cal 15 #[.int .i64 P, v] w fun e w' => ∃ r, e = .returned (.tuple #[r, .int .i64 0]) ∧ Ext w w' ∧ Hid (Row w' 3 1 r l.length (intsF l.length (giveTo P l))) := by
  have HS := hid (fun (u : World) (hu : Ext w u) => areStakes_any v l u (hv.mono hu) hn)
  have HI := hid (fun (u : World) => isIn_any P 0 10000000 u)
  unfold divE at he
  cases hi : inB P 0 10000000 with
  | false => rw [hi] at he; simp at he
  | true =>
    rw [hi] at HI he
    cases hs : stakesB l with
    | false => rw [hs] at he; simp at he
    | true =>
      rw [hs] at HS he
      have hz : sumW l ≠ 0 := fun h => by rw [h] at he; simp at he
      have hok := stakes_ok hs
      have hpos : 0 < sumW l := by
        have : 0 ≤ sumW l := by
          have h := sum_within (M := 1000) (by omega) (l.map (·.weight)) (fun x hx => by obtain ⟨s, hs, rfl⟩ := List.mem_map.1 hx; have := (hok.2.1 s hs).2; omega)
          clear h
          unfold sumW
          have hall : ∀ s ∈ l, 0 ≤ s.weight := fun s hs => (hok.2.1 s hs).2.1
          clear hok hs he hz HS hv hn HI
          induction l with
          | nil => simp
          | cons s l ih =>
            have h1 := hall s (.head _)
            have h2 := ih fun t ht => hall t (.tail _ ht)
            simp only [List.map_cons, List.sum_cons]; omega
        omega
      have HW := hid (fun (u : World) (hu : Ext w u) => weights_any v l u (hv.mono hu) (fun s hs => by have := (hok.2.1 s hs).2; omega) (by omega))
      have HD := hid (fun (u : World) (hu : Ext w u) => divide_any P v l u (hv.mono hu) (inB_spec hi) (fun s hs => by have := (hok.2.1 s hs).2; omega) hok.1 (.inr hpos) hok.2.2)
      have hzz : (sumW l == 0) = false := by simpa using hz
      generalize sumW l = A at *
      clear he hv hn hi hs hok hpos
      gi_enter Tryz.func15, Tryz.ntmps15
      gi_wp2_with (first | (gi_at_call 46; ((with_reducible refine (HI.out _).mono ?_); rintro e w1 ⟨rfl, rfl⟩)) | (gi_at_call 47; ((with_reducible refine (HS.out _ (Ext.refl _)).mono ?_); rintro e w2 ⟨rfl, hx2⟩)) | (gi_at_call 48; ((with_reducible refine (HW.out _ hx2).mono ?_); rintro e w3 ⟨rfl, hx3⟩)) | (gi_at_call 49; ((with_reducible refine (HD.out _ (hx2.trans hx3)).mono ?_); rintro e w4 ⟨r, rfl, hx4, hr⟩)))
      refine bodyPost_ret (v := .tuple #[r, .int .i64 0]) (by simp [results, Tryz.results15, go_sem]) rfl ⟨r, rfl, (hx2.trans hx3).trans hx4, hr⟩
end
end Go.Proofs.YtjocoadhalimjaaGreat
