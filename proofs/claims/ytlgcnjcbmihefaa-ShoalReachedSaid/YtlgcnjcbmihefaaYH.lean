/- With so many reports that the shoal was in a cell that they cannot be false: without a program. -/
import Derived.Test.YtlgcnjcbmihefaaYE
set_option linter.unusedSimpArgs false
set_option linter.unusedVariables false
namespace Go.Proofs.Ytlgcnjcbmihefaa
open Go Go.RowKit Go.Shelf

theorem minL_topR : ∀ (xs : List Int) (x : Int), minL x xs ≤ x
  | [], x => Int.le_refl _
  | z :: zs, x => by
    have := minL_topR zs (if z < x then z else x)
    show minL (if z < x then z else x) zs ≤ x
    split at this <;> split <;> omega
theorem fewest_iff {D : SeaD} {rs : List Rep} (h24 : rs.length ≤ 24) (h80 : D.wide * D.high ≤ 80) (hH : 0 < D.hours.toNat) {n : Int} (hn : n < 25) : fewestF D rs ≤ n ↔ ∃ T, isWay D T ∧ costW D rs T ≤ n := by
  constructor
  · intro h
    obtain ⟨T, hT, _, hc⟩ := (first_ok h24 h80 hH (by omega) 0 (Nat.zero_le _)).way
    exact ⟨T, hT, by omega⟩
  · rintro ⟨T, hT, hc⟩
    exact fewest_le h24 h80 hH hT hn hc
def repOk (hours cells : Int) (r : Rep) : Bool := inB r.hour 0 (hours - 1) && inB r.cell 0 (cells - 1) && inB r.far 0 9
theorem repsB_iff {hours cells : Int} {rs : List Rep} : repsB hours cells rs = true ↔ rs.length ≤ 24 ∧ ∀ r ∈ rs, repOk hours cells r = true := by
  unfold repsB allTo
  rw [Bool.and_eq_true, decide_eq_true_eq, List.all_eq_true]
  constructor
  · rintro ⟨h1, h2⟩
    refine ⟨h1, fun r hr => ?_⟩
    obtain ⟨j, hj, rfl⟩ := List.getElem_of_mem hr
    have := h2 j (List.mem_range.2 hj)
    unfold repGood at this
    rwa [show rs.getD j ⟨0, 0, 0, false⟩ = rs[j] by simp [List.getD, hj]] at this
  · rintro ⟨h1, h2⟩
    refine ⟨h1, fun i hi => ?_⟩
    have hi := List.mem_range.1 hi
    unfold repGood
    rw [show rs.getD i ⟨0, 0, 0, false⟩ = rs[i] by simp [List.getD, hi]]
    exact h2 _ (List.getElem_mem hi)
theorem leastErr_cases {D : SeaD} {rs : List Rep} (hS : soundB D rs = true) : (leastErr D rs = 4 ∧ fewestF D rs = 25) ∨ (leastErr D rs = 0 ∧ fewestF D rs < 25 ∧ leastN D rs = fewestF D rs) := by
  unfold soundB at hS
  rw [Bool.and_eq_true] at hS
  have htop : fewestF D rs ≤ 25 := minL_topR _ _
  unfold leastN leastErr
  rw [if_neg (by rw [hS.1]; simp), if_neg (by rw [hS.2]; simp)]
  by_cases h : fewestF D rs = 25
  · exact .inl ⟨if_pos h, h⟩
  · rw [if_neg h]
    exact .inr ⟨rfl, by omega, rfl⟩
theorem least_iff {D : SeaD} {rs : List Rep} (hS : soundB D rs = true) {n : Int} (hn : n < 25) : leastErr D rs = 0 ∧ leastN D rs ≤ n ↔ ∃ T, isWay D T ∧ costW D rs T ≤ n := by
  have hS2 := hS
  unfold soundB at hS2
  rw [Bool.and_eq_true] at hS2
  have hro := reps_ok hS2.1 hS2.2
  have hh := inB_spec (sea_bounds hS2.1).2.2.1
  rw [← fewest_iff hro.1 (seaB_80 hS2.1) (by omega) hn]
  rcases leastErr_cases hS with ⟨h1, h2⟩ | ⟨h1, h2, h3⟩ <;> omega
theorem can_iff {D : SeaD} {rs : List Rep} (hS : soundB D rs = true) {n h : Int} (hn : 0 ≤ n ∧ n < 25) (hh : 0 ≤ h ∧ h < D.hours) {c : Nat} : canErr D rs n h = (if (canF D rs n h.toNat).length = 0 then 12 else 0) ∧ canList D rs n h = canF D rs n h.toNat ∧ (c ∈ canF D rs n h.toNat ↔ ∃ T, isWay D T ∧ T h.toNat = c ∧ costW D rs T ≤ n) := by
  have hS2 := hS
  unfold soundB at hS2
  rw [Bool.and_eq_true] at hS2
  have hro := reps_ok hS2.1 hS2.2
  have ha : askErr D rs n h = 0 := by
    unfold askErr
    rw [if_neg (by rw [hS2.1]; simp), if_neg (by rw [hS2.2]; simp), if_neg]
    unfold inB
    simp
    omega
  refine ⟨?_, ?_, ?_⟩
  · unfold canErr; rw [if_neg (by rw [ha]; simp)]
  · unfold canList; rw [if_neg (by rw [ha]; simp)]
  · rw [mem_can hro.1 (by omega) hn.2]
    constructor
    · rintro ⟨_, h⟩; exact h
    · rintro ⟨T, hT, e, hc⟩; exact ⟨by rw [← e]; exact hT.1 _ (Nat.zero_le _) (by omega), T, hT, e, hc⟩
theorem reach_facts {D : SeaD} {rs : List Rep} (hS : soundB D rs = true) {n h cell : Int} (hn : 0 ≤ n ∧ n < 6) (hh : 0 ≤ h ∧ h < D.hours) (hc : 0 ≤ cell ∧ cell < D.wide * D.high) (hl : (rs.length : Int) + n + 1 ≤ 24) :
    (canErr D rs n h = 0 ∧ leastErr D rs = 0 ∧ leastN D rs ≤ n ∨ canErr D rs n h = 12 ∧ canList D rs n h = [] ∧ (leastErr D rs = 4 ∨ leastErr D rs = 0 ∧ n < leastN D rs)) ∧
    (cell.toNat ∈ canList D rs n h ↔ leastErr D (rs ++ List.replicate (n.toNat + 1) ⟨h, cell, 0, true⟩) = 0 ∧ leastN D (rs ++ List.replicate (n.toNat + 1) ⟨h, cell, 0, true⟩) ≤ n) := by
  have hS2 := hS
  unfold soundB at hS2
  rw [Bool.and_eq_true] at hS2
  have hb := repsB_iff.mp hS2.2
  have hS3 : soundB D (rs ++ List.replicate (n.toNat + 1) ⟨h, cell, 0, true⟩) = true := by
    unfold soundB
    rw [hS2.1, Bool.true_and]
    refine repsB_iff.mpr ⟨by rw [List.length_append, List.length_replicate]; omega, fun r hr => ?_⟩
    rcases List.mem_append.mp hr with hr | hr
    · exact hb.2 r hr
    · rw [(List.mem_replicate.mp hr).2]
      unfold repOk inB
      simp
      omega
  have hcan := fun c => can_iff hS (n := n) (h := h) (c := c) (by omega) hh
  rw [(hcan 0).1, (hcan 0).2.1]
  have hcase := leastErr_cases hS
  have hle := least_iff hS (n := n) (by omega)
  constructor
  · by_cases h0 : (canF D rs n h.toNat).length = 0
    · rw [if_pos h0]
      refine .inr ⟨rfl, List.eq_nil_of_length_eq_zero h0, ?_⟩
      have hno : ¬ (leastErr D rs = 0 ∧ leastN D rs ≤ n) := fun hy => by
        obtain ⟨T, hT, hcT⟩ := hle.mp hy
        have := (hcan (T h.toNat)).2.2.mpr ⟨T, hT, rfl, hcT⟩
        rw [List.eq_nil_of_length_eq_zero h0] at this
        cases this
      omega
    · rw [if_neg h0]
      refine .inl ⟨rfl, hle.mpr ?_⟩
      obtain ⟨c, hc⟩ := List.exists_mem_of_length_pos (Nat.pos_of_ne_zero h0)
      obtain ⟨T, hT, _, hcT⟩ := (hcan c).2.2.mp hc
      exact ⟨T, hT, hcT⟩
  · rw [(hcan cell.toNat).2.2, least_iff hS3 (by omega)]
    have hcost := fun T (hT : isWay D T) => cost_there (rs := rs) (k := n.toNat + 1) (hr := h.toNat) (a := cell.toNat) hT (by omega)
    rw [show ((h.toNat : Nat) : Int) = h by omega, show ((cell.toNat : Nat) : Int) = cell by omega] at hcost
    constructor
    · rintro ⟨T, hT, e, hcT⟩
      exact ⟨T, hT, by rw [hcost T hT, if_pos e]; omega⟩
    · rintro ⟨T, hT, hcT⟩
      rw [hcost T hT] at hcT
      have hnn : 0 ≤ costW D rs T := sumTo_nonneg (f := fun i => ownF D rs i (T i)) (fun i => (ownF_bounds D hb.1 i (T i)).1) _
      by_cases e : T h.toNat = cell.toNat
      · rw [if_pos e] at hcT; exact ⟨T, hT, e, by omega⟩
      · rw [if_neg e] at hcT; omega
end Go.Proofs.Ytlgcnjcbmihefaa
