/- With a report more, fewer that may be false, or a lesser speed, no cell more: without a program. -/
import Derived.Test.YtlgcnjcbmihefaaYB
set_option linter.unusedSimpArgs false
set_option linter.unusedVariables false
namespace Go.Proofs.Ytlgcnjcbmihefaa
open Go Go.RowKit Go.Shelf

theorem untrueN_app (S : SeaV) (rs ss : List Rep) (h : Nat) (x y : Int) : untrueN S (rs ++ ss) h x y = untrueN S rs h x y + untrueN S ss h x y := by
  unfold untrueN ofHour
  rw [List.filter_append, List.countP_append]
theorem sumTo_le {f g : Nat → Int} : ∀ k, (∀ i, i < k → f i ≤ g i) → sumTo f k ≤ sumTo g k
  | 0, _ => Int.le_refl _
  | k + 1, h => by
    have := sumTo_le k (fun i hi => h i (by omega))
    have := h k (by omega)
    show sumTo f k + f k ≤ sumTo g k + g k
    omega
theorem cost_app {D : SeaD} {rs ss : List Rep} {T : Nat → Nat} (hT : isWay D T) : costW D rs T ≤ costW D (rs ++ ss) T := by
  unfold costW
  refine sumTo_le _ (fun i hi => ?_)
  have ho := hT.1 i (Nat.zero_le _) hi
  rw [own_of ho, own_of ho, untrueN_app]
  omega
theorem mem_can {D : SeaD} {rs : List Rep} {n : Int} {h c : Nat} (h24 : rs.length ≤ 24) (hh : h < D.hours.toNat) (hn : n < 25) : c ∈ canF D rs n h ↔ openC D c ∧ ∃ T, isWay D T ∧ T h = c ∧ costW D rs T ≤ n := by
  unfold canF
  rw [List.mem_filter]
  constructor
  · rintro ⟨h1, h2⟩; exact ⟨h1, (can_way h24 hh h1 hn).mp h2⟩
  · rintro ⟨h1, h2⟩; exact ⟨h1, (can_way h24 hh h1 hn).mpr h2⟩
theorem can_app {D : SeaD} {rs ss : List Rep} {n : Int} {h c : Nat} (h24 : (rs ++ ss).length ≤ 24) (hh : h < D.hours.toNat) (hn : n < 25) (hc : c ∈ canF D (rs ++ ss) n h) : c ∈ canF D rs n h := by
  obtain ⟨ho, T, hT, e, hle⟩ := (mem_can h24 hh hn).mp hc
  refine (mem_can (by rw [List.length_append] at h24; omega) hh hn).mpr ⟨ho, T, hT, e, ?_⟩
  have := cost_app (rs := rs) (ss := ss) hT
  omega
theorem can_fewer {D : SeaD} {rs : List Rep} {n m : Int} {h c : Nat} (h24 : rs.length ≤ 24) (hh : h < D.hours.toNat) (hnm : n ≤ m) (hm : m < 25) (hc : c ∈ canF D rs n h) : c ∈ canF D rs m h := by
  obtain ⟨ho, T, hT, e, hle⟩ := (mem_can h24 hh (by omega)).mp hc
  exact (mem_can h24 hh hm).mpr ⟨ho, T, hT, e, by omega⟩
/-- The sea with another speed. -/
def slowD (D : SeaD) (s : Int) : SeaD := { D with speed := s }
theorem slow_way {D : SeaD} {s : Int} (h0 : 0 ≤ s) (h1 : s ≤ D.speed) {T : Nat → Nat} (hT : isWay (slowD D s) T) : isWay D T := by
  refine ⟨hT.1, fun i h2 h3 => ?_⟩
  have h := hT.2 i h2 h3
  unfold linkP at h ⊢
  rw [mem_reach] at h ⊢
  have e1 : (slowD D s).speed = s := rfl
  have e2 : (slowD D s).drift = D.drift := rfl
  have e3 : ∀ c, col (seaOf (slowD D s)) c = col (seaOf D) c := fun _ => rfl
  have e4 : ∀ c, row (seaOf (slowD D s)) c = row (seaOf D) c := fun _ => rfl
  rw [e1, e2, e3, e3, e4, e4] at h
  omega
theorem slow_can {D : SeaD} {s : Int} (h0 : 0 ≤ s) (h1 : s ≤ D.speed) {rs : List Rep} {n : Int} {h c : Nat} (h24 : rs.length ≤ 24) (hh : h < D.hours.toNat) (hn : n < 25) (hc : c ∈ canF (slowD D s) rs n h) : c ∈ canF D rs n h := by
  obtain ⟨ho, T, hT, e, hle⟩ := (mem_can (D := slowD D s) h24 hh hn).mp hc
  exact (mem_can h24 hh hn).mpr ⟨ho, T, slow_way h0 h1 hT, e, hle⟩
/-- A report that the shoal was in a cell, with no distance, is true of that cell alone. -/
theorem there_iff {D : SeaD} {h a b : Int} : repTrue ⟨h, a, 0, true⟩ (col (seaOf D) a) (row (seaOf D) a) (col (seaOf D) b) (row (seaOf D) b) = true ↔ a = b := by
  unfold repTrue
  rw [dist_max]
  constructor
  · intro hd
    have hd2 : decide (max (max (-(col (seaOf D) a - col (seaOf D) b)) (col (seaOf D) a - col (seaOf D) b)) (max (-(row (seaOf D) a - row (seaOf D) b)) (row (seaOf D) a - row (seaOf D) b)) ≤ 0) = true := by simpa using hd
    have hd3 := of_decide_eq_true hd2
    exact place_inj (S := seaOf D) (by omega) (by omega)
  · rintro rfl
    simp
/-- So many reports that it was in a cell: how many of them are false. -/
theorem untrueN_there {D : SeaD} {k hr : Nat} {a : Int} {h : Nat} {c : Nat} : untrueN (seaOf D) (List.replicate k ⟨(hr : Int), a, 0, true⟩) h (col (seaOf D) c) (row (seaOf D) c) = if hr = h ∧ a ≠ c then k else 0 := by
  unfold untrueN ofHour
  by_cases e : hr = h
  · subst e
    rw [List.filter_replicate, if_pos (by simp)]
    rw [List.countP_replicate]
    by_cases e2 : a = c
    · rw [if_neg (by rw [there_iff.mpr e2]; simp), if_neg (fun h => h.2 e2)]
    · have hf : repTrue ⟨(hr : Int), a, 0, true⟩ (col (seaOf D) a) (row (seaOf D) a) (col (seaOf D) c) (row (seaOf D) c) = false := by
        cases h : repTrue ⟨(hr : Int), a, 0, true⟩ (col (seaOf D) a) (row (seaOf D) a) (col (seaOf D) c) (row (seaOf D) c) with
        | false => rfl
        | true => exact absurd (there_iff.mp h) e2
      rw [if_pos (by rw [hf]; rfl), if_pos ⟨rfl, e2⟩]
  · rw [List.filter_replicate, if_neg (by simp; omega), if_neg (fun h => e h.1)]
    rfl
theorem sumTo_one {f : Nat → Int} {j : Nat} {v : Int} : ∀ k, (∀ i, i < k → f i = if j = i then v else 0) → sumTo f k = if j < k then v else 0
  | 0, _ => by rw [if_neg (by omega)]; rfl
  | k + 1, h => by
    have ih := sumTo_one k (fun i hi => h i (by omega))
    have hk := h k (by omega)
    show sumTo f k + f k = _
    rw [ih, hk]
    by_cases h1 : j < k
    · rw [if_pos h1, if_neg (by omega), if_pos (by omega)]; omega
    · by_cases h2 : j = k
      · rw [if_neg h1, if_pos h2, if_pos (by omega)]; omega
      · rw [if_neg h1, if_neg h2, if_neg (by omega)]; omega
theorem sumTo_add {f g : Nat → Int} : ∀ k, sumTo (fun i => f i + g i) k = sumTo f k + sumTo g k
  | 0 => rfl
  | k + 1 => by
    have := sumTo_add (f := f) (g := g) k
    show sumTo (fun i => f i + g i) k + (f k + g k) = sumTo f k + f k + (sumTo g k + g k)
    omega
theorem cost_there {D : SeaD} {rs : List Rep} {k hr a : Nat} {T : Nat → Nat} (hT : isWay D T) (hh : hr < D.hours.toNat) : costW D (rs ++ List.replicate k ⟨(hr : Int), (a : Int), 0, true⟩) T = costW D rs T + if T hr = a then 0 else (k : Int) := by
  unfold costW
  have e : sumTo (fun i => ownF D (rs ++ List.replicate k ⟨(hr : Int), (a : Int), 0, true⟩) i (T i)) D.hours.toNat = sumTo (fun i => ownF D rs i (T i) + ((if hr = i ∧ (a : Int) ≠ (T i : Nat) then k else 0 : Nat) : Int)) D.hours.toNat := by
    refine sumTo_congr _ (fun i hi => ?_)
    have ho := hT.1 i (Nat.zero_le _) hi
    rw [own_of ho, own_of ho, untrueN_app, untrueN_there]
    simp
  have e2 := sumTo_one (f := fun i => ((if hr = i ∧ (a : Int) ≠ (T i : Nat) then k else 0 : Nat) : Int)) (j := hr) (v := if T hr = a then 0 else (k : Int)) D.hours.toNat (fun i hi => by
    by_cases h1 : hr = i
    · subst h1
      rw [if_pos rfl]
      by_cases h2 : T hr = a
      · rw [if_pos h2, if_neg (fun h => h.2 (by omega))]; rfl
      · rw [if_neg h2, if_pos ⟨rfl, by omega⟩]
    · rw [if_neg h1, if_neg (fun h => h1 h.1)]; rfl)
  rw [e, sumTo_add, e2, if_pos hh]

theorem minL_topR : ∀ (xs : List Int) (x : Int), minL x xs ≤ x
  | [], x => Int.le_refl _
  | z :: zs, x => by
    have := minL_topR zs (if z < x then z else x)
    show minL (if z < x then z else x) zs ≤ x
    split at this <;> split <;> omega
theorem fewest_iff {D : SeaD} {rs : List Rep} (h24 : rs.length ≤ 24) (h80 : D.wide * D.high ≤ 80) (hH : 0 < D.hours.toNat) {n : Int} (hn : n < 25) : fewestF D rs ≤ n ↔ ∃ T, isWay D T ∧ costW D rs T ≤ n := by
  constructor
  · intro h
    obtain ⟨T, hT, _, hc⟩ := (first_ok h24 h80 hH (by omega) 0 (Nat.zero_le _)).way
    exact ⟨T, hT, by omega⟩
  · rintro ⟨T, hT, hc⟩
    exact fewest_le h24 h80 hH hT hn hc
def repOk (hours cells : Int) (r : Rep) : Bool := inB r.hour 0 (hours - 1) && inB r.cell 0 (cells - 1) && inB r.far 0 9
theorem repsB_iff {hours cells : Int} {rs : List Rep} : repsB hours cells rs = true ↔ rs.length ≤ 24 ∧ ∀ r ∈ rs, repOk hours cells r = true := by
  unfold repsB allTo
  rw [Bool.and_eq_true, decide_eq_true_eq, List.all_eq_true]
  constructor
  · rintro ⟨h1, h2⟩
    refine ⟨h1, fun r hr => ?_⟩
    obtain ⟨j, hj, rfl⟩ := List.getElem_of_mem hr
    have := h2 j (List.mem_range.2 hj)
    unfold repGood at this
    rwa [show rs.getD j ⟨0, 0, 0, false⟩ = rs[j] by simp [List.getD, hj]] at this
  · rintro ⟨h1, h2⟩
    refine ⟨h1, fun i hi => ?_⟩
    have hi := List.mem_range.1 hi
    unfold repGood
    rw [show rs.getD i ⟨0, 0, 0, false⟩ = rs[i] by simp [List.getD, hi]]
    exact h2 _ (List.getElem_mem hi)
theorem leastErr_cases {D : SeaD} {rs : List Rep} (hS : soundB D rs = true) : (leastErr D rs = 4 ∧ fewestF D rs = 25) ∨ (leastErr D rs = 0 ∧ fewestF D rs < 25 ∧ leastN D rs = fewestF D rs) := by
  unfold soundB at hS
  rw [Bool.and_eq_true] at hS
  have htop : fewestF D rs ≤ 25 := minL_topR _ _
  unfold leastN leastErr
  rw [if_neg (by rw [hS.1]; simp), if_neg (by rw [hS.2]; simp)]
  by_cases h : fewestF D rs = 25
  · exact .inl ⟨if_pos h, h⟩
  · rw [if_neg h]
    exact .inr ⟨rfl, by omega, rfl⟩
theorem least_iff {D : SeaD} {rs : List Rep} (hS : soundB D rs = true) {n : Int} (hn : n < 25) : leastErr D rs = 0 ∧ leastN D rs ≤ n ↔ ∃ T, isWay D T ∧ costW D rs T ≤ n := by
  have hS2 := hS
  unfold soundB at hS2
  rw [Bool.and_eq_true] at hS2
  have hro := reps_ok hS2.1 hS2.2
  have hh := inB_spec (sea_bounds hS2.1).2.2.1
  rw [← fewest_iff hro.1 (seaB_80 hS2.1) (by omega) hn]
  rcases leastErr_cases hS with ⟨h1, h2⟩ | ⟨h1, h2, h3⟩ <;> omega
theorem can_iff {D : SeaD} {rs : List Rep} (hS : soundB D rs = true) {n h : Int} (hn : 0 ≤ n ∧ n < 25) (hh : 0 ≤ h ∧ h < D.hours) {c : Nat} : canErr D rs n h = (if (canF D rs n h.toNat).length = 0 then 12 else 0) ∧ canList D rs n h = canF D rs n h.toNat ∧ (c ∈ canF D rs n h.toNat ↔ ∃ T, isWay D T ∧ T h.toNat = c ∧ costW D rs T ≤ n) := by
  have hS2 := hS
  unfold soundB at hS2
  rw [Bool.and_eq_true] at hS2
  have hro := reps_ok hS2.1 hS2.2
  have ha : askErr D rs n h = 0 := by
    unfold askErr
    rw [if_neg (by rw [hS2.1]; simp), if_neg (by rw [hS2.2]; simp), if_neg]
    unfold inB
    simp
    omega
  refine ⟨?_, ?_, ?_⟩
  · unfold canErr; rw [if_neg (by rw [ha]; simp)]
  · unfold canList; rw [if_neg (by rw [ha]; simp)]
  · rw [mem_can hro.1 (by omega) hn.2]
    constructor
    · rintro ⟨_, h⟩; exact h
    · rintro ⟨T, hT, e, hc⟩; exact ⟨by rw [← e]; exact hT.1 _ (Nat.zero_le _) (by omega), T, hT, e, hc⟩
theorem reach_facts {D : SeaD} {rs : List Rep} (hS : soundB D rs = true) {n h cell : Int} (hn : 0 ≤ n ∧ n < 6) (hh : 0 ≤ h ∧ h < D.hours) (hc : 0 ≤ cell ∧ cell < D.wide * D.high) (hl : (rs.length : Int) + n + 1 ≤ 24) :
    (canErr D rs n h = 0 ∧ leastErr D rs = 0 ∧ leastN D rs ≤ n ∨ canErr D rs n h = 12 ∧ canList D rs n h = [] ∧ (leastErr D rs = 4 ∨ leastErr D rs = 0 ∧ n < leastN D rs)) ∧
    (cell.toNat ∈ canList D rs n h ↔ leastErr D (rs ++ List.replicate (n.toNat + 1) ⟨h, cell, 0, true⟩) = 0 ∧ leastN D (rs ++ List.replicate (n.toNat + 1) ⟨h, cell, 0, true⟩) ≤ n) := by
  have hS2 := hS
  unfold soundB at hS2
  rw [Bool.and_eq_true] at hS2
  have hb := repsB_iff.mp hS2.2
  have hS3 : soundB D (rs ++ List.replicate (n.toNat + 1) ⟨h, cell, 0, true⟩) = true := by
    unfold soundB
    rw [hS2.1, Bool.true_and]
    refine repsB_iff.mpr ⟨by rw [List.length_append, List.length_replicate]; omega, fun r hr => ?_⟩
    rcases List.mem_append.mp hr with hr | hr
    · exact hb.2 r hr
    · rw [(List.mem_replicate.mp hr).2]
      unfold repOk inB
      simp
      omega
  have hcan := fun c => can_iff hS (n := n) (h := h) (c := c) (by omega) hh
  rw [(hcan 0).1, (hcan 0).2.1]
  have hcase := leastErr_cases hS
  have hle := least_iff hS (n := n) (by omega)
  constructor
  · by_cases h0 : (canF D rs n h.toNat).length = 0
    · rw [if_pos h0]
      refine .inr ⟨rfl, List.eq_nil_of_length_eq_zero h0, ?_⟩
      have hno : ¬ (leastErr D rs = 0 ∧ leastN D rs ≤ n) := fun hy => by
        obtain ⟨T, hT, hcT⟩ := hle.mp hy
        have := (hcan (T h.toNat)).2.2.mpr ⟨T, hT, rfl, hcT⟩
        rw [List.eq_nil_of_length_eq_zero h0] at this
        cases this
      omega
    · rw [if_neg h0]
      refine .inl ⟨rfl, hle.mpr ?_⟩
      obtain ⟨c, hc⟩ := List.exists_mem_of_length_pos (Nat.pos_of_ne_zero h0)
      obtain ⟨T, hT, _, hcT⟩ := (hcan c).2.2.mp hc
      exact ⟨T, hT, hcT⟩
  · rw [(hcan cell.toNat).2.2, least_iff hS3 (by omega)]
    have hcost := fun T (hT : isWay D T) => cost_there (rs := rs) (k := n.toNat + 1) (hr := h.toNat) (a := cell.toNat) hT (by omega)
    rw [show ((h.toNat : Nat) : Int) = h by omega, show ((cell.toNat : Nat) : Int) = cell by omega] at hcost
    constructor
    · rintro ⟨T, hT, e, hcT⟩
      exact ⟨T, hT, by rw [hcost T hT, if_pos e]; omega⟩
    · rintro ⟨T, hT, hcT⟩
      rw [hcost T hT] at hcT
      have hnn : 0 ≤ costW D rs T := sumTo_nonneg (f := fun i => ownF D rs i (T i)) (fun i => (ownF_bounds D hb.1 i (T i)).1) _
      by_cases e : T h.toNat = cell.toNat
      · rw [if_pos e] at hcT; exact ⟨T, hT, e, by omega⟩
      · rw [if_neg e] at hcT; omega
end Go.Proofs.Ytlgcnjcbmihefaa
