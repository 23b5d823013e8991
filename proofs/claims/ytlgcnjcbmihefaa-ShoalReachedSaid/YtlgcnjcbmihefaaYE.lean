/- With a report more, fewer that may be false, or a lesser speed, no cell more: without a program. -/
import Derived.Test.YtlgcnjcbmihefaaYB
set_option linter.unusedSimpArgs false
set_option linter.unusedVariables false
namespace Go.Proofs.Ytlgcnjcbmihefaa
open Go Go.RowKit Go.Shelf

theorem untrueN_app (S : SeaV) (rs ss : List Rep) (h : Nat) (x y : Int) : untrueN S (rs ++ ss) h x y = untrueN S rs h x y + untrueN S ss h x y := by
  unfold untrueN ofHour
  rw [List.filter_append, List.countP_append]
theorem sumTo_le {f g : Nat → Int} : ∀ k, (∀ i, i < k → f i ≤ g i) → sumTo f k ≤ sumTo g k
  | 0, _ => Int.le_refl _
  | k + 1, h => by
    have := sumTo_le k (fun i hi => h i (by omega))
    have := h k (by omega)
    show sumTo f k + f k ≤ sumTo g k + g k
    omega
theorem cost_app {D : SeaD} {rs ss : List Rep} {T : Nat → Nat} (hT : isWay D T) : costW D rs T ≤ costW D (rs ++ ss) T := by
  unfold costW
  refine sumTo_le _ (fun i hi => ?_)
  have ho := hT.1 i (Nat.zero_le _) hi
  rw [own_of ho, own_of ho, untrueN_app]
  omega
theorem mem_can {D : SeaD} {rs : List Rep} {n : Int} {h c : Nat} (h24 : rs.length ≤ 24) (hh : h < D.hours.toNat) (hn : n < 25) : c ∈ canF D rs n h ↔ openC D c ∧ ∃ T, isWay D T ∧ T h = c ∧ costW D rs T ≤ n := by
  unfold canF
  rw [List.mem_filter]
  constructor
  · rintro ⟨h1, h2⟩; exact ⟨h1, (can_way h24 hh h1 hn).mp h2⟩
  · rintro ⟨h1, h2⟩; exact ⟨h1, (can_way h24 hh h1 hn).mpr h2⟩
theorem can_app {D : SeaD} {rs ss : List Rep} {n : Int} {h c : Nat} (h24 : (rs ++ ss).length ≤ 24) (hh : h < D.hours.toNat) (hn : n < 25) (hc : c ∈ canF D (rs ++ ss) n h) : c ∈ canF D rs n h := by
  obtain ⟨ho, T, hT, e, hle⟩ := (mem_can h24 hh hn).mp hc
  refine (mem_can (by rw [List.length_append] at h24; omega) hh hn).mpr ⟨ho, T, hT, e, ?_⟩
  have := cost_app (rs := rs) (ss := ss) hT
  omega
theorem can_fewer {D : SeaD} {rs : List Rep} {n m : Int} {h c : Nat} (h24 : rs.length ≤ 24) (hh : h < D.hours.toNat) (hnm : n ≤ m) (hm : m < 25) (hc : c ∈ canF D rs n h) : c ∈ canF D rs m h := by
  obtain ⟨ho, T, hT, e, hle⟩ := (mem_can h24 hh (by omega)).mp hc
  exact (mem_can h24 hh hm).mpr ⟨ho, T, hT, e, by omega⟩
/-- The sea with another speed. -/
def slowD (D : SeaD) (s : Int) : SeaD := { D with speed := s }
theorem slow_way {D : SeaD} {s : Int} (h0 : 0 ≤ s) (h1 : s ≤ D.speed) {T : Nat → Nat} (hT : isWay (slowD D s) T) : isWay D T := by
  refine ⟨hT.1, fun i h2 h3 => ?_⟩
  have h := hT.2 i h2 h3
  unfold linkP at h ⊢
  rw [mem_reach] at h ⊢
  have e1 : (slowD D s).speed = s := rfl
  have e2 : (slowD D s).drift = D.drift := rfl
  have e3 : ∀ c, col (seaOf (slowD D s)) c = col (seaOf D) c := fun _ => rfl
  have e4 : ∀ c, row (seaOf (slowD D s)) c = row (seaOf D) c := fun _ => rfl
  rw [e1, e2, e3, e3, e4, e4] at h
  omega
theorem slow_can {D : SeaD} {s : Int} (h0 : 0 ≤ s) (h1 : s ≤ D.speed) {rs : List Rep} {n : Int} {h c : Nat} (h24 : rs.length ≤ 24) (hh : h < D.hours.toNat) (hn : n < 25) (hc : c ∈ canF (slowD D s) rs n h) : c ∈ canF D rs n h := by
  obtain ⟨ho, T, hT, e, hle⟩ := (mem_can (D := slowD D s) h24 hh hn).mp hc
  exact (mem_can h24 hh hn).mpr ⟨ho, T, slow_way h0 h1 hT, e, hle⟩
/-- A report that the shoal was in a cell, with no distance, is true of that cell alone. -/
theorem there_iff {D : SeaD} {h a b : Int} : repTrue ⟨h, a, 0, true⟩ (col (seaOf D) a) (row (seaOf D) a) (col (seaOf D) b) (row (seaOf D) b) = true ↔ a = b := by
  unfold repTrue
  rw [dist_max]
  constructor
  · intro hd
    have hd2 : decide (max (max (-(col (seaOf D) a - col (seaOf D) b)) (col (seaOf D) a - col (seaOf D) b)) (max (-(row (seaOf D) a - row (seaOf D) b)) (row (seaOf D) a - row (seaOf D) b)) ≤ 0) = true := by simpa using hd
    have hd3 := of_decide_eq_true hd2
    exact place_inj (S := seaOf D) (by omega) (by omega)
  · rintro rfl
    simp
/-- So many reports that it was in a cell: how many of them are false. -/
theorem untrueN_there {D : SeaD} {k hr : Nat} {a : Int} {h : Nat} {c : Nat} : untrueN (seaOf D) (List.replicate k ⟨(hr : Int), a, 0, true⟩) h (col (seaOf D) c) (row (seaOf D) c) = if hr = h ∧ a ≠ c then k else 0 := by
  unfold untrueN ofHour
  by_cases e : hr = h
  · subst e
    rw [List.filter_replicate, if_pos (by simp)]
    rw [List.countP_replicate]
    by_cases e2 : a = c
    · rw [if_neg (by rw [there_iff.mpr e2]; simp), if_neg (fun h => h.2 e2)]
    · have hf : repTrue ⟨(hr : Int), a, 0, true⟩ (col (seaOf D) a) (row (seaOf D) a) (col (seaOf D) c) (row (seaOf D) c) = false := by
        cases h : repTrue ⟨(hr : Int), a, 0, true⟩ (col (seaOf D) a) (row (seaOf D) a) (col (seaOf D) c) (row (seaOf D) c) with
        | false => rfl
        | true => exact absurd (there_iff.mp h) e2
      rw [if_pos (by rw [hf]; rfl), if_pos ⟨rfl, e2⟩]
  · rw [List.filter_replicate, if_neg (by simp; omega), if_neg (fun h => e h.1)]
    rfl
theorem sumTo_one {f : Nat → Int} {j : Nat} {v : Int} : ∀ k, (∀ i, i < k → f i = if j = i then v else 0) → sumTo f k = if j < k then v else 0
  | 0, _ => by rw [if_neg (by omega)]; rfl
  | k + 1, h => by
    have ih := sumTo_one k (fun i hi => h i (by omega))
    have hk := h k (by omega)
    show sumTo f k + f k = _
    rw [ih, hk]
    by_cases h1 : j < k
    · rw [if_pos h1, if_neg (by omega), if_pos (by omega)]; omega
    · by_cases h2 : j = k
      · rw [if_neg h1, if_pos h2, if_pos (by omega)]; omega
      · rw [if_neg h1, if_neg h2, if_neg (by omega)]; omega
theorem sumTo_add {f g : Nat → Int} : ∀ k, sumTo (fun i => f i + g i) k = sumTo f k + sumTo g k
  | 0 => rfl
  | k + 1 => by
    have := sumTo_add (f := f) (g := g) k
    show sumTo (fun i => f i + g i) k + (f k + g k) = sumTo f k + f k + (sumTo g k + g k)
    omega
theorem cost_there {D : SeaD} {rs : List Rep} {k hr a : Nat} {T : Nat → Nat} (hT : isWay D T) (hh : hr < D.hours.toNat) : costW D (rs ++ List.replicate k ⟨(hr : Int), (a : Int), 0, true⟩) T = costW D rs T + if T hr = a then 0 else (k : Int) := by
  unfold costW
  have e : sumTo (fun i => ownF D (rs ++ List.replicate k ⟨(hr : Int), (a : Int), 0, true⟩) i (T i)) D.hours.toNat = sumTo (fun i => ownF D rs i (T i) + ((if hr = i ∧ (a : Int) ≠ (T i : Nat) then k else 0 : Nat) : Int)) D.hours.toNat := by
    refine sumTo_congr _ (fun i hi => ?_)
    have ho := hT.1 i (Nat.zero_le _) hi
    rw [own_of ho, own_of ho, untrueN_app, untrueN_there]
    simp
  have e2 := sumTo_one (f := fun i => ((if hr = i ∧ (a : Int) ≠ (T i : Nat) then k else 0 : Nat) : Int)) (j := hr) (v := if T hr = a then 0 else (k : Int)) D.hours.toNat (fun i hi => by
    by_cases h1 : hr = i
    · subst h1
      rw [if_pos rfl]
      by_cases h2 : T hr = a
      · rw [if_pos h2, if_neg (fun h => h.2 (by omega))]; rfl
      · rw [if_neg h2, if_pos ⟨rfl, by omega⟩]
    · rw [if_neg h1, if_neg (fun h => h1 h.1)]; rfl)
  rw [e, sumTo_add, e2, if_pos hh]
end Go.Proofs.Ytlgcnjcbmihefaa
