/- The track that numbers choose is one, and how many reports are false of it: without a program. -/
import Derived.Test.YtlgcnjcbmihefaaXW
set_option linter.unusedSimpArgs false
set_option linter.unusedVariables false
namespace Go.Proofs.Ytlgcnjcbmihefaa
open Go Go.RowKit Go.Shelf

theorem candB_open {D : SeaD} {h : Nat} {t : List Nat} {c : Nat} (hc : candB D h t c = true) : isOpen D.land c = true := by
  unfold candB at hc
  rw [Bool.and_eq_true] at hc
  have h1 := hc.1
  rw [Bool.not_eq_true', decide_eq_false_iff_not, placeI_mem] at h1
  unfold isOpen
  simpa using h1
theorem near_link {D : SeaD} (hs : 0 ≤ D.speed) {h p c : Nat} (hc : nearB D h p c = true) : linkP D h p c := by
  unfold nearB at hc
  rw [Bool.and_eq_true] at hc
  have h1 := of_decide_eq_true hc.1
  have h2 := of_decide_eq_true hc.2
  unfold eastI at h1
  unfold northI at h2
  unfold linkP
  rw [mem_reach]
  show (-(D.speed.toNat : Int) ≤ (c : Int) % D.wide - (p : Int) % D.wide - stepE D.drift h ∧ (c : Int) % D.wide - (p : Int) % D.wide - stepE D.drift h ≤ D.speed.toNat) ∧ (-(D.speed.toNat : Int) ≤ (c : Int) / D.wide - (p : Int) / D.wide - stepN D.drift h ∧ (c : Int) / D.wide - (p : Int) / D.wide - stepN D.drift h ≤ D.speed.toNat)
  omega
theorem getD_app (t : List Nat) (d k : Nat) (h : k < t.length) : (t ++ [d]).getD k 0 = t.getD k 0 := by
  simp [List.getD, List.getElem?_append_left h]
theorem swumTo_good {D : SeaD} (hs : 0 ≤ D.speed) (bits : List Int) : ∀ h k, k < (swumTo D bits h).length → isOpen D.land ((swumTo D bits h).getD k 0) = true ∧ (k ≠ 0 → linkP D (k - 1) ((swumTo D bits h).getD (k - 1) 0) ((swumTo D bits h).getD k 0))
  | 0, k, hk => absurd hk (by simp [swumTo])
  | h + 1, k, hk => by
    have ih := swumTo_good hs bits h
    have hle := swumTo_len D bits h
    have e : swumTo D bits (h + 1) = swumStep D bits h (swumTo D bits h) := rfl
    rw [e] at hk ⊢
    unfold swumStep at hk ⊢
    by_cases h1 : (swumTo D bits h).length < h
    · rw [if_pos h1] at hk ⊢; exact ih k hk
    · rw [if_neg h1] at hk ⊢
      by_cases h2 : (candF D h (swumTo D bits h) (D.wide * D.high).toNat).length = 0
      · rw [if_pos h2] at hk ⊢; exact ih k hk
      · rw [if_neg h2] at hk ⊢
        have hl : (swumTo D bits h).length = h := by omega
        obtain ⟨x, hx⟩ : ∃ x, (pickI (intsOf (candF D h (swumTo D bits h) (D.wide * D.high).toNat)) (pickI bits h)).toNat = x := ⟨_, rfl⟩
        have hm := pickI_mem (xs := intsOf (candF D h (swumTo D bits h) (D.wide * D.high).toNat)) (k := pickI bits h) (by unfold intsOf; rw [List.length_map]; exact h2)
        obtain ⟨d, hd, he⟩ := List.mem_map.mp hm
        have hdx : d = x := by rw [← hx, ← he]; simp
        subst hdx
        have hcb := (candF_lt hd).2
        rw [hx] at hk ⊢
        rw [List.length_append, List.length_singleton, hl] at hk
        generalize swumTo D bits h = t at *
        by_cases hkh : k < h
        · have e1 : (t ++ [d]).getD k 0 = t.getD k 0 := getD_app _ _ _ (by omega)
          have e2 : (t ++ [d]).getD (k - 1) 0 = t.getD (k - 1) 0 := getD_app _ _ _ (by omega)
          rw [e1, e2]
          exact ih k (by omega)
        · have hkk : k = h := by omega
          subst hkk
          have e1 : (t ++ [d]).getD k 0 = d := by simp [hl]
          rw [e1]
          refine ⟨candB_open hcb, fun h0 => ?_⟩
          have e2 : (t ++ [d]).getD (k - 1) 0 = t.getD (k - 1) 0 := getD_app _ _ _ (by omega)
          rw [e2]
          unfold candB at hcb
          rw [Bool.and_eq_true, Bool.or_eq_true] at hcb
          rcases hcb.2 with h3 | h3
          · exact absurd (by simpa using h3) h0
          · exact near_link hs h3
theorem intsOf_getD (t : List Nat) (k : Nat) : (intsOf t).getD k 0 = ((t.getD k 0 : Nat) : Int) := by
  unfold intsOf
  by_cases h : k < t.length
  · rw [getD_of (by rw [List.length_map]; exact h), getD_of h]; simp
  · simp [List.getD, List.getElem?_eq_none (show t.length ≤ k by omega)]
theorem intsOf_length (t : List Nat) : (intsOf t).length = t.length := by unfold intsOf; rw [List.length_map]
/-- A list of open cells, each within reach of the one before, one for each hour, is a track. -/
theorem track_of {D : SeaD} {t : List Nat} (hl : (t.length : Int) = D.hours) (hlt : ∀ c ∈ t, c < (D.wide * D.high).toNat) (hg : ∀ k, k < t.length → isOpen D.land (t.getD k 0) = true ∧ (k ≠ 0 → linkP D (k - 1) (t.getD (k - 1) 0) (t.getD k 0))) : trackB (seaOf D) D.land D.speed.toNat D.drift (intsOf t) = true := by
  unfold trackB allTo
  rw [Bool.and_eq_true]
  refine ⟨decide_eq_true (by rw [intsOf_length]; exact hl), List.all_eq_true.mpr fun k hk => ?_⟩
  have hk2 : k < t.length := by rw [intsOf_length] at hk; exact List.mem_range.mp hk
  have h1 := hg k hk2
  have h2 := hlt t[k] (List.getElem_mem _)
  unfold trackGood
  rw [intsOf_getD, intsOf_getD, getD_of hk2]
  rw [getD_of hk2] at h1
  rw [Bool.and_eq_true, Bool.and_eq_true, Bool.or_eq_true]
  refine ⟨⟨?_, by simpa using h1.1⟩, ?_⟩
  · unfold inB
    show (decide _ && decide ((t[k] : Int) ≤ D.wide * D.high - 1)) = true
    rw [Bool.and_eq_true, decide_eq_true_eq, decide_eq_true_eq]
    omega
  · by_cases h0 : k = 0
    · exact .inl (by simpa using h0)
    · exact .inr (decide_eq_true (h1.2 h0))
theorem way_of {D : SeaD} {t : List Nat} (hl : t.length = D.hours.toNat) (hlt : ∀ c ∈ t, c < (D.wide * D.high).toNat) (hg : ∀ k, k < t.length → isOpen D.land (t.getD k 0) = true ∧ (k ≠ 0 → linkP D (k - 1) (t.getD (k - 1) 0) (t.getD k 0))) : isWay D (fun i => t.getD i 0) := by
  refine ⟨fun i _ hi => ?_, fun i _ hi => ?_⟩
  · have h1 := hg i (by omega)
    have h2 := hlt (t.getD i 0) (by rw [getD_of (show i < t.length by omega)]; exact List.getElem_mem _)
    exact List.mem_filter.mpr ⟨List.mem_range.mpr h2, h1.1⟩
  · exact (hg (i + 1) (by omega)).2 (by omega)
theorem own_of {D : SeaD} {rs : List Rep} {h c : Nat} (hc : openC D c) : ownF D rs h c = untrueN (seaOf D) rs h (col (seaOf D) c) (row (seaOf D) c) := by
  unfold ownF cntF
  rw [List.take_length, if_pos (show c ∈ opens D.land (D.wide * D.high).toNat from hc)]
theorem cost_of {D : SeaD} {rs : List Rep} {t : List Nat} (ho : ∀ k, k < t.length → openC D (t.getD k 0)) : ∀ k, k ≤ t.length → sumTo (fun i => ownF D rs i (t.getD i 0)) k = untrueTo D rs (intsOf t) k
  | 0, _ => rfl
  | k + 1, hk => by
    have ih := cost_of (rs := rs) ho k (by omega)
    show sumTo (fun i => ownF D rs i (t.getD i 0)) k + ownF D rs k (t.getD k 0) = _
    rw [ih, untrueTo_succ, own_of (ho k (by omega)), intsOf_getD]
    simp
/-- The reports counted one by one. -/
theorem untrueTo_all {D : SeaD} (tr : List Int) (H : Nat) : ∀ rs : List Rep, (∀ r ∈ rs, 0 ≤ r.hour ∧ r.hour < H) → untrueTo D rs tr H = rs.countP fun r => !repTrue r (col (seaOf D) r.cell) (row (seaOf D) r.cell) (col (seaOf D) (tr.getD r.hour.toNat 0)) (row (seaOf D) (tr.getD r.hour.toNat 0)) := by
  have key : ∀ (r : Rep) (rs : List Rep) (k : Nat), 0 ≤ r.hour → untrueTo D (r :: rs) tr k = untrueTo D rs tr k + if r.hour < k ∧ (!repTrue r (col (seaOf D) r.cell) (row (seaOf D) r.cell) (col (seaOf D) (tr.getD r.hour.toNat 0)) (row (seaOf D) (tr.getD r.hour.toNat 0))) = true then 1 else 0 := by
    intro r rs k h0
    induction k with
    | zero => rw [if_neg (by omega)]; rfl
    | succ k ih =>
      rw [untrueTo_succ, untrueTo_succ, ih]
      have hn : untrueN (seaOf D) (r :: rs) k (col (seaOf D) (tr.getD k 0)) (row (seaOf D) (tr.getD k 0)) = untrueN (seaOf D) rs k (col (seaOf D) (tr.getD k 0)) (row (seaOf D) (tr.getD k 0)) + if r.hour = k ∧ (!repTrue r (col (seaOf D) r.cell) (row (seaOf D) r.cell) (col (seaOf D) (tr.getD r.hour.toNat 0)) (row (seaOf D) (tr.getD r.hour.toNat 0))) = true then 1 else 0 := by
        unfold untrueN ofHour
        rw [List.filter_cons]
        by_cases hk : r.hour = k
        · have hb : (r.hour == (k : Int)) = true := by rw [beq_iff_eq]; exact hk
          rw [if_pos hb, List.countP_cons, hk, Int.toNat_natCast]
          simp only [true_and]
        · have hb : (r.hour == (k : Int)) = false := by rw [beq_eq_false_iff_ne]; exact hk
          rw [hb, if_neg (show ¬(r.hour = k ∧ _) from fun h => hk h.1)]
          simp
      rw [hn]
      generalize (!repTrue r (col (seaOf D) r.cell) (row (seaOf D) r.cell) (col (seaOf D) (tr.getD r.hour.toNat 0)) (row (seaOf D) (tr.getD r.hour.toNat 0))) = b
      cases b <;> simp
      by_cases h1 : r.hour < k
      · rw [if_pos h1, if_neg (by omega), if_pos (by omega)]; omega
      · by_cases h2 : r.hour = k
        · rw [if_neg h1, if_pos h2, if_pos (by omega)]; omega
        · rw [if_neg h1, if_neg h2, if_neg (by omega)]; omega
  intro rs
  induction rs with
  | nil =>
    intro _
    have : ∀ k, untrueTo D [] tr k = 0 := fun k => by
      induction k with
      | zero => rfl
      | succ k ih => rw [untrueTo_succ, ih]; rfl
    rw [this]; rfl
  | cons r rs ih =>
    intro h
    have hr := h r List.mem_cons_self
    rw [key r rs H hr.1, ih (fun x hx => h x (List.mem_cons_of_mem _ hx)), List.countP_cons]
    congr 1
    generalize (!repTrue r (col (seaOf D) r.cell) (row (seaOf D) r.cell) (col (seaOf D) (tr.getD r.hour.toNat 0)) (row (seaOf D) (tr.getD r.hour.toNat 0))) = b
    cases b
    · rw [if_neg (by simp), if_neg (by simp)]
    · rw [if_pos ⟨hr.2, rfl⟩, if_pos rfl]
theorem canF_rises (D : SeaD) (rs : List Rep) (n : Int) (h : Nat) : rises (D.wide * D.high).toNat 0 (canF D rs n h) := by
  unfold canF opens
  rw [List.filter_filter, List.range_eq_range']
  exact rises_filter _ _ 0 (by omega)
theorem fewest_le {D : SeaD} {rs : List Rep} (h24 : rs.length ≤ 24) (h80 : D.wide * D.high ≤ 80) (hH : 0 < D.hours.toNat) {T : Nat → Nat} (hT : isWay D T) {n : Int} (hn : n < 25) (hc : costW D rs T ≤ n) : fewestF D rs ≤ n := by
  have ho := hT.1 0 (Nat.le_refl _) hH
  have hlt := opens_lt ho
  have hle : fromF D rs 0 (T 0) ≤ n := by
    refine (from_way (O := openC D) (link := linkP D) (own := ownF D rs) (fr := fromF D rs) (H := D.hours.toNat) (fun c => from_last c) (fun h c n hH hc hn => from_next h24 h c n hH hc hn) (fun h c => (ownF_bounds D h24 h c).1) (D.hours.toNat - 1) 0 (T 0) n (by omega) ho hn).mpr ⟨T, hT, rfl, ?_⟩
    show sumTo (fun i => ownF D rs i (T i)) D.hours.toNat - 0 ≤ n
    unfold costW at hc
    omega
  unfold fewestF rowMin
  have key : ∀ (xs : List Int) (x : Int), ∀ y ∈ xs, minL x xs ≤ y := by
    have dec : ∀ (xs : List Int) (x : Int), minL x xs ≤ x := by
      intro xs
      induction xs with
      | nil => intro x; exact Int.le_refl _
      | cons z zs ih =>
        intro x
        show minL (if z < x then z else x) zs ≤ x
        have := ih (if z < x then z else x)
        split at this <;> split <;> omega
    intro xs
    induction xs with
    | nil => intro x y hy; cases hy
    | cons z zs ih =>
      intro x y hy
      show minL (if z < x then z else x) zs ≤ y
      rcases List.mem_cons.mp hy with rfl | hy
      · have := dec zs (if y < x then y else x)
        split at this <;> split <;> omega
      · exact ih _ y hy
  exact Int.le_trans (key _ _ _ (List.mem_map.mpr ⟨T 0, List.mem_range.mpr (by omega), rfl⟩)) hle
end Go.Proofs.Ytlgcnjcbmihefaa
