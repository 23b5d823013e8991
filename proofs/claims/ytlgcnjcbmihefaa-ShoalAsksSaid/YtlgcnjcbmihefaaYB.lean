/- The first track of fewest false reports: without a program. -/
import Derived.Test.YtlgcnjcbmihefaaXZ
set_option linter.unusedSimpArgs false
set_option linter.unusedVariables false
namespace Go.Proofs.Ytlgcnjcbmihefaa
open Go Go.RowKit Go.Shelf

theorem minL_mem : ∀ (xs : List Int) (x : Int), minL x xs = x ∨ minL x xs ∈ xs
  | [], x => .inl rfl
  | y :: ys, x => by
    have h : minL x (y :: ys) = minL (if y < x then y else x) ys := rfl
    rw [h]
    rcases minL_mem ys (if y < x then y else x) with e | e
    · rw [e]
      split
      · exact .inr List.mem_cons_self
      · exact .inl rfl
    · exact .inr (List.mem_cons_of_mem _ e)
theorem walk_closed {D : SeaD} {rs : List Rep} {hf : Nat → Nat} {sf : Nat → Int × Int} {c : Nat} (hc : ¬ openC D c) : ∀ i, walkF D (ownF D rs) hf sf i c = 25
  | 0 => by
    show ownF D rs (hf 0) c = 25
    unfold ownF cntF
    rw [List.take_length, if_neg (show ¬ c ∈ opens D.land (D.wide * D.high).toNat from hc)]
  | i + 1 => by
    show nextF D _ _ _ _ _ c = 25
    unfold nextF
    rw [List.take_length, if_neg (show ¬ c ∈ opens D.land (D.wide * D.high).toNat from hc)]
    unfold ownF cntF
    rw [List.take_length, if_neg (show ¬ c ∈ opens D.land (D.wide * D.high).toNat from hc)]
theorem from_iff {D : SeaD} {rs : List Rep} (h24 : rs.length ≤ 24) (h c : Nat) (n : Int) (hh : h < D.hours.toNat) (hc : openC D c) (hn : n < 25) : fromF D rs h c ≤ n ↔ ∃ T, waysFrom (openC D) (linkP D) T h D.hours.toNat ∧ T h = c ∧ sumTo (fun i => ownF D rs i (T i)) D.hours.toNat - sumTo (fun i => ownF D rs i (T i)) h ≤ n :=
  from_way (O := openC D) (link := linkP D) (own := ownF D rs) (fr := fromF D rs) (H := D.hours.toNat) (fun c => from_last c) (fun h c n hH hc hn => from_next h24 h c n hH hc hn) (fun h c => (ownF_bounds D h24 h c).1) (D.hours.toNat - 1 - h) h c n (by omega) hc hn
/-- A track's beginning, and another one's end. -/
theorem joined {D : SeaD} {rs : List Rep} {T T2 : Nat → Nat} {h : Nat} (hh : h < D.hours.toNat) (hT : isWay D T) (hT2 : waysFrom (openC D) (linkP D) T2 h D.hours.toNat) (hl : h ≠ 0 → linkP D (h - 1) (T (h - 1)) (T2 h)) :
    isWay D (fun i => if i < h then T i else T2 i) ∧ costW D rs (fun i => if i < h then T i else T2 i) = sumTo (fun i => ownF D rs i (T i)) h + (sumTo (fun i => ownF D rs i (T2 i)) D.hours.toNat - sumTo (fun i => ownF D rs i (T2 i)) h) := by
  refine ⟨⟨fun i _ hi => ?_, fun i _ hi => ?_⟩, ?_⟩
  · dsimp only
    by_cases e : i < h
    · rw [if_pos e]; exact hT.1 i (Nat.zero_le _) hi
    · rw [if_neg e]; exact hT2.1 i (by omega) hi
  · dsimp only
    by_cases e : i < h
    · rw [if_pos e]
      by_cases e2 : i + 1 < h
      · rw [if_pos e2]; exact hT.2 i (Nat.zero_le _) hi
      · rw [if_neg e2]
        have e3 : i + 1 = h := by omega
        have := hl (by omega)
        rw [← e3] at this
        exact this
    · rw [if_neg e, if_neg (by omega)]; exact hT2.2 i (by omega) hi
  · show sumTo (fun i => ownF D rs i (if i < h then T i else T2 i)) D.hours.toNat = _
    have d1 := sumTo_diff (f := fun i => ownF D rs i (if i < h then T i else T2 i)) (g := fun i => ownF D rs i (T2 i)) h D.hours.toNat (by omega) (fun i h1 h2 => by rw [if_neg (by omega)])
    have d2 := sumTo_congr (f := fun i => ownF D rs i (if i < h then T i else T2 i)) (g := fun i => ownF D rs i (T i)) h (fun i h1 => by rw [if_pos h1])
    omega
theorem follows_iff {D : SeaD} {tr : List Nat} {c : Nat} : followsB (seaOf D) D.speed.toNat D.drift (intsOf tr) (col (seaOf D) c) (row (seaOf D) c) = true ↔ tr.length = 0 ∨ linkP D (tr.length - 1) (tr.getD (tr.length - 1) 0) c := by
  unfold followsB
  rw [Bool.or_eq_true, decide_eq_true_eq, intsOf_length, intsOf_getD]
  unfold swimsB linkP
  rw [decide_eq_true_eq]
theorem rises_ge {n : Nat} : ∀ {t : List Nat} {k : Nat}, rises n k t → ∀ i ∈ t, k ≤ i
  | [], _, _, _, hi => by cases hi
  | a :: az, k, h, i, hi => by
    have h1 := h.1
    rcases List.mem_cons.mp hi with rfl | hi
    · exact h1
    · have := rises_ge h.2.2 i hi; omega
theorem find_least {n : Nat} {p : Nat → Bool} : ∀ {l : List Nat} {k c : Nat}, rises n k l → l.find? p = some c → ∀ d ∈ l, p d = true → c ≤ d
  | [], _, _, _, hf, _, _, _ => by cases hf
  | a :: az, k, c, h, hf, d, hd, hp => by
    rw [List.find?_cons] at hf
    cases hpa : p a with
    | true =>
      rw [hpa] at hf
      cases hf
      rcases List.mem_cons.mp hd with rfl | hd
      · exact Nat.le_refl _
      · have := rises_ge h.2.2 d hd; omega
    | false =>
      rw [hpa] at hf
      rcases List.mem_cons.mp hd with rfl | hd
      · rw [hpa] at hp; cases hp
      · exact find_least h.2.2 hf d hd hp
theorem befL_snoc : ∀ {a b : List Nat} {x y : Nat}, a.length = b.length → befL a b = false → (a = b → ¬ x < y) → befL (a ++ [x]) (b ++ [y]) = false
  | [], [], x, y, _, _, h => by
    show befL [x] [y] = false
    unfold befL
    by_cases e : x = y
    · rw [if_pos e]; rfl
    · rw [if_neg e, decide_eq_false_iff_not]; exact h rfl
  | [], _ :: _, _, _, hl, _, _ => by simp at hl
  | _ :: _, [], _, _, hl, _, _ => by simp at hl
  | p :: a, q :: b, x, y, hl, hb, h => by
    show befL (p :: (a ++ [x])) (q :: (b ++ [y])) = false
    unfold befL at hb ⊢
    by_cases e : p = q
    · subst e
      rw [if_pos rfl] at hb ⊢
      exact befL_snoc (by simpa using hl) hb (fun e => h (by rw [e]))
    · rw [if_neg e] at hb ⊢; exact hb
theorem opens_rises (D : SeaD) : rises (D.wide * D.high).toNat 0 (opens D.land (D.wide * D.high).toNat) := by
  unfold opens
  rw [List.range_eq_range']
  exact rises_filter _ _ 0 (by omega)

/-- What the first h cells of the first track are. -/
structure FirstOk (D : SeaD) (rs : List Rep) (h : Nat) (s : List Nat × Int) : Prop where
  len : s.1.length = h
  rest : s.2 = fewestF D rs - sumTo (fun i => ownF D rs i (s.1.getD i 0)) h
  way : ∃ T, isWay D T ∧ (∀ i, i < h → T i = s.1.getD i 0) ∧ costW D rs T ≤ fewestF D rs
  first : ∀ T, isWay D T → costW D rs T ≤ fewestF D rs → befL ((List.range h).map T) s.1 = false

theorem first_next {D : SeaD} {rs : List Rep} (h24 : rs.length ≤ 24) (h80 : D.wide * D.high ≤ 80) (hF : fewestF D rs < 25) {h : Nat} (hh : h < D.hours.toNat) {s : List Nat × Int} (ok : FirstOk D rs h s) {T : Nat → Nat} (hT : isWay D T) (he : ∀ i, i < h → T i = s.1.getD i 0) (hc : costW D rs T ≤ fewestF D rs) : firstP D rs h s.2 s.1 (T h) = true := by
  have ho := hT.1 h (Nat.zero_le _) hh
  have hpre := sumTo_congr (f := fun i => ownF D rs i (T i)) (g := fun i => ownF D rs i (s.1.getD i 0)) h (fun i hi => by rw [he i hi])
  have hpos := sumTo_nonneg (f := fun i => ownF D rs i (T i)) (fun i => (ownF_bounds D h24 i (T i)).1) h
  have hr := ok.rest
  have hle : fromF D rs h (T h) ≤ s.2 := (from_iff h24 h (T h) s.2 hh ho (by omega)).mpr ⟨T, ⟨fun i _ h2 => hT.1 i (Nat.zero_le _) h2, fun i _ h2 => hT.2 i (Nat.zero_le _) h2⟩, rfl, by unfold costW at hc; omega⟩
  have hge : ¬ fromF D rs h (T h) ≤ s.2 - 1 := fun hlt => by
    obtain ⟨T2, hT2, e2, hs2⟩ := (from_iff h24 h (T h) (s.2 - 1) hh ho (by omega)).mp hlt
    have hj := joined (rs := rs) hh hT hT2 (fun h0 => by rw [e2]; have := hT.2 (h - 1) (Nat.zero_le _) (by omega); rwa [show h - 1 + 1 = h by omega] at this)
    have := fewest_le h24 h80 (by omega) hj.1 (n := fewestF D rs - 1) (by omega) (by rw [hj.2]; omega)
    omega
  unfold firstP
  rw [Bool.and_eq_true, beq_iff_eq, follows_iff]
  refine ⟨by omega, ?_⟩
  by_cases h0 : h = 0
  · exact .inl (by rw [ok.len]; exact h0)
  · refine .inr ?_
    rw [ok.len, ← he (h - 1) (by omega)]
    have := hT.2 (h - 1) (Nat.zero_le _) (by omega)
    rwa [show h - 1 + 1 = h by omega] at this
theorem first_ok {D : SeaD} {rs : List Rep} (h24 : rs.length ≤ 24) (h80 : D.wide * D.high ≤ 80) (hH : 0 < D.hours.toNat) (hF : fewestF D rs < 25) : ∀ h, h ≤ D.hours.toNat → FirstOk D rs h (firstTo D rs (fewestF D rs) h)
  | 0, _ => by
    rw [firstTo]
    refine ⟨rfl, by simp only [sumTo, Int.sub_zero], ?_, fun T _ _ => rfl⟩
    have hm := minL_mem ((List.range 80).map (fromF D rs 0)) 25
    have hfe : minL 25 ((List.range 80).map (fromF D rs 0)) = fewestF D rs := rfl
    rw [hfe] at hm
    clear hfe
    rcases hm with e | e
    · exfalso
      omega
    · obtain ⟨c, _, hc⟩ := List.mem_map.mp e
      have hfc : fromF D rs 0 c = fewestF D rs := hc
      have ho : openC D c := Classical.byContradiction fun hno => by
        have := walk_closed (rs := rs) (hf := fun i => D.hours.toNat - 1 - i) (sf := backS D D.hours.toNat) hno (D.hours.toNat - 1 - 0)
        have e : fromF D rs 0 c = 25 := this
        omega
      obtain ⟨T, hT, _, hs⟩ := (from_iff h24 0 c (fewestF D rs) hH ho hF).mp (by omega)
      refine ⟨T, hT, fun i hi => absurd hi (by omega), ?_⟩
      have hs : sumTo (fun i => ownF D rs i (T i)) D.hours.toNat - 0 ≤ fewestF D rs := hs
      unfold costW
      omega
  | h + 1, hh => by
    have ok := first_ok h24 h80 hH hF h (by omega)
    have e : firstTo D rs (fewestF D rs) (h + 1) = firstStep D rs h (firstTo D rs (fewestF D rs) h) := rfl
    rw [e]
    generalize firstTo D rs (fewestF D rs) h = s at *
    obtain ⟨T, hT, he, hc⟩ := ok.way
    have hp := first_next h24 h80 hF (by omega) ok hT he hc
    have ho : openC D (T h) := hT.1 h (Nat.zero_le _) (by omega)
    unfold firstStep
    cases hf : (opens D.land (D.wide * D.high).toNat).find? (firstP D rs h s.2 s.1) with
    | none => rw [List.find?_eq_none] at hf; exact absurd hp (hf _ ho)
    | some c1 =>
      have hp1 := List.find?_some hf
      have ho1 : openC D c1 := List.mem_of_find?_eq_some hf
      have hleast := find_least (opens_rises D) hf
      unfold firstP at hp1
      rw [Bool.and_eq_true, beq_iff_eq, follows_iff] at hp1
      have hr := ok.rest
      have hpos := sumTo_nonneg (f := fun i => ownF D rs i (s.1.getD i 0)) (fun i => (ownF_bounds D h24 i _).1) h
      obtain ⟨T2, hT2, e2, hs2⟩ := (from_iff h24 h c1 s.2 (by omega) ho1 (by omega)).mp (by omega)
      have hj := joined (rs := rs) (show h < D.hours.toNat by omega) hT hT2 (fun h0 => by
        rw [e2, he (h - 1) (by omega)]
        rcases hp1.2 with e3 | e3
        · exact absurd (by rw [← ok.len]; exact e3) h0
        · rwa [ok.len] at e3)
      have hpre := sumTo_congr (f := fun i => ownF D rs i (T i)) (g := fun i => ownF D rs i (s.1.getD i 0)) h (fun i hi => by rw [he i hi])
      have hgd : ∀ i, i < h → (s.1 ++ [c1]).getD i 0 = s.1.getD i 0 := fun i hi => getD_app _ _ _ (by rw [ok.len]; exact hi)
      have hgl : (s.1 ++ [c1]).getD h 0 = c1 := by simp [List.getD, ok.len]
      refine ⟨by rw [List.length_append, ok.len]; rfl, ?_, ⟨_, hj.1, fun i hi => ?_, by rw [hj.2]; omega⟩, fun T' hT' hc' => ?_⟩
      · show s.2 - ownF D rs h c1 = fewestF D rs - (sumTo (fun i => ownF D rs i ((s.1 ++ [c1]).getD i 0)) h + ownF D rs h ((s.1 ++ [c1]).getD h 0))
        rw [hgl, sumTo_congr (g := fun i => ownF D rs i (s.1.getD i 0)) h (fun i hi => by rw [hgd i hi]), hr]
        omega
      · dsimp only
        by_cases e3 : i < h
        · rw [if_pos e3, he i e3, hgd i e3]
        · have : i = h := by omega
          subst this
          rw [if_neg e3, e2, hgl]
      · rw [List.range_succ, List.map_append]
        refine befL_snoc (by rw [List.length_map, List.length_range, ok.len]) (ok.first T' hT' hc') (fun e3 => ?_)
        have he' : ∀ i, i < h → T' i = s.1.getD i 0 := fun i hi => by
          rw [← e3, getD_of (show i < ((List.range h).map T').length by simpa using hi)]; simp
        have := hleast (T' h) (hT'.1 h (Nat.zero_le _) (by omega)) (first_next h24 h80 hF (by omega) ok hT' he' hc')
        omega
end Go.Proofs.Ytlgcnjcbmihefaa
