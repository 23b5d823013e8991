/- Pure: lots. -/
import Derived.Test.YtfkehbhlagpmcaaBase
set_option linter.unusedSimpArgs false
set_option linter.unusedVariables false
namespace Go.Proofs.Ytfkehbhlagpmcaa
open Go Go.RowKit Go.Shelf
namespace Au
structure Spn where
  lo : Int
  hi : Int
  deriving DecidableEq, Inhabited
def noSpn : Spn := ⟨0, 0⟩
/-- Baskets from one to just before another one have a number in common. -/
def OneGrade (l : List Spn) (a b : Nat) : Prop := ∃ x, ∀ i, a ≤ i → i < b → (l.getD i noSpn).lo ≤ x ∧ x ≤ (l.getD i noSpn).hi
theorem OneGrade.sub {l : List Spn} {a b a' b' : Nat} (h : OneGrade l a b) (ha : a ≤ a') (hb : b' ≤ b) : OneGrade l a' b' := by
  obtain ⟨x, hx⟩ := h
  exact ⟨x, fun i h1 h2 => hx i (by omega) (by omega)⟩
def com (a b : Spn) : Spn := ⟨max a.lo b.lo, min a.hi b.hi⟩
/-- What is common to baskets. -/
def Is (l : List Spn) (a b : Nat) (g : Spn) : Prop := ∀ x, (g.lo ≤ x ∧ x ≤ g.hi) ↔ ∀ i, a ≤ i → i < b → (l.getD i noSpn).lo ≤ x ∧ x ≤ (l.getD i noSpn).hi
theorem Is.one (l : List Spn) (a : Nat) : Is l a (a + 1) (l.getD a noSpn) := fun x => ⟨fun h i h1 h2 => (by
    have e : i = a := by omega
    rw [e]; exact h), fun h => h a (Nat.le_refl _) (by omega)⟩
theorem Is.com {l : List Spn} {a b : Nat} {g : Spn} (h : Is l a b g) (hab : a ≤ b) : Is l a (b + 1) (com g (l.getD b noSpn)) := fun x => by
  have h1 := h x
  have h2 : ((Au.com g (l.getD b noSpn)).lo ≤ x ∧ x ≤ (Au.com g (l.getD b noSpn)).hi) ↔ (g.lo ≤ x ∧ x ≤ g.hi) ∧ ((l.getD b noSpn).lo ≤ x ∧ x ≤ (l.getD b noSpn).hi) := by
    unfold Au.com; simp only; omega
  rw [h2, h1]
  constructor
  · rintro ⟨h3, h4⟩ i hi1 hi2
    by_cases hib : i = b
    · subst hib; exact h4
    · exact h3 i hi1 (by omega)
  · exact fun h3 => ⟨fun i h4 h5 => h3 i h4 (by omega), h3 b hab (by omega)⟩
theorem Is.grade {l : List Spn} {a b : Nat} {g : Spn} (h : Is l a b g) : OneGrade l a b ↔ g.lo ≤ g.hi := by
  constructor
  · rintro ⟨x, hx⟩
    have := (h x).2 hx; omega
  · exact fun hg => ⟨g.lo, (h g.lo).1 ⟨Int.le_refl _, hg⟩⟩
/-- The lots, behind the first baskets. -/
def lotSt (l : List Spn) : Nat → List Nat × Spn
  | 0 => ([], l.getD 0 noSpn)
  | k + 1 => if k = 0 ∨ (com (lotSt l k).2 (l.getD k noSpn)).hi < (com (lotSt l k).2 (l.getD k noSpn)).lo then ((lotSt l k).1 ++ [k], l.getD k noSpn) else ((lotSt l k).1, com (lotSt l k).2 (l.getD k noSpn))
def lotsF (l : List Spn) : List Nat := (lotSt l l.length).1
structure LotInv (l : List Spn) (k : Nat) (f : List Nat) (g : Spn) : Prop where
  pos : 0 < f.length
  zero : f.getD 0 0 = 0
  next : ∀ j, j + 1 < f.length → f.getD j 0 < f.getD (j + 1) 0 ∧ OneGrade l (f.getD j 0) (f.getD (j + 1) 0) ∧ ¬ OneGrade l (f.getD j 0) (f.getD (j + 1) 0 + 1)
  last : f.getD (f.length - 1) 0 < k
  is : Is l (f.getD (f.length - 1) 0) k g
  ok : g.lo ≤ g.hi
theorem getD_snoc (f : List Nat) (k j : Nat) : (f ++ [k]).getD j 0 = if j < f.length then f.getD j 0 else if j = f.length then k else 0 := by
  simp only [List.getD_eq_getElem?_getD, List.getElem?_append]
  by_cases h : j < f.length
  · simp [h]
  · by_cases h2 : j = f.length
    · subst h2; simp
    · rw [if_neg h, if_neg h, if_neg h2, List.getElem?_eq_none (by simp; omega)]; rfl
theorem lot_inv {l : List Spn} (hs : ∀ i, i < l.length → (l.getD i noSpn).lo ≤ (l.getD i noSpn).hi) : ∀ k, k < l.length → LotInv l (k + 1) (lotSt l (k + 1)).1 (lotSt l (k + 1)).2
  | 0, hk => by
    have he : lotSt l (0 + 1) = ([0], l.getD 0 noSpn) := by unfold lotSt; simp [lotSt]
    rw [he]
    exact ⟨by simp, rfl, fun j hj => by simp at hj, by simp, Is.one l 0, hs 0 hk⟩
  | k + 1, hk => by
    have ih := lot_inv hs k (by omega)
    have hc := ih.is.com (by have := ih.last; omega)
    generalize hf : lotSt l (k + 1) = st at ih hc
    have he : lotSt l (k + 1 + 1) = if k + 1 = 0 ∨ (com st.2 (l.getD (k + 1) noSpn)).hi < (com st.2 (l.getD (k + 1) noSpn)).lo then (st.1 ++ [k + 1], l.getD (k + 1) noSpn) else (st.1, com st.2 (l.getD (k + 1) noSpn)) := by
      rw [← hf]; rfl
    rw [he]
    obtain ⟨f, g⟩ := st
    simp only at ih hc ⊢
    have hpos := ih.pos
    by_cases h : (com g (l.getD (k + 1) noSpn)).hi < (com g (l.getD (k + 1) noSpn)).lo
    · rw [if_pos (.inr h)]
      have hlen : (f ++ [k + 1]).length = f.length + 1 := by simp
      refine ⟨by simp, ?_, fun j hj => ?_, ?_, ?_, hs (k + 1) hk⟩
      · rw [getD_snoc, if_pos hpos]; exact ih.zero
      · rw [hlen] at hj
        rw [getD_snoc, getD_snoc, if_pos (by omega)]
        by_cases hj2 : j + 1 < f.length
        · rw [if_pos hj2]; exact ih.next j hj2
        · have hj3 : j = f.length - 1 := by omega
          rw [if_neg hj2, if_pos (by omega), hj3]
          exact ⟨ih.last, ih.is.grade.2 ih.ok, fun ha => by have := hc.grade.1 ha; omega⟩
      · show (f ++ [k + 1]).getD ((f ++ [k + 1]).length - 1) 0 < _
        rw [hlen, getD_snoc, if_neg (by omega), if_pos (by omega)]; omega
      · show Is l ((f ++ [k + 1]).getD ((f ++ [k + 1]).length - 1) 0) _ _
        rw [hlen, getD_snoc, if_neg (by omega), if_pos (by omega)]
        exact Is.one l (k + 1)
    · rw [if_neg (by omega)]
      exact ⟨ih.pos, ih.zero, ih.next, by have := ih.last; show f.getD (f.length - 1) 0 < _; omega, hc, by show (com g (l.getD (k + 1) noSpn)).lo ≤ (com g (l.getD (k + 1) noSpn)).hi; omega⟩
/-- Where a lot ends. -/
def lotEnd (l : List Spn) (f : List Nat) (j : Nat) : Nat := if j + 1 < f.length then f.getD (j + 1) 0 else l.length
/-- Lots of baskets. -/
structure AreLots (l : List Spn) (f : List Nat) : Prop where
  pos : 0 < f.length
  zero : f.getD 0 0 = 0
  lot : ∀ j, j < f.length → f.getD j 0 < lotEnd l f j ∧ lotEnd l f j ≤ l.length ∧ OneGrade l (f.getD j 0) (lotEnd l f j)
theorem lots_are {l : List Spn} (hl : 0 < l.length) (hs : ∀ i, i < l.length → (l.getD i noSpn).lo ≤ (l.getD i noSpn).hi) : AreLots l (lotsF l) := by
  obtain ⟨n, hn⟩ : ∃ n, l.length = n + 1 := ⟨l.length - 1, by omega⟩
  have h := lot_inv hs n (by omega)
  have hlt : ∀ j, j < (lotSt l (n + 1)).1.length → (lotSt l (n + 1)).1.getD j 0 < n + 1 := by
    intro j hj
    have : ∀ m, j + m < (lotSt l (n + 1)).1.length → (lotSt l (n + 1)).1.getD j 0 ≤ (lotSt l (n + 1)).1.getD (j + m) 0 := by
      intro m
      induction m with
      | zero => intro _; exact Nat.le_refl _
      | succ m ih => intro hm; have := ih (by omega); have := (h.next (j + m) hm).1; exact Nat.le_of_lt (Nat.lt_of_le_of_lt ‹_› this)
    have h1 := this ((lotSt l (n + 1)).1.length - 1 - j) (by omega)
    rw [show j + ((lotSt l (n + 1)).1.length - 1 - j) = (lotSt l (n + 1)).1.length - 1 from by omega] at h1
    have := h.last
    omega
  unfold lotsF
  rw [hn]
  refine ⟨h.pos, h.zero, fun j hj => ?_⟩
  unfold lotEnd
  by_cases hj2 : j + 1 < (lotSt l (n + 1)).1.length
  · rw [if_pos hj2]
    have := hlt (j + 1) hj2
    exact ⟨(h.next j hj2).1, by omega, (h.next j hj2).2.1⟩
  · rw [if_neg hj2, hn]
    have he : j = (lotSt l (n + 1)).1.length - 1 := by omega
    rw [he]
    exact ⟨h.last, Nat.le_refl _, h.is.grade.2 h.ok⟩
theorem lots_next {l : List Spn} (hl : 0 < l.length) (hs : ∀ i, i < l.length → (l.getD i noSpn).lo ≤ (l.getD i noSpn).hi) {j : Nat} (hj : j + 1 < (lotsF l).length) :
    (lotsF l).getD j 0 < (lotsF l).getD (j + 1) 0 ∧ ¬ OneGrade l ((lotsF l).getD j 0) ((lotsF l).getD (j + 1) 0 + 1) := by
  obtain ⟨n, hn⟩ : ∃ n, l.length = n + 1 := ⟨l.length - 1, by omega⟩
  have h := lot_inv hs n (by omega)
  unfold lotsF at hj ⊢
  rw [hn] at hj ⊢
  exact ⟨(h.next j hj).1, (h.next j hj).2.2⟩
theorem oneGrade_drop {l : List Spn} {d a b : Nat} : OneGrade (l.drop d) a b ↔ OneGrade l (a + d) (b + d) := by
  have hg : ∀ i, (l.drop d).getD i noSpn = l.getD (i + d) noSpn := fun i => by
    simp only [List.getD_eq_getElem?_getD, List.getElem?_drop, Nat.add_comm]
  unfold OneGrade
  constructor
  · rintro ⟨x, hx⟩
    refine ⟨x, fun i h1 h2 => ?_⟩
    have := hx (i - d) (by omega) (by omega)
    rw [hg, show i - d + d = i from by omega] at this
    exact this
  · rintro ⟨x, hx⟩
    refine ⟨x, fun i h1 h2 => ?_⟩
    rw [hg]; exact hx (i + d) (by omega) (by omega)
/-- No lots are fewer: a lot that begins earlier does not end later. -/
theorem fewest_gen {l : List Spn} {d : Nat} (hd : d < l.length) (hs : ∀ i, i < (l.drop d).length → ((l.drop d).getD i noSpn).lo ≤ ((l.drop d).getD i noSpn).hi) {f : List Nat} (hf : AreLots l f) :
    ∀ j, j < (lotsF (l.drop d)).length → j < f.length ∧ f.getD j 0 ≤ (lotsF (l.drop d)).getD j 0 + d := by
  have hl : 0 < (l.drop d).length := by rw [List.length_drop]; omega
  intro j
  induction j with
  | zero => intro _; exact ⟨hf.pos, by rw [hf.zero]; omega⟩
  | succ j ih =>
    intro hj
    obtain ⟨h1, h2⟩ := ih (by omega)
    obtain ⟨h3, h4⟩ := lots_next hl hs hj
    have h5 := hf.lot j h1
    rw [oneGrade_drop] at h4
    have h6 := (lots_are hl hs).lot (j + 1) hj
    have h7 : (lotsF (l.drop d)).getD (j + 1) 0 < l.length - d := by have := h6.2.1; rw [List.length_drop] at this; omega
    by_cases hc : (lotsF (l.drop d)).getD (j + 1) 0 + 1 + d ≤ lotEnd l f j
    · exact absurd (h5.2.2.sub h2 hc) h4
    · unfold lotEnd at hc
      by_cases hj2 : j + 1 < f.length
      · rw [if_pos hj2] at hc; exact ⟨hj2, by omega⟩
      · rw [if_neg hj2] at hc; omega
theorem fewest {l : List Spn} (hl : 0 < l.length) (hs : ∀ i, i < l.length → (l.getD i noSpn).lo ≤ (l.getD i noSpn).hi) {f : List Nat} (hf : AreLots l f) : (lotsF l).length ≤ f.length := by
  rcases Nat.eq_zero_or_pos (lotsF l).length with h | h
  · omega
  · have := (fewest_gen (d := 0) hl hs hf ((lotsF l).length - 1) (by show _ < (lotsF l).length; omega)).1
    omega
theorem fewest_less {l : List Spn} (hl : 1 < l.length) (hs : ∀ i, i < l.length → (l.getD i noSpn).lo ≤ (l.getD i noSpn).hi) : (lotsF (l.drop 1)).length ≤ (lotsF l).length := by
  have hf := lots_are (by omega) hs
  have hs' : ∀ i, i < (l.drop 1).length → ((l.drop 1).getD i noSpn).lo ≤ ((l.drop 1).getD i noSpn).hi := fun i hi => by
    rw [List.length_drop] at hi
    have := hs (i + 1) (by omega)
    simpa [List.getD_eq_getElem?_getD, List.getElem?_drop, Nat.add_comm] using this
  rcases Nat.eq_zero_or_pos (lotsF (l.drop 1)).length with h | h
  · omega
  · have := (fewest_gen (d := 1) hl hs' hf ((lotsF (l.drop 1)).length - 1) (by omega)).1
    omega
/-- Two lots that follow each other are not of one grade together. -/
theorem lots_two {l : List Spn} (hl : 0 < l.length) (hs : ∀ i, i < l.length → (l.getD i noSpn).lo ≤ (l.getD i noSpn).hi) {j : Nat} (hj : j + 1 < (lotsF l).length) : ¬ OneGrade l ((lotsF l).getD j 0) (lotEnd l (lotsF l) (j + 1)) := by
  intro h
  have h1 := (lots_are hl hs).lot (j + 1) hj
  exact (lots_next hl hs hj).2 (h.sub (Nat.le_refl _) (by omega))
end Au

end Go.Proofs.Ytfkehbhlagpmcaa
