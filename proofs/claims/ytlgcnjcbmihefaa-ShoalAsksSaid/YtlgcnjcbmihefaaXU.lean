/- The counts of the chart are those of the best tracks: without a program. -/
import Derived.Test.YtlgcnjcbmihefaaXM
set_option linter.unusedSimpArgs false
set_option linter.unusedVariables false
namespace Go.Proofs.Ytlgcnjcbmihefaa
open Go Go.RowKit Go.Shelf

def sumTo (f : Nat → Int) : Nat → Int
  | 0 => 0
  | k + 1 => sumTo f k + f k
theorem sumTo_congr {f g : Nat → Int} : ∀ k, (∀ i, i < k → f i = g i) → sumTo f k = sumTo g k
  | 0, _ => rfl
  | k + 1, h => by
    show sumTo f k + f k = sumTo g k + g k
    rw [sumTo_congr k (fun i hi => h i (by omega)), h k (by omega)]
theorem sumTo_diff {f g : Nat → Int} (a : Nat) : ∀ b, a ≤ b → (∀ i, a ≤ i → i < b → f i = g i) → sumTo f b - sumTo f a = sumTo g b - sumTo g a
  | 0, hab, _ => by
    have : a = 0 := by omega
    subst this
    show sumTo f 0 - sumTo f 0 = sumTo g 0 - sumTo g 0
    omega
  | b + 1, hab, h => by
    by_cases e : a = b + 1
    · subst e; omega
    · have ih := sumTo_diff a b (by omega) (fun i h1 h2 => h i h1 (by omega))
      have hb := h b (by omega) (by omega)
      show sumTo f b + f b - sumTo f a = sumTo g b + g b - sumTo g a
      omega
theorem sumTo_nonneg {f : Nat → Int} (h : ∀ i, 0 ≤ f i) : ∀ k, 0 ≤ sumTo f k
  | 0 => Int.le_refl 0
  | k + 1 => by
    have := sumTo_nonneg h k
    have := h k
    show 0 ≤ sumTo f k + f k
    omega
section
variable (O : Nat → Prop) (link : Nat → Nat → Nat → Prop) (own : Nat → Nat → Int)
def waysTo (T : Nat → Nat) (h : Nat) : Prop := (∀ i, i ≤ h → O (T i)) ∧ ∀ i, i < h → link i (T i) (T (i + 1))
def waysFrom (T : Nat → Nat) (h H : Nat) : Prop := (∀ i, h ≤ i → i < H → O (T i)) ∧ ∀ i, h ≤ i → i + 1 < H → link i (T i) (T (i + 1))
variable {O} {link} {own}
variable {up : Nat → Nat → Int}
theorem up_way {H : Nat} (h0 : ∀ c, up 0 c = own 0 c) (h1 : ∀ h c n, h + 1 < H → O c → n < 25 → (up (h + 1) c ≤ n ↔ ∃ d, O d ∧ link h d c ∧ up h d + own (h + 1) c ≤ n)) (hn : ∀ h c, 0 ≤ own h c) :
    ∀ (h c : Nat) (n : Int), h < H → O c → n < 25 → (up h c ≤ n ↔ ∃ T, waysTo O link T h ∧ T h = c ∧ sumTo (fun i => own i (T i)) (h + 1) ≤ n)
  | 0, c, n, _, hc, _ => by
    rw [h0]
    constructor
    · intro h
      refine ⟨fun _ => c, ⟨fun i _ => hc, fun i hi => absurd hi (by omega)⟩, rfl, ?_⟩
      show 0 + own 0 c ≤ n
      omega
    · rintro ⟨T, _, rfl, h⟩
      have h : 0 + own 0 (T 0) ≤ n := h
      omega
  | h + 1, c, n, hH, hc, hn25 => by
    rw [h1 h c n hH hc hn25]
    have ho := hn (h + 1) c
    constructor
    · rintro ⟨d, hd, hl, hle⟩
      obtain ⟨T, hT, hTd, hs⟩ := (up_way h0 h1 hn h d (n - own (h + 1) c) (by omega) hd (by omega)).mp (by omega)
      refine ⟨fun i => if i = h + 1 then c else T i, ⟨fun i hi => ?_, fun i hi => ?_⟩, if_pos rfl, ?_⟩
      · try dsimp only
        by_cases e : i = h + 1
        · rw [if_pos e]; exact hc
        · rw [if_neg e]; exact hT.1 i (by omega)
      · try dsimp only
        by_cases e : i = h
        · subst e
          rw [if_neg (by omega), if_pos rfl, hTd]; exact hl
        · rw [if_neg (by omega), if_neg (by omega)]; exact hT.2 i (by omega)
      · show sumTo (fun i => own i (if i = h + 1 then c else T i)) (h + 1) + own (h + 1) (if h + 1 = h + 1 then c else T (h + 1)) ≤ n
        rw [sumTo_congr (g := fun i => own i (T i)) (h + 1) (fun i hi => by rw [if_neg (by omega)]), if_pos rfl]
        omega
    · rintro ⟨T, hT, rfl, hs⟩
      have hs : sumTo (fun i => own i (T i)) (h + 1) + own (h + 1) (T (h + 1)) ≤ n := hs
      refine ⟨T h, hT.1 h (by omega), hT.2 h (by omega), ?_⟩
      have := (up_way h0 h1 hn h (T h) (n - own (h + 1) (T (h + 1))) (by omega) (hT.1 h (by omega)) (by omega)).mpr ⟨T, ⟨fun i hi => hT.1 i (by omega), fun i hi => hT.2 i (by omega)⟩, rfl, by omega⟩
      omega
variable {fr : Nat → Nat → Int}
theorem from_way {H : Nat} (h0 : ∀ c, fr (H - 1) c = own (H - 1) c) (h1 : ∀ h c n, h + 1 < H → O c → n < 25 → (fr h c ≤ n ↔ ∃ d, O d ∧ link h c d ∧ fr (h + 1) d + own h c ≤ n)) (hn : ∀ h c, 0 ≤ own h c) :
    ∀ (k h c : Nat) (n : Int), h + k + 1 = H → O c → n < 25 → (fr h c ≤ n ↔ ∃ T, waysFrom O link T h H ∧ T h = c ∧ sumTo (fun i => own i (T i)) H - sumTo (fun i => own i (T i)) h ≤ n)
  | 0, h, c, n, hH, hc, _ => by
    have e : H - 1 = h := by omega
    have e2 : H = h + 1 := by omega
    rw [e] at h0
    rw [h0]
    subst e2
    constructor
    · intro hle
      refine ⟨fun _ => c, ⟨fun i _ _ => hc, fun i h1 h2 => absurd h2 (by omega)⟩, rfl, ?_⟩
      show sumTo (fun i => own i c) h + own h c - sumTo (fun i => own i c) h ≤ n
      omega
    · rintro ⟨T, _, rfl, hle⟩
      have hle : sumTo (fun i => own i (T i)) h + own h (T h) - sumTo (fun i => own i (T i)) h ≤ n := hle
      omega
  | k + 1, h, c, n, hH, hc, hn25 => by
    rw [h1 h c n (by omega) hc hn25]
    have ho := hn h c
    constructor
    · rintro ⟨d, hd, hl, hle⟩
      obtain ⟨T, hT, hTd, hs⟩ := (from_way h0 h1 hn k (h + 1) d (n - own h c) (by omega) hd (by omega)).mp (by omega)
      refine ⟨fun i => if i = h then c else T i, ⟨fun i hi hi2 => ?_, fun i hi hi2 => ?_⟩, if_pos rfl, ?_⟩
      · try dsimp only
        by_cases e : i = h
        · rw [if_pos e]; exact hc
        · rw [if_neg e]; exact hT.1 i (by omega) hi2
      · try dsimp only
        by_cases e : i = h
        · subst e
          rw [if_pos rfl, if_neg (by omega), hTd]; exact hl
        · rw [if_neg e, if_neg (by omega)]; exact hT.2 i (by omega) hi2
      · try dsimp only
        have hd1 := sumTo_diff (f := fun i => own i (if i = h then c else T i)) (g := fun i => own i (T i)) (h + 1) H (by omega) (fun i h1 h2 => by rw [if_neg (by omega)])
        have e1 : sumTo (fun i => own i (if i = h then c else T i)) (h + 1) = sumTo (fun i => own i (if i = h then c else T i)) h + own h c := by
          show _ + own h (if h = h then c else T h) = _
          rw [if_pos rfl]
        omega
    · rintro ⟨T, hT, rfl, hs⟩
      refine ⟨T (h + 1), hT.1 _ (by omega) (by omega), hT.2 h (by omega) (by omega), ?_⟩
      have e1 : sumTo (fun i => own i (T i)) (h + 1) = sumTo (fun i => own i (T i)) h + own h (T h) := rfl
      have := (from_way h0 h1 hn k (h + 1) (T (h + 1)) (n - own h (T h)) (by omega) (hT.1 _ (by omega) (by omega)) (by omega)).mpr ⟨T, ⟨fun i hi hi2 => hT.1 i (by omega) hi2, fun i hi hi2 => hT.2 i (by omega) hi2⟩, rfl, by omega⟩
      omega
/-- Through a cell in an hour. -/
theorem through_way {H : Nat} (u0 : ∀ c, up 0 c = own 0 c) (u1 : ∀ h c n, h + 1 < H → O c → n < 25 → (up (h + 1) c ≤ n ↔ ∃ d, O d ∧ link h d c ∧ up h d + own (h + 1) c ≤ n))
    (f0 : ∀ c, fr (H - 1) c = own (H - 1) c) (f1 : ∀ h c n, h + 1 < H → O c → n < 25 → (fr h c ≤ n ↔ ∃ d, O d ∧ link h c d ∧ fr (h + 1) d + own h c ≤ n)) (hn : ∀ h c, 0 ≤ own h c)
    (g1 : ∀ h c, O c → own h c ≤ up h c) (g2 : ∀ h c, O c → own h c ≤ fr h c) (h c : Nat) (n : Int) (hh : h < H) (hc : O c) (hn25 : n < 25) :
    up h c + fr h c - own h c ≤ n ↔ ∃ T, waysFrom O link T 0 H ∧ T h = c ∧ sumTo (fun i => own i (T i)) H ≤ n := by
  have b1 := g1 h c hc
  have b2 := g2 h c hc
  have b3 := hn h c
  constructor
  · intro hle
    obtain ⟨T1, hT1, e1, s1⟩ := (up_way u0 u1 hn h c (up h c) hh hc (by omega)).mp (Int.le_refl _)
    obtain ⟨T2, hT2, e2, s2⟩ := (from_way f0 f1 hn (H - 1 - h) h c (fr h c) (by omega) hc (by omega)).mp (Int.le_refl _)
    refine ⟨fun i => if i < h then T1 i else T2 i, ⟨fun i _ hi => ?_, fun i _ hi => ?_⟩, by try dsimp only; rw [if_neg (by omega)]; exact e2, ?_⟩
    · try dsimp only
      by_cases e : i < h
      · rw [if_pos e]; exact hT1.1 i (by omega)
      · rw [if_neg e]; exact hT2.1 i (by omega) hi
    · try dsimp only
      by_cases e : i < h
      · rw [if_pos e]
        by_cases e' : i + 1 < h
        · rw [if_pos e']; exact hT1.2 i e
        · rw [if_neg e']
          have : i + 1 = h := by omega
          rw [this, e2, ← e1, ← this]; exact hT1.2 i e
      · rw [if_neg e, if_neg (by omega)]; exact hT2.2 i (by omega) hi
    · try dsimp only
      have d1 := sumTo_diff (f := fun i => own i (if i < h then T1 i else T2 i)) (g := fun i => own i (T2 i)) h H (by omega) (fun i h1 h2 => by rw [if_neg (by omega)])
      have d2 := sumTo_congr (f := fun i => own i (if i < h then T1 i else T2 i)) (g := fun i => own i (T1 i)) h (fun i h1 => by rw [if_pos h1])
      have s1 : sumTo (fun i => own i (T1 i)) h + own h (T1 h) ≤ up h c := s1
      rw [e1] at s1
      omega
  · rintro ⟨T, hT, rfl, hs⟩
    have hpos : ∀ k, 0 ≤ sumTo (fun i => own i (T i)) k := sumTo_nonneg (fun i => hn i (T i))
    have hmono := sumTo_diff_nonneg (f := fun i => own i (T i)) (fun i => hn i (T i)) (h + 1) H (by omega)
    have hm2 : sumTo (fun i => own i (T i)) (h + 1) = sumTo (fun i => own i (T i)) h + own h (T h) := rfl
    have p1 := (up_way u0 u1 hn h (T h) (sumTo (fun i => own i (T i)) (h + 1)) hh hc (by omega)).mpr ⟨T, ⟨fun i hi => hT.1 i (Nat.zero_le _) (by omega), fun i hi => hT.2 i (Nat.zero_le _) (by omega)⟩, rfl, Int.le_refl _⟩
    have hp0 := hpos h
    have p2 := (from_way f0 f1 hn (H - 1 - h) h (T h) (sumTo (fun i => own i (T i)) H - sumTo (fun i => own i (T i)) h) (by omega) hc (by omega)).mpr ⟨T, ⟨fun i hi h2 => hT.1 i (Nat.zero_le _) h2, fun i hi h2 => hT.2 i (Nat.zero_le _) h2⟩, rfl, Int.le_refl _⟩
    omega
where
  sumTo_diff_nonneg {f : Nat → Int} (h : ∀ i, 0 ≤ f i) (a : Nat) : ∀ b, a ≤ b → 0 ≤ sumTo f b - sumTo f a
  | 0, hab => by
    have : a = 0 := by omega
    subst this; omega
  | b + 1, hab => by
    by_cases e : a = b + 1
    · subst e; omega
    · have ih := sumTo_diff_nonneg h a b (by omega)
      have := h b
      show 0 ≤ sumTo f b + f b - sumTo f a
      omega
end

theorem mem_reach {s : Nat} {fc fr se sn x y : Int} : (x, y) ∈ reachList s fc fr se sn ↔ (-(s : Int) ≤ x - fc - se ∧ x - fc - se ≤ s) ∧ (-(s : Int) ≤ y - fr - sn ∧ y - fr - sn ≤ s) := by
  unfold reachList
  constructor
  · intro h
    obtain ⟨i, hi, he⟩ := List.mem_map.mp h
    have hi2 := List.mem_range.mp hi
    have h1 : i % (2 * s + 1) < 2 * s + 1 := Nat.mod_lt _ (by omega)
    have h2 : i / (2 * s + 1) < 2 * s + 1 := Nat.div_lt_of_lt_mul hi2
    unfold reachAt at he
    generalize i % (2 * s + 1) = p at *
    generalize i / (2 * s + 1) = q at *
    rw [Prod.mk.injEq] at he
    omega
  · rintro ⟨hx, hy⟩
    obtain ⟨b, hb⟩ : ∃ b : Nat, (b : Int) = x - fc - se + s := ⟨(x - fc - se + s).toNat, by omega⟩
    obtain ⟨a, ha⟩ : ∃ a : Nat, (a : Int) = y - fr - sn + s := ⟨(y - fr - sn + s).toNat, by omega⟩
    have hb1 : b < 2 * s + 1 := by omega
    have ha1 : a < 2 * s + 1 := by omega
    have h1 : a * (2 * s + 1) + b < (2 * s + 1) * (2 * s + 1) := by
      have : (a + 1) * (2 * s + 1) ≤ (2 * s + 1) * (2 * s + 1) := Nat.mul_le_mul_right _ (by omega)
      rw [Nat.add_mul] at this; omega
    have h2 : (a * (2 * s + 1) + b) % (2 * s + 1) = b := by rw [Nat.mul_comm, Nat.mul_add_mod]; exact Nat.mod_eq_of_lt hb1
    have h3 : (a * (2 * s + 1) + b) / (2 * s + 1) = a := by rw [Nat.mul_comm, Nat.mul_add_div (by omega), Nat.div_eq_of_lt hb1]; rfl
    refine List.mem_map.mpr ⟨a * (2 * s + 1) + b, List.mem_range.mpr h1, ?_⟩
    unfold reachAt
    rw [h2, h3, Prod.mk.injEq]
    omega
theorem find_open {S : SeaV} {land : List Int} {p : Int × Int} {f : Int} (h : PMap.find (seaMap S land) p = some f) : ∃ c : Nat, c ∈ opens land (S.wide * S.high).toNat ∧ f = c ∧ p = (col S c, row S c) := by
  unfold PMap.find at h
  rw [Option.map_eq_some_iff] at h
  obtain ⟨e, he, rfl⟩ := h
  have hp := List.find?_some he
  obtain ⟨c, hc, rfl⟩ := List.mem_map.1 (List.mem_of_find?_eq_some he)
  simp only [Bool.and_eq_true, beq_iff_eq] at hp
  exact ⟨c, hc, rfl, Prod.ext hp.1 hp.2⟩
theorem fold_le (M : PMap) (before : Nat → Int) (m : Int) : ∀ (ps : List (Int × Int)) (n0 : Int), ps.foldl (minOne M before) n0 ≤ m ↔ n0 ≤ m ∨ ∃ p ∈ ps, ∃ f, M.find p = some f ∧ before f.toNat ≤ m
  | [], n0 => by simp
  | p :: ps, n0 => by
    rw [List.foldl_cons, fold_le M before m ps]
    have key : minOne M before n0 p ≤ m ↔ n0 ≤ m ∨ ∃ f, M.find p = some f ∧ before f.toNat ≤ m := by
      unfold minOne
      cases hf : M.find p with
      | none => simp
      | some f =>
        simp only [minL_one, Option.some.injEq, exists_eq_left']
        split <;> omega
    rw [key]
    constructor
    · rintro ((h | ⟨f, h1, h2⟩) | ⟨q, hq, h⟩)
      · exact .inl h
      · exact .inr ⟨p, List.mem_cons_self, f, h1, h2⟩
      · exact .inr ⟨q, List.mem_cons_of_mem _ hq, h⟩
    · rintro (h | ⟨q, hq, h⟩)
      · exact .inl (.inl h)
      · rcases List.mem_cons.mp hq with rfl | hq
        · exact .inl (.inr h)
        · exact .inr ⟨q, hq, h⟩
def openC (D : SeaD) (c : Nat) : Prop := c ∈ opens D.land (D.wide * D.high).toNat
theorem next_le {D : SeaD} {before own : Nat → Int} {se sn : Int} {c : Nat} {n : Int} (hc : openC D c) (hn : n < 25) (ho : 0 ≤ own c) :
    nextF D before own se sn (opens D.land (D.wide * D.high).toNat).length c ≤ n ↔ ∃ d, openC D d ∧ (col (seaOf D) d, row (seaOf D) d) ∈ reachList D.speed.toNat (col (seaOf D) c) (row (seaOf D) c) se sn ∧ before d + own c ≤ n := by
  unfold nextF
  rw [List.take_length, if_pos (show c ∈ opens D.land (D.wide * D.high).toNat from hc), minL_one]
  have h1 : (if minTo (seaMap (seaOf D) D.land) before (reachList D.speed.toNat (col (seaOf D) c) (row (seaOf D) c) se sn) + own c < 25 then minTo (seaMap (seaOf D) D.land) before (reachList D.speed.toNat (col (seaOf D) c) (row (seaOf D) c) se sn) + own c else 25) ≤ n ↔ minTo (seaMap (seaOf D) D.land) before (reachList D.speed.toNat (col (seaOf D) c) (row (seaOf D) c) se sn) ≤ n - own c := by
    split <;> omega
  rw [h1]
  unfold minTo
  rw [fold_le]
  constructor
  · rintro (h | ⟨p, hp, f, hf, hb⟩)
    · omega
    · obtain ⟨d, hd, rfl, rfl⟩ := find_open hf
      exact ⟨d, hd, hp, by simp at hb; omega⟩
  · rintro ⟨d, hd, hr, hb⟩
    have hdl := opens_lt hd
    have hfind := seaMap_find (S := seaOf D) (land := D.land) (c := (d : Int)) (by omega) (by show (d : Int) < D.wide * D.high; omega)
    have hop : isOpen D.land (d : Int).toNat = true := (List.mem_filter.1 hd).2
    rw [if_pos hop] at hfind
    exact .inr ⟨_, hr, d, hfind, by simp; omega⟩
/-- From a cell in an hour to one in the next hour. -/
def linkP (D : SeaD) (h d c : Nat) : Prop := (col (seaOf D) c, row (seaOf D) c) ∈ reachList D.speed.toNat (col (seaOf D) d) (row (seaOf D) d) (stepE D.drift h) (stepN D.drift h)
theorem own_open {D : SeaD} {rs : List Rep} (h24 : rs.length ≤ 24) {h c : Nat} (hc : openC D c) : ownF D rs h c ≤ 24 := by
  unfold ownF cntF
  rw [List.take_length, if_pos (show c ∈ opens D.land (D.wide * D.high).toNat from hc)]
  have := untrueN_le (S := seaOf D) (rs := rs) (h := h) (x := col (seaOf D) c) (y := row (seaOf D) c) h24
  omega
theorem up_next {D : SeaD} {rs : List Rep} (h24 : rs.length ≤ 24) (h c : Nat) (n : Int) (hc : openC D c) (hn : n < 25) : upF D rs (h + 1) c ≤ n ↔ ∃ d, openC D d ∧ linkP D h d c ∧ upF D rs h d + ownF D rs (h + 1) c ≤ n := by
  show nextF D (upF D rs h) (ownF D rs (h + 1)) (forthS D (h + 1)).1 (forthS D (h + 1)).2 _ c ≤ n ↔ _
  rw [next_le hc hn (ownF_bounds D h24 _ _).1]
  have e : forthS D (h + 1) = (-stepE D.drift h, -stepN D.drift h) := rfl
  rw [e]
  have key : ∀ d : Nat, ((col (seaOf D) d, row (seaOf D) d) ∈ reachList D.speed.toNat (col (seaOf D) c) (row (seaOf D) c) (-stepE D.drift h) (-stepN D.drift h)) ↔ linkP D h d c := fun d => by
    unfold linkP
    rw [mem_reach, mem_reach]
    omega
  constructor
  · rintro ⟨d, h1, h2, h3⟩; exact ⟨d, h1, (key d).mp h2, h3⟩
  · rintro ⟨d, h1, h2, h3⟩; exact ⟨d, h1, (key d).mpr h2, h3⟩
theorem from_next {D : SeaD} {rs : List Rep} (h24 : rs.length ≤ 24) (h c : Nat) (n : Int) (hH : h + 1 < D.hours.toNat) (hc : openC D c) (hn : n < 25) : fromF D rs h c ≤ n ↔ ∃ d, openC D d ∧ linkP D h c d ∧ fromF D rs (h + 1) d + ownF D rs h c ≤ n := by
  obtain ⟨j, hj⟩ : ∃ j, D.hours.toNat - 1 - (h + 1) = j := ⟨_, rfl⟩
  have e1 : D.hours.toNat - 1 - h = j + 1 := by omega
  have e2 : D.hours.toNat - 1 - (j + 1) = h := by omega
  unfold fromF
  rw [e1, hj]
  show nextF D (walkF D (ownF D rs) (fun i => D.hours.toNat - 1 - i) (backS D D.hours.toNat) j) (ownF D rs (D.hours.toNat - 1 - (j + 1))) (backS D D.hours.toNat (j + 1)).1 (backS D D.hours.toNat (j + 1)).2 _ c ≤ n ↔ _
  rw [e2, next_le hc hn (ownF_bounds D h24 _ _).1]
  have e : backS D D.hours.toNat (j + 1) = (stepE D.drift h, stepN D.drift h) := by unfold backS; rw [e2]
  rw [e]
  rfl
theorem from_last {D : SeaD} {rs : List Rep} (c : Nat) : fromF D rs (D.hours.toNat - 1) c = ownF D rs (D.hours.toNat - 1) c := by
  unfold fromF
  rw [Nat.sub_self]
  rfl
theorem own_next {D : SeaD} {before own : Nat → Int} {se sn : Int} {c : Nat} (hc : openC D c) (hb : ∀ c, 0 ≤ before c ∧ before c ≤ 1000) (ho : own c ≤ 24) : own c ≤ nextF D before own se sn (opens D.land (D.wide * D.high).toNat).length c := by
  unfold nextF
  rw [List.take_length, if_pos (show c ∈ opens D.land (D.wide * D.high).toNat from hc), minL_one]
  have := (minTo_bounds (seaMap (seaOf D) D.land) before hb (reachList D.speed.toNat (col (seaOf D) c) (row (seaOf D) c) se sn)).1
  split <;> omega
theorem own_walk {D : SeaD} {rs : List Rep} (h24 : rs.length ≤ 24) (hf : Nat → Nat) (sf : Nat → Int × Int) : ∀ (i c : Nat), openC D c → ownF D rs (hf i) c ≤ walkF D (ownF D rs) hf sf i c
  | 0, c, _ => Int.le_refl _
  | i + 1, c, hc => own_next hc (walkF_bounds D (ownF_bounds D h24) hf sf i) (own_open h24 hc)
theorem own_from {D : SeaD} {rs : List Rep} (h24 : rs.length ≤ 24) (h c : Nat) (hh : h < D.hours.toNat) (hc : openC D c) : ownF D rs h c ≤ fromF D rs h c := by
  have := own_walk h24 (fun i => D.hours.toNat - 1 - i) (backS D D.hours.toNat) (D.hours.toNat - 1 - h) c hc
  have e : D.hours.toNat - 1 - (D.hours.toNat - 1 - h) = h := by omega
  simp only [e] at this
  exact this
/-- A track, as a function of the hour, and how many reports are false of it. -/
def isWay (D : SeaD) (T : Nat → Nat) : Prop := waysFrom (openC D) (linkP D) T 0 D.hours.toNat
def costW (D : SeaD) (rs : List Rep) (T : Nat → Nat) : Int := sumTo (fun i => ownF D rs i (T i)) D.hours.toNat
theorem can_way {D : SeaD} {rs : List Rep} (h24 : rs.length ≤ 24) {h c : Nat} {n : Int} (hh : h < D.hours.toNat) (hc : openC D c) (hn : n < 25) : canIs D rs n h c = true ↔ ∃ T, isWay D T ∧ T h = c ∧ costW D rs T ≤ n := by
  unfold canIs throughOf
  rw [minL_one, decide_eq_true_eq]
  have := through_way (O := openC D) (link := linkP D) (own := ownF D rs) (up := upF D rs) (fr := fun h c => if h < D.hours.toNat then fromF D rs h c else 1000) (H := D.hours.toNat) (fun c => rfl) (fun h c n _ hc hn => up_next h24 h c n hc hn)
    (fun c => by rw [if_pos (by omega)]; exact from_last c) (fun h c n hH hc hn => by rw [if_pos (by omega)]; simp only [if_pos hH]; exact from_next h24 h c n hH hc hn) (fun h c => (ownF_bounds D h24 h c).1)
    (fun h c hc => own_walk h24 (fun i => i) (forthS D) h c hc) (fun h c hc => by
      split
      · exact own_from h24 h c (by assumption) hc
      · have := own_open (rs := rs) (h := h) h24 hc; omega) h c n hh hc hn
  rw [if_pos hh] at this
  unfold isWay costW
  rw [← this]
  split <;> omega
end Go.Proofs.Ytlgcnjcbmihefaa
