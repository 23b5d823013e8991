/- The pieces of a torn net are as few as they can be (pure). -/
import Derived.Test.YtmjelgonhpgmbaaUA
set_option linter.unusedSimpArgs false
set_option linter.unusedVariables false
namespace Go.Proofs.Ytmjelgonhpgmbaa
namespace Tw
def sumTo (f : Nat → Nat) : Nat → Nat
  | 0 => 0
  | n + 1 => sumTo f n + f n
theorem sumTo_congr {f g : Nat → Nat} : ∀ {n : Nat}, (∀ k, k < n → f k = g k) → sumTo f n = sumTo g n
  | 0, _ => rfl
  | n + 1, h => by unfold sumTo; rw [sumTo_congr fun k hk => h k (by omega), h n (by omega)]
theorem sumTo_le {f g : Nat → Nat} : ∀ {n : Nat}, (∀ k, k < n → f k ≤ g k) → sumTo f n ≤ sumTo g n
  | 0, _ => Nat.le_refl _
  | n + 1, h => by unfold sumTo; have := sumTo_le (n := n) fun k hk => h k (by omega); have := h n (by omega); omega
theorem sumTo_add (f g : Nat → Nat) : ∀ n, sumTo (fun k => f k + g k) n = sumTo f n + sumTo g n
  | 0 => rfl
  | n + 1 => by unfold sumTo; rw [sumTo_add]; omega
theorem sumTo_zero {f : Nat → Nat} : ∀ {n : Nat}, (∀ k, k < n → f k = 0) → sumTo f n = 0
  | 0, _ => rfl
  | n + 1, h => by unfold sumTo; rw [sumTo_zero fun k hk => h k (by omega), h n (by omega)]
theorem sumTo_one {v : Nat → Nat} {a : Nat} : ∀ {n : Nat}, a < n → sumTo (fun k => if k = a then v k else 0) n = v a
  | 0, h => absurd h (by omega)
  | n + 1, h => by
    unfold sumTo
    rcases Nat.lt_or_ge a n with h' | h'
    · rw [sumTo_one h', if_neg (by omega)]; omega
    · obtain rfl : a = n := by omega
      rw [sumTo_zero fun k hk => if_neg (by omega), if_pos rfl]; omega
theorem sumTo_even {f : Nat → Nat} : ∀ {n : Nat}, (∀ k, k < n → f k % 2 = 0) → sumTo f n % 2 = 0
  | 0, _ => rfl
  | n + 1, h => by unfold sumTo; have := sumTo_even (n := n) fun k hk => h k (by omega); have := h n (by omega); omega
theorem meetTo_count (l : List Spn) (k : Int) : ∀ n, n ≤ l.length → meetTo l k n = (l.take n).countP (meetsB k)
  | 0, _ => by simp [meetTo]
  | n + 1, h => by
    unfold meetTo
    rw [meetTo_count l k n (by omega), List.take_succ_eq_append_getElem (by omega), List.countP_append, List.countP_singleton, getD_of (by omega)]
theorem meetN_count (l : List Spn) (k : Int) : meetN l k = l.countP (meetsB k) := by
  unfold meetN; rw [meetTo_count l k _ (Nat.le_refl _), List.take_length]
theorem deg_all (l : List Spn) (k : Int) : deg l (fun i => decide (i < l.length)) k = meetN l k := by
  have : ∀ n, n ≤ l.length → cnt (fun i => decide (i < l.length) && meetsB k (l.getD i ⟨0, 0⟩)) n = meetTo l k n := by
    intro n hn
    induction n with
    | zero => rfl
    | succ n ih => unfold cnt meetTo; rw [ih (by omega), decide_eq_true (by omega : n < l.length), Bool.true_and]
  exact this _ (Nat.le_refl _)
theorem meets_two (s : Spn) {P : Nat} (h : 0 ≤ s.lo ∧ s.lo < P ∧ 0 ≤ s.hi ∧ s.hi < P) (hne : s.lo ≠ s.hi) : sumTo (fun k => if meetsB (k : Int) s then 1 else 0) P = 2 := by
  have : ∀ k : Nat, (if meetsB (k : Int) s then 1 else 0) = (if k = s.lo.toNat then 1 else 0) + (if k = s.hi.toNat then 1 else 0) := fun k => by
    unfold meetsB
    by_cases h1 : k = s.lo.toNat
    · have h2 : s.lo = k := by omega
      have h3 : ¬ k = s.hi.toNat := by omega
      rw [if_pos h1, if_neg h3, h2]; simp
    · by_cases h3 : k = s.hi.toNat
      · have h4 : s.hi = k := by omega
        rw [if_neg h1, if_pos h3, h4]; simp
      · have h4 : ¬ s.lo = k := by omega
        have h5 : ¬ s.hi = k := by omega
        rw [if_neg h1, if_neg h3]; simp [h4, h5]
  rw [sumTo_congr (g := fun k => (if k = s.lo.toNat then (fun _ => 1) k else 0) + (if k = s.hi.toNat then (fun _ => 1) k else 0)) fun k _ => this k, sumTo_add, sumTo_one (by omega), sumTo_one (by omega)]
/-- Each bar meets at two knots. -/
theorem handshake {P : Nat} : ∀ {l : List Spn}, (∀ s ∈ l, 0 ≤ s.lo ∧ s.lo < P ∧ 0 ≤ s.hi ∧ s.hi < P) → (∀ s ∈ l, s.lo ≠ s.hi) → sumTo (fun k => l.countP (meetsB (k : Int))) P = 2 * l.length
  | [], _, _ => by rw [sumTo_zero fun k _ => by simp]; rfl
  | s :: l, h, h2 => by
    have e : ∀ k : Nat, (s :: l).countP (meetsB (k : Int)) = l.countP (meetsB (k : Int)) + (if meetsB (k : Int) s then 1 else 0) := fun k => List.countP_cons
    rw [sumTo_congr fun k _ => e k, sumTo_add, handshake (fun t ht => h t (List.mem_cons_of_mem _ ht)) (fun t ht => h2 t (List.mem_cons_of_mem _ ht)), meets_two s (h s (by simp)) (h2 s (by simp)), List.length_cons]
    omega
theorem oddTo_mem {l : List Spn} {P : Int} {n : Nat} {s : Spn} : s ∈ oddTo l P n ↔ ∃ i : Nat, i < n ∧ meetN l (i : Int) % 2 = 1 ∧ s = ⟨(i : Int), P⟩ := by
  unfold oddTo
  rw [List.mem_flatMap]
  constructor
  · rintro ⟨i, h1, h2⟩
    split at h2
    · next h3 => simp at h2; exact ⟨i, List.mem_range.1 h1, by simpa using h3, h2⟩
    · cases h2
  · rintro ⟨i, h1, h2, h3⟩
    exact ⟨i, List.mem_range.2 h1, by rw [if_pos (by simpa using h2)]; simp [h3]⟩
theorem oddTo_succ (l : List Spn) (P : Int) (n : Nat) : oddTo l P (n + 1) = oddTo l P n ++ (if meetN l (n : Int) % 2 == 1 then [⟨(n : Int), P⟩] else []) := by
  unfold oddTo; rw [List.range_succ, List.flatMap_append]; simp
theorem oddTo_nodup (l : List Spn) (P : Int) : ∀ n, ((oddTo l P n).map (·.lo)).Nodup
  | 0 => by simp [oddTo]
  | n + 1 => by
    rw [oddTo_succ, List.map_append, List.nodup_append]
    refine ⟨oddTo_nodup l P n, by split <;> simp, fun a ha b hb e => ?_⟩
    rw [List.mem_map] at ha
    obtain ⟨s, hs, rfl⟩ := ha
    obtain ⟨i, h1, h2, rfl⟩ := oddTo_mem.1 hs
    split at hb
    · simp at hb; subst e; simp at hb; omega
    · simp at hb
theorem odd_count {l : List Spn} {P : Int} (n : Nat) {k : Nat} (hk : (k : Int) ≠ P) : (oddTo l P n).countP (meetsB (k : Int)) = if k < n then meetN l (k : Int) % 2 else 0 := by
  induction n with
  | zero => simp [oddTo]
  | succ n ih =>
    rw [oddTo_succ, List.countP_append, ih]
    by_cases h : k = n
    · subst h
      rw [if_neg (Nat.lt_irrefl k), if_pos (Nat.lt_succ_self k)]
      by_cases h1 : meetN l (k : Int) % 2 = 1
      · rw [if_pos (by simpa using h1), h1]; simp [meetsB]
      · rw [if_neg (by simpa using h1)]; simp; omega
    · have : ((if meetN l (n : Int) % 2 == 1 then [(⟨(n : Int), P⟩ : Spn)] else []).countP (meetsB (k : Int))) = 0 := by
        split
        · rw [List.countP_singleton, if_neg]
          simp [meetsB]
          exact ⟨fun e => h (by omega), fun e => hk e.symm⟩
        · rfl
      rw [this]
      by_cases h1 : k < n
      · rw [if_pos h1, if_pos (by omega)]; rfl
      · rw [if_neg h1, if_neg (by omega)]
/-- A torn net's bars, as they can be. -/
structure Bars (bars : List Spn) (P : Nat) : Prop where
  low : ∀ s ∈ bars, 0 ≤ s.lo ∧ s.lo < P ∧ 0 ≤ s.hi ∧ s.hi < P
  ne : ∀ s ∈ bars, s.lo ≠ s.hi
theorem hand_low {bars : List Spn} {P : Nat} (h : Bars bars P) : ∀ s ∈ handTo bars P P, 0 ≤ s.lo ∧ s.lo < (P + 1 : Nat) ∧ 0 ≤ s.hi ∧ s.hi < (P + 1 : Nat) := by
  intro s hs
  unfold handTo at hs
  rcases List.mem_append.1 hs with hs | hs
  · have := h.low s hs; omega
  · obtain ⟨i, h1, h2, rfl⟩ := oddTo_mem.1 hs
    simp only; omega
theorem hand_ne {bars : List Spn} {P : Nat} (h : Bars bars P) : ∀ s ∈ handTo bars P P, s.lo ≠ s.hi := by
  intro s hs
  unfold handTo at hs
  rcases List.mem_append.1 hs with hs | hs
  · exact h.ne s hs
  · obtain ⟨i, h1, h2, rfl⟩ := oddTo_mem.1 hs
    simp only; omega
theorem meetN_out {l : List Spn} {P : Nat} (h : ∀ s ∈ l, 0 ≤ s.lo ∧ s.lo < P ∧ 0 ≤ s.hi ∧ s.hi < P) {k : Int} (hk : k < 0 ∨ (P : Int) ≤ k) : meetN l k = 0 := by
  rw [meetN_count, List.countP_eq_zero]
  intro s hs
  have := h s hs
  simp [meetsB]; omega
/-- With the hand, an even number of bars meets at each knot. -/
theorem hand_even {bars : List Spn} {P : Nat} (h : Bars bars P) (k : Int) : meetN (handTo bars P P) k % 2 = 0 := by
  have inner : ∀ k : Nat, k < P → meetN (handTo bars P P) (k : Int) % 2 = 0 := fun k hk => by
    rw [meetN_count]; unfold handTo
    rw [List.countP_append, odd_count P (by omega), if_pos hk, ← meetN_count]; omega
  by_cases h1 : k < 0 ∨ ((P + 1 : Nat) : Int) ≤ k
  · rw [meetN_out (hand_low h) h1]
  · obtain ⟨n, rfl⟩ : ∃ n : Nat, k = n := ⟨k.toNat, by omega⟩
    by_cases h2 : n < P
    · exact inner n h2
    · obtain rfl : n = P := by omega
      have hs := handshake (hand_low h) (hand_ne h)
      unfold sumTo at hs
      have he := sumTo_even (f := fun k => (handTo bars n n).countP (meetsB (k : Int))) (n := n) fun k hk => by rw [← meetN_count]; exact inner k hk
      rw [meetN_count]
      omega
theorem hand_own {bars : List Spn} {P : Int} {n i : Nat} (hi : i < bars.length) : (handTo bars P n).getD i ⟨0, 0⟩ = bars.getD i ⟨0, 0⟩ := by
  unfold handTo
  rw [getD_of (by simp; omega), getD_of hi, List.getElem_append_left hi]
theorem hand_hand {bars : List Spn} {P : Int} {n i : Nat} (hi : bars.length ≤ i) (hl : i < (handTo bars P n).length) : ∃ h : i - bars.length < (oddTo bars P n).length, (handTo bars P n).getD i ⟨0, 0⟩ = (oddTo bars P n)[i - bars.length] := by
  have : i - bars.length < (oddTo bars P n).length := by unfold handTo at hl; rw [List.length_append] at hl; omega
  refine ⟨this, ?_⟩
  rw [getD_of hl]
  exact List.getElem_append_right hi
theorem hand_handed {bars : List Spn} {P : Nat} (h : Bars bars P) : Handed (handTo bars P P) bars.length P := by
  refine ⟨fun i hi hl => ?_, fun i hi hl => ?_⟩
  · rw [hand_own hi, getD_of hi]
    have := h.low bars[i] (List.getElem_mem hi)
    omega
  · obtain ⟨h1, h2⟩ := hand_hand hi hl
    rw [h2]
    obtain ⟨j, h3, h4, h5⟩ := oddTo_mem.1 (List.getElem_mem h1)
    have h6 : ((j : Int) ≠ (P : Int)) := by omega
    rw [h5]; exact ⟨h6, rfl⟩
theorem count_one {p : Nat → Bool} (hp : ∀ i j, p i = true → p j = true → i = j) : ∀ {is : List Nat}, is.Nodup → is.countP p ≤ 1
  | [], _ => by simp
  | i :: is, h => by
    rw [List.countP_cons]
    rw [List.nodup_cons] at h
    cases hi : p i
    · have := count_one hp h.2; simpa using this
    · have : is.countP p = 0 := by
        rw [List.countP_eq_zero]
        intro j hj hpj
        exact h.1 (hp i j hi hpj ▸ hj)
      rw [this]; simp
theorem handAt_le {bars : List Spn} {P : Nat} {is : List Nat} (hn : is.Nodup) (hl : ∀ i ∈ is, i < (handTo bars P P).length) (k : Nat) : handAt (handTo bars P P) bars.length k is ≤ meetN bars k % 2 := by
  unfold handAt
  have e : is.countP (fun i => decide (bars.length ≤ i) && decide (((handTo bars P P).getD i ⟨0, 0⟩).lo = (k : Int))) = is.countP (fun i => (decide (i < (handTo bars P P).length) && (decide (bars.length ≤ i) && decide (((handTo bars P P).getD i ⟨0, 0⟩).lo = (k : Int))))) := by
    apply List.countP_congr
    intro i hi
    simp [hl i hi]
  rw [e]
  by_cases hk : meetN bars k % 2 = 1
  · rw [hk]
    apply count_one _ hn
    intro i j hi hj
    simp only [Bool.and_eq_true, decide_eq_true_eq] at hi hj
    obtain ⟨h1, h2⟩ := hand_hand hi.2.1 hi.1
    obtain ⟨h3, h4⟩ := hand_hand hj.2.1 hj.1
    have hnd := oddTo_nodup bars P P
    rw [List.nodup_iff_pairwise_ne, List.pairwise_iff_getElem] at hnd
    have e1 : (oddTo bars P P)[i - bars.length].lo = (oddTo bars P P)[j - bars.length].lo := by rw [← h2, ← h4, hi.2.2, hj.2.2]
    rcases Nat.lt_trichotomy (i - bars.length) (j - bars.length) with h | h | h
    · exact absurd (by rw [List.getElem_map, List.getElem_map]; exact e1) (hnd _ _ (by simpa using h1) (by simpa using h3) h)
    · omega
    · exact absurd (by rw [List.getElem_map, List.getElem_map]; exact e1.symm) (hnd _ _ (by simpa using h3) (by simpa using h1) h)
  · have : is.countP (fun i => (decide (i < (handTo bars P P).length) && (decide (bars.length ≤ i) && decide (((handTo bars P P).getD i ⟨0, 0⟩).lo = (k : Int))))) = 0 := by
      rw [List.countP_eq_zero]
      intro i _ hi
      simp only [Bool.and_eq_true, decide_eq_true_eq] at hi
      obtain ⟨h1, h2⟩ := hand_hand hi.2.1 hi.1
      obtain ⟨j, h3, h4, h5⟩ := oddTo_mem.1 (List.getElem_mem h1)
      have := hi.2.2
      rw [h2, h5] at this
      simp only at this
      obtain rfl : j = k := by omega
      exact hk h4
    rw [this]; omega
/-- Pieces, with the numbers of their bars, run along each bar once. -/
structure Mends (bars : List Spn) (qs : List (List Int × List Nat)) : Prop where
  good : ∀ q ∈ qs, Way bars q.1 q.2 ∧ 2 ≤ q.1.length
  nodup : (qs.flatMap (·.2)).Nodup
  all : ∀ i, i < bars.length → i ∈ qs.flatMap (·.2)
inductive Conn (bars : List Spn) (a : Int) : Int → Prop
  | refl : Conn bars a a
  | step {b c : Int} {i : Nat} : Conn bars a b → i < bars.length → joins (bars.getD i ⟨0, 0⟩) b c → Conn bars a c
theorem Conn.trans {bars : List Spn} {a b c : Int} (h : Conn bars a b) (k : Conn bars b c) : Conn bars a c := by
  induction k with
  | refl => exact h
  | step _ hi hj ih => exact .step ih hi hj
theorem Conn.one {bars : List Spn} {a b : Int} {i : Nat} (hi : i < bars.length) (hj : joins (bars.getD i ⟨0, 0⟩) a b) : Conn bars a b := .step .refl hi hj
theorem Conn.symm {bars : List Spn} {a b : Int} (h : Conn bars a b) : Conn bars b a := by
  induction h with
  | refl => exact .refl
  | step _ hi hj ih => exact (Conn.one hi hj.symm).trans ih
/-- Groups of knots: bars stay within a group. -/
def Within (bars : List Spn) (g : Int → Nat) : Prop := ∀ i, i < bars.length → g (bars.getD i ⟨0, 0⟩).lo = g (bars.getD i ⟨0, 0⟩).hi
theorem Within.join {bars : List Spn} {g : Int → Nat} (h : Within bars g) {i : Nat} (hi : i < bars.length) {a b : Int} (hj : joins (bars.getD i ⟨0, 0⟩) a b) : g a = g b ∧ g (bars.getD i ⟨0, 0⟩).lo = g a := by
  have := h i hi
  rcases hj with ⟨e1, e2⟩ | ⟨e1, e2⟩ <;> rw [e1, e2] at this
  · exact ⟨this, by rw [e1]⟩
  · exact ⟨this.symm, by rw [e1, this]⟩
def grp (g : Int → Nat) (p : List Int) : Nat := g (p.headD 0)
def numOf (g : Int → Nat) (c : Nat) (qs : List (List Int × List Nat)) : Nat := qs.countP fun q => grp g q.1 == c
theorem numOf_append (g : Int → Nat) (c : Nat) (a b : List (List Int × List Nat)) : numOf g c (a ++ b) = numOf g c a + numOf g c b := List.countP_append
theorem Way.ne_nil {l : List Spn} {p : List Int} {is : List Nat} (h : Way l p is) : p ≠ [] := by cases h <;> simp
theorem Way.head {l : List Spn} {p : List Int} {is : List Nat} (h : Way l p is) : p.head? = some (p.headD 0) := by cases h <;> rfl
/-- The bars of a way lie in its group, and so do its knots. -/
theorem Way.within {l bars : List Spn} {g : Int → Nat} {n : Nat} (hlb : ∀ i, i < n → l.getD i ⟨0, 0⟩ = bars.getD i ⟨0, 0⟩) (hnb : n = bars.length) (hg : Within bars g) {p : List Int} {is : List Nat} (h : Way l p is) : (∀ i ∈ is, i < n) → (∀ v ∈ p, g v = grp g p) ∧ ∀ i ∈ is, g (bars.getD i ⟨0, 0⟩).lo = grp g p := by
  induction h with
  | one k => intro _; exact ⟨fun v hv => by simp at hv; rw [hv]; rfl, fun i hi => by simp at hi⟩
  | @cons a b p i is hi hj _ ih =>
    intro hr
    have hin := hr i (by simp)
    rw [hlb i hin] at hj
    obtain ⟨h1, h2⟩ := hg.join (hnb ▸ hin) hj
    obtain ⟨h3, h4⟩ := ih fun j hj => hr j (List.mem_cons_of_mem _ hj)
    have e1 : grp g (a :: b :: p) = g a := rfl
    have e2 : grp g (b :: p) = g b := rfl
    rw [e2] at h3 h4
    rw [e1]
    refine ⟨fun v hv => ?_, fun j hj => ?_⟩
    · rcases List.mem_cons.1 hv with rfl | hv
      · rfl
      · rw [h3 v hv, h1]
    · rcases List.mem_cons.1 hj with rfl | hj
      · exact h2
      · rw [h4 j hj, h1]
theorem Way.knots {l : List Spn} {P : Nat} (hl : ∀ i, i < l.length → 0 ≤ (l.getD i ⟨0, 0⟩).lo ∧ (l.getD i ⟨0, 0⟩).lo < P ∧ 0 ≤ (l.getD i ⟨0, 0⟩).hi ∧ (l.getD i ⟨0, 0⟩).hi < P) {p : List Int} {is : List Nat} (h : Way l p is) : 2 ≤ p.length → ∀ v ∈ p, 0 ≤ v ∧ v < P := by
  induction h with
  | one k => intro h2; simp at h2
  | @cons a b p i is hi hj hw ih =>
    intro _ v hv
    have hb := hl i hi
    have hab : (0 ≤ a ∧ a < (P : Int)) ∧ (0 ≤ b ∧ b < (P : Int)) := by rcases hj with ⟨e1, e2⟩ | ⟨e1, e2⟩ <;> rw [e1, e2] at hb <;> omega
    rcases List.mem_cons.1 hv with rfl | hv
    · exact hab.1
    · cases p with
      | nil => simp at hv; rw [hv]; exact hab.2
      | cons c p => exact ih (by simp) v hv
/-- Over a group the ends of a piece are two. -/
def grpSum (g : Int → Nat) (c P : Nat) (f : Nat → Nat) : Nat := sumTo (fun k => if g (k : Int) = c then f k else 0) P
theorem grp_ends {g : Int → Nat} {c P : Nat} {p : List Int} (hne : p ≠ []) (hk : ∀ v ∈ p, 0 ≤ v ∧ v < (P : Int)) (hg : ∀ v ∈ p, g v = grp g p) : grpSum g c P (fun k => endsAt k p) = if grp g p = c then 2 else 0 := by
  obtain ⟨a, ha⟩ : ∃ a, p.head? = some a := by cases p with
    | nil => exact absurd rfl hne
    | cons a p => exact ⟨a, rfl⟩
  obtain ⟨b, hb⟩ : ∃ b, p.getLast? = some b := by
    cases h : p.getLast? with
    | none => exact absurd (List.getLast?_eq_none_iff.1 h) hne
    | some b => exact ⟨b, rfl⟩
  have ham : a ∈ p := List.mem_of_head? ha
  have hbm : b ∈ p := List.mem_of_getLast? hb
  have h1 := hk a ham
  have h2 := hk b hbm
  have e : ∀ k, k < P → (if g (k : Int) = c then endsAt k p else 0) = (if k = a.toNat then (fun _ => if grp g p = c then 1 else 0) k else 0) + (if k = b.toNat then (fun _ => if grp g p = c then 1 else 0) k else 0) := fun k hk => by
    have one : ∀ x : Int, x ∈ p → 0 ≤ x → (if g (k : Int) = c then (if some x = some (k : Int) then 1 else 0) else 0) = (if k = x.toNat then (if grp g p = c then 1 else 0) else 0) := fun x hx h0 => by
      by_cases hxk : x = k
      · subst hxk
        rw [hg _ hx, if_pos rfl, if_pos (show k = ((k : Int)).toNat by simp)]
      · rw [if_neg (show ¬ (k = x.toNat) by omega), if_neg (show ¬ (some x = some (k : Int)) from fun e => hxk (Option.some.inj e))]
        split <;> rfl
    have o1 := one a ham h1.1
    have o2 := one b hbm h2.1
    unfold endsAt
    rw [ha, hb]
    simp only
    rw [← o1, ← o2]
    split <;> simp
  unfold grpSum
  rw [sumTo_congr e, sumTo_add, sumTo_one (by omega), sumTo_one (by omega)]
  split <;> rfl
theorem grpSum_add (g : Int → Nat) (c P : Nat) (f h : Nat → Nat) : grpSum g c P (fun k => f k + h k) = grpSum g c P f + grpSum g c P h := by
  unfold grpSum
  rw [← sumTo_add]
  exact sumTo_congr fun k _ => by split <;> rfl
theorem grpSum_le {g : Int → Nat} {c P : Nat} {f h : Nat → Nat} (hle : ∀ k, k < P → f k ≤ h k) : grpSum g c P f ≤ grpSum g c P h := sumTo_le fun k hk => by
  split
  · exact hle k hk
  · exact Nat.le_refl _
theorem grp_ends_all {g : Int → Nat} {c P : Nat} : ∀ {qs : List (List Int × List Nat)}, (∀ q ∈ qs, q.1 ≠ [] ∧ (∀ v ∈ q.1, 0 ≤ v ∧ v < (P : Int)) ∧ ∀ v ∈ q.1, g v = grp g q.1) → grpSum g c P (fun k => endsOf k qs) = 2 * numOf g c qs
  | [], _ => sumTo_zero fun k _ => by simp [endsOf]
  | q :: qs, h => by
    have h1 := h q (by simp)
    have e : (fun k : Nat => endsOf (k : Int) (q :: qs)) = fun k : Nat => endsAt (k : Int) q.1 + endsOf (k : Int) qs := by
      funext k; unfold endsOf; rw [List.map_cons, List.sum_cons]
    rw [e, grpSum_add, grp_ends h1.1 h1.2.1 h1.2.2, grp_ends_all fun r hr => h r (List.mem_cons_of_mem _ hr)]
    unfold numOf
    rw [List.countP_cons]
    by_cases hc : grp g q.1 = c
    · rw [if_pos hc, if_pos (by simpa using hc)]; omega
    · rw [if_neg hc, if_neg (by simpa using hc)]; omega
/-- How many pieces a group needs. -/
def oddOf (bars : List Spn) (g : Int → Nat) (P c : Nat) : Nat := grpSum g c P fun k => meetN bars (k : Int) % 2
def anyOf (bars : List Spn) (g : Int → Nat) (P c : Nat) : Bool := (List.range P).any fun k => g (k : Int) == c && decide (0 < meetN bars (k : Int))
def needs (bars : List Spn) (g : Int → Nat) (P c : Nat) : Nat := if anyOf bars g P c then max 1 (oddOf bars g P c / 2) else 0
def fewest (bars : List Spn) (g : Int → Nat) (P C : Nat) : Nat := sumTo (needs bars g P) C
theorem meetN_pos {bars : List Spn} {i : Nat} (hi : i < bars.length) : 0 < meetN bars (bars.getD i ⟨0, 0⟩).lo := by
  rw [meetN_count, List.countP_pos_iff]
  exact ⟨bars[i], List.getElem_mem hi, by rw [getD_of hi]; simp [meetsB]⟩
theorem any_of_bar {bars : List Spn} {P : Nat} (hB : Bars bars P) {g : Int → Nat} {i : Nat} (hi : i < bars.length) : anyOf bars g P (g (bars.getD i ⟨0, 0⟩).lo) = true := by
  have hl := hB.low bars[i] (List.getElem_mem hi)
  have hp := meetN_pos hi
  rw [getD_of hi] at hp ⊢
  unfold anyOf
  rw [List.any_eq_true]
  refine ⟨bars[i].lo.toNat, List.mem_range.2 (by omega), ?_⟩
  rw [show ((bars[i].lo.toNat : Nat) : Int) = bars[i].lo by omega]
  simpa using hp
theorem bar_of_any {bars : List Spn} {P c : Nat} {g : Int → Nat} (hg : Within bars g) (h : anyOf bars g P c = true) : ∃ i, i < bars.length ∧ g (bars.getD i ⟨0, 0⟩).lo = c := by
  unfold anyOf at h
  rw [List.any_eq_true] at h
  obtain ⟨k, _, h1⟩ := h
  simp only [Bool.and_eq_true, beq_iff_eq, decide_eq_true_eq] at h1
  obtain ⟨h1, h2⟩ := h1
  rw [meetN_count, List.countP_pos_iff] at h2
  obtain ⟨s, hs, h3⟩ := h2
  obtain ⟨i, hi, rfl⟩ := List.getElem_of_mem hs
  refine ⟨i, hi, ?_⟩
  have := hg i hi
  rw [getD_of hi] at this ⊢
  simp only [meetsB, Bool.or_eq_true, beq_iff_eq] at h3
  rcases h3 with h3 | h3
  · rw [h3]; exact h1
  · rw [this, h3]; exact h1
theorem length_groups {g : Int → Nat} {C : Nat} : ∀ {qs : List (List Int × List Nat)}, (∀ q ∈ qs, grp g q.1 < C) → qs.length = sumTo (fun c => numOf g c qs) C
  | [], _ => (sumTo_zero fun c _ => by simp [numOf]).symm
  | q :: qs, h => by
    have e : ∀ c, c < C → numOf g c (q :: qs) = numOf g c qs + (if c = grp g q.1 then (fun _ => 1) c else 0) := fun c _ => by
      unfold numOf; rw [List.countP_cons]
      by_cases hc : grp g q.1 = c
      · rw [if_pos (by simpa using hc), if_pos hc.symm]
      · rw [if_neg (by simpa using hc), if_neg fun e => hc e.symm]
    rw [sumTo_congr e, sumTo_add, ← length_groups fun r hr => h r (List.mem_cons_of_mem _ hr), sumTo_one (h q (by simp)), List.length_cons]
/-- Parity: where an odd number of bars of a way meet, it ends an odd number of times. -/
theorem way_par {l : List Spn} (hne : ∀ i, i < l.length → (l.getD i ⟨0, 0⟩).lo ≠ (l.getD i ⟨0, 0⟩).hi) {p : List Int} {is : List Nat} (h : Way l p is) (k : Int) : (is.countP fun i => meetsB k (l.getD i ⟨0, 0⟩)) % 2 = endsAt k p % 2 := by
  induction h with
  | one a => 
    unfold endsAt
    by_cases h : a = k
    · rw [if_pos (show [a].head? = some k by rw [h]; rfl), if_pos (show [a].getLast? = some k by rw [h]; rfl), List.countP_nil]
    · rw [if_neg (show ¬ [a].head? = some k from fun e => h (Option.some.inj e)), if_neg (show ¬ [a].getLast? = some k from fun e => h (Option.some.inj e))]; rfl
  | @cons a b p i is hi hj hw ih =>
    rw [List.countP_cons]
    have hm : meetsB k (l.getD i ⟨0, 0⟩) = (decide (a = k) || decide (b = k)) := by
      unfold meetsB
      rcases hj with ⟨e1, e2⟩ | ⟨e1, e2⟩ <;> rw [e1, e2, Bool.eq_iff_iff] <;> simp <;> constructor <;> (rintro (h | h) <;> simp [h])
    have hab : a ≠ b := fun e => hne i hi (by rcases hj with ⟨e1, e2⟩ | ⟨e1, e2⟩ <;> rw [e1, e2, e])
    have e1 : endsAt k (a :: b :: p) + (if b = k then 1 else 0) = endsAt k (b :: p) + (if a = k then 1 else 0) := by
      unfold endsAt
      have hl : (a :: b :: p).getLast? = (b :: p).getLast? := by simp
      rw [hl]
      simp only [List.head?_cons, Option.some.injEq]
      omega
    rw [hm]
    by_cases h1 : a = k
    · have h2 : ¬ b = k := fun e => hab (h1.trans e.symm)
      rw [if_pos h1, if_neg h2] at e1
      rw [if_pos (by simp [h1])]
      omega
    · by_cases h2 : b = k
      · rw [if_neg h1, if_pos h2] at e1
        rw [if_pos (by simp [h2])]
        omega
      · rw [if_neg h1, if_neg h2] at e1
        rw [if_neg (by simp [h1, h2])]
        omega
theorem ways_par {l : List Spn} (hne : ∀ i, i < l.length → (l.getD i ⟨0, 0⟩).lo ≠ (l.getD i ⟨0, 0⟩).hi) (k : Int) : ∀ {qs : List (List Int × List Nat)}, (∀ q ∈ qs, Way l q.1 q.2) → ((qs.flatMap (·.2)).countP fun i => meetsB k (l.getD i ⟨0, 0⟩)) % 2 = endsOf k qs % 2
  | [], _ => by simp [endsOf]
  | q :: qs, h => by
    rw [List.flatMap_cons, List.countP_append]
    have h1 := way_par hne (h q (by simp)) k
    have h2 := ways_par hne k (qs := qs) fun r hr => h r (List.mem_cons_of_mem _ hr)
    have e : endsOf k (q :: qs) = endsAt k q.1 + endsOf k qs := by unfold endsOf; rw [List.map_cons, List.sum_cons]
    rw [e]; omega
theorem perm_range {is : List Nat} {n : Nat} (h1 : is.Nodup) (h2 : ∀ i, i ∈ is ↔ i < n) : is.Perm (List.range n) := by
  rw [List.perm_ext_iff_of_nodup h1 List.nodup_range]
  intro i; rw [h2, List.mem_range]
theorem count_range {l : List Spn} (k : Int) : (List.range l.length).countP (fun i => meetsB k (l.getD i ⟨0, 0⟩)) = meetN l k := by
  have : ∀ n, (List.range n).countP (fun i => meetsB k (l.getD i ⟨0, 0⟩)) = meetTo l k n := fun n => by
    induction n with
    | zero => rfl
    | succ n ih => rw [List.range_succ, List.countP_append, List.countP_singleton, ih]; rfl
  exact this _
theorem Mends.par {bars : List Spn} {P : Nat} (hB : Bars bars P) {qs : List (List Int × List Nat)} (h : Mends bars qs) (k : Int) : meetN bars k % 2 = endsOf k qs % 2 := by
  rw [← ways_par (fun i hi => by rw [getD_of hi]; exact hB.ne _ (List.getElem_mem hi)) k fun q hq => (h.good q hq).1, ← count_range]
  congr 1
  refine (List.Perm.countP_eq _ (perm_range h.nodup fun i => ⟨fun hi => ?_, h.all i⟩)).symm
  obtain ⟨q, hq, hi⟩ := List.mem_flatMap.1 hi
  exact (h.good q hq).1.lt i hi
theorem bars_at {bars : List Spn} {P : Nat} (hB : Bars bars P) : ∀ i, i < bars.length → 0 ≤ (bars.getD i ⟨0, 0⟩).lo ∧ (bars.getD i ⟨0, 0⟩).lo < P ∧ 0 ≤ (bars.getD i ⟨0, 0⟩).hi ∧ (bars.getD i ⟨0, 0⟩).hi < P := fun i hi => by
  rw [getD_of hi]; exact hB.low _ (List.getElem_mem hi)
/-- No pieces that mend are fewer. -/
theorem fewest_le {bars : List Spn} {P C : Nat} (hB : Bars bars P) {g : Int → Nat} (hg : Within bars g) (hC : ∀ k : Nat, k < P → g (k : Int) < C) {qs : List (List Int × List Nat)} (h : Mends bars qs) : fewest bars g P C ≤ qs.length := by
  have hq : ∀ q ∈ qs, q.1 ≠ [] ∧ (∀ v ∈ q.1, 0 ≤ v ∧ v < (P : Int)) ∧ ∀ v ∈ q.1, g v = grp g q.1 := fun q hq => by
    obtain ⟨h1, h2⟩ := h.good q hq
    exact ⟨h1.ne_nil, h1.knots (bars_at hB) h2, (h1.within (fun _ _ => rfl) rfl hg fun i hi => h1.lt i hi).1⟩
  rw [length_groups (g := g) (C := C) fun q hq' => by
    obtain ⟨h1, h2, h3⟩ := hq q hq'
    have hh := (h.good q hq').1.head
    have hm := List.mem_of_head? hh
    have := h2 _ hm
    have e := hC (q.1.headD 0).toNat (by omega)
    rw [show (((q.1.headD 0).toNat : Nat) : Int) = q.1.headD 0 by omega] at e
    exact e]
  refine sumTo_le fun c hc => ?_
  unfold needs
  split
  · next ha =>
    have h1 : oddOf bars g P c ≤ 2 * numOf g c qs := by
      rw [← grp_ends_all hq]
      refine grpSum_le fun k _ => ?_
      rw [h.par hB]; exact Nat.mod_le _ _
    have h2 : 1 ≤ numOf g c qs := by
      obtain ⟨i, hi, e⟩ := bar_of_any hg ha
      obtain ⟨q, hq1, hq2⟩ := List.mem_flatMap.1 (h.all i hi)
      have hw := (h.good q hq1).1
      have := (hw.within (fun _ _ => rfl) rfl hg fun i hi => hw.lt i hi).2 i hq2
      unfold numOf
      rw [Nat.succ_le_iff, List.countP_pos_iff]
      exact ⟨q, hq1, by rw [← this, e]; simp⟩
    omega
  · omega
/-- What stands after so many beginnings, the hand's among them. -/
structure Mended (bars : List Spn) (P : Nat) (g : Int → Nat) (L : Nat → Bool) (ps : List (List Int)) (qs : List (List Int × List Nat)) : Prop where
  eq : ps = qs.map (·.1)
  good : ∀ q ∈ qs, Way (handTo bars P P) q.1 q.2 ∧ 2 ≤ q.1.length ∧ ∀ i ∈ q.2, i < bars.length
  nodup : (qs.flatMap (·.2)).Nodup
  left : ∀ i, i < bars.length → (L i = false ↔ i ∈ qs.flatMap (·.2))
  even : ∀ k, deg (handTo bars P P) L k % 2 = 0
  hand : ∀ i, L i = true → i < bars.length
  groups : ∀ c, ((∀ i, i < bars.length → g (bars.getD i ⟨0, 0⟩).lo = c → L i = true) ∧ numOf g c qs = 0) ∨ ((∀ i, i < bars.length → g (bars.getD i ⟨0, 0⟩).lo = c → L i = false) ∧ numOf g c qs ≤ needs bars g P c)
theorem hand_len {bars : List Spn} {P : Nat} : (handTo bars P P).length ≤ bars.length + P := by
  unfold handTo; rw [List.length_append]
  have : ∀ n, (oddTo bars P n).length ≤ n := fun n => by
    induction n with
    | zero => simp [oddTo]
    | succ n ih => rw [oddTo_succ, List.length_append]; split <;> simp <;> omega
  have := this P; omega
/-- If all bars of the group of a knot are left when one spins from it, all are taken. -/
theorem spun_group {bars : List Spn} {P : Nat} {g : Int → Nat} (hg : Within bars g) (hconn : ∀ i j, i < bars.length → j < bars.length → g (bars.getD i ⟨0, 0⟩).lo = g (bars.getD j ⟨0, 0⟩).lo → Conn bars (bars.getD i ⟨0, 0⟩).lo (bars.getD j ⟨0, 0⟩).lo)
    {L L' : Nat → Bool} {k y : Int} {p : List Int} {is : List Nat} (hS : Spun (handTo bars P P) L L' k y p is) {i : Nat} (hi : i < bars.length) (hm : i ∈ is)
    (hall : ∀ j, j < bars.length → g (bars.getD j ⟨0, 0⟩).lo = g (bars.getD i ⟨0, 0⟩).lo → L j = true) :
    ∀ j, j < bars.length → g (bars.getD j ⟨0, 0⟩).lo = g (bars.getD i ⟨0, 0⟩).lo → L' j = false := by
  have hll : bars.length ≤ (handTo bars P P).length := by unfold handTo; rw [List.length_append]; omega
  -- who is come to along bars of the group is on the way
  have key : ∀ b, Conn bars (bars.getD i ⟨0, 0⟩).lo b → b ∈ p ++ [k] ∧ g b = g (bars.getD i ⟨0, 0⟩).lo := fun b hc => by
    induction hc with
    | refl =>
      have := (hS.way.on i hm).1
      rw [hand_own hi] at this
      exact ⟨this, rfl⟩
    | @step b c j _ hj hjo ih =>
      obtain ⟨h1, h2⟩ := hg.join hj hjo
      refine ⟨?_, by rw [← h1, ih.2]⟩
      have hL := hall j hj (by rw [h2, ih.2])
      have hf := hS.free b ih.1 j (by omega)
      have hL' : L' j = false := by
        cases h : L' j
        · rfl
        · have := hf h
          rw [hand_own hj] at this
          rcases hjo with ⟨e1, e2⟩ | ⟨e1, e2⟩
          · exact absurd e1 this.1
          · exact absurd e2 this.2
      have hjm : j ∈ is := by
        have := hS.took.left j
        rw [hL'] at this
        apply Classical.byContradiction
        intro hn
        exact absurd (this.2 ⟨hL, hn⟩) (by simp)
      have := hS.way.on j hjm
      rw [hand_own hj] at this
      rcases hjo with ⟨e1, e2⟩ | ⟨e1, e2⟩
      · rw [← e2]; exact this.2
      · rw [← e1]; exact this.1
  intro j hj hgj
  obtain ⟨hm2, _⟩ := key _ (hconn i j hi hj hgj.symm)
  cases h : L' j
  · rfl
  · have := (hS.free _ hm2 j (by omega) h).1
    rw [hand_own hj] at this
    exact absurd rfl this
theorem spun_range {l : List Spn} {L L' : Nat → Bool} {k y : Int} {p : List Int} {is : List Nat} (hS : Spun l L L' k y p is) : ∀ i ∈ is, i < l.length := hS.way.lt
theorem numOf_zero {g : Int → Nat} {c : Nat} {qs : List (List Int × List Nat)} (h : ∀ q ∈ qs, grp g q.1 ≠ c) : numOf g c qs = 0 := by
  unfold numOf; rw [List.countP_eq_zero]
  intro q hq; simpa using h q hq
theorem way_two {l : List Spn} {p : List Int} {is : List Nat} (h : Way l p is) : p.length = is.length + 1 := by
  induction h with
  | one => rfl
  | cons _ _ _ ih => simp at ih ⊢; exact ih
theorem mended_first {bars : List Spn} {P : Nat} (hB : Bars bars P) (hlen : bars.length + P ≤ 96) {g : Int → Nat} (hg : Within bars g) (hconn : ∀ i j, i < bars.length → j < bars.length → g (bars.getD i ⟨0, 0⟩).lo = g (bars.getD j ⟨0, 0⟩).lo → Conn bars (bars.getD i ⟨0, 0⟩).lo (bars.getD j ⟨0, 0⟩).lo) :
    ∃ qs, Mended bars P g (mendTo (handTo bars P P) P 1).1 (mendTo (handTo bars P P) P 1).2 qs := by
  have hl := hand_len (bars := bars) (P := P)
  have hll : bars.length ≤ (handTo bars P P).length := by unfold handTo; rw [List.length_append]; omega
  have hcnt : cnt (fun i => decide (i < (handTo bars P P).length)) (handTo bars P P).length < 97 := by
    have : ∀ (L : Nat → Bool) n, cnt L n ≤ n := fun L n => by
      induction n with
      | zero => exact Nat.le_refl _
      | succ n ih => unfold cnt; split <;> omega
    have := this (fun i => decide (i < (handTo bars P P).length)) (handTo bars P P).length
    omega
  have hpar : Par (handTo bars P P) (fun i => decide (i < (handTo bars P P).length)) P P := fun k => by
    rw [deg_all, hand_even hB]; split <;> rfl
  obtain ⟨p, is, L', e, hS⟩ := spinF_spec (hand_ne hB) 97 P P _ [] hcnt hpar
  have e1 : mendTo (handTo bars P P) P 1 = (L', cutF P (p ++ [(P : Int)])) := by
    show ((spinF (handTo bars P P) 97 ((P : Int) - (0 : Nat)) ((mendTo (handTo bars P P) P 0).1, [])).1, [] ++ cutF P (spinF (handTo bars P P) 97 ((P : Int) - (0 : Nat)) ((mendTo (handTo bars P P) P 0).1, [])).2) = _
    have : ((P : Int) - (0 : Nat)) = P := by omega
    rw [this]
    show ((spinF (handTo bars P P) 97 P ((fun i => decide (i < (handTo bars P P).length)), [])).1, _ ++ cutF P (spinF (handTo bars P P) 97 P ((fun i => decide (i < (handTo bars P P).length)), [])).2) = _
    rw [e]; rfl
  obtain ⟨qs, q1, q2, q3, q4⟩ := cut_spec (hand_handed hB) hS.way
  have hfree : ∀ i, L' i = true → i < bars.length := fun i hi => by
    have h0 := (hS.took.left i).1 hi
    have h1 : i < (handTo bars P P).length := by simpa using h0.1
    rcases Nat.lt_or_ge i bars.length with h | h
    · exact h
    · have := (hand_handed hB).hand i h h1
      exact absurd this.2 (hS.free P (by simp) i h1 hi).2
  have hmem : ∀ i, i < bars.length → (i ∈ qs.flatMap (·.2) ↔ i ∈ is) := fun i hi => by rw [q3, List.mem_filter]; simp [hi]
  have hleft : ∀ i, i < bars.length → (L' i = false ↔ i ∈ is) := fun i hi => by
    have h1 := hS.took.left i
    constructor
    · intro h
      apply Classical.byContradiction
      intro hn
      rw [h] at h1
      exact absurd (h1.2 ⟨by simp; omega, hn⟩) (by simp)
    · intro h
      cases h2 : L' i
      · rfl
      · exact absurd h (h1.1 h2).2
  rw [e1]
  refine ⟨qs, q1, q2, ?_, fun i hi => by rw [hleft i hi, hmem i hi], fun k => ?_, hfree, fun c => ?_⟩
  · rw [q3]; exact hS.took.nodup.filter _
  · have := hS.even k
    split at this <;> omega
  · by_cases hc : ∃ i, i < bars.length ∧ g (bars.getD i ⟨0, 0⟩).lo = c ∧ i ∈ is
    · obtain ⟨i, hi, hic, him⟩ := hc
      subst hic
      right
      refine ⟨spun_group hg hconn hS hi him fun j hj _ => by simp; omega, ?_⟩
      unfold needs
      rw [if_pos (any_of_bar hB hi)]
      have hq : ∀ q ∈ qs, q.1 ≠ [] ∧ (∀ v ∈ q.1, 0 ≤ v ∧ v < (P : Int)) ∧ ∀ v ∈ q.1, g v = grp g q.1 := fun q hq => by
        obtain ⟨h1, h2, h3⟩ := q2 q hq
        refine ⟨h1.ne_nil, fun v hv => ?_, (h1.within (fun i hi => hand_own hi) rfl hg h3).1⟩
        have := h1.knots (P := P + 1) (fun j hj => by rw [getD_of hj]; exact hand_low hB _ (List.getElem_mem hj)) h2 v hv
        have hne : v ≠ (P : Int) := fun e => by
          -- a way of own bars that begins at the hand has none
          have hno : ∀ {q : List Int} {js : List Nat}, Way (handTo bars P P) q js → (∀ i ∈ js, i < bars.length) → 2 ≤ q.length → q.head? ≠ some (P : Int) := fun hw hr h2 => by
            cases hw with
            | one k => simp at h2
            | cons hi hj hw =>
              have := (hand_handed hB).own _ (hr _ (by simp)) hi
              intro e
              simp at e
              rcases hj with ⟨a, b⟩ | ⟨a, b⟩ <;> rw [a, b] at this <;> omega
          exact way_own (hand_handed hB) h1 h3 (hno h1 h3 h2) (e ▸ hv)
        omega
      have h1 := grp_ends_all (c := g (bars.getD i ⟨0, 0⟩).lo) hq
      have h2 : grpSum g (g (bars.getD i ⟨0, 0⟩).lo) P (fun k => endsOf k qs) ≤ oddOf bars g P (g (bars.getD i ⟨0, 0⟩).lo) := by
        refine grpSum_le fun k hk => ?_
        have h5 := q4 (by simp) (k : Int)
        rw [if_neg (by rw [hS.head]; rintro ⟨h6, h7⟩; exact h7 (Option.some.inj h6).symm)] at h5
        have := handAt_le hS.took.nodup (spun_range hS) k
        omega
      omega
    · left
      refine ⟨fun i hi hic => ?_, numOf_zero fun q hq e => ?_⟩
      · cases h : L' i
        · exact absurd ⟨i, hi, hic, (hleft i hi).1 h⟩ hc
        · exact h
      · obtain ⟨h1, h2, h3⟩ := q2 q hq
        have hl2 := way_two h1
        cases hq2 : q.2 with
        | nil => rw [hq2] at hl2; simp at hl2; omega
        | cons i r =>
          have him : i ∈ q.2 := by rw [hq2]; simp
          have hw := (h1.within (fun i hi => hand_own hi) rfl hg h3).2 i him
          have hib := h3 i him
          exact hc ⟨i, hib, by rw [hw, e], (hmem i hib).1 (List.mem_flatMap.2 ⟨q, hq, him⟩)⟩
theorem mended_next {bars : List Spn} {P : Nat} (hB : Bars bars P) (hlen : bars.length + P ≤ 96) {g : Int → Nat} (hg : Within bars g) (hconn : ∀ i j, i < bars.length → j < bars.length → g (bars.getD i ⟨0, 0⟩).lo = g (bars.getD j ⟨0, 0⟩).lo → Conn bars (bars.getD i ⟨0, 0⟩).lo (bars.getD j ⟨0, 0⟩).lo)
    {n : Nat} (hn : 1 ≤ n) (hnP : n ≤ P) {qs : List (List Int × List Nat)} (h : Mended bars P g (mendTo (handTo bars P P) P n).1 (mendTo (handTo bars P P) P n).2 qs) :
    ∃ qs, Mended bars P g (mendTo (handTo bars P P) P (n + 1)).1 (mendTo (handTo bars P P) P (n + 1)).2 qs := by
  have hl := hand_len (bars := bars) (P := P)
  have hll : bars.length ≤ (handTo bars P P).length := by unfold handTo; rw [List.length_append]; omega
  obtain ⟨L, hL⟩ : ∃ L, (mendTo (handTo bars P P) P n).1 = L := ⟨_, rfl⟩
  obtain ⟨ps, hps⟩ : ∃ ps, (mendTo (handTo bars P P) P n).2 = ps := ⟨_, rfl⟩
  rw [hL, hps] at h
  have hcnt : cnt L (handTo bars P P).length < 97 := by
    have : ∀ (L : Nat → Bool) n, cnt L n ≤ n := fun L n => by
      induction n with
      | zero => exact Nat.le_refl _
      | succ n ih => unfold cnt; split <;> omega
    have := this L (handTo bars P P).length
    omega
  obtain ⟨s, hs⟩ : ∃ s : Int, (P : Int) - n = s := ⟨_, rfl⟩
  have hpar : Par (handTo bars P P) L s s := fun k => by rw [h.even]; split <;> rfl
  obtain ⟨p, is, L', e, hS⟩ := spinF_spec (hand_ne hB) 97 s s L [] hcnt hpar
  have e1 : mendTo (handTo bars P P) P (n + 1) = (L', ps ++ cutF P (p ++ [s])) := by
    show ((spinF (handTo bars P P) 97 ((P : Int) - n) ((mendTo (handTo bars P P) P n).1, [])).1, (mendTo (handTo bars P P) P n).2 ++ cutF P (spinF (handTo bars P P) 97 ((P : Int) - n) ((mendTo (handTo bars P P) P n).1, [])).2) = _
    rw [hL, hps, hs, e]; rfl
  have hreal : ∀ i ∈ is, i < bars.length := fun i hi => h.hand i (hS.took.had i hi)
  have hnoP : (P : Int) ∉ p ++ [s] := way_own (hand_handed hB) hS.way hreal (by rw [hS.head]; intro e; have := Option.some.inj e; omega)
  have hcut := cut_plain hnoP
  have htwo := way_two hS.way
  have hleft : ∀ i, i < bars.length → (L' i = false ↔ (L i = false ∨ i ∈ is)) := fun i hi => by
    have h1 := hS.took.left i
    constructor
    · intro h2
      apply Classical.byContradiction
      intro hn
      rw [h2] at h1
      have : L i = true := by
        cases h3 : L i
        · exact absurd (.inl h3) hn
        · rfl
      exact absurd (h1.2 ⟨this, fun h => hn (.inr h)⟩) (by simp)
    · rintro (h2 | h2)
      · cases h3 : L' i
        · rfl
        · rw [(h1.1 h3).1] at h2; cases h2
      · cases h3 : L' i
        · rfl
        · exact absurd h2 (h1.1 h3).2
  have heven : ∀ k, deg (handTo bars P P) L' k % 2 = 0 := fun k => by have := hS.even k; split at this <;> omega
  have hhand : ∀ i, L' i = true → i < bars.length := fun i hi => h.hand i (hS.took.sub i hi)
  rw [e1]
  cases his : is with
  | nil =>
    subst his
    have hp0 : (p ++ [s]).length = 1 := by simpa using htwo
    rw [hcut, if_neg (show ¬ (p ++ [s]).length > 1 by omega), List.append_nil]
    have hLL : ∀ i, i < bars.length → (L' i = false ↔ L i = false) := fun i hi => by rw [hleft i hi]; simp
    refine ⟨qs, h.eq, h.good, h.nodup, fun i hi => by rw [hLL i hi]; exact h.left i hi, heven, hhand, fun c => ?_⟩
    rcases h.groups c with ⟨h1, h2⟩ | ⟨h1, h2⟩
    · refine .inl ⟨fun i hi hc => ?_, h2⟩
      have := h1 i hi hc
      cases h3 : L' i
      · rw [(hLL i hi).1 h3] at this; cases this
      · exact h3
    · exact .inr ⟨fun i hi hc => (hLL i hi).2 (h1 i hi hc), h2⟩
  | cons i0 ir =>
    have him : i0 ∈ is := by rw [his]; simp
    have hi0 := hreal i0 him
    have hp2 : 2 ≤ (p ++ [s]).length := by rw [htwo, his]; simp
    rw [hcut, if_pos (show (p ++ [s]).length > 1 by omega)]
    have hw := hS.way.within (fun i hi => hand_own hi) rfl hg hreal
    refine ⟨qs ++ [(p ++ [s], is)], by rw [h.eq]; simp, fun q hq => ?_, ?_, fun i hi => ?_, heven, hhand, fun c => ?_⟩
    · rcases List.mem_append.1 hq with hq | hq
      · exact h.good q hq
      · simp at hq; subst hq; exact ⟨hS.way, hp2, hreal⟩
    · rw [List.flatMap_append]
      simp only [List.flatMap_cons, List.flatMap_nil, List.append_nil]
      refine List.nodup_append.2 ⟨h.nodup, hS.took.nodup, fun a ha b hb e => ?_⟩
      subst e
      have := (h.left a (hreal a hb)).2 ha
      rw [hS.took.had a hb] at this; cases this
    · rw [hleft i hi, h.left i hi, List.flatMap_append, List.mem_append]
      simp
    · rw [numOf_append]
      by_cases hc : grp g (p ++ [s]) = c
      · subst hc
        have hgi : g (bars.getD i0 ⟨0, 0⟩).lo = grp g (p ++ [s]) := hw.2 i0 him
        rcases h.groups (grp g (p ++ [s])) with ⟨h1, h2⟩ | ⟨h1, h2⟩
        · right
          rw [← hgi]
          refine ⟨spun_group hg hconn hS hi0 him fun j hj hc => h1 j hj (by rw [hc, hgi]), ?_⟩
          unfold needs
          rw [if_pos (any_of_bar hB hi0), hgi, h2]
          have : numOf g (grp g (p ++ [s])) [(p ++ [s], is)] ≤ 1 := List.countP_le_length
          omega
        · have := h1 i0 hi0 hgi
          rw [hS.took.had i0 him] at this; cases this
      · have hz : numOf g c [(p ++ [s], is)] = 0 := numOf_zero fun q hq => by simp at hq; subst hq; exact hc
        rw [hz, Nat.add_zero]
        have hno : ∀ i, g (bars.getD i ⟨0, 0⟩).lo = c → i ∉ is := fun i hi hm => hc (by rw [← hw.2 i hm, hi])
        rcases h.groups c with ⟨h1, h2⟩ | ⟨h1, h2⟩
        · refine .inl ⟨fun i hi hic => ?_, h2⟩
          have := h1 i hi hic
          cases h3 : L' i
          · rcases (hleft i hi).1 h3 with h4 | h4
            · rw [h4] at this; cases this
            · exact absurd h4 (hno i hic)
          · exact h3
        · exact .inr ⟨fun i hi hic => (hleft i hi).2 (.inl (h1 i hi hic)), h2⟩
theorem mended {bars : List Spn} {P : Nat} (hB : Bars bars P) (hlen : bars.length + P ≤ 96) {g : Int → Nat} (hg : Within bars g) (hconn : ∀ i j, i < bars.length → j < bars.length → g (bars.getD i ⟨0, 0⟩).lo = g (bars.getD j ⟨0, 0⟩).lo → Conn bars (bars.getD i ⟨0, 0⟩).lo (bars.getD j ⟨0, 0⟩).lo) :
    ∀ n, n ≤ P → ∃ qs, Mended bars P g (mendTo (handTo bars P P) P (n + 1)).1 (mendTo (handTo bars P P) P (n + 1)).2 qs
  | 0, _ => mended_first hB hlen hg hconn
  | n + 1, h => by
    obtain ⟨qs, hq⟩ := mended hB hlen hg hconn n (by omega)
    exact mended_next hB hlen hg hconn (by omega) h hq
theorem way_own_list {bars : List Spn} {P : Nat} {p : List Int} {is : List Nat} (h : Way (handTo bars P P) p is) : (∀ i ∈ is, i < bars.length) → Way bars p is := by
  induction h with
  | one k => intro _; exact .one k
  | @cons a b p i is hi hj _ ih =>
    intro hr
    have hi' := hr i (by simp)
    rw [hand_own hi'] at hj
    exact .cons hi' hj (ih fun j hj => hr j (List.mem_cons_of_mem _ hj))
/-- The pieces of the program mend the net, and are as few as they can be. -/
theorem mend_spec {bars : List Spn} {P C : Nat} (hB : Bars bars P) (hlen : bars.length + P ≤ 96) {g : Int → Nat} (hg : Within bars g) (hC : ∀ k : Nat, k < P → g (k : Int) < C)
    (hconn : ∀ i j, i < bars.length → j < bars.length → g (bars.getD i ⟨0, 0⟩).lo = g (bars.getD j ⟨0, 0⟩).lo → Conn bars (bars.getD i ⟨0, 0⟩).lo (bars.getD j ⟨0, 0⟩).lo) :
    ∃ qs, (mendTo (handTo bars P P) P (P + 1)).2 = qs.map (·.1) ∧ Mends bars qs ∧ qs.length = fewest bars g P C := by
  obtain ⟨qs, h⟩ := mended hB hlen hg hconn P (Nat.le_refl _)
  have hall := mendTo_all (l := handTo bars P P) (P := P) fun s hs => by have := hand_low hB s hs; omega
  have hM : Mends bars qs := ⟨fun q hq => ⟨way_own_list (h.good q hq).1 (h.good q hq).2.2, (h.good q hq).2.1⟩, h.nodup, fun i hi => (h.left i hi).1 (hall i)⟩
  refine ⟨qs, h.eq, hM, Nat.le_antisymm ?_ (fewest_le hB hg hC hM)⟩
  rw [length_groups (g := g) (C := C) fun q hq => by
    have hw := (hM.good q hq)
    have hm := List.mem_of_head? hw.1.head
    have := hw.1.knots (bars_at hB) hw.2 _ hm
    have e := hC (q.1.headD 0).toNat (by omega)
    rw [show (((q.1.headD 0).toNat : Nat) : Int) = q.1.headD 0 by omega] at e
    exact e]
  refine sumTo_le fun c _ => ?_
  rcases h.groups c with ⟨_, h2⟩ | ⟨_, h2⟩
  · omega
  · exact h2
/-- A net's bars, each told once, the lower knot first. -/
structure Told (bars : List Spn) : Prop where
  less : ∀ s ∈ bars, s.lo < s.hi
  once : ∀ i j, i < bars.length → j < bars.length → barKey (bars.getD i ⟨0, 0⟩) = barKey (bars.getD j ⟨0, 0⟩) → i = j
theorem find_bar {bars : List Spn} (hT : Told bars) {i : Nat} (hi : i < bars.length) : (barMapTo bars bars.length).find (barKey (bars.getD i ⟨0, 0⟩)) = some (i : Int) := by
  have hp : (List.find? (fun e => (barKey (bars.getD i ⟨0, 0⟩)).1 == e.1.1 && (barKey (bars.getD i ⟨0, 0⟩)).2 == e.1.2) (barMapTo bars bars.length)).isSome = true := by
    rw [List.find?_isSome]
    refine ⟨(barKey (bars.getD i ⟨0, 0⟩), (i : Int)), ?_, by simp⟩
    unfold barMapTo; rw [List.mem_map]; exact ⟨i, List.mem_range.2 hi, rfl⟩
  unfold PMap.find
  cases hf : List.find? (fun e => (barKey (bars.getD i ⟨0, 0⟩)).1 == e.1.1 && (barKey (bars.getD i ⟨0, 0⟩)).2 == e.1.2) (barMapTo bars bars.length) with
  | none => rw [hf] at hp; cases hp
  | some e =>
    have h1 := List.find?_some hf
    have h2 := List.mem_of_find?_eq_some hf
    unfold barMapTo at h2
    rw [List.mem_map] at h2
    obtain ⟨j, h3, rfl⟩ := h2
    simp only [Bool.and_eq_true, beq_iff_eq] at h1
    have := hT.once i j hi (List.mem_range.1 h3) (Prod.ext h1.1 h1.2)
    subst this; rfl
theorem find_back {bars : List Spn} {p : Int × Int} {c : Int} (h : (barMapTo bars bars.length).find p = some c) : ∃ i : Nat, i < bars.length ∧ c = i ∧ barKey (bars.getD i ⟨0, 0⟩) = p := by
  unfold PMap.find at h
  cases hf : List.find? (fun e => p.1 == e.1.1 && p.2 == e.1.2) (barMapTo bars bars.length) with
  | none => rw [hf] at h; cases h
  | some e =>
    rw [hf] at h
    have h1 := List.find?_some hf
    have h2 := List.mem_of_find?_eq_some hf
    unfold barMapTo at h2
    rw [List.mem_map] at h2
    obtain ⟨j, h3, rfl⟩ := h2
    simp only [Bool.and_eq_true, beq_iff_eq] at h1
    exact ⟨j, List.mem_range.1 h3, by simpa using h.symm, Prod.ext h1.1.symm h1.2.symm⟩
theorem join_key {s : Spn} (hl : s.lo < s.hi) {a b : Int} : barKey s = (mn a b, mx a b) ↔ joins s a b := by
  obtain ⟨lo, hi⟩ := s
  unfold barKey joins mn mx
  simp only at hl ⊢
  constructor
  · intro h
    have h1 := congrArg Prod.fst h
    have h2 := congrArg Prod.snd h
    simp only at h1 h2
    split at h1 <;> split at h2 <;> omega
  · rintro (⟨rfl, rfl⟩ | ⟨rfl, rfl⟩)
    · rw [if_neg (by omega), if_pos hl]
    · rw [if_pos hl, if_neg (by omega)]
theorem use_yes {bars : List Spn} (hT : Told bars) {i : Nat} (hi : i < bars.length) {a b : Int} (hj : joins (bars.getD i ⟨0, 0⟩) a b) {L : Nat → Bool} (hL : L i = true) : useBar (barMapTo bars bars.length) L a b = some (clr L i) := by
  have hk := (join_key (by rw [getD_of hi]; exact hT.less _ (List.getElem_mem hi))).2 hj
  unfold useBar
  rw [← hk, find_bar hT hi]
  simp only [Int.toNat_natCast, hL, if_true]
  rfl
theorem use_back {bars : List Spn} (hT : Told bars) {a b : Int} {L L' : Nat → Bool} (h : useBar (barMapTo bars bars.length) L a b = some L') : ∃ i, i < bars.length ∧ joins (bars.getD i ⟨0, 0⟩) a b ∧ L i = true ∧ L' = clr L i := by
  unfold useBar at h
  cases hf : (barMapTo bars bars.length).find (mn a b, mx a b) with
  | none => rw [hf] at h; cases h
  | some c =>
    obtain ⟨i, hi, rfl, hk⟩ := find_back hf
    rw [hf] at h
    simp only [Int.toNat_natCast] at h
    cases hL : L i
    · rw [hL] at h; simp at h
    · rw [hL] at h
      simp only [if_true, Option.some.injEq] at h
      exact ⟨i, hi, (join_key (by rw [getD_of hi]; exact hT.less _ (List.getElem_mem hi))).1 hk, hL, h.symm⟩
/-- A prefix of a way. -/
theorem usedTo_back {bars : List Spn} (hT : Told bars) {L : Nat → Bool} {p : List Int} : ∀ (n : Nat) (L' : Nat → Bool), n + 1 ≤ p.length → usedTo (barMapTo bars bars.length) L p n = some L' → ∃ is, Way bars (p.take (n + 1)) is ∧ Took L L' is
  | 0, L', hn, h => by
    cases h
    cases p with
    | nil => simp at hn
    | cons a p => exact ⟨[], by simpa using Way.one a, Took.nil L⟩
  | n + 1, L', hn, h => by
    unfold usedTo at h
    cases h1 : usedTo (barMapTo bars bars.length) L p n with
    | none => rw [h1] at h; cases h
    | some L1 =>
      rw [h1] at h
      obtain ⟨is, hw, ht⟩ := usedTo_back hT n L1 (by omega) h1
      obtain ⟨i, hi, hj, hL, rfl⟩ := use_back hT h
      refine ⟨is ++ [i], ?_, ht.trans (Took.clr hL)⟩
      rw [getD_of (show n < p.length by omega), getD_of (show n + 1 < p.length by omega)] at hj
      rw [List.take_succ_eq_append_getElem (by omega)] at hw
      rw [List.take_succ_eq_append_getElem (show n + 1 < p.length by omega), List.take_succ_eq_append_getElem (show n < p.length by omega)]
      exact hw.snoc hi hj
theorem usedTo_yes {bars : List Spn} (hT : Told bars) {p : List Int} : ∀ {q : List Int} {is : List Nat} {L : Nat → Bool} (n : Nat), Way bars q is → is.Nodup → (∀ i ∈ is, L i = true) → (∀ k, k < q.length → p.getD (n + k) 0 = q.getD k 0) → ∀ L0, usedTo (barMapTo bars bars.length) L0 p n = some L → ∃ L', usedTo (barMapTo bars bars.length) L0 p (n + is.length) = some L' ∧ Took L L' is := by
  intro q is L n hw
  induction hw generalizing L n with
  | one k => intro _ _ _ L0 h; exact ⟨L, h, Took.nil L⟩
  | @cons a b q i is hi hj hw ih =>
    intro hn hL hp L0 h
    rw [List.nodup_cons] at hn
    have h1 : usedTo (barMapTo bars bars.length) L0 p (n + 1) = some (clr L i) := by
      unfold usedTo
      rw [h, Option.bind_some]
      have e1 := hp 0 (by simp)
      have e2 := hp 1 (by simp)
      simp only [Nat.add_zero, List.getD_cons_zero, List.getD_cons_succ] at e1 e2
      rw [e1, e2]
      exact use_yes hT hi hj (hL i (by simp))
    obtain ⟨L', h2, h3⟩ := ih (L := clr L i) (n + 1) hn.2 (fun j hj => (clr_iff _ _ _).2 ⟨hL j (by simp [hj]), fun e => hn.1 (e ▸ hj)⟩) (fun k hk => by
      have := hp (k + 1) (by simpa using hk)
      rw [show n + 1 + k = n + (k + 1) by omega, this, List.getD_cons_succ]) L0 h1
    exact ⟨L', by rw [List.length_cons, show n + (is.length + 1) = n + 1 + is.length by omega]; exact h2, (Took.clr (hL i (by simp))).trans h3⟩
theorem usePiece_yes {bars : List Spn} (hT : Told bars) {p : List Int} {is : List Nat} {L : Nat → Bool} (hw : Way bars p is) (h2 : 2 ≤ p.length) (hn : is.Nodup) (hL : ∀ i ∈ is, L i = true) : ∃ L', usePiece (barMapTo bars bars.length) L p = some L' ∧ Took L L' is := by
  unfold usePiece
  rw [if_neg (by omega)]
  obtain ⟨L', h3, h4⟩ := usedTo_yes hT (p := p) 0 hw hn hL (fun k _ => by rw [Nat.zero_add]) L rfl
  have := way_two hw
  exact ⟨L', by rw [show p.length - 1 = 0 + is.length by omega]; exact h3, h4⟩
theorem usePiece_back {bars : List Spn} (hT : Told bars) {p : List Int} {L L' : Nat → Bool} (h : usePiece (barMapTo bars bars.length) L p = some L') : ∃ is, Way bars p is ∧ 2 ≤ p.length ∧ Took L L' is := by
  unfold usePiece at h
  split at h
  · cases h
  · next hn =>
    obtain ⟨is, h1, h2⟩ := usedTo_back hT (p.length - 1) L' (by omega) h
    rw [List.take_of_length_le (by omega)] at h1
    exact ⟨is, h1, by omega, h2⟩
theorem usedPs_back {bars : List Spn} (hT : Told bars) {L : Nat → Bool} {ps : List (List Int)} : ∀ (n : Nat) (L' : Nat → Bool), n ≤ ps.length → usedPs (barMapTo bars bars.length) L ps n = some L' → ∃ qs : List (List Int × List Nat), ps.take n = qs.map (·.1) ∧ (∀ q ∈ qs, Way bars q.1 q.2 ∧ 2 ≤ q.1.length) ∧ Took L L' (qs.flatMap (·.2))
  | 0, L', _, h => by cases h; exact ⟨[], by simp, by simp, Took.nil L⟩
  | n + 1, L', hn, h => by
    unfold usedPs at h
    cases h1 : usedPs (barMapTo bars bars.length) L ps n with
    | none => rw [h1] at h; cases h
    | some L1 =>
      rw [h1] at h
      obtain ⟨qs, e, hq, ht⟩ := usedPs_back hT n L1 (by omega) h1
      obtain ⟨is, hw, h2, ht2⟩ := usePiece_back hT h
      refine ⟨qs ++ [(ps.getD n [], is)], ?_, fun q hq' => ?_, ?_⟩
      · rw [List.take_succ_eq_append_getElem (by omega), e, getD_of (show n < ps.length by omega)]; simp
      · rcases List.mem_append.1 hq' with hq' | hq'
        · exact hq q hq'
        · simp at hq'; subst hq'; exact ⟨hw, h2⟩
      · rw [List.flatMap_append]
        simpa using ht.trans ht2
theorem usedPs_yes {bars : List Spn} (hT : Told bars) {L : Nat → Bool} {qs : List (List Int × List Nat)} (hg : ∀ q ∈ qs, Way bars q.1 q.2 ∧ 2 ≤ q.1.length) (hn : (qs.flatMap (·.2)).Nodup) (hL : ∀ i ∈ qs.flatMap (·.2), L i = true) :
    ∀ n, n ≤ qs.length → ∃ L', usedPs (barMapTo bars bars.length) L (qs.map (·.1)) n = some L' ∧ Took L L' ((qs.take n).flatMap (·.2))
  | 0, _ => ⟨L, rfl, by simpa using Took.nil L⟩
  | n + 1, h => by
    obtain ⟨L1, h1, ht⟩ := usedPs_yes hT hg hn hL n (by omega)
    have hsub : qs = qs.take n ++ qs[n] :: qs.drop (n + 1) := by
      conv => lhs; rw [← List.take_append_drop n qs, List.drop_eq_getElem_cons (show n < qs.length by omega)]
    have hq := hg qs[n] (List.getElem_mem _)
    have hnd : ((qs.take n).flatMap (·.2) ++ (qs[n].2 ++ (qs.drop (n + 1)).flatMap (·.2))).Nodup := by
      rw [hsub] at hn
      rw [List.flatMap_append, List.flatMap_cons] at hn
      exact hn
    obtain ⟨n1, n2, n3⟩ := List.nodup_append.1 hnd
    obtain ⟨n4, _, _⟩ := List.nodup_append.1 n2
    obtain ⟨L', h3, h4⟩ := usePiece_yes hT hq.1 hq.2 n4 (L := L1) fun i hi => (ht.left i).2 ⟨hL i (List.mem_flatMap.2 ⟨qs[n], List.getElem_mem _, hi⟩), fun hm => n3 i hm i (by simp [hi]) rfl⟩
    refine ⟨L', ?_, ?_⟩
    · unfold usedPs
      rw [h1, Option.bind_some, getD_of (show n < (qs.map (·.1)).length by rw [List.length_map]; omega), List.getElem_map]
      exact h3
    · rw [List.take_succ_eq_append_getElem (show n < qs.length by omega), List.flatMap_append]
      simpa using ht.trans h4
/-- The program's own look at pieces. -/
theorem mends_iff {bars : List Spn} (hT : Told bars) (hlen : bars.length ≤ 96) (ps : List (List Int)) :
    leftB (usedPs (barMapTo bars bars.length) (fun i => decide (i < bars.length)) ps ps.length) = true ↔ ∃ qs : List (List Int × List Nat), ps = qs.map (·.1) ∧ Mends bars qs := by
  constructor
  · intro h
    cases hu : usedPs (barMapTo bars bars.length) (fun i => decide (i < bars.length)) ps ps.length with
    | none => rw [hu] at h; cases h
    | some L' =>
      rw [hu] at h
      obtain ⟨qs, e, hq, ht⟩ := usedPs_back hT ps.length L' (Nat.le_refl _) hu
      rw [List.take_length] at e
      refine ⟨qs, e, hq, ht.nodup, fun i hi => ?_⟩
      have h1 := List.all_eq_true.1 h i (List.mem_range.2 (by omega))
      have h2 := ht.left i
      apply Classical.byContradiction
      intro hn
      have := h2.2 ⟨by simpa using hi, hn⟩
      rw [this] at h1; cases h1
  · rintro ⟨qs, rfl, hM⟩
    have hlt : ∀ i ∈ qs.flatMap (·.2), i < bars.length := fun i hi => by
      obtain ⟨q, hq, hi⟩ := List.mem_flatMap.1 hi
      exact (hM.good q hq).1.lt i hi
    obtain ⟨L', h1, h2⟩ := usedPs_yes hT (L := fun i => decide (i < bars.length)) hM.good hM.nodup (fun i hi => by simpa using hlt i hi) qs.length (Nat.le_refl _)
    rw [List.length_map, h1]
    unfold leftB
    refine List.all_eq_true.2 fun i _ => ?_
    rw [List.take_length] at h2
    cases h3 : L' i
    · rfl
    · have := (h2.left i).1 h3
      exact absurd (hM.all i (by simpa using this.1)) this.2
/-- Groups by merging: bar by bar, the group of one knot becomes that of the other. -/
def merge (g : Int → Nat) (s : Spn) : Int → Nat := fun k => if g k = g s.hi then g s.lo else g k
def merged : List Spn → Int → Nat
  | [] => fun k => k.toNat
  | s :: l => merge (merged l) s
theorem merged_within : ∀ (l : List Spn), ∀ s ∈ l, merged l s.lo = merged l s.hi
  | [], s, h => by cases h
  | t :: l, s, h => by
    show merge (merged l) t s.lo = merge (merged l) t s.hi
    unfold merge
    rcases List.mem_cons.1 h with rfl | h
    · rw [if_pos rfl]; split <;> rfl
    · rw [merged_within l s h]
theorem merged_lt {P : Nat} : ∀ {l : List Spn}, (∀ s ∈ l, 0 ≤ s.lo ∧ s.lo < P ∧ 0 ≤ s.hi ∧ s.hi < P) → ∀ k : Int, 0 ≤ k → k < P → merged l k < P
  | [], _, k, h0, h1 => by show k.toNat < P; omega
  | s :: l, h, k, h0, h1 => by
    show merge (merged l) s k < P
    unfold merge
    have hs := h s (by simp)
    split
    · exact merged_lt (fun t ht => h t (List.mem_cons_of_mem _ ht)) s.lo hs.1 hs.2.1
    · exact merged_lt (fun t ht => h t (List.mem_cons_of_mem _ ht)) k h0 h1
inductive Joined (l : List Spn) (a : Int) : Int → Prop
  | refl : Joined l a a
  | step {b c : Int} {s : Spn} : Joined l a b → s ∈ l → joins s b c → Joined l a c
theorem Joined.trans {l : List Spn} {a b c : Int} (h : Joined l a b) (k : Joined l b c) : Joined l a c := by
  induction k with
  | refl => exact h
  | step _ hi hj ih => exact .step ih hi hj
theorem Joined.symm {l : List Spn} {a b : Int} (h : Joined l a b) : Joined l b a := by
  induction h with
  | refl => exact .refl
  | step _ hi hj ih => exact (Joined.step .refl hi hj.symm).trans ih
theorem Joined.mono {l m : List Spn} (hs : ∀ s ∈ l, s ∈ m) {a b : Int} (h : Joined l a b) : Joined m a b := by
  induction h with
  | refl => exact .refl
  | step _ hi hj ih => exact .step ih (hs _ hi) hj
theorem merged_joined : ∀ (l : List Spn) (a b : Int), 0 ≤ a → 0 ≤ b → (∀ s ∈ l, 0 ≤ s.lo ∧ 0 ≤ s.hi) → merged l a = merged l b → Joined l a b
  | [], a, b, ha, hb, _, h => by
    have : a.toNat = b.toNat := h
    have e : a = b := by omega
    subst e; exact .refl
  | s :: l, a, b, ha, hb, hl, h => by
    have hs := hl s (by simp)
    have hl' := fun t ht => hl t (List.mem_cons_of_mem s ht)
    have up : ∀ {x y : Int}, 0 ≤ x → 0 ≤ y → merged l x = merged l y → Joined (s :: l) x y := fun hx hy e => (merged_joined l _ _ hx hy hl' e).mono fun t ht => List.mem_cons_of_mem _ ht
    have edge : Joined (s :: l) s.lo s.hi := .step .refl (by simp) (.inl ⟨rfl, rfl⟩)
    have h : merge (merged l) s a = merge (merged l) s b := h
    unfold merge at h
    split at h
    · next h1 =>
      split at h
      · next h2 => exact up ha hb (h1.trans h2.symm)
      · next h2 => exact ((up ha hs.2 h1).trans edge.symm).trans (up hs.1 hb h)
    · next h1 =>
      split at h
      · next h2 => exact ((up ha hs.1 h).trans edge).trans (up hs.2 hb h2.symm)
      · exact up ha hb h
theorem joined_conn {bars : List Spn} {a b : Int} (h : Joined bars a b) : Conn bars a b := by
  induction h with
  | refl => exact .refl
  | step _ hs hj ih =>
    obtain ⟨i, hi, rfl⟩ := List.getElem_of_mem hs
    exact .step ih hi (by rw [getD_of hi]; exact hj)
/-- The program's pieces mend, and no others are fewer. -/
theorem mend_best {bars : List Spn} {P : Nat} (hB : Bars bars P) (hlen : bars.length + P ≤ 96) :
    ∃ qs, (mendTo (handTo bars P P) P (P + 1)).2 = qs.map (·.1) ∧ Mends bars qs ∧ ∀ rs, Mends bars rs → qs.length ≤ rs.length := by
  have hg : Within bars (merged bars) := fun i hi => by rw [getD_of hi]; exact merged_within bars _ (List.getElem_mem hi)
  have hC : ∀ k : Nat, k < P → merged bars (k : Int) < P := fun k hk => merged_lt hB.low k (by omega) (by omega)
  obtain ⟨qs, h1, h2, h3⟩ := mend_spec hB hlen hg hC fun i j hi hj e => by
    refine joined_conn (merged_joined bars _ _ ?_ ?_ (fun s hs => ⟨(hB.low s hs).1, (hB.low s hs).2.2.1⟩) e)
    · exact (bars_at hB i hi).1
    · exact (bars_at hB j hj).1
  exact ⟨qs, h1, h2, fun rs hr => by rw [h3]; exact fewest_le hB hg hC hr⟩

end Tw
end Go.Proofs.Ytmjelgonhpgmbaa
