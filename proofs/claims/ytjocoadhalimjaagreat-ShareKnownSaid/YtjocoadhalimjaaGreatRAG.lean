/- Pure: what is divided by weights, the greatest rests first; nothing is left over; each is near its exact share; more to divide; in any order. -/
import Derived.Test.YtjocoadhalimjaaGreatBase
import Derived.Test.YtjocoadhalimjaaGreatRAF
set_option linter.unusedSimpArgs false
set_option linter.unusedVariables false
namespace Go.Proofs.YtjocoadhalimjaaGreat
section
namespace Sv
/-- A strict order of the members of a list. -/
structure Orders (l : List Nat) (b : Nat → Nat → Bool) : Prop where
  irr : ∀ i, i ∈ l → b i i = false
  tr : ∀ i j k, i ∈ l → j ∈ l → k ∈ l → b i j = true → b j k = true → b i k = true
  tot : ∀ i j, i ∈ l → j ∈ l → i ≠ j → b i j = true ∨ b j i = true
/-- How many are before one. -/
def rank (l : List Nat) (b : Nat → Nat → Bool) (i : Nat) : Nat := l.countP (fun j => b j i)
theorem Orders.asym {l : List Nat} {b : Nat → Nat → Bool} (h : Orders l b) {i j : Nat} (hi : i ∈ l) (hj : j ∈ l) (hb : b i j = true) : b j i = false := by
  cases hc : b j i with
  | false => rfl
  | true =>
    have := h.tr i j i hi hj hi hb hc
    rw [h.irr i hi] at this; cases this
theorem Orders.mono {l m : List Nat} {b : Nat → Nat → Bool} (h : Orders l b) (hs : ∀ i ∈ m, i ∈ l) : Orders m b :=
  ⟨fun i hi => h.irr i (hs i hi), fun i j k hi hj hk => h.tr i j k (hs i hi) (hs j hj) (hs k hk), fun i j hi hj => h.tot i j (hs i hi) (hs j hj)⟩
theorem sort_ins {b : Nat → Nat → Bool} (a : Nat) : ∀ σ : List Nat, Orders (a :: σ) b → a ∉ σ → σ.Pairwise (fun i j => b i j = true) → ∃ τ : List Nat, τ.Perm (a :: σ) ∧ τ.Pairwise (fun i j => b i j = true)
  | [], _, _, _ => ⟨[a], .refl _, by simp⟩
  | c :: t, h, hn, hp => by
    rw [List.pairwise_cons] at hp
    have hac : a ≠ c := fun e => hn (by rw [e]; exact .head _)
    cases h.tot a c (.head _) (.tail _ (.head _)) hac with
    | inl hb =>
      refine ⟨a :: c :: t, .refl _, ?_⟩
      rw [List.pairwise_cons, List.pairwise_cons]
      refine ⟨fun x hx => ?_, hp⟩
      cases hx with
      | head => exact hb
      | tail _ hx => exact h.tr a c x (.head _) (.tail _ (.head _)) (.tail _ (.tail _ hx)) hb (hp.1 x hx)
    | inr hb =>
      obtain ⟨τ, h1, h2⟩ := sort_ins a t (h.mono (by intro i hi; cases hi with | head => exact .head _ | tail _ hi => exact .tail _ (.tail _ hi))) (fun hx => hn (.tail _ hx)) hp.2
      refine ⟨c :: τ, ((h1.cons c).trans (List.Perm.swap a c t)), ?_⟩
      rw [List.pairwise_cons]
      refine ⟨fun x hx => ?_, h2⟩
      have := (h1.mem_iff).mp hx
      cases this with
      | head => exact hb
      | tail _ hx => exact hp.1 x hx
theorem sort_all {b : Nat → Nat → Bool} : ∀ l : List Nat, Orders l b → l.Nodup → ∃ σ : List Nat, σ.Perm l ∧ σ.Pairwise (fun i j => b i j = true)
  | [], _, _ => ⟨[], .refl _, .nil⟩
  | a :: l, h, hn => by
    rw [List.nodup_cons] at hn
    obtain ⟨σ, h1, h2⟩ := sort_all l (h.mono fun i hi => .tail _ hi) hn.2
    obtain ⟨τ, h3, h4⟩ := sort_ins a σ (h.mono (by intro i hi; cases hi with | head => exact .head _ | tail _ hi => exact .tail _ (h1.mem_iff.mp hi))) (fun hx => hn.1 (h1.mem_iff.mp hx)) h2
    exact ⟨τ, h3.trans (h1.cons a), h4⟩
theorem rank_perm {l m : List Nat} {b : Nat → Nat → Bool} (h : l.Perm m) (i : Nat) : rank l b i = rank m b i := h.countP_eq _
theorem rank_head {b : Nat → Nat → Bool} {a : Nat} {t : List Nat} (h : Orders (a :: t) b) (hp : (a :: t).Pairwise (fun i j => b i j = true)) : rank (a :: t) b a = 0 := by
  rw [List.pairwise_cons] at hp
  show List.countP _ _ = 0
  rw [List.countP_eq_zero]
  intro x hx hb
  cases hx with
  | head => rw [h.irr a (.head _)] at hb; cases hb
  | tail _ hx =>
    rw [h.asym (.head _) (.tail _ hx) (hp.1 x hx)] at hb; cases hb
theorem rank_tail {b : Nat → Nat → Bool} {a i : Nat} {t : List Nat} (hp : (a :: t).Pairwise (fun i j => b i j = true)) (hi : i ∈ t) : rank (a :: t) b i = rank t b i + 1 := by
  rw [List.pairwise_cons] at hp
  show List.countP _ _ = _
  rw [List.countP_cons_of_pos (p := fun j => b j i) (hp.1 i hi)]; rfl
/-- Who is among the first k of a sorted list. -/
theorem mem_take {b : Nat → Nat → Bool} : ∀ (σ : List Nat) (k i : Nat), Orders σ b → σ.Pairwise (fun i j => b i j = true) → (i ∈ σ.take k ↔ i ∈ σ ∧ rank σ b i < k)
  | [], k, i, _, _ => by simp
  | a :: t, 0, i, _, _ => by simp
  | a :: t, k + 1, i, h, hp => by
    have hp' := hp
    rw [List.pairwise_cons] at hp'
    rw [List.take_succ_cons, List.mem_cons, mem_take t k i (h.mono fun i hi => .tail _ hi) hp'.2, List.mem_cons]
    constructor
    · rintro (rfl | ⟨hm, hr⟩)
      · exact ⟨.inl rfl, by rw [rank_head h hp]; omega⟩
      · exact ⟨.inr hm, by rw [rank_tail hp hm]; omega⟩
    · rintro ⟨rfl | hm, hr⟩
      · exact .inl rfl
      · rw [rank_tail hp hm] at hr; exact .inr ⟨hm, by omega⟩
theorem countP_sorted {b : Nat → Nat → Bool} : ∀ (σ : List Nat) (k : Nat), Orders σ b → σ.Pairwise (fun i j => b i j = true) → σ.countP (fun i => decide (rank σ b i < k)) = min k σ.length
  | [], k, _, _ => by simp
  | a :: t, k, h, hp => by
    have hp' := hp
    rw [List.pairwise_cons] at hp'
    have ht : t.countP (fun i => decide (rank (a :: t) b i < k)) = t.countP (fun i => decide (rank t b i < k - 1)) := by
      refine List.countP_congr fun i hi => ?_
      rw [rank_tail hp hi]
      simp only [decide_eq_true_eq]; omega
    rw [List.countP_cons, rank_head h hp, ht, countP_sorted t (k - 1) (h.mono fun i hi => .tail _ hi) hp'.2, List.length_cons]
    by_cases hk : 0 < k <;> simp [hk] <;> omega
theorem countP_rank {l : List Nat} {b : Nat → Nat → Bool} (h : Orders l b) (hn : l.Nodup) (k : Nat) : l.countP (fun i => decide (rank l b i < k)) = min k l.length := by
  obtain ⟨σ, h1, h2⟩ := sort_all l h hn
  have h3 := countP_sorted σ k (h.mono fun i hi => h1.mem_iff.mp hi) h2
  rw [h1.length_eq] at h3
  rw [← h3, h1.symm.countP_eq]
  refine List.countP_congr fun i _ => ?_
  rw [rank_perm h1]
theorem rank_lt {l : List Nat} {b : Nat → Nat → Bool} (h : Orders l b) {i j : Nat} (hi : i ∈ l) (hj : j ∈ l) (hb : b i j = true) : rank l b i < rank l b j := by
  show l.countP _ < l.countP _
  obtain ⟨s, t, rfl⟩ := List.append_of_mem hi
  rw [List.countP_append, List.countP_append, List.countP_cons, List.countP_cons, h.irr i hi, hb]
  have h1 : s.countP (fun k => b k i) ≤ s.countP (fun k => b k j) := List.countP_mono_left fun k hk hb2 => h.tr k i j (List.mem_append_left _ hk) hi hj hb2 hb
  have h2 : t.countP (fun k => b k i) ≤ t.countP (fun k => b k j) := List.countP_mono_left fun k hk hb2 => h.tr k i j (List.mem_append_right _ (.tail _ hk)) hi hj hb2 hb
  simp; omega
theorem rank_inj {l : List Nat} {b : Nat → Nat → Bool} (h : Orders l b) {i j : Nat} (hi : i ∈ l) (hj : j ∈ l) (he : rank l b i = rank l b j) : i = j := by
  by_cases hij : i = j
  · exact hij
  · cases h.tot i j hi hj hij with
    | inl hb => have := rank_lt h hi hj hb; omega
    | inr hb => have := rank_lt h hj hi hb; omega
/-- The first of those that are not among the first k is the next one. -/
theorem rank_next {l : List Nat} {b : Nat → Nat → Bool} (h : Orders l b) (hn : l.Nodup) {i k : Nat} (hi : i ∈ l) (hk : k ≤ rank l b i) (hb : ∀ j ∈ l, k ≤ rank l b j → b j i = false) : rank l b i = k := by
  have h1 : l.countP (fun j => b j i) ≤ l.countP (fun j => decide (rank l b j < k)) := by
    refine List.countP_mono_left fun j hj hji => ?_
    rw [decide_eq_true_eq]
    by_cases hc : rank l b j < k
    · exact hc
    · rw [hb j hj (by omega)] at hji; cases hji
  rw [countP_rank h hn] at h1
  have : rank l b i = l.countP (fun j => b j i) := rfl
  omega
/-- There is one of each rank. -/
theorem rank_some {l : List Nat} {b : Nat → Nat → Bool} (h : Orders l b) (hn : l.Nodup) {k : Nat} (hk : k < l.length) : ∃ i ∈ l, rank l b i = k := by
  have h1 := countP_rank h hn k
  have h2 := countP_rank h hn (k + 1)
  have h3 : ¬ l.countP (fun i => decide (rank l b i < k + 1)) ≤ l.countP (fun i => decide (rank l b i < k)) := by omega
  apply Classical.byContradiction
  intro hc
  apply h3
  refine List.countP_mono_left fun i hi hx => ?_
  rw [decide_eq_true_eq] at hx ⊢
  have : rank l b i ≠ k := fun e => hc ⟨i, hi, e⟩
  omega

/-- What numbers below n are together. -/
def tot (l : List Nat) (w : Nat → Nat) : Nat := (l.map w).sum
theorem tot_cons (a : Nat) (l : List Nat) (w : Nat → Nat) : tot (a :: l) w = w a + tot l w := by simp [tot]
theorem tot_add (l : List Nat) (v w : Nat → Nat) : tot l (fun i => v i + w i) = tot l v + tot l w := by
  induction l with
  | nil => rfl
  | cons a l ih => rw [tot_cons, tot_cons, tot_cons, ih]; omega
theorem tot_mul (l : List Nat) (k : Nat) (w : Nat → Nat) : tot l (fun i => k * w i) = k * tot l w := by
  induction l with
  | nil => rfl
  | cons a l ih => rw [tot_cons, tot_cons, ih, Nat.mul_add]
theorem tot_congr {l : List Nat} {v w : Nat → Nat} (h : ∀ i ∈ l, v i = w i) : tot l v = tot l w := by
  induction l with
  | nil => rfl
  | cons a l ih => rw [tot_cons, tot_cons, h a (.head _), ih fun i hi => h i (.tail _ hi)]
theorem tot_le {l : List Nat} {v w : Nat → Nat} (h : ∀ i ∈ l, v i ≤ w i) : tot l v ≤ tot l w := by
  induction l with
  | nil => exact Nat.le_refl _
  | cons a l ih =>
    have h1 := h a (.head _); have h2 := ih fun i hi => h i (.tail _ hi)
    rw [tot_cons, tot_cons]; omega
theorem tot_one {l : List Nat} {w : Nat → Nat} {i : Nat} (hi : i ∈ l) : w i ≤ tot l w := by
  induction hi with
  | head l => rw [tot_cons]; omega
  | tail a _ ih => rw [tot_cons]; omega
theorem tot_if (l : List Nat) (p : Nat → Bool) : tot l (fun i => if p i then 1 else 0) = l.countP p := by
  induction l with
  | nil => rfl
  | cons a l ih => rw [tot_cons, List.countP_cons, ih]; omega
theorem tot_perm {l m : List Nat} (h : l.Perm m) (w : Nat → Nat) : tot l w = tot m w := (h.map w).sum_nat

/-- What is divided, by weights; whose name is before whose. -/
def quo (s a : Nat) (w : Nat → Nat) (i : Nat) : Nat := s * w i / a
def rst (s a : Nat) (w : Nat → Nat) (i : Nat) : Nat := s * w i % a
def bef (s a : Nat) (w : Nat → Nat) (lt : Nat → Nat → Bool) (i j : Nat) : Bool := decide (rst s a w j < rst s a w i) || (rst s a w i == rst s a w j && lt i j)
def left (l : List Nat) (s : Nat) (w : Nat → Nat) : Nat := s - tot l (quo s (tot l w) w)
/-- What each gets. -/
def gets (l : List Nat) (s : Nat) (w : Nat → Nat) (lt : Nat → Nat → Bool) (i : Nat) : Nat :=
  quo s (tot l w) w i + if rank l (bef s (tot l w) w lt) i < left l s w then 1 else 0
theorem quo_rst (s a : Nat) (w : Nat → Nat) (i : Nat) : a * quo s a w i + rst s a w i = s * w i := Nat.div_add_mod _ _
theorem rst_lt {s a : Nat} (w : Nat → Nat) (i : Nat) (h : 0 < a) : rst s a w i < a := Nat.mod_lt _ h
theorem tot_parts (l : List Nat) (s a : Nat) (w : Nat → Nat) : a * tot l (quo s a w) + tot l (rst s a w) = s * tot l w := by
  rw [← tot_mul, ← tot_mul, ← tot_add]
  exact tot_congr fun i _ => quo_rst s a w i
theorem quo_le {l : List Nat} {s : Nat} {w : Nat → Nat} (h : 0 < tot l w) : tot l (quo s (tot l w) w) ≤ s := by
  have h1 := tot_parts l s (tot l w) w
  have h2 : tot l w * tot l (quo s (tot l w) w) ≤ tot l w * s := by rw [Nat.mul_comm (tot l w) s]; omega
  exact Nat.le_of_mul_le_mul_left h2 h
theorem left_rst {l : List Nat} {s : Nat} {w : Nat → Nat} (h : 0 < tot l w) : tot l w * left l s w = tot l (rst s (tot l w) w) := by
  have h1 := tot_parts l s (tot l w) w
  have h2 := quo_le (s := s) h
  have h3 : tot l w * left l s w = tot l w * s - tot l w * tot l (quo s (tot l w) w) := Nat.mul_sub _ _ _
  rw [h3, Nat.mul_comm (tot l w) s]; omega
theorem tot_const (l : List Nat) (k : Nat) : tot l (fun _ => k) = l.length * k := by
  induction l with
  | nil => simp [tot]
  | cons a l ih => rw [tot_cons, ih, List.length_cons, Nat.succ_mul]; omega
theorem left_lt {l : List Nat} {s : Nat} {w : Nat → Nat} (h : 0 < tot l w) : left l s w < l.length := by
  have h1 := left_rst (s := s) h
  have h2 : tot l (rst s (tot l w) w) ≤ tot l (fun _ => tot l w - 1) := tot_le fun i _ => by have := rst_lt (s := s) w i h; omega
  rw [tot_const] at h2
  cases hl : l.length with
  | zero =>
    have : l = [] := List.eq_nil_of_length_eq_zero hl
    subst this; simp [tot] at h
  | succ n =>
    have h3 : l.length * (tot l w - 1) < tot l w * l.length := by
      rw [Nat.mul_comm (tot l w)]
      exact Nat.mul_lt_mul_of_pos_left (by omega) (by omega)
    have h4 : tot l w * left l s w < tot l w * l.length := by omega
    have := Nat.lt_of_mul_lt_mul_left h4
    omega
theorem bef_orders {l : List Nat} (s a : Nat) (w : Nat → Nat) {lt : Nat → Nat → Bool} (h : Orders l lt) : Orders l (bef s a w lt) := by
  refine ⟨fun i hi => ?_, fun i j k hi hj hk h1 h2 => ?_, fun i j hi hj hn => ?_⟩
  · simp [bef, h.irr i hi]
  · simp only [bef, Bool.or_eq_true, Bool.and_eq_true, decide_eq_true_eq, beq_iff_eq] at h1 h2 ⊢
    rcases h1 with h1 | ⟨h1, h1'⟩ <;> rcases h2 with h2 | ⟨h2, h2'⟩
    · left; omega
    · left; omega
    · left; omega
    · right; exact ⟨by omega, h.tr i j k hi hj hk h1' h2'⟩
  · simp only [bef, Bool.or_eq_true, Bool.and_eq_true, decide_eq_true_eq, beq_iff_eq]
    rcases Nat.lt_trichotomy (rst s a w i) (rst s a w j) with h1 | h1 | h1
    · exact .inr (.inl h1)
    · rcases h.tot i j hi hj hn with h2 | h2
      · exact .inl (.inr ⟨h1, h2⟩)
      · exact .inr (.inr ⟨h1.symm, h2⟩)
    · exact .inl (.inl h1)
/-- Nothing is left over. -/
theorem gets_all {l : List Nat} {s : Nat} {w : Nat → Nat} {lt : Nat → Nat → Bool} (h : Orders l lt) (hn : l.Nodup) (ha : 0 < tot l w) : tot l (gets l s w lt) = s := by
  have h1 : tot l (gets l s w lt) = tot l (quo s (tot l w) w) + tot l (fun i => if decide (rank l (bef s (tot l w) w lt) i < left l s w) then 1 else 0) := by
    rw [← tot_add]
    refine tot_congr fun i _ => ?_
    simp only [gets, decide_eq_true_eq]
  rw [h1, tot_if, countP_rank (bef_orders s _ w h) hn]
  have h2 := left_lt (s := s) ha
  have h3 := quo_le (s := s) ha
  have : left l s w = s - tot l (quo s (tot l w) w) := rfl
  omega
/-- Who gets a penny more has a rest. -/
theorem more_rst {l : List Nat} {s : Nat} {w : Nat → Nat} {lt : Nat → Nat → Bool} (h : Orders l lt) (hn : l.Nodup) (ha : 0 < tot l w) {i : Nat} (hi : i ∈ l) (hm : rank l (bef s (tot l w) w lt) i < left l s w) : 0 < rst s (tot l w) w i := by
  apply Classical.byContradiction
  intro hz
  have hz : rst s (tot l w) w i = 0 := by omega
  have h1 := left_rst (s := s) ha
  -- all with a rest are before
  have h2 : tot l (rst s (tot l w) w) ≤ tot l (fun j => (tot l w) * (if bef s (tot l w) w lt j i then 1 else 0)) := by
    refine tot_le fun j hj => ?_
    cases hb : bef s (tot l w) w lt j i with
    | true => simp; exact Nat.le_of_lt (rst_lt w j ha)
    | false =>
      simp only [bef, Bool.or_eq_false_iff, decide_eq_false_iff_not] at hb
      simp; omega
  rw [tot_mul, tot_if, ← h1] at h2
  have h3 := Nat.le_of_mul_le_mul_left h2 ha
  have h4 : rank l (bef s (tot l w) w lt) i = l.countP (fun j => bef s (tot l w) w lt j i) := rfl
  omega
/-- Each gets less than a penny more or less than its exact share. -/
theorem gets_near {l : List Nat} {s : Nat} {w : Nat → Nat} {lt : Nat → Nat → Bool} (h : Orders l lt) (hn : l.Nodup) (ha : 0 < tot l w) {i : Nat} (hi : i ∈ l) : tot l w * gets l s w lt i < s * w i + tot l w ∧ s * w i < tot l w * gets l s w lt i + tot l w := by
  have h1 := quo_rst s (tot l w) w i
  have h2 := rst_lt (s := s) w i ha
  have h3 := more_rst (s := s) h hn ha hi
  unfold gets
  split
  · have h4 := h3 ‹_›
    rw [Nat.mul_add, Nat.mul_one]; omega
  · rw [Nat.mul_add, Nat.mul_zero]; omega
/-- Who has a greater weight gets no less. -/
theorem gets_mono {l : List Nat} {s : Nat} {w : Nat → Nat} {lt : Nat → Nat → Bool} (h : Orders l lt) (ha : 0 < tot l w) {i k : Nat} (hi : i ∈ l) (hk : k ∈ l) (hw : w k < w i) : gets l s w lt k ≤ gets l s w lt i := by
  have h1 : quo s (tot l w) w k ≤ quo s (tot l w) w i := Nat.div_le_div_right (Nat.mul_le_mul_left _ (Nat.le_of_lt hw))
  have h5 := quo_rst s (tot l w) w k
  have h6 := quo_rst s (tot l w) w i
  by_cases hq : quo s (tot l w) w k = quo s (tot l w) w i
  · have h2 : rst s (tot l w) w k ≤ rst s (tot l w) w i := by
      have h7 : s * w k ≤ s * w i := Nat.mul_le_mul_left _ (Nat.le_of_lt hw)
      rw [hq] at h5; omega
    unfold gets
    rw [hq]
    by_cases hs : s = 0
    · have h8 : left l s w = 0 := by simp [left, hs]
      rw [h8]; simp
    have h9 : rst s (tot l w) w k < rst s (tot l w) w i := by
      have h7 : s * w k < s * w i := Nat.mul_lt_mul_of_pos_left hw (by omega)
      rw [hq] at h5; omega
    have h4 : rank l (bef s (tot l w) w lt) i < rank l (bef s (tot l w) w lt) k := rank_lt (bef_orders s _ w h) hi hk (by simp [bef, h9])
    split <;> split <;> omega
  · unfold gets
    split <;> split <;> omega
theorem tot_lt {l : List Nat} {v w : Nat → Nat} (h : ∀ i ∈ l, v i ≤ w i) {i : Nat} (hi : i ∈ l) (hl : v i < w i) : tot l v < tot l w := by
  obtain ⟨a, b, rfl⟩ := List.append_of_mem hi
  have h1 : tot a v ≤ tot a w := tot_le fun j hj => h j (List.mem_append_left _ hj)
  have h2 : tot b v ≤ tot b w := tot_le fun j hj => h j (List.mem_append_right _ (.tail _ hj))
  simp only [tot, List.map_append, List.map_cons, List.sum_append, List.sum_cons] at h1 h2 ⊢
  omega
theorem quo_step {s a : Nat} {w : Nat → Nat} (i : Nat) (ha : 0 < a) (hw : w i ≤ a) : quo s a w i ≤ quo (s + 1) a w i ∧ quo (s + 1) a w i ≤ quo s a w i + 1 := by
  have h1 : (s + 1) * w i = s * w i + w i := Nat.succ_mul _ _
  constructor
  · exact Nat.div_le_div_right (by omega)
  · have h2 : (s * w i + a) / a = s * w i / a + 1 := Nat.add_div_right _ ha
    show (s + 1) * w i / a ≤ _
    rw [h1]
    refine Nat.le_trans (Nat.div_le_div_right (Nat.add_le_add_left hw _)) ?_
    rw [h2]; exact Nat.le_refl _
/-- A penny more to divide gives nobody more than a penny more, and nobody two less. -/
theorem gets_step {l : List Nat} {s : Nat} {w : Nat → Nat} {lt : Nat → Nat → Bool} (h : Orders l lt) (hn : l.Nodup) (ha : 0 < tot l w) {i : Nat} (hi : i ∈ l) : gets l (s + 1) w lt i ≤ gets l s w lt i + 1 ∧ gets l s w lt i ≤ gets l (s + 1) w lt i + 1 := by
  have hq := fun j (hj : j ∈ l) => quo_step (s := s) (w := w) j ha (tot_one hj)
  have hqi := hq i hi
  constructor
  · by_cases he : quo (s + 1) (tot l w) w i = quo s (tot l w) w i
    · unfold gets; split <;> split <;> omega
    · unfold gets
      split
      · rename_i hm
        split
        · omega
        · rename_i hm2
          exfalso
          -- those that were before and get no whole penny more are before
          have h1 : tot l (quo (s + 1) (tot l w) w) = tot l (quo s (tot l w) w) + tot l (fun j => quo (s + 1) (tot l w) w j - quo s (tot l w) w j) := by
            rw [← tot_add]
            exact tot_congr fun j hj => by have := hq j hj; show _ = _ + (_ - _); omega
          have h2 : tot l (fun j => if bef s (tot l w) w lt j i then quo (s + 1) (tot l w) w j - quo s (tot l w) w j else 0) < tot l (fun j => quo (s + 1) (tot l w) w j - quo s (tot l w) w j) := by
            refine tot_lt (fun j hj => ?_) hi ?_
            · show (if _ then _ else _) ≤ _
              split <;> omega
            · show (if _ then _ else _) < _
              rw [(bef_orders s (tot l w) w h).irr i hi]
              simp; omega
          have h3 : rank l (bef s (tot l w) w lt) i ≤ rank l (bef (s + 1) (tot l w) w lt) i + tot l (fun j => if bef s (tot l w) w lt j i then quo (s + 1) (tot l w) w j - quo s (tot l w) w j else 0) := by
            show l.countP _ ≤ l.countP _ + _
            rw [← tot_if, ← tot_if, ← tot_add]
            refine tot_le fun j hj => ?_
            have hqj := hq j hj
            cases hb : bef s (tot l w) w lt j i with
            | false => simp
            | true =>
              simp only [if_true]
              by_cases hz : quo (s + 1) (tot l w) w j = quo s (tot l w) w j
              · have hb2 : bef (s + 1) (tot l w) w lt j i = true := by
                  have e1 := quo_rst s (tot l w) w j
                  have e2 := quo_rst (s + 1) (tot l w) w j
                  have e3 := quo_rst s (tot l w) w i
                  have e4 := quo_rst (s + 1) (tot l w) w i
                  have e5 : (s + 1) * w j = s * w j + w j := Nat.succ_mul _ _
                  have e6 : (s + 1) * w i = s * w i + w i := Nat.succ_mul _ _
                  have e7 : quo (s + 1) (tot l w) w i = quo s (tot l w) w i + 1 := by omega
                  have e8 := tot_one (w := w) hi
                  rw [e7, Nat.mul_add, Nat.mul_one] at e4
                  rw [hz] at e2
                  simp only [bef, Bool.or_eq_true, Bool.and_eq_true, decide_eq_true_eq, beq_iff_eq] at hb ⊢
                  rcases hb with hb | ⟨hb, hb'⟩
                  · left; omega
                  · by_cases e9 : rst (s + 1) (tot l w) w j = rst (s + 1) (tot l w) w i
                    · exact .inr ⟨e9, hb'⟩
                    · left; omega
                rw [hb2]; simp
              · split <;> omega
          have h4 := quo_le (s := s + 1) ha
          have h5 : left l (s + 1) w = s + 1 - tot l (quo (s + 1) (tot l w) w) := rfl
          have h6 : left l s w = s - tot l (quo s (tot l w) w) := rfl
          have h7 := quo_le (s := s) ha
          omega
      · split <;> omega
  · unfold gets; split <;> split <;> omega
/-- Weights that are so many times as great. -/
theorem gets_times {l : List Nat} {s k : Nat} {w : Nat → Nat} {lt : Nat → Nat → Bool} (hk : 0 < k) (i : Nat) : gets l s (fun i => k * w i) lt i = gets l s w lt i := by
  have h0 : tot l (fun i => k * w i) = k * tot l w := tot_mul l k w
  have h1 : ∀ j, quo s (k * tot l w) (fun i => k * w i) j = quo s (tot l w) w j := fun j => by
    show s * (k * w j) / (k * tot l w) = _
    rw [Nat.mul_left_comm, Nat.mul_div_mul_left _ _ hk]; rfl
  have h2 : ∀ j, rst s (k * tot l w) (fun i => k * w i) j = k * rst s (tot l w) w j := fun j => by
    show s * (k * w j) % (k * tot l w) = _
    rw [Nat.mul_left_comm, Nat.mul_mod_mul_left]; rfl
  have h3 : bef s (k * tot l w) (fun i => k * w i) lt = bef s (tot l w) w lt := by
    funext i j
    have e1 : decide (k * rst s (tot l w) w j < k * rst s (tot l w) w i) = decide (rst s (tot l w) w j < rst s (tot l w) w i) := decide_eq_decide.mpr (Nat.mul_lt_mul_left hk)
    have e2 : (k * rst s (tot l w) w i == k * rst s (tot l w) w j) = (rst s (tot l w) w i == rst s (tot l w) w j) := by
      rw [Bool.eq_iff_iff, beq_iff_eq, beq_iff_eq]
      exact ⟨fun e => Nat.eq_of_mul_eq_mul_left hk e, fun e => by rw [e]⟩
    simp only [bef, h2, e1, e2]
  have h4 : left l s (fun i => k * w i) = left l s w := by
    unfold left
    rw [h0, tot_congr fun j _ => h1 j]
  unfold gets
  rw [h0, h1, h3, h4]
/-- Told in another order. -/
theorem gets_turn {l : List Nat} {s : Nat} {w : Nat → Nat} {lt : Nat → Nat → Bool} {π : Nat → Nat} (h : (l.map π).Perm l) (i : Nat) : gets l s (fun i => w (π i)) (fun i j => lt (π i) (π j)) i = gets l s w lt (π i) := by
  have h0 : ∀ v : Nat → Nat, tot l (fun i => v (π i)) = tot l v := fun v => by
    rw [← tot_perm h v]; simp [tot, Function.comp_def]
  have h1 : ∀ j, quo s (tot l w) (fun i => w (π i)) j = quo s (tot l w) w (π j) := fun _ => rfl
  have h2 : left l s (fun i => w (π i)) = left l s w := by
    unfold left
    rw [h0 w]
    have : tot l (quo s (tot l w) fun i => w (π i)) = tot l (quo s (tot l w) w) := h0 (quo s (tot l w) w)
    rw [this]
  have h3 : rank l (bef s (tot l w) (fun i => w (π i)) fun i j => lt (π i) (π j)) i = rank l (bef s (tot l w) w lt) (π i) := by
    have e := h.countP_eq (fun j => bef s (tot l w) w lt j (π i))
    rw [List.countP_map] at e
    exact e
  unfold gets
  rw [h0 w, h1, h2, h3]
end Sv
end
section
open Go Go.RowKit Go.Shelf

theorem quo_sum {P A : Int} (hA : 0 < A) : ∀ l : List Stk, A * (l.map fun s => P * s.weight / A).sum ≤ P * (l.map (·.weight)).sum ∧ P * (l.map (·.weight)).sum ≤ A * (l.map fun s => P * s.weight / A).sum + (A - 1) * l.length
  | [] => by simp
  | s :: l => by
    have h := quo_sum (P := P) hA l
    have h1 := Int.mul_ediv_add_emod (P * s.weight) A
    have h2 := Int.emod_nonneg (P * s.weight) (show A ≠ 0 by omega)
    have h3 := Int.emod_lt_of_pos (P * s.weight) hA
    simp only [List.map_cons, List.sum_cons, List.length_cons, Int.mul_add, Int.natCast_add, Int.natCast_one, Int.mul_one]
    generalize (l.map fun s => P * s.weight / A).sum = Q at *
    generalize (l.map (·.weight)).sum = W at *
    generalize P * s.weight / A = q at *
    generalize P * s.weight % A = r at *
    generalize P * s.weight = x at *
    generalize (A - 1) * (l.length : Int) = y at *
    omega
theorem left_bound {P : Int} {l : List Stk} (hP : 0 ≤ P) (hA : P = 0 ∨ 0 < sumW l) : 0 ≤ leftTo P (sumW l) l l.length ∧ leftTo P (sumW l) l l.length ≤ l.length := by
  unfold leftTo
  rw [List.take_length]
  rcases hA with rfl | hA
  · have : (l.map fun s => 0 * s.weight / sumW l).sum = 0 := by
      simp only [Int.zero_mul, Int.zero_ediv]
      clear hP
      generalize l.length = k
      induction l with
      | nil => rfl
      | cons a l ih => simp only [List.map_cons, List.sum_cons, ih]; rfl
    rw [this]; omega
  · have h := quo_sum (P := P) hA l
    have hW : (l.map (·.weight)).sum = sumW l := rfl
    rw [hW] at h
    generalize (l.map fun s => P * s.weight / sumW l).sum = Q at *
    generalize sumW l = A at *
    have h1 : Q ≤ P := by
      refine Int.le_of_mul_le_mul_left (a := A) ?_ hA
      rw [Int.mul_comm A P]; exact h.1
    have h2 : P - Q ≤ l.length := by
      refine Int.le_of_mul_le_mul_left (a := A) ?_ hA
      have h3 : (A - 1) * (l.length : Int) ≤ A * l.length := Int.mul_le_mul_of_nonneg_right (by omega) (by omega)
      rw [Int.mul_sub, Int.mul_comm A P]
      omega
    omega
/-- What each stake gets. -/
def giveTo (P : Int) (l : List Stk) (i : Nat) : Int := getsTo (shrs P (sumW l) l) (sortR (shrs P (sumW l) l)) (leftTo P (sumW l) l l.length).toNat i
set_option maxHeartbeats 1000000 in
theorem divide_any (P : Int) (v : Value) (l : List Stk) (w : World) (hv : StakesAt w v l) (hP : 0 ≤ P ∧ P ≤ 10000000) (hw : ∀ s ∈ l, 0 ≤ s.weight ∧ s.weight ≤ 1000000) (hl : l.length ≤ 10) (hA : P = 0 ∨ 0 < sumW l) (hd : (l.map (·.name)).Nodup) :
    Cal 49 #[.int .i64 P, v] w fun e w' => ∃ r, e = .returned r ∧ Ext w w' ∧ Hid (Row w' 3 1 r l.length (intsF l.length (giveTo P l))) := by
  have hlb := left_bound hP.1 hA
  obtain ⟨n, hn⟩ : ∃ n : Nat, leftTo P (sumW l) l l.length = n := ⟨_, (Int.toNat_of_nonneg hlb.1).symm⟩
  have hsl : (shrs P (sumW l) l).length = l.length := by simp [shrs]
  have HN := hid (newDivision_any P v l w hv hP hw hl hA)
  have HP := hid (fun (sv : Value) (u : World) (hr : Row u 146 4 sv l.length (flatS (shrs P (sumW l) l) l.length)) => pence_any sv (shrs P (sumW l) l) n u (by rw [hsl]; omega) (by rw [hsl]; omega) (by
      have : (shrs P (sumW l) l).map (·.name) = l.map (·.name) := by simp [shrs, shrOf, Function.comp_def]
      rw [this]; exact hd) (fun s hs => by
      obtain ⟨x, hx, rfl⟩ := List.mem_map.1 hs
      exact (quo_bound hP hA (hw x hx)).2.1) (SharesAt.of_row (by rw [hsl]; exact hr) (by rw [hsl]; omega)))
  rw [hn] at HN
  have HG : Hid (intsF l.length (getsTo (shrs P (sumW l) l) (sortR (shrs P (sumW l) l)) n) = intsF l.length (giveTo P l)) := hid (by
    unfold giveTo; rw [hn]; rfl)
  rw [hsl] at HP
  clear hv hP hw hl hA hd hlb hn hsl
  generalize leftTo P (sumW l) l l.length = L at *
  gi_enter Tryz.func49, Tryz.ntmps49
  gi_wp2_with (first | (gi_at_call 70; ((with_reducible refine HN.out.mono ?_); rintro e w1 ⟨sv, rfl, hx1, hr1⟩)) | (gi_at_call 71; ((with_reducible refine (HP.out _ _ hr1.out).mono ?_); rintro e w2 ⟨r, rfl, hx2, hr2⟩)))
  go_ret
  exact ⟨r, rfl, hx1.trans hx2, by rw [← HG.out]; exact hid hr2⟩
end
section
open Go Go.RowKit Go.Shelf

theorem stakes_ok {l : List Stk} (h : stakesB l = true) : l.length ≤ 10 ∧ (∀ s ∈ l, nameB s.name = true ∧ 0 ≤ s.weight ∧ s.weight ≤ 1000) ∧ (l.map (·.name)).Nodup := by
  unfold stakesB at h
  rw [Bool.and_eq_true, decide_eq_true_eq] at h
  have hg : ∀ i (hi : i < l.length), nameB l[i].name = true ∧ metB (l.take i) l[i].name = false ∧ inB l[i].weight 0 1000 = true := fun i hi => by
    have h1 := h.2
    unfold allTo at h1
    rw [List.all_eq_true] at h1
    have h2 := h1 i (List.mem_range.mpr hi)
    unfold stakeGood at h2
    rw [getD_of hi] at h2
    simpa using h2
  refine ⟨h.1, fun s hs => ?_, ?_⟩
  · obtain ⟨i, hi, rfl⟩ := List.getElem_of_mem hs
    have := hg i hi
    exact ⟨this.1, inB_spec this.2.2⟩
  · unfold List.Nodup
    rw [List.pairwise_iff_getElem]
    intro i j hi hj hij he
    simp only [List.length_map] at hi hj
    simp only [List.getElem_map] at he
    have h2 := (hg j hj).2.1
    unfold metB at h2
    rw [List.any_eq_false] at h2
    refine h2 l[i] (List.mem_take_iff_getElem.2 ⟨i, by omega, rfl⟩) ?_
    rw [he]; simp
/-- The error of a division. -/
def divE (P : Int) (l : List Stk) : Int := if inB P 0 10000000 then (if stakesB l && !(sumW l == 0) then 0 else 32) else 7
set_option maxHeartbeats 4000000 in
theorem Divide_bad (P : Int) (v : Value) (l : List Stk) (w : World) (hv : StakesAt w v l) (hn : ∀ s ∈ l, s.name.size ≤ maxLen) (he : divE P l ≠ 0) :
    Cal 15 #[.int .i64 P, v] w fun e w' => e = .returned (.tuple #[.slice none 0 0, .int .i64 (divE P l)]) ∧ Ext w w' := by
  have HS := hid (fun (u : World) (hu : Ext w u) => areStakes_any v l u (hv.mono hu) hn)
  have HI := hid (fun (u : World) => isIn_any P 0 10000000 u)
  cases hi : inB P 0 10000000 with
  | false =>
    rw [hi] at HI
    have HE : Hid (divE P l = 7) := hid (by unfold divE; rw [hi]; rfl)
    clear he hv hn hi
    gi_enter Tryz.func15, Tryz.ntmps15
    gi_wp2_with (gi_at_call 46; ((with_reducible refine (HI.out _).mono ?_); rintro e w1 ⟨rfl, rfl⟩))
    refine bodyPost_ret (v := .tuple #[.slice none 0 0, .int .i64 7]) (by simp [results, Tryz.results15, go_sem]) rfl ⟨by rw [HE.out], Ext.refl _⟩
  | true =>
    rw [hi] at HI
    cases hs : stakesB l with
    | false =>
      rw [hs] at HS
      have HE : Hid (divE P l = 32) := hid (by unfold divE; rw [hi, hs]; rfl)
      clear he hv hn hi hs
      gi_enter Tryz.func15, Tryz.ntmps15
      gi_wp2_with (first | (gi_at_call 46; ((with_reducible refine (HI.out _).mono ?_); rintro e w1 ⟨rfl, rfl⟩)) | (gi_at_call 47; ((with_reducible refine (HS.out _ (Ext.refl _)).mono ?_); rintro e w2 ⟨rfl, hx2⟩)))
      refine bodyPost_ret (v := .tuple #[.slice none 0 0, .int .i64 32]) (by simp [results, Tryz.results15, go_sem]) rfl ⟨by rw [HE.out], hx2⟩
    | true =>
      rw [hs] at HS
      have hz : sumW l = 0 := by
        by_cases h : sumW l = 0
        · exact h
        · exact absurd (by unfold divE; rw [hi, hs]; simp [h]) he
      have hok := stakes_ok hs
      have HW := hid (fun (u : World) (hu : Ext w u) => weights_any v l u (hv.mono hu) (fun s hs => by have := (hok.2.1 s hs).2; omega) (by omega))
      rw [hz] at HW
      have HE : Hid (divE P l = 32) := hid (by unfold divE; rw [hi, hs, hz]; rfl)
      clear he hv hn hi hs hok hz
      gi_enter Tryz.func15, Tryz.ntmps15
      gi_wp2_with (first | (gi_at_call 46; ((with_reducible refine (HI.out _).mono ?_); rintro e w1 ⟨rfl, rfl⟩)) | (gi_at_call 47; ((with_reducible refine (HS.out _ (Ext.refl _)).mono ?_); rintro e w2 ⟨rfl, hx2⟩)) | (gi_at_call 48; ((with_reducible refine (HW.out _ hx2).mono ?_); rintro e w3 ⟨rfl, hx3⟩)))
      refine bodyPost_ret (v := .tuple #[.slice none 0 0, .int .i64 32]) (by simp [results, Tryz.results15, go_sem]) rfl ⟨by rw [HE.out], hx2.trans hx3⟩
set_option maxHeartbeats 4000000 in
theorem Divide_ok (P : Int) (v : Value) (l : List Stk) (w : World) (hv : StakesAt w v l) (hn : ∀ s ∈ l, s.name.size ≤ maxLen) (he : divE P l = 0) :
    Cal 15 #[.int .i64 P, v] w fun e w' => ∃ r, e = .returned (.tuple #[r, .int .i64 0]) ∧ Ext w w' ∧ Hid (Row w' 3 1 r l.length (intsF l.length (giveTo P l))) := by
  have HS := hid (fun (u : World) (hu : Ext w u) => areStakes_any v l u (hv.mono hu) hn)
  have HI := hid (fun (u : World) => isIn_any P 0 10000000 u)
  unfold divE at he
  cases hi : inB P 0 10000000 with
  | false => rw [hi] at he; simp at he
  | true =>
    rw [hi] at HI he
    cases hs : stakesB l with
    | false => rw [hs] at he; simp at he
    | true =>
      rw [hs] at HS he
      have hz : sumW l ≠ 0 := fun h => by rw [h] at he; simp at he
      have hok := stakes_ok hs
      have hpos : 0 < sumW l := by
        have : 0 ≤ sumW l := by
          have h := sum_within (M := 1000) (by omega) (l.map (·.weight)) (fun x hx => by obtain ⟨s, hs, rfl⟩ := List.mem_map.1 hx; have := (hok.2.1 s hs).2; omega)
          clear h
          unfold sumW
          have hall : ∀ s ∈ l, 0 ≤ s.weight := fun s hs => (hok.2.1 s hs).2.1
          clear hok hs he hz HS hv hn HI
          induction l with
          | nil => simp
          | cons s l ih =>
            have h1 := hall s (.head _)
            have h2 := ih fun t ht => hall t (.tail _ ht)
            simp only [List.map_cons, List.sum_cons]; omega
        omega
      have HW := hid (fun (u : World) (hu : Ext w u) => weights_any v l u (hv.mono hu) (fun s hs => by have := (hok.2.1 s hs).2; omega) (by omega))
      have HD := hid (fun (u : World) (hu : Ext w u) => divide_any P v l u (hv.mono hu) (inB_spec hi) (fun s hs => by have := (hok.2.1 s hs).2; omega) hok.1 (.inr hpos) hok.2.2)
      have hzz : (sumW l == 0) = false := by simpa using hz
      generalize sumW l = A at *
      clear he hv hn hi hs hok hpos
      gi_enter Tryz.func15, Tryz.ntmps15
      gi_wp2_with (first | (gi_at_call 46; ((with_reducible refine (HI.out _).mono ?_); rintro e w1 ⟨rfl, rfl⟩)) | (gi_at_call 47; ((with_reducible refine (HS.out _ (Ext.refl _)).mono ?_); rintro e w2 ⟨rfl, hx2⟩)) | (gi_at_call 48; ((with_reducible refine (HW.out _ hx2).mono ?_); rintro e w3 ⟨rfl, hx3⟩)) | (gi_at_call 49; ((with_reducible refine (HD.out _ (hx2.trans hx3)).mono ?_); rintro e w4 ⟨r, rfl, hx4, hr⟩)))
      refine bodyPost_ret (v := .tuple #[r, .int .i64 0]) (by simp [results, Tryz.results15, go_sem]) rfl ⟨r, rfl, (hx2.trans hx3).trans hx4, hr⟩
end
end Go.Proofs.YtjocoadhalimjaaGreat
