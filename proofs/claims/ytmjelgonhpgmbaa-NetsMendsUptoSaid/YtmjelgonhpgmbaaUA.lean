/- Spinning along bars yields ways: an Euler tour (pure). -/
import Derived.Test.YtmjelgonhpgmbaaMR
set_option linter.unusedSimpArgs false
set_option linter.unusedVariables false
namespace Go.Proofs.Ytmjelgonhpgmbaa
namespace Tw
/-- The bar joins the two knots. -/
def joins (s : Spn) (a b : Int) : Prop := (s.lo = a ∧ s.hi = b) ∨ (s.lo = b ∧ s.hi = a)
theorem joins.symm {s : Spn} {a b : Int} (h : joins s a b) : joins s b a := h.elim .inr .inl
/-- A way along bars, with their numbers. -/
inductive Way (l : List Spn) : List Int → List Nat → Prop
  | one (k : Int) : Way l [k] []
  | cons {a b : Int} {p : List Int} {i : Nat} {is : List Nat} : i < l.length → joins (l.getD i ⟨0, 0⟩) a b → Way l (b :: p) is → Way l (a :: b :: p) (i :: is)
theorem Way.glue {l : List Spn} {a : Int} {q : List Int} {js : List Nat} (h2 : Way l (a :: q) js) : ∀ {p : List Int} {is : List Nat}, Way l (p ++ [a]) is → Way l (p ++ a :: q) (is ++ js)
  | [], is, h => by cases h; exact h2
  | [x], is, h => by
    cases h with
    | cons h1 h3 h4 => cases h4; exact .cons h1 h3 h2
  | x :: y :: p, is, h => by
    cases h with
    | cons h1 h3 h4 => exact .cons h1 h3 (Way.glue h2 (p := y :: p) h4)
theorem Way.snoc {l : List Spn} {p : List Int} {a b : Int} {i : Nat} {is : List Nat} (h : Way l (p ++ [a]) is) (hi : i < l.length) (hj : joins (l.getD i ⟨0, 0⟩) a b) : Way l (p ++ [a] ++ [b]) (is ++ [i]) := by
  have h2 : Way l (a :: [b]) [i] := .cons hi hj (.one b)
  have := Way.glue h2 h
  simpa using this
theorem Way.lt {l : List Spn} {p : List Int} {is : List Nat} (h : Way l p is) : ∀ i ∈ is, i < l.length := by
  induction h with
  | one k => intro i hi; cases hi
  | cons h1 _ _ ih =>
    intro i hi
    rcases List.mem_cons.1 hi with rfl | hi
    · exact h1
    · exact ih i hi
theorem Way.on {l : List Spn} {p : List Int} {is : List Nat} (h : Way l p is) : ∀ i ∈ is, (l.getD i ⟨0, 0⟩).lo ∈ p ∧ (l.getD i ⟨0, 0⟩).hi ∈ p := by
  induction h with
  | one k => intro i hi; cases hi
  | @cons a b p i is h1 h2 _ ih =>
    intro j hj
    rcases List.mem_cons.1 hj with rfl | hj
    · rcases h2 with ⟨h3, h4⟩ | ⟨h3, h4⟩ <;> rw [h3, h4] <;> simp
    · exact ⟨List.mem_cons_of_mem _ (ih j hj).1, List.mem_cons_of_mem _ (ih j hj).2⟩
/-- Just these bars were taken. -/
structure Took (L L' : Nat → Bool) (is : List Nat) : Prop where
  nodup : is.Nodup
  had : ∀ i ∈ is, L i = true
  left : ∀ j, L' j = true ↔ L j = true ∧ j ∉ is
theorem Took.nil (L : Nat → Bool) : Took L L [] := ⟨List.nodup_nil, fun _ h => by simp at h, fun j => by simp⟩
theorem Took.trans {L L1 L2 : Nat → Bool} {is js : List Nat} (h : Took L L1 is) (k : Took L1 L2 js) : Took L L2 (is ++ js) := by
  refine ⟨List.nodup_append.2 ⟨h.nodup, k.nodup, fun a ha b hb e => ?_⟩, fun i hi => ?_, fun j => ?_⟩
  · subst e; exact ((h.left a).1 (k.had a hb)).2 ha
  · rcases List.mem_append.1 hi with hi | hi
    · exact h.had i hi
    · exact ((h.left i).1 (k.had i hi)).1
  · rw [k.left, h.left, List.mem_append]
    constructor
    · rintro ⟨⟨h1, h2⟩, h3⟩; exact ⟨h1, fun h => h.elim h2 h3⟩
    · rintro ⟨h1, h2⟩; exact ⟨⟨h1, fun h => h2 (.inl h)⟩, fun h => h2 (.inr h)⟩
theorem clr_iff (L : Nat → Bool) (i j : Nat) : clr L i j = true ↔ L j = true ∧ j ≠ i := by
  unfold clr; split
  · next h => simp [h]
  · next h => simp [h]
theorem Took.clr {L : Nat → Bool} {i : Nat} (hL : L i = true) : Took L (clr L i) [i] :=
  ⟨List.nodup_cons.2 ⟨by simp, List.nodup_nil⟩, fun j hj => by simp at hj; rw [hj]; exact hL, fun j => by rw [clr_iff]; simp⟩
theorem Took.perm {L L' : Nat → Bool} {is js : List Nat} (h : Took L L' is) (hp : is.Perm js) : Took L L' js :=
  ⟨hp.nodup_iff.1 h.nodup, fun i hi => h.had i (hp.mem_iff.2 hi), fun j => by rw [h.left, hp.mem_iff]⟩
theorem Took.sub {L L' : Nat → Bool} {is : List Nat} (h : Took L L' is) (j : Nat) (hj : L' j = true) : L j = true := ((h.left j).1 hj).1
/-- How many bars that are left meet at a knot. -/
def deg (l : List Spn) (L : Nat → Bool) (k : Int) : Nat := cnt (fun i => L i && meetsB k (l.getD i ⟨0, 0⟩)) l.length
theorem deg_clr {l : List Spn} {L : Nat → Bool} {i : Nat} (hi : i < l.length) (hL : L i = true) (k : Int) : deg l (clr L i) k + (if meetsB k (l.getD i ⟨0, 0⟩) then 1 else 0) = deg l L k := by
  unfold deg
  have e : (fun j => clr L i j && meetsB k (l.getD j ⟨0, 0⟩)) = clr (fun j => L j && meetsB k (l.getD j ⟨0, 0⟩)) i := by
    funext j; unfold clr; split <;> simp_all
  rw [e]
  cases hm : meetsB k (l.getD i ⟨0, 0⟩)
  · have e2 : clr (fun j => L j && meetsB k (l.getD j ⟨0, 0⟩)) i = fun j => L j && meetsB k (l.getD j ⟨0, 0⟩) := by
      funext j
      by_cases hj : j = i
      · subst hj
        show (if j = j then false else _) = _
        rw [if_pos rfl, hm, Bool.and_false]
      · show (if j = i then false else _) = _
        rw [if_neg hj]
    rw [e2]; simp
  · have := cnt_clr (L := fun j => L j && meetsB k (l.getD j ⟨0, 0⟩)) (i := i) (by simp [hL]; simpa using hm) l.length hi
    simpa using this
theorem cnt_zero {L : Nat → Bool} : ∀ {n : Nat}, (∀ j, j < n → L j = false) → cnt L n = 0
  | 0, _ => rfl
  | n + 1, h => by
    unfold cnt; rw [cnt_zero (n := n) fun j hj => h j (by omega), h n (by omega)]; rfl
theorem deg_free {l : List Spn} {L : Nat → Bool} {k : Int} (h : freeAt l k L l.length) : deg l L k = 0 := by
  apply cnt_zero
  intro j hj
  cases hL : L j
  · rfl
  · have := h j hj hL
    simp only [Bool.true_and, meetsB, Bool.or_eq_false_iff, beq_eq_false_iff_ne]
    exact this
/-- At just the two knots an odd number of bars meet; if they are one, at none. -/
def Par (l : List Spn) (L : Nat → Bool) (x y : Int) : Prop := ∀ k, deg l L k % 2 = ((if k = x then 1 else 0) + (if k = y then 1 else 0)) % 2
theorem Par.same {l : List Spn} {L : Nat → Bool} {x : Int} (h : Par l L x x) (y : Int) : Par l L y y := by
  intro k
  have := h k
  split at this <;> split <;> omega
theorem Par.clr {l : List Spn} {L : Nat → Bool} {x y z : Int} {i : Nat} (h : Par l L x y) (hi : i < l.length) (hL : L i = true) (hj : joins (l.getD i ⟨0, 0⟩) x z) (hne : x ≠ z) : Par l (clr L i) z y := by
  intro k
  have h1 := h k
  have h2 := deg_clr hi hL k
  have h3 : meetsB k (l.getD i ⟨0, 0⟩) = (decide (k = x) || decide (k = z)) := by
    unfold meetsB
    rcases hj with ⟨a, b⟩ | ⟨a, b⟩ <;> rw [a, b, Bool.eq_iff_iff] <;> simp <;> constructor <;> (rintro (h | h) <;> simp [h])
  rw [h3] at h2
  by_cases hx : k = x
  · have hz : k ≠ z := fun e => hne (hx.symm.trans e)
    rw [decide_eq_true hx, Bool.true_or, if_pos rfl] at h2
    rw [if_pos hx] at h1
    rw [if_neg hz]
    by_cases hy : k = y
    · rw [if_pos hy] at h1 ⊢; omega
    · rw [if_neg hy] at h1 ⊢; omega
  · rw [if_neg hx] at h1
    by_cases hz : k = z
    · rw [decide_eq_true hz, Bool.or_true, if_pos rfl] at h2
      rw [if_pos hz]
      by_cases hy : k = y
      · rw [if_pos hy] at h1 ⊢; omega
      · rw [if_neg hy] at h1 ⊢; omega
    · rw [decide_eq_false hx, decide_eq_false hz, Bool.or_false, if_neg (by simp)] at h2
      rw [if_neg hz]
      omega
theorem free_mono {l : List Spn} {k : Int} {L L' : Nat → Bool} {n : Nat} (h : freeAt l k L n) (hs : ∀ j, L' j = true → L j = true) : freeAt l k L' n := fun j hj hL => h j hj (hs j hL)

/-- What spinning on from a knot yields. -/
structure Spun (l : List Spn) (L L' : Nat → Bool) (k y : Int) (p : List Int) (is : List Nat) : Prop where
  way : Way l (p ++ [k]) is
  head : (p ++ [k]).head? = some y
  took : Took L L' is
  free : ∀ v ∈ p ++ [k], freeAt l v L' l.length
  even : Par l L' k k

theorem cnt_le_of {L L' : Nat → Bool} (h : ∀ j, L' j = true → L j = true) (n : Nat) : cnt L' n ≤ cnt L n := cnt_mono h n

theorem spinTo_spec {l : List Spn} (hne : ∀ s ∈ l, s.lo ≠ s.hi) {rec : Int → Spin → Spin} {f : Nat} {k y : Int} {L : Nat → Bool} {way : List Int}
    (hfree : ∀ n, n ≤ l.length → freeAt l k (spinTo rec l k (L, way) n).1 n)
    (hrec : ∀ (k y : Int) (L : Nat → Bool) (way : List Int), cnt L l.length < f → Par l L k y → ∃ p is L', rec k (L, way) = (L', way ++ (p ++ [k])) ∧ Spun l L L' k y p is)
    (hc : cnt L l.length < f + 1) (hp : Par l L k y) :
    ∀ n, n ≤ l.length → ∃ w is Ln, spinTo rec l k (L, way) n = (Ln, way ++ w) ∧ Took L Ln is ∧ ((w = [] ∧ is = [] ∧ Ln = L) ∨ (w ≠ [] ∧ Way l (w ++ [k]) is ∧ w.head? = some y ∧ (∀ v ∈ w, freeAt l v Ln l.length) ∧ Par l Ln k k))
  | 0, _ => ⟨[], [], L, by simp [spinTo], Took.nil L, .inl ⟨rfl, rfl, rfl⟩⟩
  | n + 1, hn => by
    obtain ⟨w, is, Ln, e, ht, hw⟩ := spinTo_spec hne hfree hrec hc hp n (by omega)
    have same : spinStep rec l k (Ln, way ++ w) n = (Ln, way ++ w) → ∃ w is Ln, spinTo rec l k (L, way) (n + 1) = (Ln, way ++ w) ∧ Took L Ln is ∧ ((w = [] ∧ is = [] ∧ Ln = L) ∨ (w ≠ [] ∧ Way l (w ++ [k]) is ∧ w.head? = some y ∧ (∀ v ∈ w, freeAt l v Ln l.length) ∧ Par l Ln k k)) := fun h => ⟨w, is, Ln, by unfold spinTo; rw [e, h], ht, hw⟩
    have go : ∀ z, Ln n = true → joins (l.getD n ⟨0, 0⟩) k z → spinStep rec l k (Ln, way ++ w) n = rec z (clr Ln n, way ++ w) → ∃ w is Ln, spinTo rec l k (L, way) (n + 1) = (Ln, way ++ w) ∧ Took L Ln is ∧ ((w = [] ∧ is = [] ∧ Ln = L) ∨ (w ≠ [] ∧ Way l (w ++ [k]) is ∧ w.head? = some y ∧ (∀ v ∈ w, freeAt l v Ln l.length) ∧ Par l Ln k k)) := by
      intro z hL hj hstep
      have hs : l.getD n ⟨0, 0⟩ ∈ l := by rw [List.getD_eq_getElem?_getD, List.getElem?_eq_getElem hn]; exact List.getElem_mem hn
      have hkz : k ≠ z := fun e => hne _ hs (by rcases hj with ⟨a, b⟩ | ⟨a, b⟩ <;> rw [a, b] <;> simp [e])
      have hcl := cnt_clr hL l.length hn
      have hcm := cnt_le_of ht.sub l.length
      rcases hw with ⟨rfl, rfl, rfl⟩ | ⟨hw0, hw1, hw2, hw3, hw4⟩
      · obtain ⟨p, js, L', er, hS⟩ := hrec z y (clr Ln n) (way ++ []) (by omega) (hp.clr hn hL hj hkz)
        refine ⟨p ++ [z], js ++ [n], L', ?_, ?_, .inr ⟨by simp, hS.way.snoc hn hj.symm, hS.head, hS.free, hS.even.same k⟩⟩
        · unfold spinTo; rw [e, hstep, er]; simp
        · exact ((Took.clr hL).trans hS.took).perm (by simpa using List.perm_append_comm (l₁ := [n]) (l₂ := js))
      · obtain ⟨p, js, L', er, hS⟩ := hrec z k (clr Ln n) (way ++ w) (by omega) (hw4.clr hn hL hj hkz)
        have hgl : Way l (w ++ (p ++ [z])) (is ++ js) := by
          have h1 := hS.way
          have h2 := hS.head
          cases hpz : p ++ [z] with
          | nil => simp at hpz
          | cons a q =>
            rw [hpz] at h1 h2
            simp at h2
            subst h2
            exact Way.glue h1 hw1
        refine ⟨w ++ (p ++ [z]), (is ++ js) ++ [n], L', ?_, ?_, .inr ⟨by simp, ?_, ?_, ?_, hS.even.same k⟩⟩
        · unfold spinTo; rw [e, hstep, er]; simp
        · have := (ht.trans ((Took.clr hL).trans hS.took))
          refine this.perm ?_
          rw [List.append_assoc]
          exact List.Perm.append_left is (List.perm_append_comm (l₁ := [n]) (l₂ := js))
        · have := (show Way l ((w ++ p) ++ [z]) (is ++ js) by simpa using hgl).snoc hn hj.symm
          simpa using this
        · rw [List.head?_append, hw2]; rfl
        · intro v hv
          rcases List.mem_append.1 hv with hv | hv
          · exact free_mono (hw3 v hv) fun j hj => ((clr_iff _ _ _).1 (hS.took.sub j hj)).1
          · exact hS.free v hv
    cases hL : Ln n
    · exact same (by unfold spinStep; simp [hL])
    · by_cases h1 : (l.getD n ⟨0, 0⟩).lo = k
      · exact go (l.getD n ⟨0, 0⟩).hi hL (.inl ⟨h1, rfl⟩) (by unfold spinStep; rw [if_pos (show (Ln, way ++ w).1 n = true from hL), if_pos h1])
      · by_cases h2 : (l.getD n ⟨0, 0⟩).hi = k
        · exact go (l.getD n ⟨0, 0⟩).lo hL (.inr ⟨rfl, h2⟩) (by unfold spinStep; rw [if_pos (show (Ln, way ++ w).1 n = true from hL), if_neg h1, if_pos h2])
        · exact same (by unfold spinStep; rw [if_neg h1, if_neg h2]; simp)
theorem spinF_spec {l : List Spn} (hne : ∀ s ∈ l, s.lo ≠ s.hi) : ∀ (f : Nat) (k y : Int) (L : Nat → Bool) (way : List Int), cnt L l.length < f → Par l L k y → ∃ p is L', spinF l f k (L, way) = (L', way ++ (p ++ [k])) ∧ Spun l L L' k y p is
  | 0, k, y, L, way, h, _ => absurd h (by omega)
  | f + 1, k, y, L, way, hc, hp => by
    have hfree := fun n (hn : n ≤ l.length) => spinTo_free (spinF_less l f) k (L, way) n hn
    obtain ⟨w, is, Ln, e, ht, hw⟩ := spinTo_spec hne hfree (spinF_spec hne f) hc hp l.length (Nat.le_refl _)
    have hf := hfree l.length (Nat.le_refl _)
    rw [e] at hf
    have hk : freeAt l k Ln l.length := hf
    have es : spinF l (f + 1) k (L, way) = (Ln, way ++ (w ++ [k])) := by
      show ((spinTo (spinF l f) l k (L, way) l.length).1, (spinTo (spinF l f) l k (L, way) l.length).2 ++ [k]) = _
      rw [e]; simp
    rcases hw with ⟨rfl, rfl, rfl⟩ | ⟨hw0, hw1, hw2, hw3, hw4⟩
    · have hd := deg_free hk
      have h1 := hp k
      rw [hd, if_pos rfl] at h1
      have hy : k = y := by
        by_cases e : k = y
        · exact e
        · rw [if_neg e] at h1; omega
      subst hy
      exact ⟨[], [], Ln, es, .one k, rfl, Took.nil Ln, fun v hv => by simp at hv; rw [hv]; exact hk, hp⟩
    · refine ⟨w, is, Ln, es, hw1, ?_, ht, fun v hv => ?_, hw4⟩
      · rw [List.head?_append, hw2]; rfl
      · rcases List.mem_append.1 hv with hv | hv
        · exact hw3 v hv
        · simp at hv; rw [hv]; exact hk
/-- How often a piece ends at a knot. -/
def endsAt (k : Int) (p : List Int) : Nat := (if p.head? = some k then 1 else 0) + (if p.getLast? = some k then 1 else 0)
def endsOf (k : Int) (qs : List (List Int × List Nat)) : Nat := (qs.map fun q => endsAt k q.1).sum
theorem endsOf_append (k : Int) (a b : List (List Int × List Nat)) : endsOf k (a ++ b) = endsOf k a + endsOf k b := by
  unfold endsOf; rw [List.map_append, List.sum_append_nat]
def handAt (l : List Spn) (nb : Nat) (k : Int) (is : List Nat) : Nat := is.countP fun i => decide (nb ≤ i) && decide ((l.getD i ⟨0, 0⟩).lo = k)
/-- The bars before the number nb are the net's own, all others go to the hand. -/
structure Handed (l : List Spn) (nb : Nat) (P : Int) : Prop where
  own : ∀ i, i < nb → i < l.length → (l.getD i ⟨0, 0⟩).lo ≠ P ∧ (l.getD i ⟨0, 0⟩).hi ≠ P
  hand : ∀ i, nb ≤ i → i < l.length → (l.getD i ⟨0, 0⟩).lo ≠ P ∧ (l.getD i ⟨0, 0⟩).hi = P
structure Cutting (l : List Spn) (nb : Nat) (P : Int) (st : List (List Int) × List Int) (a : Int) (qs : List (List Int × List Nat)) (icur : List Nat) : Prop where
  eq : st.1 = qs.map (·.1)
  good : ∀ q ∈ qs, Way l q.1 q.2 ∧ 2 ≤ q.1.length ∧ ∀ i ∈ q.2, i < nb
  cur : (a = P ∧ st.2 = [] ∧ icur = []) ∨ (a ≠ P ∧ (∃ c, st.2 = c ++ [a]) ∧ Way l st.2 icur ∧ ∀ i ∈ icur, i < nb)
theorem head_snoc {c : List Int} {a b : Int} : ((c ++ [a]) ++ [b]).head? = (c ++ [a]).head? := by cases c <;> rfl
theorem cut_from {l : List Spn} {nb : Nat} {P : Int} (hH : Handed l nb P) {ap : List Int} {is : List Nat} (hw : Way l ap is) :
    ∀ (a : Int) (p : List Int), ap = a :: p → ∀ st qs icur, Cutting l nb P st a qs icur → ∃ z qs' icur', (a :: p).getLast? = some z ∧ Cutting l nb P (p.foldl (cutStep P) st) z qs' icur' ∧
      qs'.flatMap (·.2) ++ icur' = (qs.flatMap (·.2) ++ icur) ++ is.filter (fun i => decide (i < nb)) ∧
      (∀ k : Int, endsOf k qs' + (if (p.foldl (cutStep P) st).2.head? = some k then 1 else 0) ≤ endsOf k qs + (if st.2.head? = some k then 1 else 0) + handAt l nb k is) := by
  induction hw with
  | one k =>
    intro a p e st qs icur h
    cases e
    exact ⟨k, qs, icur, rfl, h, by simp, fun k => by show endsOf k qs + (if st.2.head? = some k then 1 else 0) ≤ _; omega⟩
  | @cons a b p i is hi hj hw ih =>
    intro a' p' e st qs icur h
    cases e
    have key : ∀ (qs1 : List (List Int × List Nat)) (icur1 : List Nat), Cutting l nb P (cutStep P st b) b qs1 icur1 → qs1.flatMap (·.2) ++ icur1 = (qs.flatMap (·.2) ++ icur) ++ [i].filter (fun i => decide (i < nb)) →
        (∀ k : Int, endsOf k qs1 + (if (cutStep P st b).2.head? = some k then 1 else 0) ≤ endsOf k qs + (if st.2.head? = some k then 1 else 0) + handAt l nb k [i]) →
        ∃ z qs' icur', (a :: b :: p).getLast? = some z ∧ Cutting l nb P ((b :: p).foldl (cutStep P) st) z qs' icur' ∧
      qs'.flatMap (·.2) ++ icur' = (qs.flatMap (·.2) ++ icur) ++ (i :: is).filter (fun i => decide (i < nb)) ∧
      (∀ k : Int, endsOf k qs' + (if ((b :: p).foldl (cutStep P) st).2.head? = some k then 1 else 0) ≤ endsOf k qs + (if st.2.head? = some k then 1 else 0) + handAt l nb k (i :: is)) := by
      intro qs1 icur1 h1 h2 h3
      obtain ⟨z, qs', icur', g1, g2, g3, g4⟩ := ih b p rfl (cutStep P st b) qs1 icur1 h1
      refine ⟨z, qs', icur', by rw [← g1]; simp, g2, ?_, fun k => ?_⟩
      · rw [g3, h2, List.append_assoc]
        congr 1
        rw [show (i :: is) = [i] ++ is from rfl, List.filter_append]
      · have a1 := h3 k
        have a2 := g4 k
        have a3 : handAt l nb k (i :: is) = handAt l nb k [i] + handAt l nb k is := by
          unfold handAt; rw [show (i :: is) = [i] ++ is from rfl, List.countP_append]
        rw [a3]
        show _ + (if (p.foldl (cutStep P) (cutStep P st b)).2.head? = some k then 1 else 0) ≤ _
        omega
    have hown : i < nb → a ≠ P ∧ b ≠ P := fun hn => by
      have := hH.own i hn hi
      rcases hj with ⟨e1, e2⟩ | ⟨e1, e2⟩ <;> rw [e1, e2] at this
      · exact this
      · exact this.symm
    have hhand : nb ≤ i → (a = P ∧ b ≠ P ∧ (l.getD i ⟨0, 0⟩).lo = b) ∨ (b = P ∧ a ≠ P ∧ (l.getD i ⟨0, 0⟩).lo = a) := fun hn => by
      have := hH.hand i hn hi
      rcases hj with ⟨e1, e2⟩ | ⟨e1, e2⟩ <;> rw [e1, e2] at this
      · exact .inr ⟨this.2, this.1, e1⟩
      · exact .inl ⟨this.2, this.1, e1⟩
    by_cases hb : b = P
    · -- the hand is come to
      have hn : nb ≤ i := by
        rcases Nat.lt_or_ge i nb with h' | h'
        · exact absurd hb (hown h').2
        · exact h'
      rcases hhand hn with ⟨_, h', _⟩ | ⟨_, ha, hlo⟩
      · exact absurd hb h'
      · rcases h.cur with ⟨h', _⟩ | ⟨_, ⟨c, hc⟩, hcw, hci⟩
        · exact absurd h' ha
        · have hfil : [i].filter (fun i => decide (i < nb)) = [] := by simp; omega
          have hh : ∀ k, handAt l nb k [i] = if a = k then 1 else 0 := fun k => by
            unfold handAt; rw [List.countP_singleton, hlo]; simp [hn]
          by_cases hlen : st.2.length > 1
          · have hst : cutStep P st b = (st.1 ++ [st.2], []) := by unfold cutStep; rw [if_neg (by simp [hb]), if_pos hlen]
            refine key (qs ++ [(st.2, icur)]) [] ⟨?_, ?_, .inl ⟨hb, ?_, rfl⟩⟩ ?_ ?_
            · rw [hst, h.eq]; simp
            · intro q hq
              rcases List.mem_append.1 hq with hq | hq
              · exact h.good q hq
              · simp at hq; subst hq; exact ⟨hcw, by show 2 ≤ st.2.length; omega, hci⟩
            · rw [hst]
            · rw [hfil]; simp
            · intro k
              rw [hst, hh, endsOf_append]
              have : endsOf k [(st.2, icur)] = (if st.2.head? = some k then 1 else 0) + (if a = k then 1 else 0) := by
                show endsAt k st.2 + 0 = _
                unfold endsAt
                have : st.2.getLast? = some a := by rw [hc]; simp
                rw [this]; simp
              rw [this]; simp; omega
          · have hst : cutStep P st b = (st.1, []) := by unfold cutStep; rw [if_neg (by simp [hb]), if_neg hlen]
            have hc0 : c = [] := by rw [hc] at hlen; cases c <;> simp at hlen ⊢
            subst hc0
            rw [hc] at hcw
            cases hcw
            refine key qs [] ⟨by rw [hst]; exact h.eq, h.good, .inl ⟨hb, by rw [hst], rfl⟩⟩ (by rw [hfil]; simp) ?_
            intro k; rw [hst]; simp; omega
    · have hst : cutStep P st b = (st.1, st.2 ++ [b]) := by unfold cutStep; rw [if_pos (by simp [hb])]
      rcases h.cur with ⟨ha, hs, hic⟩ | ⟨ha, ⟨c, hc⟩, hcw, hci⟩
      · -- from the hand
        have hn : nb ≤ i := by
          rcases Nat.lt_or_ge i nb with h' | h'
          · exact absurd ha (hown h').1
          · exact h'
        rcases hhand hn with ⟨_, _, hlo⟩ | ⟨h', _, _⟩
        · have hfil : [i].filter (fun i => decide (i < nb)) = [] := by simp; omega
          have hh : ∀ k, handAt l nb k [i] = if b = k then 1 else 0 := fun k => by
            unfold handAt; rw [List.countP_singleton, hlo]; simp [hn]
          refine key qs [] ⟨by rw [hst]; exact h.eq, h.good, .inr ⟨hb, ⟨[], by rw [hst, hs]⟩, by rw [hst, hs]; exact .one b, by simp⟩⟩ (by rw [hfil, hic]; simp) ?_
          intro k; rw [hst, hs, hh]; simp
        · exact absurd h' hb
      · have hn : i < nb := by
          rcases Nat.lt_or_ge i nb with h' | h'
          · exact h'
          · rcases hhand h' with ⟨h'', _⟩ | ⟨h'', _⟩
            · exact absurd h'' ha
            · exact absurd h'' hb
        have hfil : [i].filter (fun i => decide (i < nb)) = [i] := by simp [hn]
        refine key qs (icur ++ [i]) ⟨by rw [hst]; exact h.eq, h.good, .inr ⟨hb, ⟨st.2, by rw [hst]⟩, ?_, ?_⟩⟩ (by rw [hfil]; simp) ?_
        · rw [hst]
          show Way l (st.2 ++ [b]) _
          rw [hc] at hcw ⊢
          exact hcw.snoc hi hj
        · intro j hj'
          rcases List.mem_append.1 hj' with hj' | hj'
          · exact hci j hj'
          · simp at hj'; omega
        · intro k
          rw [hst]
          show _ + (if (st.2 ++ [b]).head? = some k then 1 else 0) ≤ _
          rw [hc, head_snoc]; omega
/-- The pieces of a way: the bars that are the net's own, each once; they end where bars go to the hand, or the way is one piece. -/
theorem cut_spec {l : List Spn} {nb : Nat} {P : Int} (hH : Handed l nb P) {seg : List Int} {is : List Nat} (hw : Way l seg is) :
    ∃ qs, cutF P seg = qs.map (·.1) ∧ (∀ q ∈ qs, Way l q.1 q.2 ∧ 2 ≤ q.1.length ∧ ∀ i ∈ q.2, i < nb) ∧
      qs.flatMap (·.2) = is.filter (fun i => decide (i < nb)) ∧
      (seg.getLast? = some P → ∀ k : Int, endsOf k qs ≤ (if seg.head? = some k ∧ k ≠ P then 1 else 0) + handAt l nb k is)  := by
  cases hs : seg with
  | nil => rw [hs] at hw; cases hw
  | cons a p =>
    rw [hs] at hw
    have hcut : cutF P (a :: p) = (cutStep P (p.foldl (cutStep P) (cutStep P ([], []) a)) P).1 := by
      unfold cutF cutTo
      rw [List.take_of_length_le (by simp)]
      simp [List.foldl_append]
    have h0 : Cutting l nb P (cutStep P ([], []) a) a [] [] := by
      by_cases ha : a = P
      · have : cutStep P (([] : List (List Int)), ([] : List Int)) a = ([], []) := by unfold cutStep; rw [if_neg (by simp [ha])]; simp
        rw [this]; exact ⟨rfl, by simp, .inl ⟨ha, rfl, rfl⟩⟩
      · have : cutStep P (([] : List (List Int)), ([] : List Int)) a = ([], [a]) := by unfold cutStep; rw [if_pos (by simp [ha])]; simp
        rw [this]; exact ⟨rfl, by simp, .inr ⟨ha, ⟨[], rfl⟩, .one a, by simp⟩⟩
    have h0h : ∀ k, (if (cutStep P (([] : List (List Int)), ([] : List Int)) a).2.head? = some k then 1 else 0) = if (a :: p).head? = some k ∧ k ≠ P then 1 else 0 := fun k => by
      by_cases ha : a = P
      · have : cutStep P (([] : List (List Int)), ([] : List Int)) a = ([], []) := by unfold cutStep; rw [if_neg (by simp [ha])]; simp
        rw [this, if_neg (by simp), if_neg (by simp; rintro rfl; exact ha)]
      · have : cutStep P (([] : List (List Int)), ([] : List Int)) a = ([], [a]) := by unfold cutStep; rw [if_pos (by simp [ha])]; simp
        rw [this]
        by_cases hk : a = k
        · subst hk; simp [ha]
        · simp [hk]
    obtain ⟨z, qs, icur, g1, g2, g3, g4⟩ := cut_from hH hw a p rfl _ _ _ h0
    have g3 : qs.flatMap (·.2) ++ icur = is.filter (fun i => decide (i < nb)) := by simpa using g3
    generalize p.foldl (cutStep P) (cutStep P ([], []) a) = st at *
    rcases g2.cur with ⟨hz, hst, hic⟩ | ⟨hz, ⟨c, hc⟩, hcw, hci⟩
    · subst hic
      refine ⟨qs, ?_, g2.good, by simpa using g3, fun _ k => ?_⟩
      · rw [hcut]; unfold cutStep; rw [if_neg (by simp), if_neg (by rw [hst]; simp)]; exact g2.eq
      · have := g4 k
        rw [h0h] at this
        have e0 : endsOf k [] = 0 := rfl
        omega
    · refine ⟨if st.2.length > 1 then qs ++ [(st.2, icur)] else qs, ?_, ?_, ?_, fun hl => ?_⟩
      · rw [hcut]; unfold cutStep; rw [if_neg (by simp)]
        split
        · simp [g2.eq]
        · exact g2.eq
      · split
        · next hlen =>
          intro q hq
          rcases List.mem_append.1 hq with hq | hq
          · exact g2.good q hq
          · simp at hq; subst hq; exact ⟨hcw, by show 2 ≤ st.2.length; omega, hci⟩
        · exact g2.good
      · split
        · rw [← g3]; simp
        · next hlen =>
          have hc0 : c = [] := by rw [hc] at hlen; cases c <;> simp at hlen ⊢
          subst hc0
          rw [hc] at hcw
          cases hcw
          simpa using g3
      · rw [g1] at hl; exact absurd (Option.some.inj hl) hz

/-- A way along the net's own bars does not come to the hand unless it begins there. -/
theorem way_own {l : List Spn} {nb : Nat} {P : Int} (hH : Handed l nb P) {q : List Int} {js : List Nat} (hq : Way l q js) : (∀ i ∈ js, i < nb) → q.head? ≠ some P → P ∉ q := by
  induction hq with
  | one k => intro _ h; simpa using fun e => h (by rw [e]; rfl)
  | @cons a b p i is hi hj _ ih =>
    intro hr hh
    have := hH.own i (hr i (by simp)) hi
    have hb : b ≠ P := by
      rcases hj with ⟨e1, e2⟩ | ⟨e1, e2⟩
      · rw [e2] at this; exact this.2
      · rw [e1] at this; exact this.1
    rw [List.mem_cons, not_or]
    exact ⟨fun e => hh (by rw [e]; rfl), ih (fun j hj => hr j (List.mem_cons_of_mem _ hj)) (by simpa using hb)⟩
theorem fold_plain {P : Int} : ∀ (p : List Int) (st : List (List Int) × List Int), P ∉ p → p.foldl (cutStep P) st = (st.1, st.2 ++ p)
  | [], st, _ => by simp
  | x :: p, st, h => by
    rw [List.mem_cons, not_or] at h
    rw [List.foldl_cons, show cutStep P st x = (st.1, st.2 ++ [x]) by unfold cutStep; rw [if_pos (by simp; exact fun e => h.1 e.symm)], fold_plain p _ h.2]
    simp
theorem cut_plain {P : Int} {seg : List Int} (h : P ∉ seg) : cutF P seg = if seg.length > 1 then [seg] else [] := by
  unfold cutF cutTo
  rw [List.take_of_length_le (by simp), List.foldl_append, fold_plain seg _ h]
  simp only [List.nil_append, List.foldl_cons, List.foldl_nil]
  unfold cutStep; rw [if_neg (by simp)]
  split <;> rfl

end Tw
end Go.Proofs.Ytmjelgonhpgmbaa
