/- The parts of a voyage: each can be divided. -/
import Derived.Test.YtjocoadhalimjaaGreatRAM
import Derived.Test.YtjocoadhalimjaaGreatRAH
set_option linter.unusedSimpArgs false
set_option linter.unusedVariables false
namespace Go.Proofs.YtjocoadhalimjaaGreat
open Go Go.RowKit Go.Shelf

theorem sumW_nonneg {l : List Stk} (hw : ∀ s ∈ l, 0 ≤ s.weight) : 0 ≤ sumW l := by
  rw [sumW_tot hw]; omega
/-- What is divided is all given; none gets less than 0, nor one whose weight is 0 anything. -/
theorem give_facts {P : Int} {l : List Stk} (hP : 0 ≤ P) (hw : ∀ s ∈ l, 0 ≤ s.weight) (hA : 0 < sumW l) (hd : (l.map (·.name)).Nodup) :
    (∀ i, i < l.length → 0 ≤ giveTo P l i ∧ giveTo P l i ≤ P) ∧ (∀ i, (hi : i < l.length) → l[i].weight = 0 → giveTo P l i = 0) ∧ ((List.range l.length).map (giveTo P l)).sum = P := by
  have hO := ltN_orders hd
  have ht : 0 < Sv.tot (List.range l.length) (wN l) := by have := sumW_tot hw; omega
  have hall := Sv.gets_all (s := P.toNat) hO List.nodup_range ht
  refine ⟨fun i hi => ?_, fun i hi h0 => ?_, ?_⟩
  · rw [giveTo_eq hP hw hA hd hi]
    have := Sv.tot_one (w := Sv.gets (List.range l.length) P.toNat (wN l) (ltN l)) (List.mem_range.2 hi)
    omega
  · rw [giveTo_eq hP hw hA hd hi]
    have hw0 : wN l i = 0 := by unfold wN; rw [getD_of hi, h0]; rfl
    have hq : Sv.quo P.toNat (Sv.tot (List.range l.length) (wN l)) (wN l) i = 0 := by unfold Sv.quo; rw [hw0]; simp
    have hr : Sv.rst P.toNat (Sv.tot (List.range l.length) (wN l)) (wN l) i = 0 := by unfold Sv.rst; rw [hw0]; simp
    unfold Sv.gets
    rw [hq]
    split
    · rename_i hlt
      have := Sv.more_rst (s := P.toNat) hO List.nodup_range ht (List.mem_range.2 hi) hlt
      omega
    · rfl
  · rw [sum_cast _ _ (Sv.gets (List.range l.length) P.toNat (wN l) (ltN l)) fun i hi => giveTo_eq hP hw hA hd (List.mem_range.1 hi), hall]
    omega
theorem three_sum (bo ne cr : Int) : sumW (threeS bo ne cr) = bo + ne + cr := by simp [sumW, threeS]; omega
theorem three_names (bo ne cr : Int) : ((threeS bo ne cr).map (·.name)).Nodup := by simp [threeS]; decide
/-- What is divided of a voyage. -/
def netV (V : Voy) : Int := V.gr - V.cs.sum
def partP (V : Voy) (i : Nat) : Int := giveTo (netV V) (threeS V.bo V.ne V.cr) i
theorem net_bound {V : Voy} (h : ValidV V) : 0 ≤ netV V ∧ netV V ≤ 10000000 := by
  have h1 := h.net
  have h2 := h.gr
  have h3 : 0 ≤ V.cs.sum := by
    have : ∀ l : List Int, (∀ x ∈ l, 0 ≤ x) → 0 ≤ l.sum := fun l => by
      induction l with
      | nil => simp
      | cons x l ih => intro hh; have := hh x (by simp); have := ih fun y hy => hh y (by simp [hy]); simp; omega
    exact this _ fun x hx => (h.cs x hx).1
  unfold netV
  omega
theorem part_bound {V : Voy} (h : ValidV V) : (∀ i, i < 3 → 0 ≤ partP V i ∧ partP V i ≤ 10000000) ∧ (V.bo = 0 → partP V 0 = 0) ∧ (V.ne = 0 → partP V 1 = 0) ∧ (V.cr = 0 → partP V 2 = 0) ∧ partP V 0 + partP V 1 + partP V 2 = netV V := by
  have hn := net_bound h
  have hf := give_facts (P := netV V) (l := threeS V.bo V.ne V.cr) hn.1 (fun s hs => by simp [threeS] at hs; have := h.bo; have := h.ne; have := h.cr; rcases hs with rfl | rfl | rfl <;> simp only <;> omega) (by rw [three_sum]; have := h.all; omega) (three_names _ _ _)
  refine ⟨fun i hi => ?_, fun h0 => hf.2.1 0 (by simp [threeS]) (by simp [threeS, h0]), fun h0 => hf.2.1 1 (by simp [threeS]) (by simp [threeS, h0]), fun h0 => hf.2.1 2 (by simp [threeS]) (by simp [threeS, h0]), ?_⟩
  · have := hf.1 i (by simpa [threeS] using hi)
    unfold partP; omega
  · have := hf.2.2
    unfold partP
    simp only [threeS, List.length_cons, List.length_nil, List.range_succ, List.range_zero, List.nil_append, List.map_append, List.map_cons, List.map_nil, List.sum_append, List.sum_cons, List.sum_nil] at this ⊢
    omega
/-- The sum over all lenders. -/
def sum2 (n : Nat) (f : Nat → Int) : Int := ((List.range n).map f).sum
theorem sum2_congr {n : Nat} {f g : Nat → Int} (h : ∀ i, i < n → f i = g i) : sum2 n f = sum2 n g := by
  unfold sum2
  rw [List.map_congr_left fun i hi => h i (List.mem_range.1 hi)]
theorem sum2_succ (n : Nat) (f : Nat → Int) : sum2 (n + 1) f = sum2 n f + f n := by
  unfold sum2; rw [List.range_succ, List.map_append, List.sum_append]; simp
theorem sum2_two {n : Nat} {f g : Nat → Int} {a b : Nat} (x : Int) (ha : a < n) (hb : b < n) (hab : a ≠ b) (h1 : g a = f a - x) (h2 : g b = f b + x) (h3 : ∀ i, i ≠ a → i ≠ b → g i = f i) : sum2 n g = sum2 n f := by
  have key : ∀ m, sum2 m g = sum2 m f - (if a < m then x else 0) + (if b < m then x else 0) := by
    intro m
    induction m with
    | zero => simp [sum2]
    | succ m ih =>
      rw [sum2_succ, sum2_succ, ih]
      by_cases hma : m = a
      · subst hma
        rw [h1]
        split <;> split <;> split <;> split <;> omega
      · by_cases hmb : m = b
        · subst hmb
          rw [h2]
          split <;> split <;> split <;> split <;> omega
        · rw [h3 m hma hmb]
          split <;> split <;> split <;> split <;> omega
  rw [key n, if_pos ha, if_pos hb]; omega
theorem sum8 (l : List Stk) : (l.map fun s => 8 * s.weight).sum = 8 * (l.map fun s => s.weight).sum := by
  induction l with
  | nil => rfl
  | cons s l ih => simp only [List.map_cons, List.sum_cons, ih]; omega
theorem lent_sum {l : List Stk} {xs : List Ln} (hd : (l.map (·.name)).Nodup) : ∀ k, k ≤ xs.length → (∀ j, j < k → lnGood l (xs.getD j noLn) = true) → sum2 l.length (fun i => (lentTo l xs k i).2) = 8 * sumW l
  | 0, _, _ => by
    unfold lentTo lent0 sum2 sumW
    rw [List.take_zero, List.foldl_nil]
    simp only
    rw [map_getD (fun s : Stk => 8 * s.weight) noStk l]
    exact sum8 l
  | k + 1, h, hg => by
    rw [← lent_sum hd k (by omega) (fun j hj => hg j (by omega)), lentTo_succ l (by omega)]
    have hk := hg k (by omega)
    rw [getD_of (by omega)] at hk
    unfold lnGood at hk
    simp only [Bool.and_eq_true, decide_eq_true_eq] at hk
    generalize xs[k] = x at *
    generalize lentTo l xs k = S at *
    rcases placeN_range (nmsOf l) x.f with hp | ⟨a, ha, hp, hna⟩
    · omega
    rcases placeN_range (nmsOf l) x.g with hq | ⟨b, hb, hq, hnb⟩
    · omega
    have hab : a ≠ b := by
      rintro rfl
      have := hk.2.2
      unfold loanB at this
      rw [← hna, ← hnb] at this
      simp at this
    refine sum2_two ((8 - x.r) * x.n) (a := a) (b := b) (by simpa [nmsOf] using ha) (by simpa [nmsOf] using hb) hab ?_ ?_ ?_
    · unfold lnStep; rw [hp, hq, if_neg (by omega), if_pos rfl]
    · unfold lnStep; rw [hp, hq, if_pos rfl]
    · intro i h1 h2
      unfold lnStep; rw [hp, hq, if_neg (by omega), if_neg (by omega)]
theorem lend_ok {l : List Stk} {xs : List Ln} (h : lendB l xs = true) : xs.length ≤ 12 ∧ (∀ j, j < xs.length → lnGood l (xs.getD j noLn) = true) ∧ ∀ i, i < l.length → 0 ≤ (lentTo l xs xs.length i).1 ∧ 0 ≤ (lentTo l xs xs.length i).2 := by
  unfold lendB allTo at h
  simp only [Bool.and_eq_true, decide_eq_true_eq, List.all_eq_true, List.mem_range] at h
  refine ⟨h.1, h.2.1, fun i hi => ?_⟩
  have := h.2.2 i hi
  simp [notLess] at this
  omega
/-- Who has a part of the boat, the nets, the crew. -/
def lentV (V : Voy) : LSt := lentTo V.le V.lo V.lo.length
def partL (V : Voy) (i : Nat) : List Stk := match i with | 0 => V.ow | 1 => clm V.le (lentV V) V.le.length | _ => V.ha
structure CanDiv (P : Int) (l : List Stk) : Prop where
  pb : 0 ≤ P ∧ P ≤ 10000000
  w : ∀ s ∈ l, 0 ≤ s.weight ∧ s.weight ≤ 1000000
  len : l.length ≤ 10
  pos : P = 0 ∨ 0 < sumW l
  nd : (l.map (·.name)).Nodup
theorem clm_sum (l : List Stk) (S : LSt) (n : Nat) : sumW (clm l S n) = sum2 n (fun i => (S i).2) := by
  unfold sumW clm sum2; rw [List.map_map]; rfl
theorem clm_names (l : List Stk) (S : LSt) : (clm l S l.length).map (·.name) = l.map (·.name) := by
  unfold clm; rw [List.map_map]
  exact map_getD (fun s : Stk => s.name) noStk l
theorem can_div {V : Voy} (h : ValidV V) (hl : lendB V.le V.lo = true) : ∀ i, i < 3 → CanDiv (partP V i) (partL V i) := by
  have hb := part_bound h
  have hok := lend_ok hl
  have so := stakes_ok h.ow
  have sl := stakes_ok h.le
  have sh := stakes_ok h.ha
  have pos : ∀ (b : Int) (l : List Stk), stakesB l = true → b = back b l → (b = 0 → partP V 0 = 0) → True := fun _ _ _ _ _ => trivial
  have hz : ∀ (l : List Stk) (b : Int), stakesB l = true → b = back b l → b = 0 ∨ 0 < sumW l := fun l b hs hbk => by
    have := sumW_nonneg (l := l) fun s hh => ((stakes_ok hs).2.1 s hh).2.1
    by_cases h0 : sumW l = 0
    · left; unfold back at hbk; rw [if_pos h0] at hbk; exact hbk
    · right; omega
  intro i hi
  rcases (by omega : i = 0 ∨ i = 1 ∨ i = 2) with rfl | rfl | rfl
  · refine ⟨hb.1 0 (by omega), fun s hs => by have := (so.2.1 s hs).2; omega, so.1, ?_, so.2.2⟩
    rcases hz _ _ h.ow h.bbo with h0 | h0
    · exact .inl (hb.2.1 h0)
    · exact .inr h0
  · have hbn := lentTo_bound (xs := V.lo) (fun s hs => (sl.2.1 s hs).2) V.lo.length (Nat.le_refl _) hok.2.1
    refine ⟨hb.1 1 (by omega), fun s hs => ?_, by show (clm _ _ _).length ≤ 10; rw [clm_len]; exact sl.1, ?_, by show ((clm _ _ _).map _).Nodup; rw [clm_names]; exact sl.2.2⟩
    · obtain ⟨j, hj, rfl⟩ := List.mem_map.1 (show s ∈ (List.range V.le.length).map _ from hs)
      have h1 := (hok.2.2 j (List.mem_range.1 hj)).2
      have h2 := (hbn j).2
      have h3 := hok.1
      simp only
      unfold lentV
      omega
    · show _ ∨ 0 < sumW (clm _ _ _)
      rw [clm_sum]
      have := lent_sum sl.2.2 V.lo.length (Nat.le_refl _) hok.2.1
      unfold lentV
      rw [this]
      rcases hz _ _ h.le h.bne with h0 | h0
      · exact .inl (hb.2.2.1 h0)
      · exact .inr (by omega)
  · refine ⟨hb.1 2 (by omega), fun s hs => by have := (sh.2.1 s hs).2; omega, sh.1, ?_, sh.2.2⟩
    rcases hz _ _ h.ha h.bcr with h0 | h0
    · exact .inl (hb.2.2.2.1 h0)
    · exact .inr h0
/-- What each of a part gets. -/
def partG (V : Voy) (i : Nat) : Nat → Int := giveTo (partP V i) (partL V i)

end Go.Proofs.YtjocoadhalimjaaGreat
