/- Pure: bids, which win; a price that holds a sale up; what is paid; the clock. -/
import Derived.Test.YtfkehbhlagpmcaaBase
set_option linter.unusedSimpArgs false
set_option linter.unusedVariables false
namespace Go.Proofs.Ytfkehbhlagpmcaa
open Go Go.RowKit Go.Shelf
namespace Au
structure Bd where
  buyer : Nat
  place : Nat
  offer : Int
  deriving DecidableEq, Inhabited
/-- Whether one bid is before another one. -/
def bLt (a b : Bd) : Bool := decide (b.offer < a.offer) || (a.offer == b.offer && (decide (a.buyer < b.buyer) || (a.buyer == b.buyer && decide (a.place < b.place))))
theorem bLt_iff {a b : Bd} : bLt a b = true ↔ b.offer < a.offer ∨ (a.offer = b.offer ∧ (a.buyer < b.buyer ∨ (a.buyer = b.buyer ∧ a.place < b.place))) := by simp [bLt]
theorem bLt_iffN {a b : Bd} : bLt a b = false ↔ ¬ (b.offer < a.offer ∨ (a.offer = b.offer ∧ (a.buyer < b.buyer ∨ (a.buyer = b.buyer ∧ a.place < b.place)))) := by
  rw [← bLt_iff]; simp
theorem bLt_irr (a : Bd) : bLt a a = false := by rw [bLt_iffN]; omega
theorem bLt_tr {a b c : Bd} (h : bLt a b = true) (k : bLt b c = true) : bLt a c = true := by rw [bLt_iff] at *; omega
theorem bLt_asym {a b : Bd} (h : bLt a b = true) : bLt b a = false := by rw [bLt_iff] at h; rw [bLt_iffN]; omega
theorem bLt_ntr {a b c : Bd} (h : bLt a b = false) (k : bLt b c = false) : bLt a c = false := by rw [bLt_iffN] at *; omega
theorem bLt_tot {a b : Bd} (h : bLt a b = false) (k : bLt b a = false) : a = b := by
  rw [bLt_iffN] at *
  cases a; cases b
  simp only [Bd.mk.injEq] at *
  omega
def sorted (m : List Bd) : Prop := m.Pairwise fun a b => bLt b a = false
def sortB (l : List Bd) : List Bd := l.mergeSort fun a b => !bLt b a
theorem sortB_perm (l : List Bd) : (sortB l).Perm l := List.mergeSort_perm _ _
theorem sortB_pair (l : List Bd) : sorted (sortB l) := by
  have h := List.pairwise_mergeSort (le := fun a b : Bd => !bLt b a) (fun a b c h k => by
    rw [Bool.not_eq_true'] at *; exact bLt_ntr k h) (fun a b => by
    cases h : bLt b a with
    | false => rfl
    | true => rw [bLt_asym h]; rfl) l
  exact h.imp fun {a b} h => by simpa using h
theorem sortB_eq {l m : List Bd} (hp : m.Perm l) (hs : sorted m) : m = sortB l :=
  List.Perm.eq_of_pairwise (le := fun a b : Bd => bLt b a = false) (fun _ _ _ _ h1 h2 => (bLt_tot h1 h2).symm) hs (sortB_pair l) (hp.trans (sortB_perm l).symm)
/-- How many are before one. -/
def rank (l : List Bd) (b : Bd) : Nat := l.countP fun c => bLt c b
theorem rank_perm {l m : List Bd} (h : l.Perm m) (b : Bd) : rank l b = rank m b := h.countP_eq _
theorem strict {m : List Bd} (hs : sorted m) (hn : m.Nodup) : m.Pairwise fun a b => bLt a b = true := by
  have h : m.Pairwise fun a b => bLt b a = false ∧ a ≠ b := List.Pairwise.and hs hn
  refine h.imp fun {a b} ⟨h1, h2⟩ => ?_
  cases hc : bLt a b with
  | true => rfl
  | false => exact absurd (bLt_tot hc h1) h2
theorem mem_takeS : ∀ (σ : List Bd) (k : Nat) (b : Bd), σ.Pairwise (fun a b => bLt a b = true) → (b ∈ σ.take k ↔ b ∈ σ ∧ rank σ b < k)
  | [], k, b, _ => by simp
  | a :: t, 0, b, _ => by simp
  | a :: t, k + 1, b, hp => by
    have hp' := hp
    rw [List.pairwise_cons] at hp'
    rw [List.take_succ_cons, List.mem_cons, mem_takeS t k b hp'.2, List.mem_cons]
    have hhead : rank (a :: t) a = 0 := by
      show List.countP _ _ = 0
      rw [List.countP_eq_zero]
      intro x hx
      rcases List.mem_cons.1 hx with rfl | hx
      · simp [bLt_irr]
      · simp [bLt_asym (hp'.1 x hx)]
    have htail : b ∈ t → rank (a :: t) b = rank t b + 1 := fun hb => by
      show List.countP _ _ = _
      rw [List.countP_cons_of_pos (p := fun j => bLt j b) (hp'.1 b hb)]; rfl
    constructor
    · rintro (rfl | ⟨hm, hr⟩)
      · exact ⟨.inl rfl, by rw [hhead]; omega⟩
      · exact ⟨.inr hm, by rw [htail hm]; omega⟩
    · rintro ⟨rfl | hm, hr⟩
      · exact .inl rfl
      · rw [htail hm] at hr; exact .inr ⟨hm, by omega⟩
/-- The first bids. -/
def top (k : Nat) (l : List Bd) : List Bd := (sortB l).take k
theorem mem_top {k : Nat} {l : List Bd} (hn : l.Nodup) {b : Bd} : b ∈ top k l ↔ b ∈ l ∧ rank l b < k := by
  unfold top
  rw [mem_takeS _ _ _ (strict (sortB_pair l) ((sortB_perm l).nodup_iff.2 hn)), (sortB_perm l).mem_iff, rank_perm (sortB_perm l)]
theorem top_nodup {k : Nat} {l : List Bd} (hn : l.Nodup) : (top k l).Nodup := ((sortB_perm l).nodup_iff.2 hn).sublist (List.take_sublist _ _)
theorem top_length (k : Nat) (l : List Bd) : (top k l).length = min k l.length := by
  unfold top; rw [List.length_take, (sortB_perm l).length_eq]
/-- With more crans. -/
theorem top_mono {k k' : Nat} (h : k ≤ k') {l : List Bd} (hn : l.Nodup) {b : Bd} (hb : b ∈ top k l) : b ∈ top k' l := by
  rw [mem_top hn] at *; exact ⟨hb.1, by omega⟩
/-- Of fewer bids. -/
theorem top_fewer {k : Nat} {l m : List Bd} (hn : l.Nodup) (hm : m.Nodup) (hs : m.Sublist l) {b : Bd} (hb : b ∈ top k l) (hbm : b ∈ m) : b ∈ top k m := by
  rw [mem_top hn] at hb; rw [mem_top hm]
  exact ⟨hbm, Nat.lt_of_le_of_lt (hs.countP_le) hb.2⟩
/-- One that wins is before each one that loses. -/
theorem top_before {k : Nat} {l : List Bd} (hn : l.Nodup) {a b : Bd} (ha : a ∈ top k l) (hb : b ∈ l) (hbn : b ∉ top k l) : bLt a b = true := by
  have hs := strict (sortB_pair l) ((sortB_perm l).nodup_iff.2 hn)
  have hb' := (sortB_perm l).mem_iff.2 hb
  rw [← List.take_append_drop k (sortB l)] at hs hb'
  rw [List.pairwise_append] at hs
  refine hs.2.2 a ha b ?_
  rcases List.mem_append.1 hb' with h | h
  · exact absurd h hbn
  · exact h
/-- All up to one that wins win. -/
theorem top_up {k : Nat} {l : List Bd} (hn : l.Nodup) {a b : Bd} (hb : b ∈ top k l) (ha : a ∈ l) (h : bLt a b = true) : a ∈ top k l := by
  by_cases hc : a ∈ top k l
  · exact hc
  · have := top_before hn hb ha hc
    rw [bLt_asym this] at h; cases h
def sumO (l : List Bd) : Int := (l.map (·.offer)).sum
theorem sumO_nil : sumO [] = 0 := rfl
theorem sumO_cons (b : Bd) (l : List Bd) : sumO (b :: l) = b.offer + sumO l := by simp [sumO]
theorem sumO_append (l m : List Bd) : sumO (l ++ m) = sumO l + sumO m := by simp [sumO, List.sum_append]
theorem sum_perm {l m : List Int} (h : l.Perm m) : l.sum = m.sum := by
  induction h with
  | nil => rfl
  | cons x _ ih => simp [ih]
  | swap x y l => simp; omega
  | trans _ _ ih1 ih2 => rw [ih1, ih2]
theorem sumO_perm {l m : List Bd} (h : l.Perm m) : sumO l = sumO m := sum_perm (h.map _)
theorem sumO_split (p : Bd → Bool) : ∀ l : List Bd, sumO l = sumO (l.filter p) + sumO (l.filter fun b => !p b)
  | [] => rfl
  | b :: l => by
    rw [sumO_cons, sumO_split p l]
    cases h : p b
    · rw [List.filter_cons_of_neg (by simp [h]), List.filter_cons_of_pos (by simp [h]), sumO_cons]; omega
    · rw [List.filter_cons_of_pos (by simp [h]), List.filter_cons_of_neg (by simp [h]), sumO_cons]; omega
theorem length_split (p : Bd → Bool) : ∀ l : List Bd, l.length = (l.filter p).length + (l.filter fun b => !p b).length
  | [] => rfl
  | b :: l => by
    rw [List.length_cons, length_split p l]
    cases h : p b
    · rw [List.filter_cons_of_neg (by simp [h]), List.filter_cons_of_pos (by simp [h]), List.length_cons]; omega
    · rw [List.filter_cons_of_pos (by simp [h]), List.filter_cons_of_neg (by simp [h]), List.length_cons]; omega

/-- A sale. -/
structure Sal where
  crans : Int
  least : Int
  offers : List (List Int)
  deriving Inhabited
/-- The offers of a buyer. -/
def Sal.of (s : Sal) (i : Nat) : List Int := s.offers.getD i []
/-- The bids of a buyer, up to a place. -/
def bids1 (least : Int) (i : Nat) (l : List Int) (n : Nat) : List Bd := ((List.range n).map fun k => (⟨i, k, l.getD k 0⟩ : Bd)).filter fun b => decide (least ≤ b.offer)
theorem bids1_zero (least : Int) (i : Nat) (l : List Int) : bids1 least i l 0 = [] := rfl
theorem bids1_succ (least : Int) (i : Nat) (l : List Int) (n : Nat) : bids1 least i l (n + 1) = bids1 least i l n ++ (if least ≤ l.getD n 0 then [⟨i, n, l.getD n 0⟩] else []) := by
  unfold bids1
  rw [List.range_succ, List.map_append, List.filter_append]
  congr 1
  by_cases h : least ≤ l.getD n 0
  · rw [if_pos h]; simp only [List.map_cons, List.map_nil]; rw [List.filter_cons_of_pos (by simpa using h)]; rfl
  · rw [if_neg h]; simp only [List.map_cons, List.map_nil]; rw [List.filter_cons_of_neg (by simpa using h)]; rfl
/-- The bids of the first buyers. -/
def bidsTo (s : Sal) (n : Nat) : List Bd := (List.range n).flatMap fun i => bids1 s.least i (s.of i) (s.of i).length
theorem bidsTo_zero (s : Sal) : bidsTo s 0 = [] := rfl
theorem bidsTo_succ (s : Sal) (n : Nat) : bidsTo s (n + 1) = bidsTo s n ++ bids1 s.least n (s.of n) (s.of n).length := by
  unfold bidsTo; rw [List.range_succ, List.flatMap_append]; simp
def bids (s : Sal) : List Bd := bidsTo s s.offers.length
theorem mem_bids1 {least : Int} {i : Nat} {l : List Int} {n : Nat} {b : Bd} : b ∈ bids1 least i l n ↔ b.buyer = i ∧ b.place < n ∧ b.offer = l.getD b.place 0 ∧ least ≤ b.offer := by
  unfold bids1
  rw [List.mem_filter, List.mem_map, decide_eq_true_eq]
  constructor
  · rintro ⟨⟨k, hk, rfl⟩, h⟩
    exact ⟨rfl, List.mem_range.1 hk, rfl, h⟩
  · rintro ⟨h1, h2, h3, h4⟩
    exact ⟨⟨b.place, List.mem_range.2 h2, by cases b; simp only at *; rw [h1, h3]⟩, h4⟩
theorem mem_bidsTo {s : Sal} {n : Nat} {b : Bd} : b ∈ bidsTo s n ↔ b.buyer < n ∧ b.place < (s.of b.buyer).length ∧ b.offer = (s.of b.buyer).getD b.place 0 ∧ s.least ≤ b.offer := by
  unfold bidsTo
  rw [List.mem_flatMap]
  constructor
  · rintro ⟨i, hi, hb⟩
    obtain ⟨rfl, h⟩ := mem_bids1.1 hb
    exact ⟨List.mem_range.1 hi, h⟩
  · rintro ⟨h1, h⟩
    exact ⟨b.buyer, List.mem_range.2 h1, mem_bids1.2 ⟨rfl, h⟩⟩
theorem mem_bids {s : Sal} {b : Bd} : b ∈ bids s ↔ b.buyer < s.offers.length ∧ b.place < (s.of b.buyer).length ∧ b.offer = (s.of b.buyer).getD b.place 0 ∧ s.least ≤ b.offer := mem_bidsTo
theorem nodup_bids1 (least : Int) (i : Nat) (l : List Int) (n : Nat) : (bids1 least i l n).Nodup := by
  unfold bids1
  refine List.Nodup.sublist List.filter_sublist ?_
  show List.Pairwise _ _
  rw [List.pairwise_map]
  exact List.Pairwise.imp (fun {a b} h e => h (by injection e)) (List.nodup_range (n := n))
theorem nodup_bidsTo (s : Sal) (n : Nat) : (bidsTo s n).Nodup := by
  induction n with
  | zero => simp [bidsTo_zero]
  | succ n ih =>
    rw [bidsTo_succ]
    show List.Pairwise _ _
    rw [List.pairwise_append]
    refine ⟨ih, nodup_bids1 _ _ _ _, fun a ha b hb e => ?_⟩
    subst e
    have h1 := (mem_bidsTo.1 ha).1
    have h2 := (mem_bids1.1 hb).1
    omega
theorem nodup_bids (s : Sal) : (bids s).Nodup := nodup_bidsTo s _
theorem bids1_length (least : Int) (i : Nat) (l : List Int) (n : Nat) : (bids1 least i l n).length ≤ n := by
  unfold bids1
  have := List.length_filter_le (fun b : Bd => decide (least ≤ b.offer)) ((List.range n).map fun k => (⟨i, k, l.getD k 0⟩ : Bd))
  simpa using this
theorem bidsTo_length {s : Sal} {m : Nat} (h : ∀ i, (s.of i).length ≤ m) (n : Nat) : (bidsTo s n).length ≤ n * m := by
  induction n with
  | zero => simp [bidsTo_zero]
  | succ n ih =>
    rw [bidsTo_succ, List.length_append, Nat.succ_mul]
    have := bids1_length s.least n (s.of n) (s.of n).length
    have := h n
    omega
/-- The bids that win. -/
def wn (s : Sal) : List Bd := top s.crans.toNat (bids s)
def gets (s : Sal) (i : Nat) : Nat := (wn s).countP fun b => b.buyer == i
def worth (s : Sal) : Int := sumO (wn s) + s.least * (s.crans - (wn s).length)
def without (s : Sal) (i : Nat) : Sal := { s with offers := s.offers.set i [] }
def lost (s : Sal) (i : Nat) : List Bd := (wn (without s i)).filter fun b => !decide (b ∈ wn s)
def pays (s : Sal) (i : Nat) : Int := sumO (lost s i) + s.least * ((gets s i : Int) - (lost s i).length)
/-- A list of offers as it must be. -/
structure Fall (l : List Int) : Prop where
  len : l.length ≤ 40
  low : ∀ i, i < l.length → 0 ≤ l.getD i 0 ∧ l.getD i 0 ≤ 10000
  fall : ∀ i j, i ≤ j → j < l.length → l.getD j 0 ≤ l.getD i 0
theorem Fall.nil : Fall [] := ⟨by simp, fun i h => by simp at h, fun i j _ h => by simp at h⟩
structure Ok (s : Sal) : Prop where
  crans : 0 ≤ s.crans ∧ s.crans ≤ 40
  least : 0 ≤ s.least ∧ s.least ≤ 10000
  n : 1 ≤ s.offers.length ∧ s.offers.length ≤ 8
  fall : ∀ i, Fall (s.of i)
theorem of_out {s : Sal} {i : Nat} (h : s.offers.length ≤ i) : s.of i = [] := by unfold Sal.of; simp [List.getElem?_eq_none h]
theorem wn_bids {s : Sal} {b : Bd} (h : b ∈ wn s) : b ∈ bids s := ((mem_top (nodup_bids s)).1 h).1
theorem wn_nodup (s : Sal) : (wn s).Nodup := top_nodup (nodup_bids s)
theorem wn_buyer {s : Sal} {b : Bd} (h : b ∈ wn s) : b.buyer < s.offers.length := (mem_bids.1 (wn_bids h)).1
def mk (s : Sal) (i k : Nat) : Bd := ⟨i, k, (s.of i).getD k 0⟩
theorem wn_eq {s : Sal} {b : Bd} (h : b ∈ wn s) : b = mk s b.buyer b.place := by
  have := (mem_bids.1 (wn_bids h)).2.2.1
  cases b; simp only [mk, Bd.mk.injEq, true_and] at *; exact this
theorem wn_prefix {s : Sal} (ho : Ok s) {i k k' : Nat} (h : mk s i k ∈ wn s) (hk : k' ≤ k) : mk s i k' ∈ wn s := by
  rcases Nat.eq_or_lt_of_le hk with rfl | hlt
  · exact h
  · have hb := mem_bids.1 (wn_bids h)
    simp only [mk] at hb
    have hf := (ho.fall i).fall k' k hk hb.2.1
    obtain ⟨b1, b2, b3, b4⟩ := hb
    refine top_up (nodup_bids s) h (mem_bids.2 ⟨b1, by show k' < (s.of i).length; omega, rfl, by show s.least ≤ (s.of i).getD k' 0; omega⟩) ?_
    rw [bLt_iff]
    show (s.of i).getD k 0 < (s.of i).getD k' 0 ∨ ((s.of i).getD k' 0 = (s.of i).getD k 0 ∧ (i < i ∨ (i = i ∧ k' < k)))
    omega
theorem down {P : Nat → Prop} (hd : ∀ k k', P k → k' ≤ k → P k') : ∀ n, ∃ g, g ≤ n ∧ ∀ k, k < n → (P k ↔ k < g)
  | 0 => ⟨0, Nat.le_refl _, fun k h => absurd h (by omega)⟩
  | n + 1 => by
    by_cases hp : P n
    · exact ⟨n + 1, Nat.le_refl _, fun k hk => ⟨fun _ => hk, fun _ => hd n k hp (by omega)⟩⟩
    · obtain ⟨g, h1, h2⟩ := down hd n
      refine ⟨g, by omega, fun k hk => ?_⟩
      by_cases hkn : k = n
      · subst hkn; exact ⟨fun h => absurd h hp, fun h => by omega⟩
      · exact h2 k (by omega)
/-- The bids of a buyer that win are the first ones of their list. -/
theorem wn_of {s : Sal} (ho : Ok s) (i : Nat) : gets s i ≤ (s.of i).length ∧ ((wn s).filter fun b => b.buyer == i).Perm ((List.range (gets s i)).map (mk s i)) := by
  obtain ⟨g, hg, hp⟩ := down (P := fun k => mk s i k ∈ wn s) (fun k k' h hk => wn_prefix ho h hk) (s.of i).length
  have hmem : ∀ b, b ∈ ((wn s).filter fun b => b.buyer == i) ↔ b ∈ (List.range g).map (mk s i) := fun b => by
    rw [List.mem_filter, List.mem_map, beq_iff_eq]
    constructor
    · rintro ⟨hb, rfl⟩
      have he := wn_eq hb
      have hl := (mem_bids.1 (wn_bids hb)).2.1
      exact ⟨b.place, List.mem_range.2 ((hp _ hl).1 (he ▸ hb)), he.symm⟩
    · rintro ⟨k, hk, rfl⟩
      have hk := List.mem_range.1 hk
      exact ⟨(hp k (by omega)).2 hk, rfl⟩
  have hperm : ((wn s).filter fun b => b.buyer == i).Perm ((List.range g).map (mk s i)) :=
    (List.perm_ext_iff_of_nodup ((wn_nodup s).sublist List.filter_sublist) (by
      show List.Pairwise _ _
      rw [List.pairwise_map]
      exact List.Pairwise.imp (fun {a b} h e => h (by injection e)) (List.nodup_range (n := g)))).2 hmem
  have he : gets s i = g := by
    unfold gets
    rw [List.countP_eq_length_filter, hperm.length_eq]; simp
  rw [he]
  exact ⟨hg, hperm⟩
theorem mem_wn {s : Sal} (ho : Ok s) {b : Bd} : b ∈ wn s ↔ b.place < gets s b.buyer ∧ b = mk s b.buyer b.place := by
  constructor
  · intro h
    have h1 : b ∈ ((wn s).filter fun c => c.buyer == b.buyer) := List.mem_filter.2 ⟨h, by simp⟩
    rw [(wn_of ho b.buyer).2.mem_iff, List.mem_map] at h1
    obtain ⟨k, hk, e⟩ := h1
    have : b.place = k := by rw [← e]; rfl
    exact ⟨by rw [this]; exact List.mem_range.1 hk, wn_eq h⟩
  · rintro ⟨h1, h2⟩
    have h3 : b ∈ ((wn s).filter fun c => c.buyer == b.buyer) := (wn_of ho b.buyer).2.mem_iff.2 (List.mem_map.2 ⟨_, List.mem_range.2 h1, h2.symm⟩)
    exact (List.mem_filter.1 h3).1
theorem gets_out {s : Sal} {i : Nat} (h : s.offers.length ≤ i) : gets s i = 0 := by
  unfold gets
  rw [List.countP_eq_zero]
  intro b hb
  have := wn_buyer hb
  simp; omega
/-- Sums over the buyers. -/
def sumN (n : Nat) (f : Nat → Int) : Int := ((List.range n).map f).sum
theorem sumN_zero (f : Nat → Int) : sumN 0 f = 0 := rfl
theorem sumN_succ (n : Nat) (f : Nat → Int) : sumN (n + 1) f = sumN n f + f n := by simp [sumN, List.range_succ, List.sum_append]
theorem sumN_congr {n : Nat} {f g : Nat → Int} (h : ∀ i, i < n → f i = g i) : sumN n f = sumN n g := by
  induction n with
  | zero => rfl
  | succ n ih => rw [sumN_succ, sumN_succ, ih fun i hi => h i (by omega), h n (by omega)]
theorem sumN_le {n : Nat} {f g : Nat → Int} (h : ∀ i, i < n → f i ≤ g i) : sumN n f ≤ sumN n g := by
  induction n with
  | zero => exact Int.le_refl _
  | succ n ih => rw [sumN_succ, sumN_succ]; have := ih fun i hi => h i (by omega); have := h n (by omega); omega
theorem sumN_add (n : Nat) (f g : Nat → Int) : sumN n (fun i => f i + g i) = sumN n f + sumN n g := by
  induction n with
  | zero => rfl
  | succ n ih => rw [sumN_succ, sumN_succ, sumN_succ, ih]; omega
theorem sumN_mul (n : Nat) (t : Int) (f : Nat → Int) : sumN n (fun i => t * f i) = t * sumN n f := by
  induction n with
  | zero => simp [sumN_zero]
  | succ n ih => rw [sumN_succ, sumN_succ, ih, Int.mul_add]
theorem sumN_set {n : Nat} {f g : Nat → Int} {i : Nat} (hi : i < n) (h : ∀ j, j < n → j ≠ i → f j = g j) : sumN n f = sumN n g - g i + f i := by
  induction n with
  | zero => omega
  | succ n ih =>
    rw [sumN_succ, sumN_succ]
    by_cases hn : i = n
    · subst hn; rw [sumN_congr (n := i) fun j hj => h j (by omega) (by omega)]; omega
    · rw [ih (by omega) fun j hj => h j (by omega), h n (by omega) (Ne.symm hn)]; omega
theorem sumO_by : ∀ (n : Nat) (l : List Bd), (∀ b ∈ l, b.buyer < n) → sumO l = sumN n fun i => sumO (l.filter fun b => b.buyer == i)
  | 0, l, h => by
    cases l with
    | nil => rfl
    | cons b l => have := h b (.head _); omega
  | n + 1, l, h => by
    rw [sumN_succ, sumO_split (fun b => b.buyer == n) l, sumO_by n (l.filter fun b => !(b.buyer == n)) (fun b hb => by
      rw [List.mem_filter] at hb; have := h b hb.1; have h2 := hb.2; simp at h2; omega), Int.add_comm]
    congr 1
    refine sumN_congr fun i hi => ?_
    rw [List.filter_filter]
    congr 1
    refine List.filter_congr fun b _ => ?_
    by_cases hb : b.buyer = i
    · simp [hb]; omega
    · simp [hb]
theorem length_by : ∀ (n : Nat) (l : List Bd), (∀ b ∈ l, b.buyer < n) → (l.length : Int) = sumN n fun i => ((l.countP fun b => b.buyer == i : Nat) : Int)
  | 0, l, h => by
    cases l with
    | nil => rfl
    | cons b l => have := h b (.head _); omega
  | n + 1, l, h => by
    have hl := length_split (fun b => b.buyer == n) l
    have ih := length_by n (l.filter fun b => !(b.buyer == n)) (fun b hb => by
      rw [List.mem_filter] at hb; have := h b hb.1; have h2 := hb.2; simp at h2; omega)
    rw [sumN_succ, List.countP_eq_length_filter]
    have hc : sumN n (fun i => (((l.filter fun b => !(b.buyer == n)).countP fun b => b.buyer == i : Nat) : Int)) = sumN n (fun i => ((l.countP fun b => b.buyer == i : Nat) : Int)) := by
      refine sumN_congr fun i hi => ?_
      rw [List.countP_filter]
      congr 1
      refine List.countP_congr fun b _ => ?_
      by_cases hb : b.buyer = i
      · simp [hb]; omega
      · simp [hb]
    rw [hc] at ih
    omega
/-- What a buyer's crans are worth to them, by their offers. -/
def own (s : Sal) (i : Nat) : Int := ((s.of i).take (gets s i)).sum
theorem take_map (l : List Int) (g : Nat) (hg : g ≤ l.length) : (List.range g).map (fun k => l.getD k 0) = l.take g := by
  apply List.ext_getElem
  · simp; omega
  · intro k h1 h2
    simp at h1 h2 ⊢
    rw [List.getElem?_eq_getElem (by omega)]; rfl
theorem own_eq {s : Sal} (ho : Ok s) (i : Nat) : sumO ((wn s).filter fun b => b.buyer == i) = own s i := by
  rw [sumO_perm (wn_of ho i).2]
  unfold sumO own
  rw [List.map_map, ← take_map _ _ (wn_of ho i).1]; rfl
theorem sum_wn {s : Sal} (ho : Ok s) : sumO (wn s) = sumN s.offers.length (own s) := by
  rw [sumO_by s.offers.length _ fun b hb => wn_buyer hb]
  exact sumN_congr fun i _ => own_eq ho i
theorem len_wn (s : Sal) : ((wn s).length : Int) = sumN s.offers.length fun i => (gets s i : Int) := length_by _ _ fun b hb => wn_buyer hb
theorem wn_length {s : Sal} (ho : Ok s) : ((wn s).length : Int) ≤ s.crans ∧ (wn s).length ≤ 40 ∧ (wn s).length = min s.crans.toNat (bids s).length := by
  have h := top_length s.crans.toNat (bids s)
  have := ho.crans
  unfold wn
  refine ⟨?_, ?_, h⟩ <;> omega
theorem worth_eq {s : Sal} (ho : Ok s) : worth s = sumN s.offers.length (own s) + s.least * (s.crans - sumN s.offers.length fun i => (gets s i : Int)) := by
  unfold worth; rw [sum_wn ho, len_wn s]
theorem exists_min : ∀ {l : List Bd}, l ≠ [] → ∃ b ∈ l, ∀ c ∈ l, b.offer ≤ c.offer
  | [b], _ => ⟨b, .head _, fun c hc => by rcases List.mem_cons.1 hc with rfl | h; exact Int.le_refl _; cases h⟩
  | b :: c :: l, _ => by
    obtain ⟨m, hm, h⟩ := exists_min (l := c :: l) (by simp)
    by_cases hb : b.offer ≤ m.offer
    · refine ⟨b, .head _, fun d hd => ?_⟩
      rcases List.mem_cons.1 hd with rfl | hd
      · exact Int.le_refl _
      · have := h d hd; omega
    · refine ⟨m, .tail _ hm, fun d hd => ?_⟩
      rcases List.mem_cons.1 hd with rfl | hd
      · omega
      · exact h d hd
/-- A price that holds the sale up. -/
theorem price {s : Sal} (ho : Ok s) : ∃ t, s.least ≤ t ∧ t ≤ 10000 ∧ (∀ b ∈ wn s, t ≤ b.offer) ∧ (∀ b ∈ bids s, b ∉ wn s → b.offer ≤ t) ∧ (((wn s).length : Int) < s.crans → t = s.least) := by
  have hl := wn_length ho
  have hcr := ho.crans
  have hle := ho.least
  have hoff : ∀ b ∈ bids s, b.offer ≤ 10000 := fun b hb => by
    have := mem_bids.1 hb
    have := ((ho.fall b.buyer).low b.place this.2.1).2
    omega
  by_cases hc : ((wn s).length : Int) < s.crans
  · have hall : wn s = sortB (bids s) := by
      unfold wn top; rw [List.take_of_length_le]; rw [(sortB_perm _).length_eq]; omega
    refine ⟨s.least, Int.le_refl _, by omega, fun b hb => (mem_bids.1 (wn_bids hb)).2.2.2, fun b hb hn => absurd ?_ hn, fun _ => rfl⟩
    rw [hall]; exact (sortB_perm _).mem_iff.2 hb
  · by_cases h0 : wn s = []
    · refine ⟨10000, by omega, Int.le_refl _, fun b hb => (by rw [h0] at hb; cases hb), fun b hb _ => hoff b hb, fun h => absurd h hc⟩
    · obtain ⟨m, hm, hmin⟩ := exists_min h0
      refine ⟨m.offer, (mem_bids.1 (wn_bids hm)).2.2.2, hoff m (wn_bids hm), hmin, fun b hb hn => ?_, fun h => absurd h hc⟩
      have := top_before (nodup_bids s) hm hb hn
      rw [bLt_iff] at this; omega
/-- What is over at a price. -/
def sp (t : Int) (l : List Int) : Int := (l.map fun o => max 0 (o - t)).sum
theorem sp_nonneg (t : Int) : ∀ l, 0 ≤ sp t l
  | [] => Int.le_refl _
  | x :: l => by have := sp_nonneg t l; simp only [sp, List.map_cons, List.sum_cons] at *; omega
theorem take_sum {t : Int} : ∀ {l : List Int} {g : Nat}, g ≤ l.length → (∀ k, k < g → t ≤ l.getD k 0) → (∀ k, g ≤ k → k < l.length → l.getD k 0 ≤ t) → (l.take g).sum = t * g + sp t l
  | [], g, hg, _, _ => by simp at hg; subst hg; simp [sp]
  | x :: l, 0, _, _, h2 => by
    have ih := take_sum (t := t) (l := l) (g := 0) (by omega) (fun k h => absurd h (by omega)) (fun k _ hk => by have := h2 (k + 1) (by omega) (by simpa using hk); simpa using this)
    have hx := h2 0 (by omega) (by simp)
    simp only [sp, List.map_cons, List.sum_cons, List.take_zero, List.sum_nil, List.getD_cons_zero] at *
    omega
  | x :: l, g + 1, hg, h1, h2 => by
    have ih := take_sum (t := t) (l := l) (g := g) (by simpa using hg) (fun k h => by have := h1 (k + 1) (by omega); simpa using this) (fun k h hk => by have := h2 (k + 1) (by omega) (by simpa using hk); simpa using this)
    have hx := h1 0 (by omega)
    simp only [sp, List.map_cons, List.sum_cons, List.take_succ_cons, List.getD_cons_zero, Int.natCast_add, Int.natCast_one, Int.mul_add, Int.mul_one] at *
    omega
/-- What the first of so many crans are worth, each at least some number. -/
def valF (l : List Int) (k : Nat) (c : Int) : Int := ((List.range k).map fun j => if j < l.length then max c (l.getD j 0) else c).sum
theorem valF_succ (l : List Int) (k : Nat) (c : Int) : valF l (k + 1) c = valF l k c + if k < l.length then max c (l.getD k 0) else c := by simp [valF, List.range_succ, List.sum_append]
theorem valF_cons (x : Int) (l : List Int) (k : Nat) (c : Int) : valF (x :: l) (k + 1) c = max c x + valF l k c := by
  unfold valF
  rw [List.range_succ_eq_map]
  simp [Function.comp_def]
theorem valF_nil (c : Int) : ∀ k, valF [] k c = c * k
  | 0 => by simp [valF]
  | k + 1 => by rw [valF_succ, valF_nil c k]; simp [Int.mul_add]
theorem valF_le {t c : Int} (hc : c ≤ t) : ∀ (l : List Int) (k : Nat), valF l k c ≤ t * k + sp t l
  | [], k => by
    rw [valF_nil]
    have := Int.mul_le_mul_of_nonneg_right hc (Int.natCast_nonneg k)
    simp [sp]; omega
  | x :: l, 0 => by have := sp_nonneg t (x :: l); simp [valF]; omega
  | x :: l, k + 1 => by
    rw [valF_cons]
    have ih := valF_le hc l k
    simp only [sp, List.map_cons, List.sum_cons, Int.natCast_add, Int.natCast_one, Int.mul_add, Int.mul_one] at *
    omega
theorem valF_take {l : List Int} (hl : ∀ i, i < l.length → 0 ≤ l.getD i 0) : ∀ {g : Nat}, g ≤ l.length → valF l g 0 = (l.take g).sum
  | 0, _ => by simp [valF]
  | g + 1, h => by
    rw [valF_succ, valF_take hl (g := g) (by omega), if_pos (by omega), List.take_succ_eq_append_getElem (by omega), List.sum_append]
    have := hl g (by omega)
    have hg : l.getD g 0 = l[g] := by simp [List.getD_eq_getElem?_getD, List.getElem?_eq_getElem (show g < l.length by omega)]
    rw [hg] at this ⊢
    simp; omega
theorem take_le (t : Int) : ∀ (l : List Int) (k : Nat), (l.take k).sum ≤ t * (min k l.length : Nat) + sp t l
  | [], k => by simp [sp]
  | x :: l, 0 => by have := sp_nonneg t (x :: l); simp; omega
  | x :: l, k + 1 => by
    have ih := take_le t l k
    rw [List.take_succ_cons, List.sum_cons, List.length_cons, show min (k + 1) (l.length + 1) = min k l.length + 1 from by omega]
    simp only [sp, List.map_cons, List.sum_cons, Int.natCast_add, Int.natCast_one, Int.mul_add, Int.mul_one] at *
    omega
/-- The price, for each buyer and for all. -/
theorem price_own {s : Sal} (ho : Ok s) : ∃ t, s.least ≤ t ∧ t ≤ 10000 ∧ (∀ i, i < s.offers.length → own s i = t * gets s i + sp t (s.of i)) ∧ worth s = t * s.crans + sumN s.offers.length (fun i => sp t (s.of i)) := by
  obtain ⟨t, h1, h1', h2, h3, h4⟩ := price ho
  have hown : ∀ i, i < s.offers.length → own s i = t * gets s i + sp t (s.of i) := fun i hi => by
    unfold own
    refine take_sum (wn_of ho i).1 (fun k hk => h2 (mk s i k) ((mem_wn ho).2 ⟨hk, rfl⟩)) (fun k hg hk => ?_)
    by_cases hl : s.least ≤ (s.of i).getD k 0
    · refine h3 (mk s i k) (mem_bids.2 ⟨hi, hk, rfl, hl⟩) fun hw => ?_
      have := ((mem_wn ho).1 hw).1
      simp only [mk] at this
      omega
    · omega
  refine ⟨t, h1, h1', hown, ?_⟩
  have hg := len_wn s
  rw [worth_eq ho, sumN_congr hown, sumN_add, sumN_mul, ← hg]
  by_cases hc : ((wn s).length : Int) < s.crans
  · rw [h4 hc, Int.mul_sub]; omega
  · have : ((wn s).length : Int) = s.crans := by have := (wn_length ho).1; omega
    rw [this]; simp
/-- No other way to hand out the crans is worth more. -/
theorem best {s : Sal} (ho : Ok s) (k : Nat → Nat) (v : Nat → Int) (left : Int) (hl : 0 ≤ left) (hs : sumN s.offers.length (fun i => (k i : Int)) + left = s.crans)
    (hv : ∀ t, s.least ≤ t → ∀ i, i < s.offers.length → v i ≤ t * k i + sp t (s.of i)) : sumN s.offers.length v + s.least * left ≤ worth s := by
  obtain ⟨t, h1, _, _, h2⟩ := price_own ho
  rw [h2]
  have h3 := sumN_le (hv t h1)
  rw [sumN_add, sumN_mul] at h3
  have h4 := Int.mul_le_mul_of_nonneg_right h1 hl
  rw [← hs, Int.mul_add]
  omega
theorem best_take {s : Sal} (ho : Ok s) (k : Nat → Nat) (left : Int) (hl : 0 ≤ left) (hk : ∀ i, i < s.offers.length → k i ≤ (s.of i).length) (hs : sumN s.offers.length (fun i => (k i : Int)) + left = s.crans) :
    sumN s.offers.length (fun i => ((s.of i).take (k i)).sum) + s.least * left ≤ worth s :=
  best ho k _ left hl hs fun t _ i hi => by
    have := take_le t (s.of i) (k i)
    rwa [show min (k i) (s.of i).length = k i from by have := hk i hi; omega] at this
/-- Of fewer bids. -/
theorem count_sub {l m : List Bd} (hn : l.Nodup) (hm : m.Nodup) (hs : ∀ b ∈ m, b ∈ l) (p : Bd → Bool) : m.countP p ≤ l.countP p := by
  have hp : m.Perm (l.filter fun b => decide (b ∈ m)) := (List.perm_ext_iff_of_nodup hm (hn.sublist List.filter_sublist)).2 fun b => by
    rw [List.mem_filter, decide_eq_true_eq]; exact ⟨fun h => ⟨hs b h, h⟩, fun h => h.2⟩
  rw [hp.countP_eq]
  exact List.filter_sublist.countP_le
theorem top_sub {k : Nat} {l m : List Bd} (hn : l.Nodup) (hm : m.Nodup) (hs : ∀ b ∈ m, b ∈ l) {b : Bd} (hb : b ∈ top k l) (hbm : b ∈ m) : b ∈ top k m := by
  rw [mem_top hn] at hb; rw [mem_top hm]
  exact ⟨hbm, Nat.lt_of_le_of_lt (count_sub hn hm hs _) hb.2⟩
theorem of_without (s : Sal) (i j : Nat) : (without s i).of j = if j = i then [] else s.of j := by
  unfold without Sal.of
  simp only [List.getD_eq_getElem?_getD, List.getElem?_set]
  by_cases h : i = j
  · subst h
    by_cases hl : i < s.offers.length <;> simp [hl]
  · simp [h, Ne.symm h]
theorem Ok.without {s : Sal} (ho : Ok s) (i : Nat) : Ok (without s i) :=
  ⟨ho.crans, ho.least, by unfold Au.without; simpa using ho.n, fun j => by rw [of_without]; split; exact Fall.nil; exact ho.fall j⟩
theorem mem_without {s : Sal} {i : Nat} {b : Bd} : b ∈ bids (without s i) ↔ b ∈ bids s ∧ b.buyer ≠ i := by
  rw [mem_bids, mem_bids, of_without]
  have : (without s i).offers.length = s.offers.length := by unfold without; simp
  rw [this]
  by_cases h : b.buyer = i
  · simp [h]
  · have hl : (without s i).least = s.least := rfl
    simp [h, hl]
theorem mk_without {s : Sal} {i j : Nat} (h : j ≠ i) (k : Nat) : mk (without s i) j k = mk s j k := by unfold mk; rw [of_without, if_neg h]
theorem keep {s : Sal} {i : Nat} {b : Bd} (hb : b ∈ wn s) (hi : b.buyer ≠ i) : b ∈ wn (without s i) :=
  top_sub (nodup_bids s) (nodup_bids _) (fun b h => (mem_without.1 h).1) hb (mem_without.2 ⟨wn_bids hb, hi⟩)
theorem gets_sub {s x : Sal} (ho : Ok s) (hx : Ok x) {j : Nat} (hmk : ∀ k, mk x j k = mk s j k) (h : ∀ b ∈ wn s, b.buyer = j → b ∈ wn x) : gets s j ≤ gets x j := by
  rcases Nat.eq_zero_or_pos (gets s j) with h0 | h0
  · omega
  · have h1 : mk s j (gets s j - 1) ∈ wn s := (mem_wn ho).2 ⟨by show gets s j - 1 < gets s j; omega, rfl⟩
    have h2 := ((mem_wn hx).1 (h _ h1 rfl)).1
    simp only [mk] at h2
    omega
theorem gets_without_self {s : Sal} (ho : Ok s) (i : Nat) : gets (without s i) i = 0 := by
  have := (wn_of (ho.without i) i).1
  rw [of_without, if_pos rfl] at this
  simpa using this
theorem others_perm (s : Sal) (i : Nat) : ((wn (without s i)).filter fun b => decide (b ∈ wn s)).Perm ((wn s).filter fun b => !(b.buyer == i)) :=
  (List.perm_ext_iff_of_nodup ((wn_nodup _).sublist List.filter_sublist) ((wn_nodup _).sublist List.filter_sublist)).2 fun b => by
    rw [List.mem_filter, List.mem_filter, decide_eq_true_eq]
    constructor
    · rintro ⟨h1, h2⟩
      exact ⟨h2, by simpa using (mem_without.1 (wn_bids h1)).2⟩
    · rintro ⟨h1, h2⟩
      exact ⟨keep h1 (by simpa using h2), h1⟩
theorem lost_sum {s : Sal} (ho : Ok s) (i : Nat) : sumO (wn (without s i)) = sumO (lost s i) + sumO (wn s) - own s i := by
  have h1 := sumO_split (fun b => decide (b ∈ wn s)) (wn (without s i))
  have h2 := sumO_split (fun b => b.buyer == i) (wn s)
  rw [own_eq ho i] at h2
  rw [sumO_perm (others_perm s i)] at h1
  unfold lost
  omega
theorem lost_len (s : Sal) (i : Nat) : ((wn (without s i)).length : Int) = (lost s i).length + (wn s).length - gets s i := by
  have h1 := length_split (fun b => decide (b ∈ wn s)) (wn (without s i))
  have h2 := length_split (fun b => b.buyer == i) (wn s)
  rw [(others_perm s i).length_eq] at h1
  have h3 : gets s i = ((wn s).filter fun b => b.buyer == i).length := by unfold gets; rw [List.countP_eq_length_filter]
  unfold lost
  omega
/-- What a buyer pays is what the others lose by them. -/
theorem pays_eq {s : Sal} (ho : Ok s) (i : Nat) : pays s i = worth (without s i) - (worth s - own s i) := by
  unfold pays worth
  rw [lost_sum ho i, lost_len s i]
  show _ = _ + s.least * (s.crans - _) - _
  rw [show s.crans - (((lost s i).length : Int) + (wn s).length - gets s i) = (s.crans - (wn s).length) + ((gets s i : Int) - (lost s i).length) from by omega, Int.mul_add]
  omega
theorem worth_without {s : Sal} (ho : Ok s) (i : Nat) : worth (without s i) ≤ worth s := by
  rw [worth_eq (ho.without i)]
  have hl := (wn_length (ho.without i)).1
  rw [len_wn] at hl
  have hn : (without s i).offers.length = s.offers.length := by unfold without; simp
  rw [hn] at hl ⊢
  refine best ho (gets (without s i)) (own (without s i)) _ ?_ (by show sumN _ _ + (s.crans - _) = _; omega) fun t ht j hj => ?_
  · have : (without s i).crans = s.crans := rfl
    omega
  · unfold own
    have h1 := take_le t ((without s i).of j) (gets (without s i) j)
    rw [Nat.min_eq_left (wn_of (ho.without i) j).1] at h1
    rw [of_without] at h1 ⊢
    split at h1
    · have := sp_nonneg t (s.of j)
      simp only [sp, List.map_nil, List.sum_nil] at h1 ⊢
      rename_i h
      rw [if_pos h]
      unfold sp at this
      omega
    · rename_i h
      rw [if_neg h]; exact h1
theorem bids_without_len (s : Sal) (i : Nat) : (bids (without s i)).length ≤ (bids s).length := by
  have := count_sub (nodup_bids s) (nodup_bids (without s i)) (fun b h => (mem_without.1 h).1) (fun _ => true)
  simpa using this
theorem lost_le {s : Sal} (ho : Ok s) (i : Nat) : (lost s i).length ≤ gets s i := by
  have h1 := lost_len s i
  have h2 := (wn_length ho).2.2
  have h3 := (wn_length (ho.without i)).2.2
  have h4 := bids_without_len s i
  have h5 : (without s i).crans = s.crans := rfl
  rw [h5] at h3
  omega
theorem sumO_ge {c : Int} : ∀ {l : List Bd}, (∀ b ∈ l, c ≤ b.offer) → c * l.length ≤ sumO l
  | [], _ => by simp [sumO]
  | b :: l, h => by
    have := sumO_ge (c := c) (l := l) fun x hx => h x (.tail _ hx)
    have := h b (.head _)
    rw [sumO_cons, List.length_cons, Int.natCast_add, Int.natCast_one, Int.mul_add]
    omega
theorem lost_mem {s : Sal} {i : Nat} {b : Bd} (h : b ∈ lost s i) : b ∈ bids s := (mem_without.1 (wn_bids (List.mem_filter.1 h).1)).1
/-- Nobody pays less than the least price, nor more than they offered. -/
theorem pays_in {s : Sal} (ho : Ok s) (i : Nat) : s.least * gets s i ≤ pays s i ∧ pays s i ≤ own s i := by
  constructor
  · have := sumO_ge (c := s.least) (l := lost s i) fun b hb => (mem_bids.1 (lost_mem hb)).2.2.2
    unfold pays
    rw [Int.mul_sub]
    omega
  · rw [pays_eq ho i]
    have := worth_without ho i
    omega
theorem pays_none {s : Sal} (ho : Ok s) {i : Nat} (h : gets s i = 0) : pays s i = 0 := by
  have h1 := lost_le ho i
  have h2 : lost s i = [] := List.eq_nil_of_length_eq_zero (by omega)
  unfold pays
  rw [h2, h]; simp [sumO]
theorem gets_offer {s : Sal} (ho : Ok s) {i k : Nat} (h : k < gets s i) : s.least ≤ (s.of i).getD k 0 :=
  (mem_bids.1 (wn_bids ((mem_wn (b := mk s i k) ho).2 ⟨h, rfl⟩))).2.2.2
theorem sold_le {s : Sal} (ho : Ok s) : sumN s.offers.length (fun i => (gets s i : Int)) ≤ s.crans := by
  have := (wn_length ho).1; rw [len_wn] at this; exact this
theorem of_set {s : Sal} {i : Nat} (hi : i < s.offers.length) (l : List Int) (j : Nat) : ({ s with offers := s.offers.set i l } : Sal).of j = if j = i then l else s.of j := by
  unfold Sal.of
  simp only [List.getD_eq_getElem?_getD, List.getElem?_set]
  by_cases h : i = j
  · subst h; simp [hi]
  · simp [h, Ne.symm h]
/-- What a buyer gains. -/
def gain (s : Sal) (i : Nat) (w : List Int) : Int := (w.take (gets s i)).sum - pays s i
theorem gain_own {s : Sal} (ho : Ok s) (i : Nat) : gain s i (s.of i) = worth s - worth (without s i) := by
  unfold gain
  rw [pays_eq ho i]
  unfold own
  omega
/-- No other offers gain more. -/
theorem truth {s : Sal} (ho : Ok s) {i : Nat} (hi : i < s.offers.length) {l : List Int} (hl : Fall l) :
    0 ≤ gain s i (s.of i) ∧ gain { s with offers := s.offers.set i l } i (s.of i) ≤ gain s i (s.of i) := by
  have h0 := worth_without ho i
  rw [gain_own ho i]
  refine ⟨by omega, ?_⟩
  obtain ⟨x, hx⟩ : ∃ x : Sal, x = { s with offers := s.offers.set i l } := ⟨_, rfl⟩
  have hxl : x.offers.length = s.offers.length := by rw [hx]; simp
  have hxo : ∀ j, x.of j = if j = i then l else s.of j := fun j => by rw [hx]; exact of_set hi l j
  have hxk : Ok x := ⟨by rw [hx]; exact ho.crans, by rw [hx]; exact ho.least, by rw [hxl]; exact ho.n, fun j => by rw [hxo]; split; exact hl; exact ho.fall j⟩
  have hxw : without x i = without s i := by rw [hx]; unfold without; simp
  have hxc : x.crans = s.crans := by rw [hx]
  have hxle : x.least = s.least := by rw [hx]
  rw [← hx]
  unfold gain
  rw [pays_eq hxk i, hxw]
  have hs := sold_le hxk
  have hb := best ho (gets x) (fun j => if j = i then ((s.of i).take (gets x i)).sum else own x j) (s.crans - sumN s.offers.length fun j => (gets x j : Int)) (by rw [hxl, hxc] at hs; omega) (by omega) fun t ht j hj => by
    have htn : 0 ≤ t := by have := ho.least; omega
    show (if j = i then ((s.of i).take (gets x i)).sum else own x j) ≤ _
    by_cases hji : j = i
    · subst hji
      rw [if_pos rfl]
      have h1 := take_le t (s.of j) (gets x j)
      have h2 : t * (min (gets x j) (s.of j).length : Nat) ≤ t * gets x j := Int.mul_le_mul_of_nonneg_left (by omega) htn
      omega
    · rw [if_neg hji]
      unfold own
      have h1 := take_le t (x.of j) (gets x j)
      rw [Nat.min_eq_left (wn_of hxk j).1] at h1
      rw [hxo, if_neg hji] at h1 ⊢
      exact h1
  have hw := worth_eq hxk
  rw [hxl, hxc, hxle] at hw
  have hset := sumN_set (f := fun j => if j = i then ((s.of i).take (gets x i)).sum else own x j) (g := own x) hi (fun j _ hji => by show (if j = i then _ else _) = _; rw [if_neg hji])
  simp only [if_pos] at hset
  omega
/-- No ring gains by handing crans on. -/
theorem ring {s : Sal} (ho : Ok s) (r : List (Nat × Nat)) (hr : ∀ p ∈ r, p.1 < s.offers.length) (hs : (r.map fun p => (p.2 : Int)).sum = (r.map fun p => (gets s p.1 : Int)).sum) :
    (r.map fun p => valF (s.of p.1) p.2 0).sum ≤ (r.map fun p => own s p.1).sum := by
  obtain ⟨t, h1, _, h2, _⟩ := price_own ho
  have ht : (0 : Int) ≤ t := by have := ho.least; omega
  have key : ∀ r : List (Nat × Nat), (∀ p ∈ r, p.1 < s.offers.length) → (r.map fun p => valF (s.of p.1) p.2 0).sum + t * (r.map fun p => (gets s p.1 : Int)).sum ≤ (r.map fun p => own s p.1).sum + t * (r.map fun p => (p.2 : Int)).sum := by
    intro r
    induction r with
    | nil => intro _; simp
    | cons p r ih =>
      intro hr
      have ih := ih fun q hq => hr q (.tail _ hq)
      have h3 := h2 p.1 (hr p (.head _))
      have h4 := valF_le ht (s.of p.1) p.2
      simp only [List.map_cons, List.sum_cons, Int.mul_add]
      omega
  have := key r hr
  rw [hs] at this
  omega
/-- What the least bid that wins is. -/
def IsLast (s : Sal) (p : Int) : Prop := (wn s = [] ∧ p = -1) ∨ ∃ b ∈ wn s, b.offer = p ∧ ∀ c ∈ wn s, p ≤ c.offer
theorem last_ex (s : Sal) : ∃ p, IsLast s p := by
  by_cases h : wn s = []
  · exact ⟨-1, .inl ⟨h, rfl⟩⟩
  · obtain ⟨b, hb, hm⟩ := exists_min h
    exact ⟨b.offer, .inr ⟨b, hb, rfl, hm⟩⟩
theorem offer_nonneg {s : Sal} (ho : Ok s) {b : Bd} (hb : b ∈ bids s) : 0 ≤ b.offer ∧ b.offer ≤ 10000 := by
  have := mem_bids.1 hb
  rw [this.2.2.1]
  exact (ho.fall b.buyer).low b.place this.2.1
theorem last_un {s : Sal} {p q : Int} (hp : IsLast s p) (hq : IsLast s q) : p = q := by
  rcases hp with ⟨h1, rfl⟩ | ⟨b, hb, rfl, hm⟩ <;> rcases hq with ⟨h2, rfl⟩ | ⟨c, hc, rfl, hm'⟩
  · rfl
  · rw [h1] at hc; cases hc
  · rw [h2] at hb; cases hb
  · have := hm c hc; have := hm' b hb; omega
/-- With a cran more. -/
theorem more_crans {s : Sal} (ho : Ok s) (hc : s.crans < 40) :
    Ok { s with crans := s.crans + 1 } ∧ worth s + s.least ≤ worth { s with crans := s.crans + 1 } ∧ (∀ i, gets s i ≤ gets { s with crans := s.crans + 1 } i) ∧
    ∀ p q, IsLast s p → IsLast { s with crans := s.crans + 1 } q → 0 ≤ p → q ≤ p := by
  obtain ⟨x, hx⟩ : ∃ x : Sal, x = { s with crans := s.crans + 1 } := ⟨_, rfl⟩
  rw [← hx]
  have hxo : ∀ j, x.of j = s.of j := fun j => by rw [hx]; rfl
  have hcr := ho.crans
  have hxc : x.crans = s.crans + 1 := by rw [hx]
  have hxl : x.offers.length = s.offers.length := by rw [hx]
  have hxle : x.least = s.least := by rw [hx]
  have hxk : Ok x := ⟨by rw [hxc]; omega, by rw [hxle]; exact ho.least, by rw [hxl]; exact ho.n, fun j => by rw [hxo]; exact ho.fall j⟩
  have hb : bids x = bids s := by rw [hx]; rfl
  have hsub : ∀ b ∈ wn s, b ∈ wn x := fun b h => by
    unfold wn; rw [hb, hxc]
    exact top_mono (by omega) (nodup_bids s) h
  refine ⟨hxk, ?_, fun i => gets_sub ho hxk (fun k => by unfold mk; rw [hxo]) fun b h _ => hsub b h, fun p q hp hq h0 => ?_⟩
  · have hs := sold_le ho
    have := best hxk (gets s) (own s) (x.crans - sumN x.offers.length fun i => (gets s i : Int)) (by rw [hxc, hxl]; omega) (by omega) fun t ht j hj => by
      unfold own
      have h1 := take_le t (s.of j) (gets s j)
      rw [Nat.min_eq_left (wn_of ho j).1] at h1
      rw [hxo]; exact h1
    rw [hxl, hxc, hxle] at this
    rw [worth_eq ho]
    rw [show s.crans + 1 - sumN s.offers.length (fun i => (gets s i : Int)) = (s.crans - sumN s.offers.length fun i => (gets s i : Int)) + 1 from by omega, Int.mul_add] at this
    omega
  · rcases hp with ⟨_, rfl⟩ | ⟨b, hbw, rfl, _⟩
    · omega
    · rcases hq with ⟨h, _⟩ | ⟨c, _, rfl, hm⟩
      · have := hsub b hbw; rw [h] at this; cases this
      · exact hm b (hsub b hbw)
/-- With a buyer more. -/
theorem more_buyers {s : Sal} (ho : Ok s) (hc : s.offers.length < 8) {l : List Int} (hl : Fall l) :
    Ok { s with offers := s.offers ++ [l] } ∧ (∀ i, i < s.offers.length → gets { s with offers := s.offers ++ [l] } i ≤ gets s i) ∧
    ∀ p q, IsLast s p → IsLast { s with offers := s.offers ++ [l] } q → ((wn s).length : Int) = s.crans → p ≤ q := by
  obtain ⟨x, hx⟩ : ∃ x : Sal, x = { s with offers := s.offers ++ [l] } := ⟨_, rfl⟩
  rw [← hx]
  have hxl : x.offers.length = s.offers.length + 1 := by rw [hx]; simp
  have hxo : ∀ j, x.of j = if j = s.offers.length then l else s.of j := fun j => by
    rw [hx]; unfold Sal.of
    simp only [List.getD_eq_getElem?_getD, List.getElem?_append]
    by_cases h : j < s.offers.length
    · rw [if_pos h, if_neg (by omega)]
    · rw [if_neg h]
      by_cases h2 : j = s.offers.length
      · subst h2; simp
      · rw [if_neg h2, List.getElem?_eq_none (by simp; omega), List.getElem?_eq_none (by omega)]
  have hxc : x.crans = s.crans := by rw [hx]
  have hxle : x.least = s.least := by rw [hx]
  have hn := ho.n
  have hxk : Ok x := ⟨by rw [hxc]; exact ho.crans, by rw [hxle]; exact ho.least, by rw [hxl]; omega, fun j => by rw [hxo]; split; exact hl; exact ho.fall j⟩
  have hsub : ∀ b ∈ bids s, b ∈ bids x := fun b h => by
    rw [mem_bids] at h ⊢
    rw [hxo, if_neg (by omega), hxl, hxle]
    exact ⟨by omega, h.2⟩
  refine ⟨hxk, fun i hi => gets_sub hxk ho (fun k => by unfold mk; rw [hxo, if_neg (by omega)]) fun b hb hbi => ?_, fun p q hp hq hs => ?_⟩
  · have hbx := mem_bids.1 (wn_bids hb)
    have hbs : b ∈ bids s := by
      rw [mem_bids]
      rw [hxo, if_neg (by omega), hxle] at hbx
      exact ⟨by omega, hbx.2⟩
    unfold wn at hb ⊢
    rw [hxc] at hb
    exact top_sub (nodup_bids x) (nodup_bids s) hsub hb hbs
  · rcases hp with ⟨_, rfl⟩ | ⟨b, hbw, rfl, hm⟩
    · rcases hq with ⟨_, rfl⟩ | ⟨c, hcw, rfl, _⟩
      · exact Int.le_refl _
      · have := (offer_nonneg hxk (wn_bids hcw)).1; omega
    · rcases hq with ⟨h, rfl⟩ | ⟨c, hcw, rfl, _⟩
      · exfalso
        have h1 := (wn_length hxk).2.2
        have h2 := hsub b (wn_bids hbw)
        have h3 : 0 < (bids x).length := List.length_pos_of_mem h2
        have h4 : 0 < (wn s).length := List.length_pos_of_mem hbw
        rw [h, hxc] at h1
        simp at h1
        omega
      · by_cases hlt : b.offer ≤ c.offer
        · exact hlt
        · exfalso
          have h1 := ((mem_top (nodup_bids x)).1 hcw).2
          have h2 := count_sub (nodup_bids x) (wn_nodup s) (fun d hd => hsub d (wn_bids hd)) (fun d => bLt d c)
          have h3 : (wn s).countP (fun d => bLt d c) = (wn s).length := by
            rw [List.countP_eq_length]
            intro d hd
            rw [bLt_iff]; have := hm d hd; omega
          unfold rank at h1
          rw [hxc] at h1
          omega
/-- How many crans a buyer would take at a price. -/
def dem (s : Sal) (p : Int) (i : Nat) : Nat := (s.of i).countP fun o => decide (p ≤ o)
theorem dem_le (s : Sal) (p : Int) (i : Nat) : dem s p i ≤ (s.of i).length := List.countP_le_length
theorem dem_mono (s : Sal) {p q : Int} (h : p ≤ q) (i : Nat) : dem s q i ≤ dem s p i := List.countP_mono_left fun o _ ho => by simp only [decide_eq_true_eq] at *; omega
theorem dem_lt {l : List Int} (hf : ∀ i j, i ≤ j → j < l.length → l.getD j 0 ≤ l.getD i 0) (p : Int) : ∀ k, k < l.length → (k < l.countP (fun o => decide (p ≤ o)) ↔ p ≤ l.getD k 0) := by
  induction l with
  | nil => intro k hk; simp at hk
  | cons x l ih =>
    intro k hk
    have hf' : ∀ i j, i ≤ j → j < l.length → l.getD j 0 ≤ l.getD i 0 := fun i j hij hj => by
      have := hf (i + 1) (j + 1) (by omega) (by simpa using hj); simpa using this
    by_cases hx : p ≤ x
    · rw [List.countP_cons_of_pos (by simpa using hx)]
      cases k with
      | zero => simp [hx]
      | succ k => rw [List.getD_cons_succ, ← ih hf' k (by simpa using hk)]; omega
    · have h0 : l.countP (fun o => decide (p ≤ o)) = 0 := by
        rw [List.countP_eq_zero]
        intro o ho
        obtain ⟨j, hj, rfl⟩ := List.getElem_of_mem ho
        have := hf 0 (j + 1) (by omega) (by simpa using hj)
        simp [List.getElem?_eq_getElem hj] at this
        simp; omega
      rw [List.countP_cons_of_neg (by simpa using hx), h0]
      have := hf 0 k (by omega) hk
      simp at this ⊢
      omega
theorem dem_iff {s : Sal} (ho : Ok s) (p : Int) {i k : Nat} (hk : k < (s.of i).length) : k < dem s p i ↔ p ≤ (s.of i).getD k 0 := dem_lt (ho.fall i).fall p k hk
/-- What is taken, and what is left. -/
structure Ck where
  t : Nat → Nat
  left : Nat
/-- A buyer takes as many as they can. -/
def Ck.take (c : Ck) (d b : Nat) : Ck := ⟨fun i => if i = b then c.t b + min c.left (d - c.t b) else c.t i, c.left - min c.left (d - c.t b)⟩
/-- All buyers take at a price. -/
def Ck.call (s : Sal) (p : Int) (order : List Nat) (c : Ck) : Ck := order.foldl (fun c b => c.take (dem s p b) b) c
/-- The clock, behind its first k prices. -/
def clk (s : Sal) (order : List Nat) : Nat → Ck
  | 0 => ⟨fun _ => 0, s.crans.toNat⟩
  | k + 1 => (clk s order k).call s (10000 - k) order
def sumT (n : Nat) (f : Nat → Nat) : Nat := ((List.range n).map f).sum
theorem sumT_succ (n : Nat) (f : Nat → Nat) : sumT (n + 1) f = sumT n f + f n := by simp [sumT, List.range_succ, List.sum_append]
theorem sumT_congr {n : Nat} {f g : Nat → Nat} (h : ∀ i, i < n → f i = g i) : sumT n f = sumT n g := by
  induction n with
  | zero => rfl
  | succ n ih => rw [sumT_succ, sumT_succ, ih fun i hi => h i (by omega), h n (by omega)]
theorem sumT_le {n : Nat} {f g : Nat → Nat} (h : ∀ i, i < n → f i ≤ g i) : sumT n f ≤ sumT n g := by
  induction n with
  | zero => exact Nat.le_refl _
  | succ n ih => rw [sumT_succ, sumT_succ]; have := ih fun i hi => h i (by omega); have := h n (by omega); omega
theorem sumT_eq {n : Nat} {f g : Nat → Nat} (h : ∀ i, i < n → f i ≤ g i) (hs : sumT n g ≤ sumT n f) : ∀ i, i < n → f i = g i := by
  induction n with
  | zero => intro i hi; omega
  | succ n ih =>
    rw [sumT_succ, sumT_succ] at hs
    have h1 := sumT_le fun i hi => h i (Nat.lt_succ_of_lt hi)
    have h2 := h n (by omega)
    intro i hi
    by_cases hn : i = n
    · subst hn; omega
    · exact ih (fun i hi => h i (by omega)) (by omega) i (by omega)
theorem sumT_upd {n : Nat} {f : Nat → Nat} {b m : Nat} (hb : b < n) : sumT n (fun i => if i = b then f b + m else f i) = sumT n f + m := by
  induction n with
  | zero => omega
  | succ n ih =>
    rw [sumT_succ, sumT_succ]
    by_cases hn : b = n
    · subst hn
      rw [if_pos rfl, sumT_congr (n := b) (g := f) fun i hi => if_neg (by omega)]; omega
    · rw [ih (by omega), if_neg (Ne.symm hn)]; omega
theorem sumT_int (n : Nat) (f : Nat → Nat) : (sumT n f : Int) = sumN n fun i => (f i : Int) := by
  induction n with
  | zero => rfl
  | succ n ih => rw [sumT_succ, sumN_succ, ← ih]; omega
/-- An order of the callers. -/
structure Order (n : Nat) (order : List Nat) : Prop where
  nd : order.Nodup
  mem : ∀ i, i ∈ order ↔ i < n
structure Ck.Good (s : Sal) (c : Ck) : Prop where
  all : sumT s.offers.length c.t + c.left = s.crans.toNat
/-- What a call does to each buyer: they take up to their demand, or nothing is left. -/
theorem call_spec (s : Sal) (p : Int) : ∀ (order : List Nat) (c : Ck), order.Nodup → (∀ b ∈ order, b < s.offers.length) → (∀ b, c.t b ≤ dem s p b) →
    sumT s.offers.length (c.call s p order).t + (c.call s p order).left = sumT s.offers.length c.t + c.left ∧
    (∀ b, c.t b ≤ (c.call s p order).t b ∧ (c.call s p order).t b ≤ dem s p b) ∧ (∀ b, b ∉ order → (c.call s p order).t b = c.t b) ∧
    ((∀ b ∈ order, (c.call s p order).t b = dem s p b) ∨ (c.call s p order).left = 0)
  | [], c, _, _, hd => ⟨rfl, fun b => ⟨Nat.le_refl _, hd b⟩, fun _ _ => rfl, .inl fun b hb => by cases hb⟩
  | b :: order, c, hn, hm, hd => by
    rw [List.nodup_cons] at hn
    have hb := hm b (.head _)
    have hdb := hd b
    have ht : ∀ i, (c.take (dem s p b) b).t i = if i = b then c.t b + min c.left (dem s p b - c.t b) else c.t i := fun _ => rfl
    have hl : (c.take (dem s p b) b).left = c.left - min c.left (dem s p b - c.t b) := rfl
    obtain ⟨h1, h2, h3, h4⟩ := call_spec s p order (c.take (dem s p b) b) hn.2 (fun i hi => hm i (.tail _ hi)) (fun i => by
      rw [ht]; split
      · rename_i h; subst h; omega
      · exact hd i)
    have hc : c.call s p (b :: order) = (c.take (dem s p b) b).call s p order := rfl
    rw [hc]
    refine ⟨?_, fun i => ⟨?_, (h2 i).2⟩, fun i hi => ?_, ?_⟩
    · rw [h1, hl]
      have : sumT s.offers.length (c.take (dem s p b) b).t = sumT s.offers.length c.t + min c.left (dem s p b - c.t b) := sumT_upd hb
      rw [this]; omega
    · have := (h2 i).1
      rw [ht] at this
      split at this
      · rename_i h; subst h; omega
      · exact this
    · rw [h3 i (fun h => hi (.tail _ h)), ht, if_neg (fun h => hi (by rw [h]; exact .head _))]
    · rcases h4 with h4 | h4
      · by_cases hz : c.left < dem s p b - c.t b
        · right
          -- nothing is left behind this buyer
          have hz0 : (c.take (dem s p b) b).left = 0 := by rw [hl]; omega
          rw [hz0] at h1
          have h5 := sumT_le (n := s.offers.length) fun i _ => (h2 i).1
          omega
        · left
          intro i hi
          rcases List.mem_cons.1 hi with rfl | hi
          · rw [h3 i hn.1, ht, if_pos rfl]; omega
          · exact h4 i hi
      · exact .inr h4
structure ClkAt (s : Sal) (order : List Nat) (p : Int) (c : Ck) : Prop where
  all : sumT s.offers.length c.t + c.left = s.crans.toNat
  le : ∀ b, c.t b ≤ dem s p b
  out : ∀ b, s.offers.length ≤ b → c.t b = 0
  full : (∀ b, b < s.offers.length → c.t b = dem s p b) ∨ c.left = 0
theorem clk_at {s : Sal} (ho : Ok s) {order : List Nat} (hr : Order s.offers.length order) : ∀ k : Nat, ClkAt s order (10001 - (k : Int)) (clk s order k)
  | 0 => by
    have h0 : ∀ b, dem s (10001 - ((0 : Nat) : Int)) b = 0 := fun b => by
      unfold dem
      rw [List.countP_eq_zero]
      intro o hoo
      obtain ⟨j, hj, rfl⟩ := List.getElem_of_mem hoo
      have := ((ho.fall b).low j hj).2
      simp [List.getElem?_eq_getElem hj] at this
      simp; omega
    refine ⟨?_, fun b => Nat.zero_le _, fun _ _ => rfl, .inl fun b _ => (h0 b).symm⟩
    have : sumT s.offers.length (clk s order 0).t = 0 := by
      have : ∀ n, sumT n (clk s order 0).t = 0 := fun n => by
        induction n with
        | zero => rfl
        | succ n ih => rw [sumT_succ, ih]; rfl
      exact this _
    rw [this]; show 0 + s.crans.toNat = _; omega
  | k + 1 => by
    have ih := clk_at ho hr k
    have he : (10001 : Int) - ((k + 1 : Nat) : Int) = 10000 - k := by omega
    rw [he]
    have hle : ∀ b, (clk s order k).t b ≤ dem s (10000 - k) b := fun b => Nat.le_trans (ih.le b) (dem_mono s (by omega) b)
    obtain ⟨h1, h2, h3, h4⟩ := call_spec s (10000 - k) order (clk s order k) hr.nd (fun b hb => (hr.mem b).1 hb) hle
    refine ⟨h1.trans ih.all, fun b => (h2 b).2, fun b hb => ?_, ?_⟩
    · show ((clk s order k).call s (10000 - k) order).t b = 0
      rw [h3 b (fun h => by have := (hr.mem b).1 h; omega)]; exact ih.out b hb
    · rcases h4 with h4 | h4
      · exact .inl fun b hb => h4 b ((hr.mem b).2 hb)
      · exact .inr h4
theorem clk_mono {s : Sal} (ho : Ok s) {order : List Nat} (hr : Order s.offers.length order) (k b : Nat) : (clk s order k).t b ≤ (clk s order (k + 1)).t b := by
  have ih := clk_at ho hr k
  exact ((call_spec s (10000 - k) order (clk s order k) hr.nd (fun b hb => (hr.mem b).1 hb) (fun b => Nat.le_trans (ih.le b) (dem_mono s (by omega) b))).2.1 b).1
/-- How many bids are of a price, or more. -/
theorem dem_bids {s : Sal} (ho : Ok s) {p : Int} (hp : s.least ≤ p) : sumT s.offers.length (dem s p) = (bids s).countP fun b => decide (p ≤ b.offer) := by
  have hby := length_by s.offers.length ((bids s).filter fun b => decide (p ≤ b.offer)) fun b hb => (mem_bids.1 (List.mem_filter.1 hb).1).1
  have hk : ∀ i, i < s.offers.length → (((bids s).filter fun b => decide (p ≤ b.offer)).countP fun b => b.buyer == i) = dem s p i := fun i hi => by
    have hperm : (((bids s).filter fun b => decide (p ≤ b.offer)).filter fun b => b.buyer == i).Perm ((List.range (dem s p i)).map (mk s i)) :=
      (List.perm_ext_iff_of_nodup (((nodup_bids s).sublist List.filter_sublist).sublist List.filter_sublist) (by
        show List.Pairwise _ _
        rw [List.pairwise_map]
        exact List.Pairwise.imp (fun {a b} h e => h (by injection e)) (List.nodup_range (n := dem s p i)))).2 fun b => by
      rw [List.mem_filter, List.mem_filter, List.mem_map, beq_iff_eq, decide_eq_true_eq]
      constructor
      · rintro ⟨⟨hb, hpb⟩, rfl⟩
        obtain ⟨_, h2, h3, _⟩ := mem_bids.1 hb
        refine ⟨b.place, List.mem_range.2 ((dem_iff ho p h2).2 (by rw [← h3]; exact hpb)), ?_⟩
        cases b; simp only [mk, Bd.mk.injEq, true_and] at *; exact h3.symm
      · rintro ⟨k, hk, rfl⟩
        have hk := List.mem_range.1 hk
        have hkl : k < (s.of i).length := Nat.lt_of_lt_of_le hk (dem_le s p i)
        have := (dem_iff ho p hkl).1 hk
        exact ⟨⟨mem_bids.2 ⟨hi, hkl, rfl, by show s.least ≤ (s.of i).getD k 0; omega⟩, this⟩, rfl⟩
    rw [List.countP_eq_length_filter, hperm.length_eq]; simp
  rw [sumN_congr (g := fun i => (dem s p i : Int)) fun i hi => by rw [hk i hi], ← sumT_int] at hby
  rw [List.countP_eq_length_filter]
  omega
/-- If all bids of a price win. -/
theorem win_up {s : Sal} {p : Int} {b : Bd} (hb : b ∈ bids s) (hp : p ≤ b.offer) (hc : (bids s).countP (fun b => decide (p ≤ b.offer)) ≤ s.crans.toNat) : b ∈ wn s := by
  unfold wn
  rw [mem_top (nodup_bids s)]
  refine ⟨hb, ?_⟩
  have h1 : rank (bids s) b < (bids s).countP fun b => decide (p ≤ b.offer) := by
    unfold rank
    obtain ⟨l, m, he⟩ := List.append_of_mem hb
    rw [he, List.countP_append, List.countP_append, List.countP_cons, List.countP_cons, bLt_irr]
    have e1 : l.countP (fun c => bLt c b) ≤ l.countP fun b => decide (p ≤ b.offer) := List.countP_mono_left fun c _ h => by rw [bLt_iff] at h; simp; omega
    have e2 : m.countP (fun c => bLt c b) ≤ m.countP fun b => decide (p ≤ b.offer) := List.countP_mono_left fun c _ h => by rw [bLt_iff] at h; simp; omega
    simp [hp]; omega
  omega
theorem wn_all {s : Sal} {p : Int} (hall : ∀ b ∈ wn s, p ≤ b.offer) (hc : (bids s).countP (fun b => decide (p ≤ b.offer)) ≤ s.crans.toNat) : (bids s).countP (fun b => decide (p ≤ b.offer)) = (wn s).length := by
  have hperm : ((bids s).filter fun b => decide (p ≤ b.offer)).Perm (wn s) :=
    (List.perm_ext_iff_of_nodup ((nodup_bids s).sublist List.filter_sublist) (wn_nodup s)).2 fun b => by
      rw [List.mem_filter, decide_eq_true_eq]
      exact ⟨fun h => win_up h.1 h.2 hc, fun h => ⟨wn_bids h, hall b h⟩⟩
  rw [List.countP_eq_length_filter, hperm.length_eq]
/-- What is taken at a price above the least bid that wins: all that is asked for. -/
theorem clk_above {s : Sal} (ho : Ok s) {order : List Nat} (hr : Order s.offers.length order) {P : Int} (hP : IsLast s P) (k : Nat) (hk : s.least ≤ 10001 - (k : Int)) (hp : P < 10001 - (k : Int)) :
    ∀ b, b < s.offers.length → (clk s order k).t b = if P < 0 then 0 else dem s (10001 - k) b := by
  have h := clk_at ho hr k
  have hd := dem_bids ho hk
  intro b hb
  rcases hP with ⟨hw, rfl⟩ | ⟨m, hm, rfl, hmin⟩
  · rw [if_pos (by omega)]
    have hlen := (wn_length ho).2.2
    rw [hw] at hlen
    simp only [List.length_nil] at hlen
    by_cases hc : s.crans.toNat = 0
    · have h1 := h.all
      have h2 := sumT_le (n := s.offers.length) (f := fun i => if i = b then (clk s order k).t b else 0) (g := (clk s order k).t) fun i _ => by
        show (if i = b then (clk s order k).t b else 0) ≤ _
        split
        · rename_i e; subst e; exact Nat.le_refl _
        · exact Nat.zero_le _
      have h3 : sumT s.offers.length (fun i => if i = b then (clk s order k).t b else 0) = (clk s order k).t b := by
        have := sumT_upd (n := s.offers.length) (f := fun _ => 0) (b := b) (m := (clk s order k).t b) hb
        simp only [Nat.zero_add] at this
        rw [this]
        have : ∀ n, sumT n (fun _ => 0) = 0 := fun n => by
          induction n with
          | zero => rfl
          | succ n ih => rw [sumT_succ, ih]
        rw [this]; omega
      omega
    · have hb0 : bids s = [] := List.eq_nil_of_length_eq_zero (by omega)
      rw [hb0] at hd
      simp only [List.countP_nil] at hd
      have h4 := h.le b
      have h5 := sumT_eq (n := s.offers.length) (f := fun _ => 0) (g := dem s (10001 - k)) (fun _ _ => Nat.zero_le _) (by omega) b hb
      omega
  · have hm0 := (offer_nonneg ho (wn_bids hm)).1
    rw [if_neg (by omega)]
    rcases h.full with hf | hf
    · exact hf b hb
    · -- all that is asked for is no more than all that win
      have hle : (bids s).countP (fun b => decide (10001 - (k : Int) ≤ b.offer)) ≤ (wn s).length := by
        have hperm : ∀ b ∈ (bids s).filter (fun b => decide (10001 - (k : Int) ≤ b.offer)), b ∈ wn s := fun c hc => by
          rw [List.mem_filter, decide_eq_true_eq] at hc
          exact top_up (nodup_bids s) hm hc.1 (by rw [bLt_iff]; omega)
        have := count_sub (wn_nodup s) ((nodup_bids s).sublist List.filter_sublist) hperm (fun _ => true)
        rw [List.countP_eq_length_filter]
        simpa using this
      have hlen := (wn_length ho).2.2
      have h1 := h.all
      rw [hf] at h1
      exact sumT_eq (n := s.offers.length) (fun i _ => h.le i) (by omega) b hb
/-- What is taken at the least bid that wins, and below: all that is sold. -/
theorem clk_below {s : Sal} (ho : Ok s) {order : List Nat} (hr : Order s.offers.length order) {P : Int} (hP : IsLast s P) (k : Nat) (hk : s.least ≤ 10001 - (k : Int)) (hp : 10001 - (k : Int) ≤ P) :
    sumT s.offers.length (clk s order k).t = (wn s).length := by
  have h := clk_at ho hr k
  have hd := dem_bids ho hk
  have hlen := (wn_length ho).2.2
  have hall : ∀ b ∈ wn s, 10001 - (k : Int) ≤ b.offer := fun b hb => by
    rcases hP with ⟨hw, rfl⟩ | ⟨m, hm, rfl, hmin⟩
    · rw [hw] at hb; cases hb
    · have := hmin b hb; omega
  by_cases hc : (bids s).countP (fun b => decide (10001 - (k : Int) ≤ b.offer)) ≤ s.crans.toNat
  · have hw := wn_all hall hc
    rcases h.full with hf | hf
    · rw [sumT_congr hf, hd, hw]
    · have h1 := h.all
      have h2 := sumT_le (n := s.offers.length) fun i _ => h.le i
      omega
  · rcases h.full with hf | hf
    · have h1 := h.all
      rw [sumT_congr hf] at h1
      omega
    · have h1 := h.all
      have h2 : (bids s).countP (fun b => decide (10001 - (k : Int) ≤ b.offer)) ≤ (bids s).length := List.countP_le_length
      omega
/-- Whether something is taken at a price: the last one is the least bid that wins. -/
theorem clk_change {s : Sal} (ho : Ok s) {order : List Nat} (hr : Order s.offers.length order) {P : Int} (hP : IsLast s P) (k : Nat) (hk : s.least ≤ 10000 - (k : Int)) (hp : 10000 - (k : Int) ≤ P) :
    ((∀ b, b < s.offers.length → (clk s order (k + 1)).t b = (clk s order k).t b) ↔ 10000 - (k : Int) ≠ P) := by
  have h1 := clk_below ho hr hP (k + 1) (by omega) (by omega)
  constructor
  · rintro hs rfl
    rw [sumT_congr hs] at h1
    have h2 := clk_above ho hr hP k (by omega) (by omega)
    have hd := dem_bids ho (p := 10001 - (k : Int)) (by omega)
    rcases hP with ⟨hw, he⟩ | ⟨m, hm, he, hmin⟩
    · have := ho.least; omega
    · have hm0 := (offer_nonneg ho (wn_bids hm)).1
      rw [sumT_congr (g := dem s (10001 - (k : Int))) (fun b hb => by rw [h2 b hb, if_neg (show ¬ (10000 - (k : Int)) < 0 by omega)]), hd] at h1
      have hsub : ∀ b ∈ (bids s).filter (fun b => decide (10001 - (k : Int) ≤ b.offer)), b ∈ wn s := fun c hc => by
        rw [List.mem_filter, decide_eq_true_eq] at hc
        exact top_up (nodup_bids s) hm hc.1 (by rw [bLt_iff]; omega)
      have h3 := count_sub (wn_nodup s) ((nodup_bids s).sublist List.filter_sublist) hsub (fun b => decide (10001 - (k : Int) ≤ b.offer))
      rw [List.countP_filter] at h3
      simp only [Bool.and_self] at h3
      have h4 : (wn s).countP (fun b => decide (10001 - (k : Int) ≤ b.offer)) < (wn s).length := by
        rw [← Nat.not_le]
        intro hle
        have := List.countP_eq_length.1 (Nat.le_antisymm List.countP_le_length hle) m hm
        simp at this; omega
      omega
  · intro hne b hb
    have h2 := clk_below ho hr hP k (by omega) (by omega)
    exact (sumT_eq (n := s.offers.length) (fun i _ => clk_mono ho hr k i) (by omega) b hb).symm
end Au

end Go.Proofs.Ytfkehbhlagpmcaa
