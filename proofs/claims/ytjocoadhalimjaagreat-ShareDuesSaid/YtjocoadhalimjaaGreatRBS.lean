/- The shares of a voyage: what they are together; what each name has of each part. -/
import Derived.Test.YtjocoadhalimjaaGreatRBR
import Derived.Test.YtjocoadhalimjaaGreatRBM
import Derived.Test.YtjocoadhalimjaaGreatRBK
set_option linter.unusedSimpArgs false
set_option linter.unusedVariables false
namespace Go.Proofs.YtjocoadhalimjaaGreat
section
open Go Go.RowKit Go.Shelf

theorem val_at {L : List Stk} {A : Nat → Int} (hd : (L.map (·.name)).Nodup) : ∀ (n : Nat), n ≤ L.length → ∀ i, i < n → valTo L A (L.getD i noStk).name n = A i
  | 0, _, i, h => by omega
  | n + 1, hn, i, hi => by
    unfold valTo
    by_cases h : i = n
    · subst h; rw [if_pos rfl]
    · rw [if_neg, val_at hd n (by omega) i (by omega)]
      intro he
      rw [getD_of (by omega), getD_of (by omega)] at he
      have := List.pairwise_iff_getElem.1 hd i n (by simp; omega) (by simp; omega) (by omega)
      simp only [List.getElem_map] at this
      exact this he.symm
theorem in_at {L : List Stk} : ∀ (n : Nat), n ≤ L.length → ∀ i, i < n → inTo L (L.getD i noStk).name n = true
  | 0, _, i, h => by omega
  | n + 1, hn, i, hi => by
    unfold inTo
    by_cases h : i = n
    · subst h; simp
    · rw [in_at n (by omega) i (by omega)]; simp
theorem in_not {L : List Stk} (hd : (L.map (·.name)).Nodup) {k : Nat} (hk : k < L.length) : ∀ n, n ≤ k → inTo L (L.getD k noStk).name n = false
  | 0, _ => rfl
  | n + 1, hn => by
    unfold inTo
    rw [in_not hd hk n (by omega), Bool.or_false, decide_eq_false_iff_not]
    intro he
    rw [getD_of (by omega), getD_of hk] at he
    have := List.pairwise_iff_getElem.1 hd n k (by simp; omega) (by simpa using hk) (by omega)
    simp only [List.getElem_map] at this
    exact this he
theorem sum_bump {α : Type} [DecidableEq α] (f : α → Int) (x : α) (a : Int) (hx : f x = 0) : ∀ ns : List α, ns.Nodup → x ∈ ns → (ns.map fun y => if x = y then a else f y).sum = (ns.map f).sum + a
  | [], _, h => by simp at h
  | y :: ns, hd, h => by
    rw [List.nodup_cons] at hd
    simp only [List.map_cons, List.sum_cons]
    by_cases hy : x = y
    · subst hy
      have : (ns.map fun y => if x = y then a else f y) = ns.map f := List.map_congr_left fun z hz => by
        rw [if_neg]; rintro rfl; exact hd.1 hz
      rw [if_pos rfl, this, hx]; omega
    · have hm : x ∈ ns := by
        cases h with
        | head => exact absurd rfl hy
        | tail _ h => exact h
      rw [if_neg hy, sum_bump f x a hx ns hd.2 hm]; omega
theorem val_sum {L : List Stk} {A : Nat → Int} {ns : List ByteArray} (hd : (L.map (·.name)).Nodup) (hn : ns.Nodup) (hm : ∀ i, i < L.length → (L.getD i noStk).name ∈ ns) : ∀ k, k ≤ L.length → (ns.map fun nm => valTo L A nm k).sum = ((List.range k).map A).sum
  | 0, _ => by
    have : (ns.map fun nm => valTo L A nm 0) = ns.map fun _ => (0 : Int) := rfl
    rw [this]
    clear hn hm this
    induction ns with
    | nil => rfl
    | cons a ns ih => simpa using ih
  | k + 1, hk => by
    have ih := val_sum (A := A) hd hn hm k (by omega)
    have h0 : valTo L A (L.getD k noStk).name k = 0 := valTo_out k (in_not hd (by omega) k (Nat.le_refl _))
    have := sum_bump (fun nm => valTo L A nm k) (L.getD k noStk).name (A k) h0 ns hn (hm k (by omega))
    rw [List.range_succ, List.map_append, List.sum_append, ← ih]
    simp only [List.map_cons, List.map_nil, List.sum_cons, List.sum_nil, Int.add_zero]
    exact this
theorem give_none (l : List Stk) (i : Nat) : giveTo 0 l i = 0 := by
  have hl : leftTo 0 (sumW l) l l.length = 0 := by
    unfold leftTo
    have : ((l.take l.length).map fun s => (0 : Int) * s.weight / sumW l) = (l.take l.length).map fun _ => 0 := List.map_congr_left fun s _ => by simp
    rw [this]
    have : ∀ m : List Stk, (m.map fun _ => (0 : Int)).sum = 0 := fun m => by induction m with | nil => rfl | cons a m ih => simpa using ih
    rw [this]; rfl
  unfold giveTo getsTo
  rw [hl]
  by_cases hi : i < l.length
  · rw [shrs_get hi]; simp [shrOf]
  · rw [List.getD_eq_getElem?_getD, List.getElem?_eq_none (by simp [shrs]; omega)]; simp [noShr]
theorem part_sum {P : Int} {l : List Stk} (h : CanDiv P l) : ((List.range l.length).map (giveTo P l)).sum = P := by
  rcases h.pos with h0 | h0
  · subst h0
    have : (List.range l.length).map (giveTo 0 l) = (List.range l.length).map fun _ => (0 : Int) := List.map_congr_left fun i _ => give_none l i
    rw [this]
    have : ∀ m : List Nat, (m.map fun _ => (0 : Int)).sum = 0 := fun m => by induction m with | nil => rfl | cons a m ih => simpa using ih
    exact this _
  · exact (give_facts h.pb.1 (fun s hs => (h.w s hs).1) h0 h.nd).2.2
section
variable {V : Voy} {ns : List ByteArray}
theorem names_nodup (h : DueNames V ns) : ns.Nodup := h.rise.imp fun {a b} hab he => by
  rw [he, nmLt_irr] at hab; cases hab
theorem name_in (h : DueNames V ns) {j : Nat} (hj : j < 3) {i : Nat} (hi : i < (partL V j).length) : ((partL V j).getD i noStk).name ∈ ns := by
  rw [h.mem]
  have := in_at (L := partL V j) (partL V j).length (Nat.le_refl _) i hi
  unfold inAny lensV
  rcases (by omega : j = 0 ∨ j = 1 ∨ j = 2) with rfl | rfl | rfl <;> rw [this] <;> simp
theorem due_own (hE : voyE V = 0) {j : Nat} (hj : j < 3) {i : Nat} (hi : i < (partL V j).length) : dvv V ((partL V j).getD i noStk).name j = partG V j i :=
  val_at (can_div (voyE_ok hE).1 (voyE_ok hE).2 j hj).nd _ (Nat.le_refl _) i hi
theorem due_part (hE : voyE V = 0) (h : DueNames V ns) {j : Nat} (hj : j < 3) : (ns.map fun nm => dvv V nm j).sum = partP V j := by
  have hc := can_div (voyE_ok hE).1 (voyE_ok hE).2 j hj
  rw [← part_sum hc]
  exact val_sum hc.nd (names_nodup h) (fun i hi => name_in h hj hi) _ (Nat.le_refl _)
def dueTo (V : Voy) (ns : List ByteArray) (k : Nat) : Int := ((ns.take k).map fun nm => dvv V nm 0 + dvv V nm 1 + dvv V nm 2).sum
theorem dueTo_succ (V : Voy) {ns : List ByteArray} {k : Nat} (h : k < ns.length) : dueTo V ns (k + 1) = dueTo V ns k + (dvv V ns[k] 0 + dvv V ns[k] 1 + dvv V ns[k] 2) := by
  unfold dueTo
  rw [List.take_succ_eq_append_getElem h, List.map_append, List.sum_append]; simp
theorem due_all (hE : voyE V = 0) (h : DueNames V ns) : dueTo V ns ns.length = netV V := by
  have h0 := due_part hE h (j := 0) (by omega)
  have h1 := due_part hE h (j := 1) (by omega)
  have h2 := due_part hE h (j := 2) (by omega)
  have hb := (part_bound (voyE_ok hE).1).2.2.2.2
  unfold dueTo
  rw [List.take_length, ← hb, ← h0, ← h1, ← h2]
  clear h0 h1 h2 hb h
  induction ns with
  | nil => rfl
  | cons a ns ih => simp only [List.map_cons, List.sum_cons, ih]; omega
theorem val_bound {L : List Stk} {A : Nat → Int} {nm : ByteArray} {M : Int} (hM : 0 ≤ M) : ∀ k, (∀ i, i < k → 0 ≤ A i ∧ A i ≤ M) → 0 ≤ valTo L A nm k ∧ valTo L A nm k ≤ M
  | 0, _ => ⟨Int.le_refl _, hM⟩
  | k + 1, h => by
    unfold valTo
    split
    · exact h k (by omega)
    · exact val_bound hM k fun i hi => h i (by omega)
theorem part_give (hE : voyE V = 0) {j : Nat} (hj : j < 3) {i : Nat} (hi : i < (partL V j).length) : 0 ≤ partG V j i ∧ partG V j i ≤ 10000000 := by
  have hc := can_div (voyE_ok hE).1 (voyE_ok hE).2 j hj
  unfold partG
  rcases hc.pos with h0 | h0
  · rw [h0, give_none]; omega
  · have := (give_facts hc.pb.1 (fun s hs => (hc.w s hs).1) h0 hc.nd).1 i hi
    have := hc.pb; omega
theorem dvv_bound (hE : voyE V = 0) (nm : ByteArray) {j : Nat} (hj : j < 3) : 0 ≤ dvv V nm j ∧ dvv V nm j ≤ 10000000 :=
  val_bound (by omega) _ fun i hi => part_give hE hj hi
theorem dueTo_bound (hE : voyE V = 0) (ns : List ByteArray) : ∀ k, k ≤ ns.length → 0 ≤ dueTo V ns k ∧ dueTo V ns k ≤ 30000000 * (k : Int)
  | 0, _ => by simp [dueTo]
  | k + 1, hk => by
    have ih := dueTo_bound hE ns k (by omega)
    rw [dueTo_succ V (by omega)]
    have h0 := dvv_bound hE ns[k] (j := 0) (by omega)
    have h1 := dvv_bound hE ns[k] (j := 1) (by omega)
    have h2 := dvv_bound hE ns[k] (j := 2) (by omega)
    omega
theorem fair_parts (hE : voyE V = 0) : FairOk (netV V) [partP V 0, partP V 1, partP V 2] [V.bo, V.ne, V.cr] := by
  have hok := (voyE_ok hE).1
  have h := give_fair (P := netV V) (l := threeS V.bo V.ne V.cr) (net_bound hok) (fun s hs => by simp [threeS] at hs; have := hok.bo; have := hok.ne; have := hok.cr; rcases hs with rfl | rfl | rfl <;> simp only <;> omega) (by simp [threeS]) (by rw [three_sum]; have := hok.all; omega) (three_names _ _ _)
  exact h
theorem back_pos {b : Int} {l : List Stk} (h : b = back b l) (hb : b ≠ 0) (hw : ∀ s ∈ l, 0 ≤ s.weight) : 0 < sumW l := by
  have h1 := sumW_nonneg hw
  by_cases h0 : sumW l = 0
  · unfold back at h; rw [if_pos h0] at h; exact absurd h hb
  · omega
theorem fair_part (hE : voyE V = 0) {j : Nat} (hj : j < 3) (h0 : 0 < sumW (partL V j)) : FairOk (partP V j) (gvs (partP V j) (partL V j)) (wtsL (partL V j)) := by
  have hc := can_div (voyE_ok hE).1 (voyE_ok hE).2 j hj
  exact give_fair hc.pb hc.w hc.len h0 hc.nd
theorem pos_part (hE : voyE V = 0) : (V.bo ≠ 0 → 0 < sumW (partL V 0)) ∧ (V.ne ≠ 0 → 0 < sumW (partL V 1)) ∧ (V.cr ≠ 0 → 0 < sumW (partL V 2)) := by
  obtain ⟨hok, hle⟩ := voyE_ok hE
  have so := stakes_ok hok.ow
  have sl := stakes_ok hok.le
  have sh := stakes_ok hok.ha
  refine ⟨fun h => back_pos hok.bbo h fun s hs => (so.2.1 s hs).2.1, fun h => ?_, fun h => back_pos hok.bcr h fun s hs => (sh.2.1 s hs).2.1⟩
  have h1 := back_pos hok.bne h fun s hs => (sl.2.1 s hs).2.1
  show 0 < sumW (clm V.le (lentV V) V.le.length)
  rw [clm_sum]
  have := lent_sum sl.2.2 V.lo.length (Nat.le_refl _) (lend_ok hle).2.1
  unfold lentV
  omega
end
end
section
open Go Go.RowKit Go.Shelf
/-- Running sums over a list: of all, of a part, and how many are of the part. -/
def runL (b : Nat → Int) (g : List Int) (k : Nat) : Int := ((g.take k).map fun x => b x.toNat).sum
def runP (b : Nat → Int) (s : Nat) (g : List Int) : Nat → Int
  | 0 => 0
  | k + 1 => runP b s g k + if s.testBit k then b (g.getD k 0).toNat else 0
def runM (s : Nat) : Nat → Nat
  | 0 => 0
  | k + 1 => runM s k + if s.testBit k then 1 else 0
theorem runM_le (s : Nat) : ∀ k, runM s k ≤ k
  | 0 => Nat.le_refl _
  | k + 1 => by have := runM_le s k; unfold runM; split <;> omega
theorem runL_succ {b : Nat → Int} {g : List Int} {k : Nat} (h : k < g.length) : runL b g (k + 1) = runL b g k + b g[k].toNat := by
  unfold runL
  rw [List.take_succ_eq_append_getElem h, List.map_append, List.sum_append]; simp
theorem runP_app (b : Nat → Int) (s : Nat) (g : List Int) (x : Int) : ∀ k, k ≤ g.length → runP b s (g ++ [x]) k = runP b s g k
  | 0, _ => rfl
  | k + 1, h => by
    unfold runP
    rw [runP_app b s g x k (by omega)]
    rw [List.getD_eq_getElem?_getD, List.getD_eq_getElem?_getD, List.getElem?_append_left (by omega)]
/-- The part that a number chooses of the numbers of a set. -/
def selF (t s : Nat) : Sv.St := fun i => t.testBit i && s.testBit (numsTo t i).length
theorem runP_tal (b : Nat → Int) (t s : Nat) : ∀ k, runP b s (numsTo t k) (numsTo t k).length = Sv.tal k b (selF t s)
  | 0 => rfl
  | k + 1 => by
    have ih := runP_tal b t s k
    rw [tal_succ, ← ih]
    show runP b s (if t.testBit k then numsTo t k ++ [(k : Int)] else numsTo t k) (if t.testBit k then numsTo t k ++ [(k : Int)] else numsTo t k).length = _
    by_cases h : t.testBit k = true
    · rw [if_pos h, List.length_append, List.length_singleton]
      show runP b s _ _ + (if _ then _ else _) = _
      rw [runP_app b s _ _ _ (Nat.le_refl _)]
      have : selF t s k = s.testBit (numsTo t k).length := by unfold selF; rw [h, Bool.true_and]
      rw [this]
      have h2 : ((numsTo t k ++ [(k : Int)]).getD (numsTo t k).length 0).toNat = k := by simp
      rw [h2]
    · rw [if_neg h]
      have : selF t s k = false := by unfold selF; simp at h; rw [h, Bool.false_and]
      rw [this]; simp
theorem runL_tal (b : Nat → Int) (t : Nat) : ∀ k, runL b (numsTo t k) (numsTo t k).length = Sv.tal k b (bitN t)
  | 0 => rfl
  | k + 1 => by
    have ih := runL_tal b t k
    unfold runL at ih ⊢
    rw [List.take_length] at ih ⊢
    rw [tal_succ, ← ih]
    show ((if t.testBit k then numsTo t k ++ [(k : Int)] else numsTo t k).map _).sum = _ + (if t.testBit k then _ else _)
    split
    · rw [List.map_append, List.sum_append]; simp
    · simp
theorem runM_some (t s : Nat) : ∀ k, 0 < runM s (numsTo t k).length → ∃ i, i < k ∧ selF t s i = true
  | 0, h => by simp [numsTo, runM] at h
  | k + 1, h => by
    by_cases hk : t.testBit k = true
    · have e : (numsTo t (k + 1)).length = (numsTo t k).length + 1 := by
        show (if t.testBit k then numsTo t k ++ [(k : Int)] else numsTo t k).length = _
        rw [if_pos hk]; simp
      rw [e] at h
      unfold runM at h
      by_cases hs : s.testBit (numsTo t k).length = true
      · exact ⟨k, by omega, by unfold selF; rw [hk, hs]; rfl⟩
      · rw [if_neg hs] at h
        obtain ⟨i, h1, h2⟩ := runM_some t s k h
        exact ⟨i, by omega, h2⟩
    · have e : numsTo t (k + 1) = numsTo t k := by
        show (if t.testBit k then numsTo t k ++ [(k : Int)] else numsTo t k) = _
        rw [if_neg hk]
      rw [e] at h
      obtain ⟨i, h1, h2⟩ := runM_some t s k h
      exact ⟨i, by omega, h2⟩
theorem runM_not (t s : Nat) : ∀ k, runM s (numsTo t k).length < (numsTo t k).length → ∃ i, i < k ∧ t.testBit i = true ∧ selF t s i = false
  | 0, h => by simp [numsTo, runM] at h
  | k + 1, h => by
    by_cases hk : t.testBit k = true
    · have e : (numsTo t (k + 1)).length = (numsTo t k).length + 1 := by
        show (if t.testBit k then numsTo t k ++ [(k : Int)] else numsTo t k).length = _
        rw [if_pos hk]; simp
      rw [e] at h
      unfold runM at h
      by_cases hs : s.testBit (numsTo t k).length = true
      · rw [if_pos hs] at h
        obtain ⟨i, h1, h2⟩ := runM_not t s k (by omega)
        exact ⟨i, by omega, h2⟩
      · exact ⟨k, by omega, hk, by unfold selF; simp at hs; rw [hk, hs]; rfl⟩
    · have e : numsTo t (k + 1) = numsTo t k := by
        show (if t.testBit k then numsTo t k ++ [(k : Int)] else numsTo t k) = _
        rw [if_neg hk]
      rw [e] at h
      obtain ⟨i, h1, h2⟩ := runM_not t s k h
      exact ⟨i, by omega, h2⟩
/-- The numbers of a set: which they are, and that they rise. -/
theorem numsTo_in (t : Nat) (x : Int) : ∀ k, x ∈ numsTo t k ↔ ∃ i : Nat, i < k ∧ x = (i : Int) ∧ t.testBit i = true
  | 0 => by simp [numsTo]
  | k + 1 => by
    have ih := numsTo_in t x k
    unfold numsTo
    by_cases hk : t.testBit k = true
    · rw [if_pos hk, List.mem_append, ih, List.mem_singleton]
      constructor
      · rintro (⟨i, h1, h2, h3⟩ | rfl)
        · exact ⟨i, by omega, h2, h3⟩
        · exact ⟨k, by omega, rfl, hk⟩
      · rintro ⟨i, h1, h2, h3⟩
        by_cases hik : i = k
        · subst hik; exact .inr h2
        · exact .inl ⟨i, by omega, h2, h3⟩
    · rw [if_neg hk, ih]
      constructor
      · rintro ⟨i, h1, h2, h3⟩; exact ⟨i, by omega, h2, h3⟩
      · rintro ⟨i, h1, h2, h3⟩
        have : i ≠ k := fun e => hk (e ▸ h3)
        exact ⟨i, by omega, h2, h3⟩
theorem numsTo_up (t : Nat) : ∀ k, (numsTo t k).Pairwise (· < ·)
  | 0 => .nil
  | k + 1 => by
    have ih := numsTo_up t k
    unfold numsTo
    split
    · rw [List.pairwise_append]
      refine ⟨ih, List.pairwise_singleton _ _, fun a ha b hb => ?_⟩
      rw [List.mem_singleton] at hb
      subst hb
      obtain ⟨i, h1, h2, _⟩ := (numsTo_in t a k).1 ha
      omega
    · exact ih
theorem tal_wide {n : Nat} {b : Nat → Int} {S : Sv.St} (hS : ∀ i, S i = true → i < n) : ∀ d, Sv.tal (n + d) b S = Sv.tal n b S
  | 0 => rfl
  | d + 1 => by
    rw [show n + (d + 1) = n + d + 1 by omega, tal_succ, tal_wide hS d]
    cases h : S (n + d) with
    | false => simp
    | true => have := hS _ h; omega
theorem tal_ten {n : Nat} {b : Nat → Int} {S : Sv.St} (hn : n ≤ 10) (hS : ∀ i, S i = true → i < n) : Sv.tal 10 b S = Sv.tal n b S := by
  have := tal_wide (b := b) hS (10 - n)
  rwa [show n + (10 - n) = 10 by omega] at this
/-- What a group that is told is. -/
structure GrpOk (n : Nat) (b : Nat → Int) (g : List Int) : Prop where
  len : 2 ≤ g.length ∧ g.length ≤ 10
  rng : ∀ x ∈ g, 0 ≤ x ∧ x < (n : Int)
  up : g.Pairwise (· < ·)
  sum : runL b g g.length = 0
  min : ∀ s : Nat, runP b s g g.length = 0 → 0 < runM s g.length → runM s g.length < g.length → False
theorem grp_ok {n S a t : Nat} {b : Nat → Int} {ts : List Nat} (hn : n ≤ 10) (h : GroupsOk n b S a ts) (hS : bitN S = Sv.nz n b) (ht : t ∈ ts) : GrpOk n b (numsTo t 10) := by
  obtain ⟨h1, h2, ⟨i0, hi0, hb0⟩, h4, h5⟩ := h.each t ht
  have hin : ∀ i, bitN t i = true → i < n ∧ b i ≠ 0 := fun i hi => by
    have := h2 i hi
    rw [hS] at this
    unfold Sv.nz at this
    simpa using this
  have hsum : runL b (numsTo t 10) (numsTo t 10).length = 0 := by
    rw [runL_tal, tal_ten hn fun i hi => (hin i hi).1, h4]
  have hrng : ∀ x ∈ numsTo t 10, 0 ≤ x ∧ x < (n : Int) := fun x hx => by
    obtain ⟨i, h6, rfl, h7⟩ := (numsTo_in t x 10).1 hx
    have := (hin i h7).1
    omega
  refine ⟨⟨?_, numsTo_len t 10⟩, hrng, numsTo_up t 10, hsum, fun s hp hm0 hm1 => ?_⟩
  · have hmem : (i0 : Int) ∈ numsTo t 10 := (numsTo_in t _ 10).2 ⟨i0, by omega, rfl, hb0⟩
    match hg : numsTo t 10, hmem, hsum with
    | [x], hm, hs =>
      exfalso
      rw [List.mem_singleton] at hm
      subst hm
      simp [runL] at hs
      exact (hin i0 hb0).2 hs
    | x :: y :: l, _, _ => simp
  · rw [runP_tal] at hp
    have hsub : Sv.Sub (selF t s) (bitN t) := fun i hi => by unfold selF at hi; rw [Bool.and_eq_true] at hi; exact hi.1
    rw [tal_ten hn fun i hi => (hin i (hsub i hi)).1] at hp
    obtain ⟨i, h6, h7⟩ := runM_some t s 10 hm0
    obtain ⟨j, h8, h9, h10⟩ := runM_not t s 10 hm1
    refine h5 _ hsub hp ⟨i, (hin i (hsub i h7)).1, h7⟩ ⟨j, (hin j h9).1, ?_⟩
    unfold Sv.dif bitN
    rw [h9, h10]; rfl
/-- How often each was met, in the first groups. -/
def metT (ts : List Nat) (m i : Nat) : Nat := (ts.take m).countP fun t => t.testBit i
def cntT (g : List Int) (k i : Nat) : Nat := (g.take k).count (i : Int)
theorem cntT_succ {g : List Int} {k i : Nat} (h : k < g.length) : cntT g (k + 1) i = cntT g k i + if g[k] = (i : Int) then 1 else 0 := by
  unfold cntT
  rw [List.take_succ_eq_append_getElem h, List.count_append]
  simp [List.count_singleton]
theorem cnt_all {t i : Nat} (hi : i < 10) : cntT (numsTo t 10) (numsTo t 10).length i = if t.testBit i then 1 else 0 := by
  unfold cntT
  rw [List.take_length]
  have hnd : (numsTo t 10).Nodup := (numsTo_up t 10).imp fun h => by omega
  rw [List.Nodup.count hnd]
  by_cases h : t.testBit i = true
  · rw [if_pos h, if_pos ((numsTo_in t _ 10).2 ⟨i, hi, rfl, h⟩)]
  · rw [if_neg h, if_neg fun hm => ?_]
    obtain ⟨j, _, h2, h3⟩ := (numsTo_in t _ 10).1 hm
    have : i = j := by omega
    exact h (this ▸ h3)
theorem metT_succ {ts : List Nat} {m i : Nat} (h : m < ts.length) : metT ts (m + 1) i = metT ts m i + if ts[m].testBit i then 1 else 0 := by
  unfold metT
  rw [List.take_succ_eq_append_getElem h, List.countP_append]
  simp [List.countP_cons]
theorem metT_le (ts : List Nat) (m i : Nat) : metT ts m i ≤ ts.length := by
  unfold metT
  exact Nat.le_trans List.countP_le_length (by rw [List.length_take]; omega)
theorem met_all {n S : Nat} {b : Nat → Int} {ts : List Nat} (h : GroupsOk n b S 0 ts) (hS : bitN S = Sv.nz n b) {i : Nat} (hi : i < n) : metT ts ts.length i = if b i = 0 then 0 else 1 := by
  unfold metT
  rw [List.take_length]
  have hone : ts.countP (fun t => t.testBit i) ≤ 1 := by
    have hp := h.apart
    clear h
    induction ts with
    | nil => simp
    | cons t ts ih =>
      rw [List.pairwise_cons] at hp
      rw [List.countP_cons]
      cases ht : t.testBit i with
      | false => simpa using ih hp.2
      | true =>
        have : ts.countP (fun t => t.testBit i) = 0 := by
          rw [List.countP_eq_zero]
          intro u hu hb
          have h1 := hp.1 u hu i ht
          unfold bitN at h1
          rw [hb] at h1; cases h1
        simp [this]
  by_cases h0 : b i = 0
  · rw [if_pos h0, List.countP_eq_zero]
    intro t ht hb
    have h1 := (h.each t ht).2.1 i hb
    rw [hS] at h1
    unfold Sv.nz at h1
    simp [h0] at h1
  · rw [if_neg h0]
    have h1 : bitN S i = true := by rw [hS]; unfold Sv.nz; simp [hi, h0]
    rcases h.all i h1 with h2 | ⟨t, ht, h2⟩
    · simp [bitN] at h2
    · have : 0 < ts.countP (fun t => t.testBit i) := List.countP_pos_iff.2 ⟨t, ht, h2⟩
      omega
end
end Go.Proofs.YtjocoadhalimjaaGreat
