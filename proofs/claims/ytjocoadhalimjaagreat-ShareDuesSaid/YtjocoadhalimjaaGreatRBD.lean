/- Clearing: the mathematics, and appends of whole rows. -/
import Derived.Test.YtjocoadhalimjaaGreatRBC
set_option linter.unusedSimpArgs false
set_option linter.unusedVariables false
namespace Go.Proofs.YtjocoadhalimjaaGreat
section
open Go Go.RowKit Go.Shelf

theorem numsTo_mem (s : Nat) : ∀ k (x : Int), x ∈ numsTo s k ↔ ∃ i : Nat, i < k ∧ bitN s i = true ∧ x = i
  | 0, x => by simp [numsTo]
  | k + 1, x => by
    have e : numsTo s (k + 1) = if s.testBit k then numsTo s k ++ [(k : Int)] else numsTo s k := rfl
    have ih := numsTo_mem s k x
    constructor
    · intro h
      rw [e] at h
      by_cases hb : s.testBit k = true
      · rw [if_pos hb, List.mem_append] at h
        rcases h with h | h
        · obtain ⟨i, h1, h2, h3⟩ := ih.1 h
          exact ⟨i, by omega, h2, h3⟩
        · simp at h
          exact ⟨k, by omega, hb, h⟩
      · rw [if_neg hb] at h
        obtain ⟨i, h1, h2, h3⟩ := ih.1 h
        exact ⟨i, by omega, h2, h3⟩
    · rintro ⟨i, h1, h2, h3⟩
      rw [e]
      by_cases hi : i = k
      · subst hi
        rw [if_pos (show s.testBit i = true from h2)]; simp [h3]
      · have := ih.2 ⟨i, by omega, h2, h3⟩
        split
        · exact List.mem_append_left _ this
        · exact this
theorem numsTo_nodup (s : Nat) : ∀ k, (numsTo s k).Nodup
  | 0 => by simp [numsTo]
  | k + 1 => by
    have e : numsTo s (k + 1) = if s.testBit k then numsTo s k ++ [(k : Int)] else numsTo s k := rfl
    rw [e]
    split
    · rw [List.nodup_append]
      refine ⟨numsTo_nodup s k, by simp, fun x hx y hy e => ?_⟩
      obtain ⟨i, h1, _, h3⟩ := (numsTo_mem s k x).1 hx
      simp at hy
      omega
    · exact numsTo_nodup s k
theorem numsTo_count (s : Nat) : ∀ k, (numsTo s k).length = (List.range k).countP (bitN s)
  | 0 => by simp [numsTo]
  | k + 1 => by
    have e : numsTo s (k + 1) = if s.testBit k then numsTo s k ++ [(k : Int)] else numsTo s k := rfl
    rw [e, List.range_succ, List.countP_append, ← numsTo_count s k]
    by_cases hb : s.testBit k = true
    · rw [if_pos hb]; simp [bitN, hb]
    · rw [if_neg hb]; simp [bitN, hb]
theorem numsTo_sum (D : Nat → Int) (s : Nat) : ∀ k, sumG D (numsTo s k) = Sv.tal k D (bitN s)
  | 0 => by simp [numsTo, sumG, Sv.tal]
  | k + 1 => by
    have e : numsTo s (k + 1) = if s.testBit k then numsTo s k ++ [(k : Int)] else numsTo s k := rfl
    rw [e, tal_succ, ← numsTo_sum D s k]
    unfold sumG
    by_cases hb : s.testBit k = true
    · rw [if_pos hb]; simp [bitN, hb]
    · rw [if_neg hb]; simp [bitN, hb]
theorem tal_more (D : Nat → Int) (S : Sv.St) (n : Nat) (hS : ∀ i, n ≤ i → S i = false) : ∀ k, n ≤ k → Sv.tal k D S = Sv.tal n D S
  | k, h => by
    rcases Nat.eq_or_lt_of_le h with h | h
    · rw [h]
    · obtain ⟨m, rfl⟩ : ∃ m, k = m + 1 := ⟨k - 1, by omega⟩
      rw [tal_succ, hS m (by omega), tal_more D S n hS m (by omega)]; simp
theorem countP_disj {α : Type} {p q r : α → Bool} : ∀ l : List α, (∀ x ∈ l, p x = true → r x = true) → (∀ x ∈ l, q x = true → r x = true) → (∀ x ∈ l, p x = true → q x = false) → l.countP p + l.countP q ≤ l.countP r
  | [], _, _, _ => by simp
  | x :: l, h1, h2, h3 => by
    have ih := countP_disj l (fun y hy => h1 y (List.mem_cons_of_mem _ hy)) (fun y hy => h2 y (List.mem_cons_of_mem _ hy)) (fun y hy => h3 y (List.mem_cons_of_mem _ hy))
    rw [List.countP_cons, List.countP_cons, List.countP_cons]
    have a1 := h1 x List.mem_cons_self
    have a2 := h2 x List.mem_cons_self
    have a3 := h3 x List.mem_cons_self
    cases hp : p x <;> cases hq : q x <;> cases hr : r x <;> simp_all <;> omega
theorem payL_off (g : List Int) : ∀ (ps : List Py) (D : Nat → Int), (∀ p ∈ ps, p.a ∈ g ∧ p.z ∈ g) → ∀ i : Nat, (i : Int) ∉ g → ps.foldl payL D i = D i
  | [], D, _, i, _ => rfl
  | p :: ps, D, h, i, hi => by
    rw [List.foldl_cons, payL_off g ps (payL D p) (fun q hq => h q (List.mem_cons_of_mem _ hq)) i hi]
    have h1 := h p List.mem_cons_self
    unfold payL
    rw [if_neg (fun e => hi (by rw [e]; exact h1.2)), if_neg (fun e => hi (by rw [e]; exact h1.1))]
/-- A payment between two of n. -/
def pmOf (p : Py) : Sv.Pm := ⟨p.a.toNat, p.z.toNat, p.s⟩
theorem pyGood_iff {n : Nat} {p : Py} : pyGood n p = true ↔ (0 ≤ p.a ∧ p.a < n) ∧ (0 ≤ p.z ∧ p.z < n) ∧ p.a ≠ p.z ∧ 0 < p.s := by
  simp only [pyGood, inB, Bool.and_eq_true, Bool.not_eq_true', decide_eq_true_eq, beq_eq_false_iff_ne, decide_eq_false_iff_not]
  omega
theorem payL_pay {n : Nat} {p : Py} (h : pyGood n p = true) (D : Nat → Int) : payL D p = Sv.pay D (pmOf p) := by
  obtain ⟨h1, h2, h3, h4⟩ := pyGood_iff.1 h
  funext i
  unfold payL Sv.pay pmOf
  dsimp only
  by_cases e1 : (i : Int) = p.z
  · rw [if_pos e1, if_neg (by omega), if_pos (by omega)]; omega
  · by_cases e2 : (i : Int) = p.a
    · rw [if_neg e1, if_pos e2, if_pos (by omega), if_neg (by omega)]; omega
    · rw [if_neg e1, if_neg e2, if_neg (by omega), if_neg (by omega)]; omega
theorem foldl_pay {n : Nat} : ∀ (ps : List Py) (D : Nat → Int), (∀ p ∈ ps, pyGood n p = true) → ps.foldl payL D = (ps.map pmOf).foldl Sv.pay D
  | [], D, _ => rfl
  | p :: ps, D, h => by
    rw [List.foldl_cons, List.map_cons, List.foldl_cons, payL_pay (h p List.mem_cons_self), foldl_pay ps _ fun q hq => h q (List.mem_cons_of_mem _ hq)]
/-- How many of the balances are not 0. -/
def nzC (xs : List Int) : Nat := (List.range xs.length).countP fun i => decide (balF xs i ≠ 0)
/-- A clearing has at least so many payments. -/
theorem clears_least {xs : List Int} {ps : List Py} {k : Nat} (hg : ∀ p ∈ ps, pyGood xs.length p = true) (hd : ∀ i, i < xs.length → ps.foldl payL (balF xs) i = 0) (hk : Sv.Best xs.length (balF xs) (Sv.nz xs.length (balF xs)) k) : nzC xs ≤ ps.length + k := by
  have := Sv.clear_least (n := xs.length) (b := balF xs) (l := ps.map pmOf) (k := k) (fun p hp => by
    obtain ⟨q, hq, rfl⟩ := List.mem_map.1 hp
    obtain ⟨h1, h2, _⟩ := pyGood_iff.1 (hg q hq)
    unfold pmOf; dsimp only; omega) (fun i hi => by rw [← foldl_pay ps (balF xs) hg]; exact hd i hi) hk
  rw [List.length_map] at this
  exact this
/-- The groups of ts up to the j-th are settled. -/
structure ClOk (xs : List Int) (ts : List Nat) (j : Nat) (D : Nat → Int) (ps : List Py) : Prop where
  good : ∀ p ∈ ps, pyGood xs.length p = true ∧ p.s ≤ 1000000
  fold : D = ps.foldl payL (balF xs)
  done : ∀ i, (∃ t ∈ ts.take j, bitN t i = true) → D i = 0
  left : ∀ i, ¬ (∃ t ∈ ts.take j, bitN t i = true) → D i = balF xs i
  cnt : ps.length + j ≤ (List.range 10).countP fun i => decide (balF xs i ≠ 0) && (D i == 0)
  bnd : ∀ i, -1000000 ≤ D i ∧ D i ≤ 1000000
theorem ClOk.start {xs : List Int} {ts : List Nat} (hx : ∀ x ∈ xs, -1000000 ≤ x ∧ x ≤ 1000000) : ClOk xs ts 0 (balF xs) [] := by
  refine ⟨by simp, rfl, ?_, fun i _ => rfl, by simp, fun i => ?_⟩
  · rintro i ⟨t, ht, _⟩; simp at ht
  · unfold balF
    rcases Nat.lt_or_ge i xs.length with h | h
    · rw [getD_of h]; exact hx _ (List.getElem_mem h)
    · rw [List.getD_eq_getElem?_getD, List.getElem?_eq_none h]; simp
theorem openTo_bal {xs : List Int} {i : Nat} (h : bitN (openTo xs xs.length) i = true) : i < xs.length ∧ balF xs i ≠ 0 := by
  rw [openTo_bit] at h
  simp at h
  exact ⟨h.1, by unfold balF; rw [List.getD_eq_getElem?_getD]; exact h.2⟩
/-- What a group is when its turn comes. -/
theorem ClOk.group {xs : List Int} {ts : List Nat} {j : Nat} {D : Nat → Int} {ps : List Py} (h : ClOk xs ts j D ps) (hn : xs.length ≤ 10) (hg : GroupsOk xs.length (balF xs) (openTo xs xs.length) 0 ts) (hj : j < ts.length) :
    (∀ x ∈ numsTo ts[j] 10, 0 ≤ x ∧ x < (xs.length : Int)) ∧ sumG D (numsTo ts[j] 10) = 0 ∧ (∀ i, bitN ts[j] i = true → D i = balF xs i ∧ balF xs i ≠ 0) ∧ cntG D (numsTo ts[j] 10) = (numsTo ts[j] 10).length ∧ 0 < (numsTo ts[j] 10).length := by
  obtain ⟨h1, h2, ⟨i0, h3, h3'⟩, h4, _⟩ := hg.each _ (List.getElem_mem hj)
  have hD : ∀ i, bitN ts[j] i = true → D i = balF xs i ∧ balF xs i ≠ 0 := fun i hi => by
    refine ⟨h.left i ?_, (openTo_bal (h2 i hi)).2⟩
    rintro ⟨t, ht, hti⟩
    obtain ⟨k, hk, rfl⟩ := List.getElem_of_mem ht
    rw [List.length_take] at hk
    rw [List.getElem_take] at hti
    have := List.pairwise_iff_getElem.1 hg.apart k j (by omega) hj (by omega) i hti
    rw [this] at hi; cases hi
  have hmem : ∀ x ∈ numsTo ts[j] 10, 0 ≤ x ∧ x < (xs.length : Int) := fun x hx => by
    obtain ⟨i, _, hi, rfl⟩ := (numsTo_mem _ _ _).1 hx
    have := (openTo_bal (h2 i hi)).1
    omega
  refine ⟨hmem, ?_, hD, ?_, ?_⟩
  · have e : sumG D (numsTo ts[j] 10) = sumG (balF xs) (numsTo ts[j] 10) := by
      unfold sumG
      congr 1
      apply List.map_congr_left
      intro x hx
      obtain ⟨i, _, hi, rfl⟩ := (numsTo_mem _ _ _).1 hx
      simpa using (hD i hi).1
    rw [e, numsTo_sum, tal_more _ _ xs.length (fun i hi => bitN_high h1 hi) 10 hn, h4]
  · unfold cntG
    rw [List.countP_eq_length]
    intro x hx
    obtain ⟨i, _, hi, rfl⟩ := (numsTo_mem _ _ _).1 hx
    have := hD i hi
    simp only [Int.toNat_natCast, this.1]
    simpa using this.2
  · rw [List.length_pos_iff_exists_mem]
    exact ⟨i0, (numsTo_mem _ _ _).2 ⟨i0, by omega, h3', rfl⟩⟩
theorem ClOk.step {xs : List Int} {ts : List Nat} {j : Nat} {D D' : Nat → Int} {ps qs : List Py} (h : ClOk xs ts j D ps) (hn : xs.length ≤ 10) (hg : GroupsOk xs.length (balF xs) (openTo xs xs.length) 0 ts) (hj : j < ts.length)
    (hs : SetOk xs.length (numsTo ts[j] 10) D D' qs) (hz : ∀ x ∈ numsTo ts[j] 10, D' x.toNat = 0) (hl : 0 < cntG D (numsTo ts[j] 10) → qs.length + 1 ≤ cntG D (numsTo ts[j] 10)) : ClOk xs ts (j + 1) D' (ps ++ qs) := by
  obtain ⟨h1, h2, h3, h4, h5⟩ := h.group hn hg hj
  have hoff : ∀ i : Nat, bitN ts[j] i = false → D' i = D i := fun i hi => by
    rw [hs.fold]
    refine payL_off (numsTo ts[j] 10) qs D (fun p hp => ⟨(hs.good p hp).2.1, (hs.good p hp).2.2.1⟩) i fun hm => ?_
    obtain ⟨k, _, hk, e⟩ := (numsTo_mem _ _ _).1 hm
    have : k = i := by omega
    subst this; rw [hi] at hk; cases hk
  have hon : ∀ i : Nat, bitN ts[j] i = true → D' i = 0 := fun i hi => by
    have hlt : i < xs.length := (openTo_bal ((hg.each _ (List.getElem_mem hj)).2.1 i hi)).1
    have := hz (i : Int) ((numsTo_mem _ _ _).2 ⟨i, by omega, hi, rfl⟩)
    simpa using this
  have htk : ts.take (j + 1) = ts.take j ++ [ts[j]] := List.take_succ_eq_append_getElem hj
  refine ⟨fun p hp => ?_, by rw [List.foldl_append, ← h.fold]; exact hs.fold, ?_, fun i hi => ?_, ?_, hs.bnd⟩
  · rcases List.mem_append.1 hp with hp | hp
    · exact h.good p hp
    · exact ⟨(hs.good p hp).1, (hs.good p hp).2.2.2⟩
  · rintro i ⟨t, ht, hti⟩
    rw [htk] at ht
    cases hb : bitN ts[j] i with
    | true => exact hon i hb
    | false =>
      rw [hoff i hb]
      rcases List.mem_append.1 ht with ht | ht
      · exact h.done i ⟨t, ht, hti⟩
      · rw [List.mem_singleton] at ht; subst ht; rw [hti] at hb; cases hb
  · have hb : bitN ts[j] i = false := by
      cases hb : bitN ts[j] i with
      | false => rfl
      | true => exact absurd ⟨ts[j], by rw [htk]; exact List.mem_append_right _ (List.mem_singleton.2 rfl), hb⟩ hi
    rw [hoff i hb]
    exact h.left i fun ⟨t, ht, hti⟩ => hi ⟨t, by rw [htk]; exact List.mem_append_left _ ht, hti⟩
  · have hc := countP_disj (p := fun i => decide (balF xs i ≠ 0) && (D i == 0)) (q := bitN ts[j]) (r := fun i => decide (balF xs i ≠ 0) && (D' i == 0)) (List.range 10) (fun i _ hp => by
        simp only [Bool.and_eq_true] at hp ⊢
        refine ⟨hp.1, ?_⟩
        cases hb : bitN ts[j] i with
        | true => simp [hon i hb]
        | false => rw [hoff i hb]; exact hp.2) (fun i _ hq => by
        simp only [Bool.and_eq_true]
        exact ⟨by simpa using (h3 i hq).2, by simp [hon i hq]⟩) (fun i _ hp => by
        cases hb : bitN ts[j] i with
        | false => rfl
        | true =>
          have h7 := h3 i hb
          simp only [Bool.and_eq_true] at hp
          have h8 : D i = 0 := by simpa using hp.2
          exact absurd (by rw [← h7.1]; exact h8) h7.2)
    rw [← numsTo_count] at hc
    have h6 := hl (by omega)
    have h7 := h.cnt
    rw [List.length_append]
    omega
theorem ClOk.ended {xs : List Int} {ts : List Nat} {D : Nat → Int} {ps : List Py} (h : ClOk xs ts ts.length D ps) (hn : xs.length ≤ 10) (hg : GroupsOk xs.length (balF xs) (openTo xs xs.length) 0 ts) (hb : Sv.Best xs.length (balF xs) (Sv.nz xs.length (balF xs)) ts.length) :
    (∀ i, D i = 0) ∧ ps.length + ts.length = nzC xs := by
  have hz : ∀ i, D i = 0 := fun i => by
    by_cases hi : ∃ t ∈ ts.take ts.length, bitN t i = true
    · exact h.done i hi
    · rw [h.left i hi]
      refine Classical.byContradiction fun h0 => ?_
      have hlt : i < xs.length := by
        rcases Nat.lt_or_ge i xs.length with hl | hl
        · exact hl
        · exfalso; apply h0; unfold balF; rw [List.getD_eq_getElem?_getD, List.getElem?_eq_none hl]; rfl
      have hop : bitN (openTo xs xs.length) i = true := by
        rw [openTo_nz]; simp [Sv.nz, hlt]; exact h0
      rcases hg.all i hop with h1 | h1
      · simp [bitN] at h1
      · rw [List.take_length] at hi; exact hi h1
  refine ⟨hz, Nat.le_antisymm ?_ ?_⟩
  · refine Nat.le_trans h.cnt ?_
    have e : ∀ i, (decide (balF xs i ≠ 0) && (D i == 0)) = decide (balF xs i ≠ 0) := fun i => by rw [hz i]; simp
    have e2 : ∀ k, xs.length ≤ k → (List.range k).countP (fun i => decide (balF xs i ≠ 0)) = nzC xs := by
      intro k
      induction k with
      | zero => intro hk; have h0 : xs.length = 0 := by omega
                unfold nzC; rw [h0]
      | succ k ih =>
        intro hk
        rcases Nat.eq_or_lt_of_le hk with hk | hk
        · unfold nzC; rw [hk]
        · rw [List.range_succ, List.countP_append, ih (by omega)]
          have : balF xs k = 0 := by unfold balF; rw [List.getD_eq_getElem?_getD, List.getElem?_eq_none (by omega)]; rfl
          simp [this]
    rw [← e2 10 hn]
    exact List.countP_mono_left fun i _ hi => by rw [e] at hi; exact hi
  · exact clears_least (fun p hp => (h.good p hp).1) (fun i _ => by rw [← h.fold]; exact hz i) hb
end
section
open Go Go.RowKit Go.Shelf

theorem row_src {w : World} {T : TypeId} {sz n : Nat} {v : Value} {xs : List Value} (h : Row w T sz v n xs) (hn : 0 < n) : ∃ g cap, v = .slice (some ⟨g, 0, none⟩) n cap ∧ ∀ j u, xs[j]? = some u → w.cell? ((⟨g, 0, none⟩ : Addr).add j) = some u := by
  obtain ⟨hl, h⟩ := h
  rcases h with ⟨_, h0⟩ | ⟨g, cap, cur, rfl, hg, h1, h2, h3, h4⟩
  · omega
  · refine ⟨g, cap, rfl, fun j u hj => ?_⟩
    rw [Addr.add_mid, Nat.zero_add, cell_of hg]
    rw [← h4, List.getElem?_take] at hj
    split at hj
    · rw [Array.getElem?_toList] at hj; exact hj
    · cases hj
/-- A whole row is appended. -/
theorem wpIn_append_many {F : Fence} {n0 : Nat} (hF : ∀ f, F.fn f) (hn : F.depth = none) {o : Oper} {act : Act} {w : World} {K : Act → World → Prop} {Q : Exit → Act → World → Prop} (s x : Operand) {t T : TypeId} {sz bytes : Nat} {i : TypeInfo} {z : Value}
    (ho : o.op = .call { callee := .builtin .append, args := #[s, x], argTypes := #[t, t] })
    (ht : Tryz.prog.underlying t = some (.slice T)) (hi : Tryz.prog.info? T = some i) (hz : i.zero = some z) (hs : i.size = sz) (hby : i.bytes = bytes) (hzs : z.cells.size = sz) (hsz : 0 < sz)
    {v v2 : Value} {n m : Nat} {xs news : List Value} (hv : act.eval s = v) (h : Row w T sz v n xs) (hx : act.eval x = v2) (h2 : Row w T sz v2 m news) (h1 : ∀ u ∈ news, u.oneCell' = true)
    (h63 : n + m ≤ 1000000000) (hbytes : bytes ≤ 1000)
    (hK : ∀ v' w', Row w' T sz v' (n + m) (xs ++ news) → w.grownBy w' v.ownBlock → (v'.ownBlock = v.ownBlock ∨ v'.ownBlock = some w.heap.size) → K (act.put o.dst v') w') : o.wpIn F n0 Tryz.prog act w K Q := by
  rcases Nat.eq_zero_or_pos m with hm | hm
  · subst hm
    have hnil : news = [] := by have := h2.1; simp at this; exact this
    subst hnil
    obtain ⟨xa, xc, rfl⟩ : ∃ xa xc, v2 = .slice xa 0 xc := h2.isSliceN
    obtain ⟨sa, sc, rfl⟩ := h.isSliceN
    have hc : n ≤ sc := by
      rcases h.2 with ⟨e, h0⟩ | ⟨g, cap, cur, e, _, h1, _⟩
      · omega
      · cases e; exact h1
    have hrun := append_none (w := w) (ty := o.type) ht hi (sa := sa) hc xa xc
    refine wpIn_of_gives (R := fun u u' => u = w → u' = w) (V := fun u u' => u = .slice sa n sc ∧ u' = w) hF hn (gives_append s x t ho hv hx hrun ⟨⟨rfl, rfl⟩, fun _ => rfl⟩) fun u u' hu _ => ?_
    rw [hu.1, hu.2]
    exact hK _ _ (by simpa using h) ⟨rfl, rfl, rfl, Nat.le_refl _, fun _ _ _ => rfl⟩ (.inl rfl)
  · obtain ⟨g, cap, rfl, hcells⟩ := row_src h2 hm
    obtain ⟨v', w', hrun, hrow, hgr, how⟩ := append_rows (ty := o.type) ht hi hz hs hby hzs hsz hm h ⟨g, 0, none⟩ cap news h2.1 hcells h1 h63 hbytes
    exact wpIn_of_gives (R := fun u u' => u = w → u' = w') (V := fun u u' => u = v' ∧ u' = w') hF hn (gives_append s x t ho hv hx hrun ⟨⟨rfl, rfl⟩, fun _ => rfl⟩) fun u u' hu _ => by
      rw [hu.1, hu.2]; exact hK v' w' hrow hgr how
theorem intsV_bal (xs : List Int) : intsV xs = intsF xs.length (balF xs) := by
  refine List.ext_getElem (by simp [intsV, intsF]) fun i h1 h2 => ?_
  have hi : i < xs.length := by simpa [intsV] using h1
  simp only [intsV, intsF, List.getElem_map, List.getElem_range]
  unfold balF
  rw [getD_of hi]
theorem pysF_one (ps : List Py) : ∀ u ∈ pysF ps, u.oneCell' = true := by
  intro u hu
  obtain ⟨p, _, h⟩ := List.mem_flatMap.1 hu
  simp at h
  rcases h with rfl | rfl | rfl <;> rfl
theorem pysF_app (ps qs : List Py) : pysF (ps ++ qs) = pysF ps ++ pysF qs := by simp [pysF]
theorem GAt.of_row {db c : Nat} {w : World} {v : Value} {g : List Int} (h : Row w 3 1 v g.length (intsV g)) (hg : g.length ≤ 10) (hdb : ∀ q, v.ownBlock = some q → q ≠ db) : ∃ a c, v = .slice a g.length c ∧ GAt db w (.slice a g.length g.length) g := by
  obtain ⟨a, c, rfl⟩ := h.isSliceN
  refine ⟨a, c, rfl, a, g.length, rfl, ⟨Nat.le_refl _, by omega⟩, fun i hi => ?_⟩
  obtain ⟨q, cap, cur, e, _, hq, hc, _⟩ := h.cells1 hi
  cases e
  exact ⟨q, 0, rfl, lt_of_block hq, hdb q rfl, by rw [Nat.zero_add, hc, intsV_get hi]⟩
/-- A clearing of the fewest payments. -/
structure Cleared (xs : List Int) (ps : List Py) : Prop where
  good : ∀ p ∈ ps, pyGood xs.length p = true ∧ p.s ≤ 1000000
  zero : ∀ i, ps.foldl payL (balF xs) i = 0
  few : ∃ k, Sv.Best xs.length (balF xs) (Sv.nz xs.length (balF xs)) k ∧ ps.length + k = nzC xs
set_option maxRecDepth 100000 in
set_option maxHeartbeats 16000000 in
theorem clear_any (v : Value) (xs : List Int) (n0 w : World) (hx : Ext n0 w) (hv : Row w 3 1 v xs.length (intsV xs)) (ho : ∀ q, v.ownBlock = some q → n0.heap.size ≤ q) (hl : xs.length ≤ 10) (hb : ∀ x ∈ xs, -1000000 ≤ x ∧ x ≤ 1000000) (hs : xs.sum = 0) :
    Cal 64 #[v] w fun e w' => ∃ (r : Value) (ps : List Py), e = .returned r ∧ Ext n0 w' ∧ Hid (Row w' 74 3 r ps.length (pysF ps) ∧ (∀ q, r.ownBlock = some q → n0.heap.size ≤ q) ∧ Cleared xs ps) := by
  have HGR := hid (groups_any v xs w (IntsAt.of_row hv (by omega)) hl hb hs)
  have HL := hid hl
  have HV := hid hv
  have HO := hid ho
  have HX := hid hx
  have HST := hid (fun (ts : List Nat) => ClOk.start (ts := ts) hb)
  clear hx hv ho hl hb hs
  gi_enter Tryz.func64, Tryz.ntmps64
  gi_wp2_with (gi_at_call 63; ((with_reducible refine (HGR.out).mono ?_); rintro e w1 ⟨gr, vs, ts, rfl, hx1, HG⟩; obtain ⟨ga, gc, rfl⟩ := HG.out.1.isSliceN; have HX1 := hid hx1; clear hx1))
  have HVL : Hid (∀ q, v.ownBlock = some q → q < w.heap.size) := hid fun q hq => by obtain ⟨cur, hc⟩ := row_mem HV.out hq; exact lt_of_block hc
  have HTL : Hid (ts.length ≤ 10) := hid HG.out.2.2.2.2.2
  have HJ : Hid (∃ (D : Nat → Int) (ps : List Py), Ext n0 w1 ∧ (∀ db, v.ownBlock = some db → KM db w1 w1) ∧ Row w1 3 1 v xs.length (intsF xs.length D) ∧ ClOk xs ts 0 D ps ∧ Row w1 74 3 (.slice none 0 0) ps.length (pysF ps) ∧ ∀ q, (Value.slice none 0 0).ownBlock = some q → w1.heap.size ≤ q) :=
    hid ⟨balF xs, [], HX.out.trans HX1.out, fun _ _ => KM.refl _ _, by rw [← intsV_bal]; exact HV.out.mono HX1.out, HST.out ts, Row.nil _ _ _, fun q h => by simp [Value.ownBlock] at h⟩
  gi_loopw [3, 5, 9] (fun r u5 i wr => ∃ j : Nat, j ≤ ts.length ∧ i = .int .i64 j ∧ Hid (∃ (D : Nat → Int) (ps : List Py), Ext n0 wr ∧ (∀ db, v.ownBlock = some db → KM db w1 wr) ∧ Row wr 3 1 v xs.length (intsF xs.length D) ∧ ClOk xs ts j D ps ∧ Row wr 74 3 r ps.length (pysF ps) ∧ ∀ q, r.ownBlock = some q → w1.heap.size ≤ q)) (fun _ _ i _ => ts.length - (intOf i).toNat)
  case atStart => exact ⟨0, Nat.zero_le _, rfl, HJ⟩
  case round =>
    obtain ⟨j, hj, rfl, HI⟩ := hrel
    clear HJ
    by_cases hlt : j < ts.length
    · have hji : (j : Int) < (ts.length : Int) := by omega
      obtain ⟨D, ps, hxr, hkm, hrow, hok, hpy, hown⟩ := HI.out
      obtain ⟨h1, h2, h3, h4, h5⟩ := hok.group HL.out HG.out.2.2.2.1 hlt
      have hn0 : 0 < xs.length := by
        obtain ⟨_, _, ⟨i0, h6, _⟩, _⟩ := HG.out.2.2.2.1.each _ (List.getElem_mem hlt)
        omega
      obtain ⟨db, dcap, rfl⟩ := row_addr hrow hn0
      have hkm := hkm db rfl
      have hdl := HVL.out db rfl
      obtain ⟨q, gcap, cur, e, _, hqb, hqc, _⟩ := HG.out.1.cells1 hlt
      cases e
      have hq1 := HG.out.2.1 q rfl
      have hvl : j < vs.length := by rw [HG.out.2.2.1.1]; simpa [grpsN] using hlt
      obtain ⟨hgr1, hgr2⟩ := HG.out.2.2.1.2 j (by simpa [grpsN] using hlt)
      have eg : (grpsN ts).getD j [] = numsTo ts[j] 10 := by rw [List.getD_eq_getElem?_getD]; simp [grpsN, hlt]
      rw [eg] at hgr1
      have ev : vs.getD j undef = vs[j] := getD_of hvl
      rw [ev] at hgr1 hgr2
      rw [List.getElem?_eq_getElem hvl] at hqc
      obtain ⟨ja, jc, ej, hgat⟩ := GAt.of_row (db := db) (c := 0) hgr1 (numsTo_len _ 10) (fun p hp => by have := hgr2 p hp; omega)
      rw [ej] at hqc
      have hqcr : wr.cell? ⟨q, j, none⟩ = some (.slice ja (numsTo ts[j] 10).length jc) := by rw [hkm.cell? (lt_of_block hqb) (by omega)]; exact hqc
      have hjc : (numsTo ts[j] 10).length ≤ jc := by
        rw [ej] at hgr1
        obtain ⟨g', c', cur', e', hle, _⟩ := hgr1.cells1 h5
        cases e'; exact hle
      have HSE := hid (settle_any db dcap xs.length D _ (numsTo ts[j] 10) n0 wr hxr (HO.out db rfl) HL.out hrow (hgat.km hkm) (numsTo_nodup _ _) h1 h2 hok.bnd (numsTo_len _ 10))
      have HKM := hid hkm
      have HOK := hid hok
      have HOW := hid hown
      have HPY := hid hpy
      have HXR := hid hxr
      have HSP := hid (fun (D' : Nat → Int) (qs : List Py) => hok.step (D' := D') (qs := qs) HL.out HG.out.2.2.2.1 hlt)
      have HDL := hid hdl
      obtain ⟨na, nc, rfl⟩ := hpy.isSliceN
      obtain ⟨i0, hi0, hz0, hz1, hz2⟩ := info_parts info74
      have HZ := hid (And.intro hi0 (And.intro hz0 (And.intro hz1 hz2)))
      have hjl := numsTo_len ts[j] 10
      clear HI hxr hkm hrow hok hpy hown h1 h2 h3 h4 h5 hn0 hdl hqb hqc hq1 hvl hgr1 hgr2 eg ev ej hgat hi0 hz0 hz1 hz2
      generalize hgl : (numsTo ts[j] 10).length = gl at *
      have HGL := hid hgl
      clear hgl
      gi_wp2_with (first | (gi_at_call 89; ((with_reducible refine (HSE.out).mono ?_); rintro e w5 ⟨r2, D', qs, rfl, hx5, hk5, HS5⟩; have HP5 := hid (HPY.out.kept (w' := w5) fun p o hp ho => hk5.2 p o (by have h1 := HOW.out p hp; have h2 := HDL.out; have h3 := HX1.out.size; omega) ho); have HX5 := hid hx5; have HK5 := hid (HKM.out.trans hk5); clear hx5 hk5)) | (refine wpIn_append_many (fun _ => trivial) rfl (.tmp 13) (.tmp 21) rfl Tryz.underlying67 HZ.out.1 HZ.out.2.1 HZ.out.2.2.1 HZ.out.2.2.2 (by simp [Value.cells]) (by omega) (v := .slice na ps.length nc) rfl HP5.out rfl HS5.out.1.pays (pysF_one qs) (by have h1 := (HSP.out D' qs HS5.out.1.ok HS5.out.2.1 HS5.out.2.2).cnt; have h2 := List.countP_le_length (p := fun i => decide (balF xs i ≠ 0) && (D' i == 0)) (l := List.range 10); simp only [List.length_append, List.length_range] at h1 h2; omega) (by omega) ?_; intro v' w' hrow' hgr' how'))
      have hwj : wrap64 ((j : Int) + 1) = (j : Int) + 1 := by have := HTL.out; unfold wrap64; omega
      have hw5 : w1.heap.size ≤ w5.heap.size := HK5.out.1
      have hbel := ext_grown HX5.out hgr' (fun p hp => by have h1 := HOW.out p hp; have h2 := HX.out.size; have h3 := HX1.out.size; omega)
      have hkk := HK5.out.grown hgr' (fun p hp => HOW.out p hp)
      have hrow := HS5.out.1.row.kept (w' := w') (fun p o hp ho => grownBy_block hgr' ho (fun e => by
        have h1 := HOW.out p e.symm
        simp [Value.ownBlock] at hp
        have h2 := HDL.out; have h3 := HX1.out.size; omega))
      have hown' : ∀ p, v'.ownBlock = some p → w1.heap.size ≤ p := fun p hp => by
        rcases how' with e | e
        · exact HOW.out p (by rw [← e]; exact hp)
        · rw [hp] at e; cases e; exact hw5
      refine ⟨⟨j + 1, by omega, by rw [hwj]; rfl, hid ⟨D', ps ++ qs, hbel, fun db' e => by cases e; exact hkk, hrow, HSP.out D' qs HS5.out.1.ok HS5.out.2.1 HS5.out.2.2, by rw [List.length_append, pysF_app]; exact hrow', hown'⟩⟩, ?_⟩
      rw [hwj]; simp [intOf]; omega
    · obtain rfl : j = ts.length := by omega
      obtain ⟨D, ps, hxr, hkm, hrow, hok, hpy, hown⟩ := HI.out
      have HR := hid (And.intro hxr (And.intro hpy hown))
      have HEN := hid (hok.ended HL.out HG.out.2.2.2.1 HG.out.2.2.2.2.1)
      have HGD := hid (And.intro hok.good hok.fold)
      have hji : ¬ (ts.length : Int) < (ts.length : Int) := by omega
      clear HI hxr hkm hrow hok hpy hown hlt
      gi_wp2_with fail
      go_ret
      exact ⟨_, rfl, HR.out.1, ps, hid ⟨HR.out.2.1, fun p hp => by have h1 := HR.out.2.2 p hp; have h2 := HX.out.size; have h3 := HX1.out.size; omega, ⟨HGD.out.1, fun i => by rw [← HGD.out.2]; exact HEN.out.1 i, _, HG.out.2.2.2.2.1, HEN.out.2⟩⟩⟩
end
end Go.Proofs.YtjocoadhalimjaaGreat
