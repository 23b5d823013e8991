/- Groups of balances: running sums, which a group of least size allows. -/
import Derived.Test.YtjocoadhalimjaaGreatRBJ
set_option linter.unusedSimpArgs false
set_option linter.unusedVariables false
namespace Go.Proofs.YtjocoadhalimjaaGreat
section
open Go Go.RowKit Go.Shelf
/-- Running sums over a list: of all, of a part, and how many are of the part. -/
def runL (b : Nat → Int) (g : List Int) (k : Nat) : Int := ((g.take k).map fun x => b x.toNat).sum
def runP (b : Nat → Int) (s : Nat) (g : List Int) : Nat → Int
  | 0 => 0
  | k + 1 => runP b s g k + if s.testBit k then b (g.getD k 0).toNat else 0
def runM (s : Nat) : Nat → Nat
  | 0 => 0
  | k + 1 => runM s k + if s.testBit k then 1 else 0
theorem runM_le (s : Nat) : ∀ k, runM s k ≤ k
  | 0 => Nat.le_refl _
  | k + 1 => by have := runM_le s k; unfold runM; split <;> omega
theorem runL_succ {b : Nat → Int} {g : List Int} {k : Nat} (h : k < g.length) : runL b g (k + 1) = runL b g k + b g[k].toNat := by
  unfold runL
  rw [List.take_succ_eq_append_getElem h, List.map_append, List.sum_append]; simp
theorem runP_app (b : Nat → Int) (s : Nat) (g : List Int) (x : Int) : ∀ k, k ≤ g.length → runP b s (g ++ [x]) k = runP b s g k
  | 0, _ => rfl
  | k + 1, h => by
    unfold runP
    rw [runP_app b s g x k (by omega)]
    rw [List.getD_eq_getElem?_getD, List.getD_eq_getElem?_getD, List.getElem?_append_left (by omega)]
/-- The part that a number chooses of the numbers of a set. -/
def selF (t s : Nat) : Sv.St := fun i => t.testBit i && s.testBit (numsTo t i).length
theorem runP_tal (b : Nat → Int) (t s : Nat) : ∀ k, runP b s (numsTo t k) (numsTo t k).length = Sv.tal k b (selF t s)
  | 0 => rfl
  | k + 1 => by
    have ih := runP_tal b t s k
    rw [tal_succ, ← ih]
    show runP b s (if t.testBit k then numsTo t k ++ [(k : Int)] else numsTo t k) (if t.testBit k then numsTo t k ++ [(k : Int)] else numsTo t k).length = _
    by_cases h : t.testBit k = true
    · rw [if_pos h, List.length_append, List.length_singleton]
      show runP b s _ _ + (if _ then _ else _) = _
      rw [runP_app b s _ _ _ (Nat.le_refl _)]
      have : selF t s k = s.testBit (numsTo t k).length := by unfold selF; rw [h, Bool.true_and]
      rw [this]
      have h2 : ((numsTo t k ++ [(k : Int)]).getD (numsTo t k).length 0).toNat = k := by simp
      rw [h2]
    · rw [if_neg h]
      have : selF t s k = false := by unfold selF; simp at h; rw [h, Bool.false_and]
      rw [this]; simp
theorem runL_tal (b : Nat → Int) (t : Nat) : ∀ k, runL b (numsTo t k) (numsTo t k).length = Sv.tal k b (bitN t)
  | 0 => rfl
  | k + 1 => by
    have ih := runL_tal b t k
    unfold runL at ih ⊢
    rw [List.take_length] at ih ⊢
    rw [tal_succ, ← ih]
    show ((if t.testBit k then numsTo t k ++ [(k : Int)] else numsTo t k).map _).sum = _ + (if t.testBit k then _ else _)
    split
    · rw [List.map_append, List.sum_append]; simp
    · simp
theorem runM_some (t s : Nat) : ∀ k, 0 < runM s (numsTo t k).length → ∃ i, i < k ∧ selF t s i = true
  | 0, h => by simp [numsTo, runM] at h
  | k + 1, h => by
    by_cases hk : t.testBit k = true
    · have e : (numsTo t (k + 1)).length = (numsTo t k).length + 1 := by
        show (if t.testBit k then numsTo t k ++ [(k : Int)] else numsTo t k).length = _
        rw [if_pos hk]; simp
      rw [e] at h
      unfold runM at h
      by_cases hs : s.testBit (numsTo t k).length = true
      · exact ⟨k, by omega, by unfold selF; rw [hk, hs]; rfl⟩
      · rw [if_neg hs] at h
        obtain ⟨i, h1, h2⟩ := runM_some t s k h
        exact ⟨i, by omega, h2⟩
    · have e : numsTo t (k + 1) = numsTo t k := by
        show (if t.testBit k then numsTo t k ++ [(k : Int)] else numsTo t k) = _
        rw [if_neg hk]
      rw [e] at h
      obtain ⟨i, h1, h2⟩ := runM_some t s k h
      exact ⟨i, by omega, h2⟩
theorem runM_not (t s : Nat) : ∀ k, runM s (numsTo t k).length < (numsTo t k).length → ∃ i, i < k ∧ t.testBit i = true ∧ selF t s i = false
  | 0, h => by simp [numsTo, runM] at h
  | k + 1, h => by
    by_cases hk : t.testBit k = true
    · have e : (numsTo t (k + 1)).length = (numsTo t k).length + 1 := by
        show (if t.testBit k then numsTo t k ++ [(k : Int)] else numsTo t k).length = _
        rw [if_pos hk]; simp
      rw [e] at h
      unfold runM at h
      by_cases hs : s.testBit (numsTo t k).length = true
      · rw [if_pos hs] at h
        obtain ⟨i, h1, h2⟩ := runM_not t s k (by omega)
        exact ⟨i, by omega, h2⟩
      · exact ⟨k, by omega, hk, by unfold selF; simp at hs; rw [hk, hs]; rfl⟩
    · have e : numsTo t (k + 1) = numsTo t k := by
        show (if t.testBit k then numsTo t k ++ [(k : Int)] else numsTo t k) = _
        rw [if_neg hk]
      rw [e] at h
      obtain ⟨i, h1, h2⟩ := runM_not t s k h
      exact ⟨i, by omega, h2⟩
/-- The numbers of a set: which they are, and that they rise. -/
theorem numsTo_in (t : Nat) (x : Int) : ∀ k, x ∈ numsTo t k ↔ ∃ i : Nat, i < k ∧ x = (i : Int) ∧ t.testBit i = true
  | 0 => by simp [numsTo]
  | k + 1 => by
    have ih := numsTo_in t x k
    unfold numsTo
    by_cases hk : t.testBit k = true
    · rw [if_pos hk, List.mem_append, ih, List.mem_singleton]
      constructor
      · rintro (⟨i, h1, h2, h3⟩ | rfl)
        · exact ⟨i, by omega, h2, h3⟩
        · exact ⟨k, by omega, rfl, hk⟩
      · rintro ⟨i, h1, h2, h3⟩
        by_cases hik : i = k
        · subst hik; exact .inr h2
        · exact .inl ⟨i, by omega, h2, h3⟩
    · rw [if_neg hk, ih]
      constructor
      · rintro ⟨i, h1, h2, h3⟩; exact ⟨i, by omega, h2, h3⟩
      · rintro ⟨i, h1, h2, h3⟩
        have : i ≠ k := fun e => hk (e ▸ h3)
        exact ⟨i, by omega, h2, h3⟩
theorem numsTo_up (t : Nat) : ∀ k, (numsTo t k).Pairwise (· < ·)
  | 0 => .nil
  | k + 1 => by
    have ih := numsTo_up t k
    unfold numsTo
    split
    · rw [List.pairwise_append]
      refine ⟨ih, List.pairwise_singleton _ _, fun a ha b hb => ?_⟩
      rw [List.mem_singleton] at hb
      subst hb
      obtain ⟨i, h1, h2, _⟩ := (numsTo_in t a k).1 ha
      omega
    · exact ih
theorem tal_wide {n : Nat} {b : Nat → Int} {S : Sv.St} (hS : ∀ i, S i = true → i < n) : ∀ d, Sv.tal (n + d) b S = Sv.tal n b S
  | 0 => rfl
  | d + 1 => by
    rw [show n + (d + 1) = n + d + 1 by omega, tal_succ, tal_wide hS d]
    cases h : S (n + d) with
    | false => simp
    | true => have := hS _ h; omega
theorem tal_ten {n : Nat} {b : Nat → Int} {S : Sv.St} (hn : n ≤ 10) (hS : ∀ i, S i = true → i < n) : Sv.tal 10 b S = Sv.tal n b S := by
  have := tal_wide (b := b) hS (10 - n)
  rwa [show n + (10 - n) = 10 by omega] at this
/-- What a group that is told is. -/
structure GrpOk (n : Nat) (b : Nat → Int) (g : List Int) : Prop where
  len : 2 ≤ g.length ∧ g.length ≤ 10
  rng : ∀ x ∈ g, 0 ≤ x ∧ x < (n : Int)
  up : g.Pairwise (· < ·)
  sum : runL b g g.length = 0
  min : ∀ s : Nat, runP b s g g.length = 0 → 0 < runM s g.length → runM s g.length < g.length → False
theorem grp_ok {n S a t : Nat} {b : Nat → Int} {ts : List Nat} (hn : n ≤ 10) (h : GroupsOk n b S a ts) (hS : bitN S = Sv.nz n b) (ht : t ∈ ts) : GrpOk n b (numsTo t 10) := by
  obtain ⟨h1, h2, ⟨i0, hi0, hb0⟩, h4, h5⟩ := h.each t ht
  have hin : ∀ i, bitN t i = true → i < n ∧ b i ≠ 0 := fun i hi => by
    have := h2 i hi
    rw [hS] at this
    unfold Sv.nz at this
    simpa using this
  have hsum : runL b (numsTo t 10) (numsTo t 10).length = 0 := by
    rw [runL_tal, tal_ten hn fun i hi => (hin i hi).1, h4]
  have hrng : ∀ x ∈ numsTo t 10, 0 ≤ x ∧ x < (n : Int) := fun x hx => by
    obtain ⟨i, h6, rfl, h7⟩ := (numsTo_in t x 10).1 hx
    have := (hin i h7).1
    omega
  refine ⟨⟨?_, numsTo_len t 10⟩, hrng, numsTo_up t 10, hsum, fun s hp hm0 hm1 => ?_⟩
  · have hmem : (i0 : Int) ∈ numsTo t 10 := (numsTo_in t _ 10).2 ⟨i0, by omega, rfl, hb0⟩
    match hg : numsTo t 10, hmem, hsum with
    | [x], hm, hs =>
      exfalso
      rw [List.mem_singleton] at hm
      subst hm
      simp [runL] at hs
      exact (hin i0 hb0).2 hs
    | x :: y :: l, _, _ => simp
  · rw [runP_tal] at hp
    have hsub : Sv.Sub (selF t s) (bitN t) := fun i hi => by unfold selF at hi; rw [Bool.and_eq_true] at hi; exact hi.1
    rw [tal_ten hn fun i hi => (hin i (hsub i hi)).1] at hp
    obtain ⟨i, h6, h7⟩ := runM_some t s 10 hm0
    obtain ⟨j, h8, h9, h10⟩ := runM_not t s 10 hm1
    refine h5 _ hsub hp ⟨i, (hin i (hsub i h7)).1, h7⟩ ⟨j, (hin j h9).1, ?_⟩
    unfold Sv.dif bitN
    rw [h9, h10]; rfl
/-- How often each was met, in the first groups. -/
def metT (ts : List Nat) (m i : Nat) : Nat := (ts.take m).countP fun t => t.testBit i
def cntT (g : List Int) (k i : Nat) : Nat := (g.take k).count (i : Int)
theorem cntT_succ {g : List Int} {k i : Nat} (h : k < g.length) : cntT g (k + 1) i = cntT g k i + if g[k] = (i : Int) then 1 else 0 := by
  unfold cntT
  rw [List.take_succ_eq_append_getElem h, List.count_append]
  simp [List.count_singleton]
theorem cnt_all {t i : Nat} (hi : i < 10) : cntT (numsTo t 10) (numsTo t 10).length i = if t.testBit i then 1 else 0 := by
  unfold cntT
  rw [List.take_length]
  have hnd : (numsTo t 10).Nodup := (numsTo_up t 10).imp fun h => by omega
  rw [List.Nodup.count hnd]
  by_cases h : t.testBit i = true
  · rw [if_pos h, if_pos ((numsTo_in t _ 10).2 ⟨i, hi, rfl, h⟩)]
  · rw [if_neg h, if_neg fun hm => ?_]
    obtain ⟨j, _, h2, h3⟩ := (numsTo_in t _ 10).1 hm
    have : i = j := by omega
    exact h (this ▸ h3)
theorem metT_succ {ts : List Nat} {m i : Nat} (h : m < ts.length) : metT ts (m + 1) i = metT ts m i + if ts[m].testBit i then 1 else 0 := by
  unfold metT
  rw [List.take_succ_eq_append_getElem h, List.countP_append]
  simp [List.countP_cons]
theorem metT_le (ts : List Nat) (m i : Nat) : metT ts m i ≤ ts.length := by
  unfold metT
  exact Nat.le_trans List.countP_le_length (by rw [List.length_take]; omega)
theorem met_all {n S : Nat} {b : Nat → Int} {ts : List Nat} (h : GroupsOk n b S 0 ts) (hS : bitN S = Sv.nz n b) {i : Nat} (hi : i < n) : metT ts ts.length i = if b i = 0 then 0 else 1 := by
  unfold metT
  rw [List.take_length]
  have hone : ts.countP (fun t => t.testBit i) ≤ 1 := by
    have hp := h.apart
    clear h
    induction ts with
    | nil => simp
    | cons t ts ih =>
      rw [List.pairwise_cons] at hp
      rw [List.countP_cons]
      cases ht : t.testBit i with
      | false => simpa using ih hp.2
      | true =>
        have : ts.countP (fun t => t.testBit i) = 0 := by
          rw [List.countP_eq_zero]
          intro u hu hb
          have h1 := hp.1 u hu i ht
          unfold bitN at h1
          rw [hb] at h1; cases h1
        simp [this]
  by_cases h0 : b i = 0
  · rw [if_pos h0, List.countP_eq_zero]
    intro t ht hb
    have h1 := (h.each t ht).2.1 i hb
    rw [hS] at h1
    unfold Sv.nz at h1
    simp [h0] at h1
  · rw [if_neg h0]
    have h1 : bitN S i = true := by rw [hS]; unfold Sv.nz; simp [hi, h0]
    rcases h.all i h1 with h2 | ⟨t, ht, h2⟩
    · simp [bitN] at h2
    · have : 0 < ts.countP (fun t => t.testBit i) := List.countP_pos_iff.2 ⟨t, ht, h2⟩
      omega
end
section
open Go Go.RowKit Go.Shelf

theorem wrap_pred (n : Nat) (h : n ≤ 1000000) : wrap64 ((n : Int) - 1) = (n : Int) - 1 := by unfold wrap64; omega
theorem wrapk_pred (n : Nat) (h : n ≤ 1000000) : IntKind.i64.wrap ((n : Int) - 1) = (n : Int) - 1 := by rw [IntKind.wrap_i64]; omega
theorem wrapk_back (n : Nat) (h : n ≤ 1000000) : IntKind.i64.wrap ((n : Int) + 1 - 1) = (n : Int) := by rw [IntKind.wrap_i64]; omega
theorem wrapk_nat (n : Nat) (h : n ≤ 1000000) : IntKind.i64.wrap (n : Int) = (n : Int) := by rw [IntKind.wrap_i64]; omega
theorem wrap_next (n : Nat) (h : n ≤ 1000000) : wrap64 ((n : Int) + 1) = (n : Int) + 1 := by unfold wrap64; omega
theorem wrap_next2 (n : Nat) (h : n ≤ 1000000) : wrap64 ((n : Int) + 1 + 1) = (n : Int) + 1 + 1 := by unfold wrap64; omega
theorem wrap_one : wrap64 ((0 : Int) + 1) = 1 := by unfold wrap64; omega
theorem wrap_back (n : Nat) (h : n ≤ 1000000) : wrap64 ((n : Int) + 1 - 1) = (n : Int) := by unfold wrap64; omega
set_option maxRecDepth 100000 in
set_option maxHeartbeats 8000000 in
theorem Rising_true (v : Value) (xs : List Int) (n : Nat) (w : World) (hv : IntsAt w v xs) (hn : n ≤ 1000000) (hl : xs.length ≤ 1000000) (h : ∀ i (hi : i < xs.length), (0 ≤ xs[i] ∧ xs[i] < (n : Int)) ∧ ∀ (h0 : 0 < i), xs[i - 1] < xs[i]) : Cal 39 #[v, .int .i64 n] w fun e w' => e = .returned (.bool true) ∧ Ext w w' := by
  obtain ⟨a, cap, rfl, hll, hc⟩ := hv
  have HC := hid hc
  have HH := hid h
  clear hc h
  gi_enter Tryz.func39, Tryz.ntmps39
  gi_wp2_with fail
  gi_loopw [5] (fun i wr => ∃ k : Nat, k ≤ xs.length ∧ i = .int .i64 k ∧ Hid (Ext w wr)) (fun i _ => xs.length - (intOf i).toNat)
  case atStart => exact ⟨0, Nat.zero_le _, rfl, hid (Ext.refl _)⟩
  case round =>
    obtain ⟨k, hk, rfl, HX⟩ := hrel
    by_cases hlt : k < xs.length
    · have hki : (k : Int) < (xs.length : Int) := by omega
      obtain ⟨b, off, rfl, hb, hcell⟩ := HC.out k hlt
      obtain ⟨⟨hx0, hx1⟩, hx2⟩ := HH.out k hlt
      have hbr : b < wr.heap.size := Nat.lt_of_lt_of_le hb HX.out.size
      have HCL := hid (fun (u : World) (hu : Ext wr u) => ((HX.out.trans hu).cell (p := ⟨b, _, none⟩) hb).trans hcell)
      have HI := hid (fun (u : World) => In_b xs[k] 0 ((n : Int) - 1) true u (by unfold inB; simp; omega))
      have HLT := hid hlt
      clear hx0 hx1
      cases k with
      | zero =>
        clear hx2 hcell hb hbr
        have hw1 : wrap64 ((0 : Int) + 1) = 1 := wrap_one
        have hwn : wrap64 ((n : Int) - 1) = (n : Int) - 1 := wrap_pred n hn
        have hwm : IntKind.i64.wrap ((n : Int) - 1) = (n : Int) - 1 := wrapk_pred n hn
        generalize xs[0] = x at *
        gi_upto_region 4 with fail
        refine lex_wide 24 [] (by kernel_rfl) (by kernel_rfl) (nStab_nil) ?_
        simp only [List.take_succ_cons, List.take_zero, List.drop_succ_cons, List.drop_zero]
        apply lex_fun (rfl : psAt _ _ = none)
        · intro x u hR hf
          clear hR hf
          go_simp
          first | exact ⟨rfl, Ext.refl _⟩ | rfl
        simp only [Act.put, List.setIfInBounds_toArray, List.set_cons_succ, List.set_cons_zero]
        apply lex_fun (rfl : psAt _ _ = none)
        · intro x u hR hf
          clear hR hf
          go_simp
          first | exact ⟨rfl, Ext.refl _⟩ | rfl
        simp only [Act.put, List.setIfInBounds_toArray, List.set_cons_succ, List.set_cons_zero]
        apply lex_fun (rfl : psAt _ _ = none)
        · intro x u hR hf
          clear hR hf
          go_simp
          first | exact ⟨rfl, Ext.refl _⟩ | rfl
        simp only [Act.put, List.setIfInBounds_toArray, List.set_cons_succ, List.set_cons_zero]
        apply lex_fun (rfl : psAt _ _ = none)
        · intro x u hR hf
          have d0 := HCL.out u hR
          simp only [Nat.add_zero] at d0
          clear hR hf
          go_simp
          first | exact ⟨rfl, Ext.refl _⟩ | rfl
        simp only [Act.put, List.setIfInBounds_toArray, List.set_cons_succ, List.set_cons_zero]
        apply lex_fun (rfl : psAt _ _ = none)
        · intro x u hR hf
          clear hR hf
          go_simp
          first | exact ⟨rfl, Ext.refl _⟩ | rfl
        simp only [Act.put, List.setIfInBounds_toArray, List.set_cons_succ, List.set_cons_zero]
        apply lex_fun (rfl : psAt _ _ = none)
        · intro x u hR hf
          clear hR hf
          go_simp
          first | exact ⟨rfl, Ext.refl _⟩ | rfl
        simp only [Act.put, List.setIfInBounds_toArray, List.set_cons_succ, List.set_cons_zero]
        refine lex_fun (v := .bool true) (rfl : psAt _ _ = none) ?_ ?_
        · intro x u hR hf
          have hcal := hid (HI.out u)
          clear hR hf
          go_simp
          exact hcal.out.mono fun e w'' ⟨he, hx'⟩ => ⟨_, he, rfl, by subst hx'; exact Ext.refl _⟩
        simp only [Act.put, List.setIfInBounds_toArray, List.set_cons_succ, List.set_cons_zero]
        apply lex_fun (rfl : psAt _ _ = none)
        · intro x u hR hf
          clear hR hf
          go_simp
          first | exact ⟨rfl, Ext.refl _⟩ | rfl
        simp only [Act.put, List.setIfInBounds_toArray, List.set_cons_succ, List.set_cons_zero]
        apply lex_fun (rfl : psAt _ _ = none)
        · intro x u hR hf
          clear hR hf
          go_simp
          first | exact ⟨rfl, Ext.refl _⟩ | rfl
        simp only [Act.put, List.setIfInBounds_toArray, List.set_cons_succ, List.set_cons_zero]
        apply lex_fun (rfl : psAt _ _ = none)
        · intro x u hR hf
          clear hR hf
          go_simp
          first | exact ⟨rfl, Ext.refl _⟩ | rfl
        simp only [Act.put, List.setIfInBounds_toArray, List.set_cons_succ, List.set_cons_zero]
        apply lex_fun (rfl : psAt _ _ = none)
        · intro x u hR hf
          clear hR hf
          go_simp
          first | exact ⟨rfl, Ext.refl _⟩ | rfl
        simp only [Act.put, List.setIfInBounds_toArray, List.set_cons_succ, List.set_cons_zero]
        apply lex_fun (rfl : psAt _ _ = none)
        · intro x u hR hf
          clear hR hf
          go_simp
          first | exact ⟨rfl, Ext.refl _⟩ | rfl
        simp only [Act.put, List.setIfInBounds_toArray, List.set_cons_succ, List.set_cons_zero]
        apply lex_fun (rfl : psAt _ _ = none)
        · intro x u hR hf
          clear hR hf
          go_simp
          first | exact ⟨rfl, Ext.refl _⟩ | rfl
        simp only [Act.put, List.setIfInBounds_toArray, List.set_cons_succ, List.set_cons_zero]
        apply lex_fun (rfl : psAt _ _ = none)
        · intro x u hR hf
          clear hR hf
          go_simp
          first | exact ⟨rfl, Ext.refl _⟩ | rfl
        simp only [Act.put, List.setIfInBounds_toArray, List.set_cons_succ, List.set_cons_zero]
        apply lex_fun (rfl : psAt _ _ = none)
        · intro x u hR hf
          clear hR hf
          go_simp
          first | exact ⟨rfl, Ext.refl _⟩ | rfl
        simp only [Act.put, List.setIfInBounds_toArray, List.set_cons_succ, List.set_cons_zero]
        apply lex_fun (rfl : psAt _ _ = none)
        · intro x u hR hf
          clear hR hf
          go_simp
          first | exact ⟨rfl, Ext.refl _⟩ | rfl
        simp only [Act.put, List.setIfInBounds_toArray, List.set_cons_succ, List.set_cons_zero]
        apply lex_fun (rfl : psAt _ _ = none)
        · intro x u hR hf
          clear hR hf
          go_simp
          first | exact ⟨rfl, Ext.refl _⟩ | rfl
        simp only [Act.put, List.setIfInBounds_toArray, List.set_cons_succ, List.set_cons_zero]
        apply lex_fun (rfl : psAt _ _ = none)
        · intro x u hR hf
          clear hR hf
          go_simp
          first | exact ⟨rfl, Ext.refl _⟩ | rfl
        simp only [Act.put, List.setIfInBounds_toArray, List.set_cons_succ, List.set_cons_zero]
        apply lex_fun (rfl : psAt _ _ = none)
        · intro x u hR hf
          clear hR hf
          go_simp
          first | exact ⟨rfl, Ext.refl _⟩ | rfl
        simp only [Act.put, List.setIfInBounds_toArray, List.set_cons_succ, List.set_cons_zero]
        apply lex_fun (rfl : psAt _ _ = none)
        · intro x u hR hf
          clear hR hf
          go_simp
          first | exact ⟨rfl, Ext.refl _⟩ | rfl
        simp only [Act.put, List.setIfInBounds_toArray, List.set_cons_succ, List.set_cons_zero]
        apply lex_fun (rfl : psAt _ _ = none)
        · intro x u hR hf
          clear hR hf
          go_simp
          first | exact ⟨rfl, Ext.refl _⟩ | rfl
        simp only [Act.put, List.setIfInBounds_toArray, List.set_cons_succ, List.set_cons_zero]
        apply lex_fun (rfl : psAt _ _ = none)
        · intro x u hR hf
          clear hR hf
          go_simp
          first | exact ⟨rfl, Ext.refl _⟩ | rfl
        simp only [Act.put, List.setIfInBounds_toArray, List.set_cons_succ, List.set_cons_zero]
        apply lex_fun (rfl : psAt _ _ = none)
        · intro x u hR hf
          clear hR hf
          go_simp
          first | exact ⟨rfl, Ext.refl _⟩ | rfl
        simp only [Act.put, List.setIfInBounds_toArray, List.set_cons_succ, List.set_cons_zero]
        apply lex_fun (rfl : psAt _ _ = none)
        · intro x u hR hf
          clear hR hf
          go_simp
          first | exact ⟨rfl, Ext.refl _⟩ | rfl
        simp only [Act.put, List.setIfInBounds_toArray, List.set_cons_succ, List.set_cons_zero]
        refine lex_nil fun x' w6 hE hfacts => ?_
        clear hfacts x'
        have HX6 := hid (HX.out.trans hE)
        clear hwn hE hwm
        gi_wp2_with fail
        go_roundw
        case rel => exact ⟨1, HLT.out, by go_num, HX6⟩
        case measure => have := HLT.out; simp [intOf]; omega
      | succ j =>
        have hlt2 := hx2 (by omega)
        simp only [Nat.add_sub_cancel] at hlt2
        have hjl : j < xs.length := by omega
        obtain ⟨b', off', e9, _, hcell2⟩ := HC.out j hjl
        cases e9
        have HCL2 := hid (fun (u : World) (hu : Ext wr u) => ((HX.out.trans hu).cell (p := ⟨b, _, none⟩) hb).trans hcell2)
        have hji : (j : Int) < (xs.length : Int) := by omega
        have hyx : decide (xs[j + 1] ≤ xs[j]) = false := decide_eq_false (by omega)
        have hj6 : j ≤ 1000000 := by omega
        have hgt : decide ((j : Int) + 1 > 0) = true := decide_eq_true (by omega)
        have hki2 : (j : Int) + 1 < (xs.length : Int) := by omega
        have hwn : wrap64 ((n : Int) - 1) = (n : Int) - 1 := wrap_pred n hn
        have hwm : IntKind.i64.wrap ((n : Int) - 1) = (n : Int) - 1 := wrapk_pred n hn
        have hwj : IntKind.i64.wrap (j : Int) = (j : Int) := wrapk_nat j hj6
        have hwc : IntKind.i64.wrap ((j : Int) + 1 - 1) = (j : Int) := wrapk_back j hj6
        have hwb : wrap64 ((j : Int) + 1 - 1) = (j : Int) := wrap_back j hj6
        have hwx : wrap64 ((j : Int) + 1 + 1) = (j : Int) + 1 + 1 := wrap_next2 j hj6
        clear hx2 hcell hcell2 hb hbr hlt2 hki
        generalize xs[j] = y at *
        generalize xs[j + 1] = x at *
        gi_upto_region 4 with fail
        refine lex_wide 24 [] (by kernel_rfl) (by kernel_rfl) (nStab_nil) ?_
        simp only [List.take_succ_cons, List.take_zero, List.drop_succ_cons, List.drop_zero]
        apply lex_fun (rfl : psAt _ _ = none)
        · intro x u hR hf
          clear hR hf
          go_simp
          first | exact ⟨rfl, Ext.refl _⟩ | rfl
        simp only [Act.put, List.setIfInBounds_toArray, List.set_cons_succ, List.set_cons_zero]
        apply lex_fun (rfl : psAt _ _ = none)
        · intro x u hR hf
          clear hR hf
          go_simp
          first | exact ⟨rfl, Ext.refl _⟩ | rfl
        simp only [Act.put, List.setIfInBounds_toArray, List.set_cons_succ, List.set_cons_zero]
        apply lex_fun (rfl : psAt _ _ = none)
        · intro x u hR hf
          clear hR hf
          go_simp
          first | exact ⟨rfl, Ext.refl _⟩ | rfl
        simp only [Act.put, List.setIfInBounds_toArray, List.set_cons_succ, List.set_cons_zero]
        apply lex_fun (rfl : psAt _ _ = none)
        · intro x u hR hf
          have d0 := HCL.out u hR
          clear hR hf
          go_simp
          first | exact ⟨rfl, Ext.refl _⟩ | rfl
        simp only [Act.put, List.setIfInBounds_toArray, List.set_cons_succ, List.set_cons_zero]
        apply lex_fun (rfl : psAt _ _ = none)
        · intro x u hR hf
          clear hR hf
          go_simp
          first | exact ⟨rfl, Ext.refl _⟩ | rfl
        simp only [Act.put, List.setIfInBounds_toArray, List.set_cons_succ, List.set_cons_zero]
        apply lex_fun (rfl : psAt _ _ = none)
        · intro x u hR hf
          clear hR hf
          go_simp
          first | exact ⟨rfl, Ext.refl _⟩ | rfl
        simp only [Act.put, List.setIfInBounds_toArray, List.set_cons_succ, List.set_cons_zero]
        refine lex_fun (v := .bool true) (rfl : psAt _ _ = none) ?_ ?_
        · intro x u hR hf
          have hcal := hid (HI.out u)
          clear hR hf
          go_simp
          exact hcal.out.mono fun e w'' ⟨he, hx'⟩ => ⟨_, he, rfl, by subst hx'; exact Ext.refl _⟩
        simp only [Act.put, List.setIfInBounds_toArray, List.set_cons_succ, List.set_cons_zero]
        apply lex_fun (rfl : psAt _ _ = none)
        · intro x u hR hf
          clear hR hf
          go_simp
          first | exact ⟨rfl, Ext.refl _⟩ | rfl
        simp only [Act.put, List.setIfInBounds_toArray, List.set_cons_succ, List.set_cons_zero]
        apply lex_fun (rfl : psAt _ _ = none)
        · intro x u hR hf
          clear hR hf
          go_simp
          first | exact ⟨rfl, Ext.refl _⟩ | rfl
        simp only [Act.put, List.setIfInBounds_toArray, List.set_cons_succ, List.set_cons_zero]
        apply lex_fun (rfl : psAt _ _ = none)
        · intro x u hR hf
          clear hR hf
          go_simp
          first | exact ⟨rfl, Ext.refl _⟩ | rfl
        simp only [Act.put, List.setIfInBounds_toArray, List.set_cons_succ, List.set_cons_zero]
        apply lex_fun (rfl : psAt _ _ = none)
        · intro x u hR hf
          clear hR hf
          go_simp
          first | exact ⟨rfl, Ext.refl _⟩ | rfl
        simp only [Act.put, List.setIfInBounds_toArray, List.set_cons_succ, List.set_cons_zero]
        apply lex_fun (rfl : psAt _ _ = none)
        · intro x u hR hf
          clear hR hf
          go_simp
          first | exact ⟨rfl, Ext.refl _⟩ | rfl
        simp only [Act.put, List.setIfInBounds_toArray, List.set_cons_succ, List.set_cons_zero]
        apply lex_fun (rfl : psAt _ _ = none)
        · intro x u hR hf
          clear hR hf
          go_simp
          first | exact ⟨rfl, Ext.refl _⟩ | rfl
        simp only [Act.put, List.setIfInBounds_toArray, List.set_cons_succ, List.set_cons_zero]
        apply lex_fun (rfl : psAt _ _ = none)
        · intro x u hR hf
          clear hR hf
          go_simp
          first | exact ⟨rfl, Ext.refl _⟩ | rfl
        simp only [Act.put, List.setIfInBounds_toArray, List.set_cons_succ, List.set_cons_zero]
        apply lex_fun (rfl : psAt _ _ = none)
        · intro x u hR hf
          clear hR hf
          go_simp
          first | exact ⟨rfl, Ext.refl _⟩ | rfl
        simp only [Act.put, List.setIfInBounds_toArray, List.set_cons_succ, List.set_cons_zero]
        apply lex_fun (rfl : psAt _ _ = none)
        · intro x u hR hf
          have d0 := HCL.out u hR
          clear hR hf
          go_simp
          first | exact ⟨rfl, Ext.refl _⟩ | rfl
        simp only [Act.put, List.setIfInBounds_toArray, List.set_cons_succ, List.set_cons_zero]
        apply lex_fun (rfl : psAt _ _ = none)
        · intro x u hR hf
          clear hR hf
          go_simp
          first | exact ⟨rfl, Ext.refl _⟩ | rfl
        simp only [Act.put, List.setIfInBounds_toArray, List.set_cons_succ, List.set_cons_zero]
        apply lex_fun (rfl : psAt _ _ = none)
        · intro x u hR hf
          clear hR hf
          go_simp
          first | exact ⟨rfl, Ext.refl _⟩ | rfl
        simp only [Act.put, List.setIfInBounds_toArray, List.set_cons_succ, List.set_cons_zero]
        apply lex_fun (rfl : psAt _ _ = none)
        · intro x u hR hf
          clear hR hf
          go_simp
          first | exact ⟨rfl, Ext.refl _⟩ | rfl
        simp only [Act.put, List.setIfInBounds_toArray, List.set_cons_succ, List.set_cons_zero]
        apply lex_fun (rfl : psAt _ _ = none)
        · intro x u hR hf
          clear hR hf
          go_simp
          first | exact ⟨rfl, Ext.refl _⟩ | rfl
        simp only [Act.put, List.setIfInBounds_toArray, List.set_cons_succ, List.set_cons_zero]
        apply lex_fun (rfl : psAt _ _ = none)
        · intro x u hR hf
          have d0 := HCL2.out u hR
          clear hR hf
          go_simp
          first | exact ⟨rfl, Ext.refl _⟩ | rfl
        simp only [Act.put, List.setIfInBounds_toArray, List.set_cons_succ, List.set_cons_zero]
        apply lex_fun (rfl : psAt _ _ = none)
        · intro x u hR hf
          clear hR hf
          go_simp
          first | exact ⟨rfl, Ext.refl _⟩ | rfl
        simp only [Act.put, List.setIfInBounds_toArray, List.set_cons_succ, List.set_cons_zero]
        apply lex_fun (rfl : psAt _ _ = none)
        · intro x u hR hf
          clear hR hf
          go_simp
          first | exact ⟨rfl, Ext.refl _⟩ | rfl
        simp only [Act.put, List.setIfInBounds_toArray, List.set_cons_succ, List.set_cons_zero]
        apply lex_fun (rfl : psAt _ _ = none)
        · intro x u hR hf
          clear hR hf
          go_simp
          first | exact ⟨rfl, Ext.refl _⟩ | rfl
        simp only [Act.put, List.setIfInBounds_toArray, List.set_cons_succ, List.set_cons_zero]
        refine lex_nil fun x' w6 hE hfacts => ?_
        clear hfacts x'
        have HX6 := hid (HX.out.trans hE)
        clear hwn hE hwb hgt hwm hwc hwj
        gi_wp2_with fail
        go_roundw
        case rel => exact ⟨j + 1 + 1, HLT.out, by go_num, HX6⟩
        case measure => have := HLT.out; simp [intOf]; omega
    · obtain rfl : k = xs.length := by omega
      have hki : ¬ (xs.length : Int) < (xs.length : Int) := by omega
      gi_wp2_with fail
      go_ret
      exact ⟨rfl, HX.out⟩
end
end Go.Proofs.YtjocoadhalimjaaGreat
