/- Pure: the price of the clock is the least bid that wins; what is taken. -/
import Derived.Test.YtfkehbhlagpmcaaCS
import Derived.Test.YtfkehbhlagpmcaaDB
set_option linter.unusedSimpArgs false
set_option linter.unusedVariables false
namespace Go.Proofs.Ytfkehbhlagpmcaa
open Go Go.RowKit Go.Shelf
open Au
theorem tk_out {s : Sal} (ho : Ok s) {o : List Nat} (hr : Order s.offers.length o) (k : Nat) {b : Nat} (hb : s.offers.length ≤ b) : tk s o k b = 0 := by
  unfold tk; rw [(clk_at ho hr k).out b hb]; rfl
theorem eq8_tk {s : Sal} (ho : Ok s) {o : List Nat} (hr : Order s.offers.length o) (k j : Nat) : eq8 (tk s o k) (tk s o j) = true ↔ ∀ b, b < s.offers.length → (clk s o k).t b = (clk s o j).t b := by
  rw [eq8_iff]
  have hn := ho.n
  constructor
  · intro h b hb
    have := h b (by omega)
    unfold tk at this; omega
  · intro h b _
    by_cases hb : b < s.offers.length
    · unfold tk; rw [h b hb]
    · rw [tk_out ho hr k (by omega), tk_out ho hr j (by omega)]
theorem last_least {s : Sal} {P : Int} (hP : IsLast s P) (h : 0 ≤ P) : s.least ≤ P := by
  rcases hP with ⟨_, rfl⟩ | ⟨b, hb, rfl, _⟩
  · omega
  · exact (mem_bids.1 (wn_bids hb)).2.2.2
theorem last_le {s : Sal} (ho : Ok s) {P : Int} (hP : IsLast s P) : -1 ≤ P ∧ P ≤ 10000 := by
  rcases hP with ⟨_, rfl⟩ | ⟨b, hb, rfl, _⟩
  · omega
  · have := offer_nonneg ho (wn_bids hb); omega
theorem lastK_none {s : Sal} (ho : Ok s) {o : List Nat} (hr : Order s.offers.length o) (hP : IsLast s (-1)) : ∀ k, k ≤ clkN s → lastK s o k = -1
  | 0, _ => rfl
  | k + 1, hk => by
    have hle := ho.least
    have hk : k + 1 ≤ (10001 - s.least).toNat := hk
    have h1 := clk_above ho hr hP (k + 1) (by omega) (by omega)
    have h2 := clk_above ho hr hP k (by omega) (by omega)
    unfold lastK
    rw [if_pos ((eq8_tk ho hr _ _).2 fun b hb => by rw [h1 b hb, h2 b hb, if_pos (by omega), if_pos (by omega)])]
    exact lastK_none ho hr hP k (by show k ≤ (10001 - s.least).toNat; omega)
theorem lastK_some {s : Sal} (ho : Ok s) {o : List Nat} (hr : Order s.offers.length o) {P : Int} (hP : IsLast s P) (h0 : 0 ≤ P) (k : Nat) (hk : k ≤ clkN s) (h : 10001 - (k : Int) ≤ P) : lastK s o k = P := by
  have hle := ho.least
  have hp := (last_le ho hP).2
  have hk : k ≤ (10001 - s.least).toNat := hk
  induction k with
  | zero => omega
  | succ k ih =>
    have hc := clk_change ho hr hP k (by omega) (by omega)
    unfold lastK
    by_cases he : 10000 - (k : Int) = P
    · rw [if_neg (fun h => (hc.1 ((eq8_tk ho hr _ _).1 h)) he)]; exact he
    · rw [if_pos ((eq8_tk ho hr _ _).2 (hc.2 he))]
      exact ih (by show k ≤ (10001 - s.least).toNat; omega) (by omega) (by omega)
/-- The price of the clock is the least bid that wins. -/
theorem priceF_last {s : Sal} (ho : Ok s) {o : List Nat} (hr : Order s.offers.length o) {P : Int} (hP : IsLast s P) : priceF s o = P := by
  have hle := ho.least
  unfold priceF
  by_cases h0 : 0 ≤ P
  · refine lastK_some ho hr hP h0 _ (Nat.le_refl _) ?_
    have := last_least hP h0
    show 10001 - ((10001 - s.least).toNat : Int) ≤ P
    omega
  · have : P = -1 := by have := (last_le ho hP).1; omega
    subst this
    exact lastK_none ho hr hP _ (Nat.le_refl _)
theorem clk_monos {s : Sal} (ho : Ok s) {o : List Nat} (hr : Order s.offers.length o) (k b : Nat) : ∀ m, (clk s o k).t b ≤ (clk s o (k + m)).t b
  | 0 => Nat.le_refl _
  | m + 1 => Nat.le_trans (clk_monos ho hr k b m) (clk_mono ho hr (k + m) b)
theorem ex_ok (c : Int) (h : saleB (exS c) = true) : Ok (exS c) := sale_ok h
theorem ex_last3 : IsLast (exS 3) 14 := .inr ⟨⟨1, 1, 14⟩, by rw [ex_wn]; decide, rfl, by rw [ex_wn]; decide⟩
theorem ord_ok {o : List Nat} (h : orderB 3 (o.map fun i : Nat => (i : Int)) = true) : Order 3 o := by
  have := (order_ok h).1
  rw [List.map_map] at this
  have he : (Int.toNat ∘ fun i : Nat => (i : Int)) = id := by funext i; simp
  rwa [he, List.map_id] at this
/-- At the least bid that wins, all that is asked for if it can be. -/
theorem ex_taken {o : List Nat} (hr : Order 3 o) : (List.range 3).map (tk (exS 3) o (10001 - 12 : Int).toNat) = [1, 2, 0] := by
  have ho := ex_ok 3 (by rfl)
  have h1 := clk_below ho (order := o) hr ex_last3 9987 (by decide) (by decide)
  have h2 := clk_below ho (order := o) hr ex_last3 9989 (by decide) (by decide)
  have h3 := (clk_at ho (order := o) hr 9987).le
  have hw : (wn (exS 3)).length = 3 := by rw [ex_wn]; rfl
  rw [hw] at h1 h2
  have hd : ∀ b, b < 3 → dem (exS 3) (10001 - ((9987 : Nat) : Int)) b = ([1, 2, 0] : List Nat).getD b 0 := by decide
  have hs : sumT 3 (dem (exS 3) (10001 - ((9987 : Nat) : Int))) = 3 := by decide
  have h4 := sumT_eq (n := 3) (fun b _ => h3 b) (by rw [hs]; exact Nat.le_of_eq h1.symm)
  have h5 := sumT_eq (n := 3) (fun b _ => clk_monos ho hr 9987 b 2) (by show sumT 3 (clk (exS 3) o 9989).t ≤ sumT 3 (clk (exS 3) o 9987).t; exact Nat.le_of_eq (h2.trans h1.symm))
  have key : ∀ b, b < 3 → tk (exS 3) o 9989 b = ((([1, 2, 0] : List Nat).getD b 0 : Nat) : Int) := fun b hb => by
    unfold tk
    rw [← hd b hb, ← h4 b hb]
    exact congrArg _ (h5 b hb).symm
  show (List.range 3).map (tk (exS 3) o 9989) = _
  simp only [List.range_succ, List.range_zero, List.nil_append, List.cons_append, List.map_cons, List.map_nil]
  rw [key 0 (by omega), key 1 (by omega), key 2 (by omega)]
  rfl

end Go.Proofs.Ytfkehbhlagpmcaa
