/- Numbers: within bounds, sums, prices. -/
import Derived.Test.YtfkehbhlagpmcaaInv
import Derived.Test.YtfkehbhlagpmcaaMt
import Derived.Sort.CutIn
set_option linter.unusedSimpArgs false
set_option linter.unusedVariables false
namespace Go.Proofs.Ytfkehbhlagpmcaa
open Go Go.RowKit Go.Shelf
set_option maxHeartbeats 400000 in
theorem isIn_any (n lo hi : Int) (w : World) :
    Cal 60 #[.int .i64 n, .int .i64 lo, .int .i64 hi] w fun e w' => e = .returned (.bool (inB n lo hi)) ∧ w = w' := by
  unfold inB
  gi_enter Try.func60, Try.ntmps60
  gi_wp2
  · go_ret; exact ⟨by simp [*], rfl⟩
  · have h : ¬ lo ≤ n := by omega
    go_ret; exact ⟨by simp [h], rfl⟩
theorem isIn_b (n lo hi : Int) (v : Bool) (w : World) (h : inB n lo hi = v) :
    Cal 60 #[.int .i64 n, .int .i64 lo, .int .i64 hi] w fun e w' => e = .returned (.bool v) ∧ w = w' := by
  subst h; exact isIn_any n lo hi w
set_option maxHeartbeats 400000 in
theorem In_any (n lo hi : Int) (w : World) :
    Cal 35 #[.int .i64 n, .int .i64 lo, .int .i64 hi] w fun e w' => e = .returned (.bool (inB n lo hi)) ∧ w = w' := by
  unfold inB
  gi_enter Try.func35, Try.ntmps35
  gi_wp2
  · go_ret; exact ⟨by simp [*], rfl⟩
  · have h : ¬ lo ≤ n := by omega
    go_ret; exact ⟨by simp [h], rfl⟩
theorem In_b (n lo hi : Int) (v : Bool) (w : World) (h : inB n lo hi = v) :
    Cal 35 #[.int .i64 n, .int .i64 lo, .int .i64 hi] w fun e w' => e = .returned (.bool v) ∧ w = w' := by
  subst h; exact In_any n lo hi w
set_option maxHeartbeats 400000 in
theorem itself_any (n : Int) (w : World) : Cal 78 #[.int .i64 n] w fun e w' => e = .returned (.int .i64 n) ∧ w = w' := by
  gi_enter Try.func78, Try.ntmps78
  gi_wp2
  go_ret; exact ⟨rfl, rfl⟩
theorem sum_snoc (xs : List Int) (k : Nat) (h : k < xs.length) : (xs.take (k + 1)).sum = (xs.take k).sum + xs[k] := by
  rw [List.take_succ_eq_append_getElem h, List.sum_append, List.sum_cons, List.sum_nil, Int.add_zero]
theorem sum_within {M : Int} (hM : 0 ≤ M) : ∀ (l : List Int), (∀ x ∈ l, -M ≤ x ∧ x ≤ M) → -(M * l.length) ≤ l.sum ∧ l.sum ≤ M * l.length
  | [], _ => by simp
  | x :: l, h => by
    have h1 := h x (by simp)
    have h2 := sum_within hM l fun t ht => h t (by simp [ht])
    simp only [List.sum_cons, List.length_cons, Int.mul_add, Int.mul_one, Int.natCast_add, Int.natCast_one] at *
    omega
theorem sum_to (l : List Int) (h : ∀ x ∈ l, -1000000000 ≤ x ∧ x ≤ 1000000000) (hl : l.length ≤ 1000) (k : Nat) : -1000000000000 ≤ (l.take k).sum ∧ (l.take k).sum ≤ 1000000000000 := by
  have := sum_within (M := 1000000000) (by omega) (l.take k) fun s hs => h s (List.mem_of_mem_take hs)
  have hl : (l.take k).length ≤ 1000 := by rw [List.length_take]; omega
  omega
/-- A function of the program as a value. -/
abbrev fnV (f : Nat) : Value := .func (.func f) #[] #[]
set_option maxHeartbeats 1000000 in
theorem sumI_any (v : Value) (xs : List Int) (w : World) (hv : IntsAt w v xs) (hb : ∀ x ∈ xs, -1000000000 ≤ x ∧ x ≤ 1000000000) (hl : xs.length ≤ 1000) :
    Cal 77 #[fnV 78, v] w fun e w' => e = .returned (.int .i64 xs.sum) ∧ w = w' := by
  obtain ⟨a, cap, rfl, ⟨hcap, hlen⟩, hc⟩ := hv
  have HB := hid hb
  have HC := hid hc
  clear hc hb
  gi_enter Try.func77, Try.ntmps77
  gi_wp2
  gi_loop [5, 7, 10, 12, 13, 14, 15, 16, 17, 18, 19] (fun s u7 i u12 u13 u14 u15 u16 u17 u18 u19 => ∃ k : Nat, k ≤ xs.length ∧ i = .int .i64 k ∧ s = .int .i64 (xs.take k).sum) (fun _ _ i _ _ _ _ _ _ _ _ => xs.length - (intOf i).toNat)
  case atStart => exact ⟨0, Nat.zero_le _, rfl, rfl⟩
  case round =>
    obtain ⟨k, hk, rfl, rfl⟩ := hrel
    by_cases hlt : k < xs.length
    · obtain ⟨b, off, rfl, hbb, hck⟩ := HC.out k hlt
      have HS := hid (sum_snoc xs k hlt)
      have hp := sum_to xs HB.out hl k
      have hx := HB.out xs[k] (List.getElem_mem _)
      generalize xs[k] = x at *
      generalize (xs.take k).sum = s at *
      gi_wp2_with (gi_at_call 78; ((with_reducible refine (itself_any _ _).mono ?_); rintro e w1 ⟨rfl, rfl⟩))
      go_round
      case rel => exact ⟨k + 1, by omega, by go_num, by rw [HS.out]⟩
      case measure => simp [intOf]; omega
    · have he : k = xs.length := by omega
      subst he
      gi_wp2
      go_ret
      exact ⟨rfl, rfl⟩
/-- The one before one. -/
def prevL (l : List Int) : Nat → Int
  | 0 => 10000
  | k + 1 => l.getD k 0
def fallG (l : List Int) (k : Nat) : Bool := inB (l.getD k 0) 0 (prevL l k)
/-- Numbers as offers must be. -/
def fallB (l : List Int) : Bool := decide (l.length ≤ 40) && allTo (fallG l) l.length
theorem fall_len {l : List Int} (h : ¬ l.length ≤ 40) : fallB l = false := by unfold fallB; simp [h]
theorem fall_ok {l : List Int} (h : fallB l = true) : Au.Fall l := by
  unfold fallB at h
  rw [Bool.and_eq_true, decide_eq_true_eq] at h
  have hg : ∀ k, k < l.length → 0 ≤ l.getD k 0 ∧ l.getD k 0 ≤ prevL l k := fun k hk => by
    have := h.2
    unfold allTo at this
    rw [List.all_eq_true] at this
    exact inB_spec (this k (List.mem_range.2 hk))
  have hm : ∀ k i, i + k < l.length → l.getD (i + k) 0 ≤ l.getD i 0 := by
    intro k
    induction k with
    | zero => intro i _; exact Int.le_refl _
    | succ k ih =>
      intro i hi
      have h1 := ih i (by omega)
      have h2 := (hg (i + (k + 1)) hi).2
      rw [show i + (k + 1) = (i + k) + 1 from by omega] at h2 ⊢
      simp only [prevL] at h2
      omega
  refine ⟨h.1, fun i hi => ⟨(hg i hi).1, ?_⟩, fun i j hij hj => by have := hm (j - i) i (by omega); rwa [show i + (j - i) = j from by omega] at this⟩
  have h1 := hm i 0 (by omega)
  have h2 := (hg 0 (by omega)).2
  simp only [prevL] at h2
  rw [Nat.zero_add] at h1
  omega
theorem fall_iff {l : List Int} : fallB l = true ↔ Au.Fall l := by
  constructor
  · exact fall_ok
  · intro h
    unfold fallB
    rw [Bool.and_eq_true, decide_eq_true_eq]
    refine ⟨h.len, allTo_yes fun k hk => ?_⟩
    unfold fallG inB
    have h1 := h.low k hk
    rw [Bool.and_eq_true, decide_eq_true_eq, decide_eq_true_eq]
    refine ⟨h1.1, ?_⟩
    cases k with
    | zero => exact h1.2
    | succ k => exact h.fall k (k + 1) (by omega) hk
set_option maxHeartbeats 1000000 in
theorem arePrices_any (v : Value) (l : List Int) (w : World) (hv : IntsAt w v l) :
    Cal 54 #[v] w fun e w' => e = .returned (.bool (fallB l)) ∧ w = w' := by
  obtain ⟨a, cap, rfl, ⟨hcap, hlen⟩, hc⟩ := hv
  have HC := hid hc
  clear hc
  by_cases h40 : l.length ≤ 40
  · have HF : Hid (∀ k, k < l.length → fallG l k = false → fallB l = false) := hid fun k hk hg => by unfold fallB; rw [allTo_no hk hg]; simp
    have HT : Hid ((∀ k, k < l.length → fallG l k = true) → fallB l = true) := hid fun h => by unfold fallB; rw [allTo_yes h]; simp [h40]
    have h41 : (l.length : Int) ≤ 40 := by omega
    clear h40
    gi_enter Try.func54, Try.ntmps54
    gi_wp2
    gi_loop [3, 5, 11, 12, 13, 14, 15, 16, 17, 18, 19, 20] (fun p u5 i u12 u13 u14 u15 u16 u17 u18 u19 u20 => ∃ k : Nat, k ≤ l.length ∧ i = .int .i64 k ∧ p = .int .i64 (prevL l k) ∧ Hid (∀ j, j < k → fallG l j = true)) (fun _ _ i _ _ _ _ _ _ _ _ _ => l.length - (intOf i).toNat)
    case atStart => exact ⟨0, Nat.zero_le _, rfl, rfl, fun _ h => absurd h (by omega)⟩
    case round =>
      obtain ⟨k, hk, rfl, rfl, HG⟩ := hrel
      by_cases hlt : k < l.length
      · obtain ⟨b, off, rfl, hbb, hck⟩ := HC.out k hlt
        have HD := hid (getD_of (d := (0 : Int)) hlt)
        have HP : Hid (prevL l (k + 1) = l[k]) := hid HD.out
        have HGK : Hid (fallG l k = inB l[k] 0 (prevL l k)) := hid (by unfold fallG; rw [HD.out])
        generalize l[k] = x at *
        generalize prevL l k = p at *
        cases hin : inB x 0 p with
        | true =>
          have HU := hid (upTo_succ HG.out (by rw [HGK.out]; exact hin))
          have HI := hid hin
          clear hin HG
          gi_wp2_with (gi_at_call 60; ((with_reducible refine (isIn_b _ _ _ true _ HI.out).mono ?_); rintro e w1 ⟨rfl, rfl⟩))
          go_round
          case rel => exact ⟨k + 1, by omega, by go_num, by rw [HP.out], HU⟩
          case measure => simp [intOf]; omega
        | false =>
          have HE := hid (HF.out k hlt (by rw [HGK.out]; exact hin))
          have HI := hid hin
          clear hin HG
          gi_wp2_with (gi_at_call 60; ((with_reducible refine (isIn_b _ _ _ false _ HI.out).mono ?_); rintro e w1 ⟨rfl, rfl⟩))
          go_ret
          exact ⟨by rw [HE.out]; rfl, rfl⟩
      · obtain rfl : k = l.length := by omega
        have HE := hid (HT.out HG.out)
        clear HG
        gi_wp2
        go_ret
        exact ⟨by rw [HE.out]; rfl, rfl⟩
  · have HE := hid (fall_len h40)
    have h41 : ¬ (l.length : Int) ≤ 40 := by omega
    clear h40
    gi_enter Try.func54, Try.ntmps54
    gi_wp2
    go_ret
    exact ⟨by rw [HE.out]; rfl, rfl⟩

end Go.Proofs.Ytfkehbhlagpmcaa
