/- The first functions: the contracts of the reports' and the steps' checks. -/
import Derived.Test.YtiklblbjnblkfaaBase
set_option linter.unusedSimpArgs false
set_option linter.unusedVariables false
namespace Go.Proofs.Ytiklblbjnblkfaa
open Go Go.RowKit Go.Shelf

set_option maxHeartbeats 400000 in
theorem place_any (b : Nat) (S : SeaV) (hS : S.Ok) (c : Int) (h0 : 0 ≤ c) (h1 : c ≤ 1000) (w : World) (hs : SeaAt w b S) :
    Cal 50 #[.pointer (some ⟨b, 0, none⟩), .int .i64 c] w fun e w' => e = .returned (placeV (c % S.wide) (c / S.wide)) ∧ Ext w w' := by
  have hw := hS.wide
  gi_enter Try.func50, Try.ntmps50
  gi_wp2_with fail
  have hs1 : SeaAt (w.alloc (.cells #[.int .i64 0, .int .i64 0] 81)) b S := hs.mono ((Ext.refl w).alloc _)
  have hc := fun e : Later (w.alloc (.cells #[.int .i64 0, .int .i64 0] 81)) => (hs1.mono e.grown).cells
  refine quiet_wide 15 (by kernel_rfl) (by kernel_rfl) ?_
  simp only [List.take_succ_cons, List.take_zero, List.drop_succ_cons, List.drop_zero]
  repeat (any_goals (first | go_big_quiet_step (fail) | quiet_step (fail)))
  refine wpQuiet_nil ?_
  rintro _ ⟨⟨w1, hx⟩, rfl⟩
  clear hc
  have hb := Ext.new hx
  have hf := free_of hb
  have hc := cell_of hb
  gi_wp2
  refine bodyPost_ret (v := placeV (c % S.wide) (c / S.wide)) (by simp [results, Try.results47, go_sem, hc, placeV]) rfl ⟨rfl, ?_⟩
  exact ((Ext.after hx).set (Nat.le_refl _) _ _).set (Nat.le_refl _) _ _

set_option maxHeartbeats 400000 in
theorem isIn_any (n lo hi : Int) (w : World) :
    Cal 80 #[.int .i64 n, .int .i64 lo, .int .i64 hi] w fun e w' => e = .returned (.bool (decide (lo ≤ n) && decide (n ≤ hi))) ∧ w = w' := by
  gi_enter Try.func80, Try.ntmps80
  gi_wp2
  · go_ret; exact ⟨by simp [*], rfl⟩
  · have h : ¬ lo ≤ n := by omega
    go_ret; exact ⟨by simp [h], rfl⟩

set_option maxHeartbeats 400000 in
theorem greatest_any (x : Int) (b off cap : Nat) (xs : List Int) (w : World) (hx : xs.length ≤ 1000) (hc : ∀ i (h : i < xs.length), w.cell? ⟨b, off + i, none⟩ = some (.int .i64 xs[i])) :
    Cal 95 #[.int .i64 x, .slice (some ⟨b, off, none⟩) xs.length cap] w fun e w' => e = .returned (.int .i64 (maxL x xs)) ∧ w = w' := by
  gi_enter Try.func95, Try.ntmps95
  gi_wp2
  gi_loop [0, 9] (fun m i => ∃ k : Nat, k ≤ xs.length ∧ i = .int .i64 k ∧ m = .int .i64 (maxL x (xs.take k))) (fun _ i => xs.length - (intOf i).toNat)
  case atStart => exact ⟨0, Nat.zero_le _, rfl, rfl⟩
  case round =>
    obtain ⟨k, hk, rfl, rfl⟩ := hrel
    by_cases hlt : k < xs.length
    · have hck := hc k hlt
      have hm := maxL_snoc x xs k hlt
      have HS : Hid (maxL x (xs.take (k + 1)) = if maxL x (xs.take k) < xs[k] then xs[k] else maxL x (xs.take k)) := hm
      clear hm hc
      gi_wp2
      all_goals
        go_round
        case rel => exact ⟨k + 1, by omega, by go_num, by rw [HS.out]; first | rw [if_pos ‹_›] | rw [if_neg (by omega)]⟩
        case measure => simp [intOf]; omega
    · gi_wp2
      go_ret
      exact ⟨by rw [List.take_of_length_le (by omega)]; rfl, rfl⟩

set_option maxHeartbeats 400000 in
theorem least_any (x : Int) (b off cap : Nat) (xs : List Int) (w : World) (hx : xs.length ≤ 1000) (hc : ∀ i (h : i < xs.length), w.cell? ⟨b, off + i, none⟩ = some (.int .i64 xs[i])) :
    Cal 87 #[.int .i64 x, .slice (some ⟨b, off, none⟩) xs.length cap] w fun e w' => e = .returned (.int .i64 (minL x xs)) ∧ w = w' := by
  gi_enter Try.func87, Try.ntmps87
  gi_wp2
  gi_loop [0, 9] (fun m i => ∃ k : Nat, k ≤ xs.length ∧ i = .int .i64 k ∧ m = .int .i64 (minL x (xs.take k))) (fun _ i => xs.length - (intOf i).toNat)
  case atStart => exact ⟨0, Nat.zero_le _, rfl, rfl⟩
  case round =>
    obtain ⟨k, hk, rfl, rfl⟩ := hrel
    by_cases hlt : k < xs.length
    · have hck := hc k hlt
      have HS : Hid (minL x (xs.take (k + 1)) = if xs[k] < minL x (xs.take k) then xs[k] else minL x (xs.take k)) := minL_snoc x xs k hlt
      clear hc
      gi_wp2
      all_goals
        go_round
        case rel => exact ⟨k + 1, by omega, by go_num, by rw [HS.out]; first | rw [if_pos ‹_›] | rw [if_neg (by omega)]⟩
        case measure => simp [intOf]; omega
    · gi_wp2
      go_ret
      exact ⟨by rw [List.take_of_length_le (by omega)]; rfl, rfl⟩

set_option maxHeartbeats 400000 in
theorem distance_any (a b c d : Int) (w : World) (ha : -1000 ≤ a ∧ a ≤ 1000) (hb : -1000 ≤ b ∧ b ≤ 1000) (hc : -1000 ≤ c ∧ c ≤ 1000) (hd : -1000 ≤ d ∧ d ≤ 1000) :
    Cal 105 #[placeV a b, placeV c d] w fun e w' => e = .returned (.int .i64 (maxL (a - c) [c - a, b - d, d - b])) ∧ Ext w w' := by
  unfold placeV
  gi_enter Try.func105, Try.ntmps105
  gi_wp2_with fail
  refine (greatest_any _ _ 0 _ [c - a, b - d, d - b] _ (by simp) (fun i h => ?_)).mono ?_
  · have h3 : i < 3 := h
    obtain rfl | rfl | rfl : i = 0 ∨ i = 1 ∨ i = 2 := by omega
    all_goals (rw [new_cell _ _ (by simp)]; rfl)
  rintro e w' ⟨rfl, rfl⟩
  gi_wp2
  go_ret
  exact ⟨rfl, ((((Ext.refl w).alloc _).alloc _).alloc _)⟩

set_option maxHeartbeats 400000 in
theorem isCell_any (b : Nat) (S : SeaV) (hS : S.Ok) (c : Int) (w : World) (hs : SeaAt w b S) :
    Cal 78 #[.pointer (some ⟨b, 0, none⟩), .int .i64 c] w fun e w' => e = .returned (.bool (decide (0 ≤ c) && decide (c ≤ S.wide * S.high - 1))) ∧ Ext w w' := by
  have hw := hS.wide
  have hh := hS.high
  have hm : 0 ≤ S.wide * S.high ∧ S.wide * S.high ≤ 80 := ⟨Int.mul_nonneg (by omega) (by omega), Int.le_trans (Int.mul_le_mul hw.2 hh.2 (by omega) (by omega)) (by omega)⟩
  gi_enter Try.func78, Try.ntmps78
  gi_wp2_with fail
  have hc := fun e : Later w => (hs.mono e.grown).cells
  refine quiet_wide 14 (by kernel_rfl) (by kernel_rfl) ?_
  simp only [List.take_succ_cons, List.take_zero, List.drop_succ_cons, List.drop_zero]
  repeat (any_goals (first | go_big_quiet_step ((go_at_call 80; exact Cal.quiet_same (isIn_any _ _ _ _))) | quiet_step ((go_at_call 80; exact Cal.quiet_same (isIn_any _ _ _ _)))))
  refine wpQuiet_nil ?_
  rintro _ ⟨⟨w1, hx⟩, rfl⟩
  clear hc
  gi_wp2
  go_ret
  exact ⟨rfl, hx⟩
end Go.Proofs.Ytiklblbjnblkfaa

namespace Go.Proofs.Ytiklblbjnblkfaa
open Go Go.RowKit Go.Shelf

theorem isIn_b (n lo hi : Int) (v : Bool) (w : World) (h : inB n lo hi = v) :
    Cal 80 #[.int .i64 n, .int .i64 lo, .int .i64 hi] w fun e w' => e = .returned (.bool v) ∧ w = w' := by
  subst h; exact isIn_any n lo hi w

set_option maxHeartbeats 400000 in
theorem isLand_any (v : Value) (xs : List Int) (cells : Int) (h0 : 0 ≤ cells) (h1 : cells ≤ 1000) (w : World) (hi : IntsAt w v xs) :
    Cal 81 #[v, .int .i64 cells] w fun e w' => e = .returned (.bool (landB xs cells)) ∧ w = w' := by
  obtain ⟨a, cap, rfl, hlen, hc⟩ := hi
  gi_enter Try.func81, Try.ntmps81
  gi_wp2
  gi_loop [9] (fun i => ∃ k : Nat, k ≤ xs.length ∧ i = .int .i64 k ∧ ∀ j, j < k → landGood xs cells j = true) (fun i => xs.length - (intOf i).toNat)
  case atStart => exact ⟨0, Nat.zero_le _, rfl, fun _ h => absurd h (by omega)⟩
  case round =>
    obtain ⟨k, hk, rfl, hgood⟩ := hrel
    by_cases hlt : k < xs.length
    · obtain ⟨b, off, rfl, hb, hck⟩ := hc k hlt
      by_cases hin : inB xs[k] 0 (cells - 1) = true
      · by_cases hk0 : k = 0
        · subst hk0
          rw [Nat.add_zero] at hck
          have HG : Hid (landGood xs cells 0 = true) := (landGood_zero hlt).trans hin
          have HU := hid (upTo_succ hgood HG.out)
          clear hgood hc
          gi_wp2_with (gi_at_call 80; refine (isIn_b _ _ _ true _ hin).mono ?_; rintro e w' ⟨rfl, rfl⟩)
          go_round
          case rel => exact ⟨1, by omega, by go_num, HU.out⟩
          case measure => simp [intOf]; omega
        · obtain ⟨b', off', hab, _, hcp⟩ := hc (k - 1) (by omega)
          cases hab
          by_cases hle : xs[k] ≤ xs[k - 1]
          · have HG : Hid (landB xs cells = false) := allTo_no hlt (by rw [landGood_pos hlt hk0, decide_eq_false (by omega), Bool.and_false])
            clear hgood hc
            gi_wp2_with (gi_at_call 80; refine (isIn_b _ _ _ true _ hin).mono ?_; rintro e w' ⟨rfl, rfl⟩)
            go_ret
            exact ⟨by rw [HG.out]; rfl, rfl⟩
          · have HG : Hid (landGood xs cells k = true) := by show landGood xs cells k = true; rw [landGood_pos hlt hk0, hin, decide_eq_true (by omega)]; rfl
            have HU := hid (upTo_succ hgood HG.out)
            clear hgood hc
            gi_wp2_with (gi_at_call 80; refine (isIn_b _ _ _ true _ hin).mono ?_; rintro e w' ⟨rfl, rfl⟩)
            go_round
            case rel => exact ⟨k + 1, by omega, by go_num, HU.out⟩
            case measure => simp [intOf]; omega
      · have hin' : inB xs[k] 0 (cells - 1) = false := by simpa using hin
        have HG : Hid (landB xs cells = false) := allTo_no hlt (landGood_no hlt hin')
        clear hgood hc hin
        gi_wp2_with (gi_at_call 80; refine (isIn_b _ _ _ false _ hin').mono ?_; rintro e w' ⟨rfl, rfl⟩)
        go_ret
        exact ⟨by rw [HG.out]; rfl, rfl⟩
    · obtain rfl : k = xs.length := by omega
      have HG : Hid (landB xs cells = true) := allTo_yes hgood
      clear hgood hc
      gi_wp2
      go_ret
      exact ⟨by rw [HG.out]; rfl, rfl⟩

set_option maxHeartbeats 400000 in
theorem isDrift_any (v : Value) (ds : List Step) (steps : Int) (w : World) (hi : StepsAt w v ds) :
    Cal 82 #[v, .int .i64 steps] w fun e w' => e = .returned (.bool (driftB ds steps)) ∧ Ext w w' := by
  obtain ⟨a, cap, rfl, hlen, hc⟩ := hi
  by_cases hst : (ds.length : Int) = steps
  · subst hst
    have hb0 : (!((ds.length : Int) == (ds.length : Int))) = false := by simp
    gi_enter Try.func82, Try.ntmps82
    gi_wp2
    gi_loopw [13] (fun i wr => ∃ k : Nat, k ≤ ds.length ∧ i = .int .i64 k ∧ Hid (∀ j, j < k → driftGood ds j = true) ∧ Ext w wr) (fun i _ => ds.length - (intOf i).toNat)
    case atStart => exact ⟨0, Nat.zero_le _, rfl, fun _ h => absurd h (by omega), Ext.refl _⟩
    case round =>
      obtain ⟨k, hk, rfl, hgood, hx⟩ := hrel
      by_cases hlt : k < ds.length
      · obtain ⟨b, off, rfl, hb, hc0, hc1⟩ := hc k hlt
        rw [← hx.cell (p := ⟨b, _, none⟩) hb] at hc0 hc1
        clear hc hb0
        by_cases h1 : inB ds[k].east (-2) 2 = true
        · by_cases h2 : inB ds[k].north (-2) 2 = true
          · have HU := hid (upTo_succ hgood.out (by rw [driftGood_eq hlt, h1, h2]; rfl))
            clear hgood
            gi_wp2_with (gi_at_call 80; refine (isIn_b _ _ _ true _ (by assumption)).mono ?_; rintro e w' ⟨rfl, rfl⟩)
            go_roundw
            case rel => exact ⟨k + 1, by omega, by go_num, HU, hx.alloc _⟩
            case measure => simp [intOf]; omega
          · have h2' : inB ds[k].north (-2) 2 = false := by simpa using h2
            have HG : Hid (driftB ds ds.length = false) := by show driftB ds ds.length = false; unfold driftB; rw [allTo_no hlt (by rw [driftGood_eq hlt, h1, h2']; rfl), Bool.and_false]
            clear hgood h2
            gi_wp2_with (gi_at_call 80; first | ((with_reducible refine (isIn_b ds[k].east _ _ true _ h1).mono ?_); rintro e w' ⟨rfl, rfl⟩) | ((with_reducible refine (isIn_b ds[k].north _ _ false _ h2').mono ?_); rintro e w' ⟨rfl, rfl⟩))
            go_ret
            exact ⟨by rw [HG.out]; rfl, hx.alloc _⟩
        · have h1' : inB ds[k].east (-2) 2 = false := by simpa using h1
          have HG : Hid (driftB ds ds.length = false) := by show driftB ds ds.length = false; unfold driftB; rw [allTo_no hlt (by rw [driftGood_eq hlt, h1']; rfl), Bool.and_false]
          clear hgood h1
          gi_wp2_with (gi_at_call 80; refine (isIn_b ds[k].east _ _ false _ h1').mono ?_; rintro e w' ⟨rfl, rfl⟩)
          go_ret
          exact ⟨by rw [HG.out]; rfl, hx.alloc _⟩
      · obtain rfl : k = ds.length := by omega
        have HG : Hid (driftB ds ds.length = true) := by show driftB ds ds.length = true; unfold driftB; rw [allTo_yes hgood.out]; simp
        clear hgood hc
        gi_wp2
        go_ret
        exact ⟨by rw [HG.out]; rfl, hx⟩
  · have hb0 : ((ds.length : Int) != steps) = true := by rw [bne_iff_ne]; exact hst
    have HG : Hid (driftB ds steps = false) := by show driftB ds steps = false; unfold driftB; rw [decide_eq_false hst]; rfl
    clear hst hc
    gi_enter Try.func82, Try.ntmps82
    gi_wp2
    go_ret
    exact ⟨by rw [HG.out]; rfl, Ext.refl _⟩
end Go.Proofs.Ytiklblbjnblkfaa

namespace Go.Proofs.Ytiklblbjnblkfaa
open Go Go.RowKit Go.Shelf

set_option maxHeartbeats 1000000 in
theorem isSea_any (D : SeaD) (lv dv : Value) (w : World) (hl : IntsAt w lv D.land) (hd : StepsAt w dv D.drift) :
    Cal 55 #[seaVal D lv dv] w fun e w' => e = .returned (.bool (seaB D)) ∧ Ext w w' := by
  obtain ⟨W, H, xs, hrs, ds, sp⟩ := D
  unfold seaVal
  simp only at hl hd ⊢
  by_cases h1 : inB W 1 10 = true
  rotate_left
  · have h1' : inB W 1 10 = false := by simpa using h1
    have HG : Hid (seaB ⟨W, H, xs, hrs, ds, sp⟩ = false) := by show seaB _ = false; simp only [seaB, h1', Bool.false_and]
    clear hl hd h1
    gi_enter Try.func55, Try.ntmps55
    gi_wp2_with (gi_at_call 80; ((with_reducible refine (isIn_b W _ _ false _ h1').mono ?_); rintro e w' ⟨rfl, rfl⟩))
    go_ret
    exact ⟨by rw [HG.out]; rfl, (Ext.refl _).alloc _⟩
  by_cases h2 : inB H 1 8 = true
  rotate_left
  · have h2' : inB H 1 8 = false := by simpa using h2
    have HG : Hid (seaB ⟨W, H, xs, hrs, ds, sp⟩ = false) := by show seaB _ = false; simp only [seaB, h2', Bool.false_and, Bool.and_false]
    clear hl hd h2
    gi_enter Try.func55, Try.ntmps55
    gi_wp2_with (gi_at_call 80; first | ((with_reducible refine (isIn_b W 1 10 true _ h1).mono ?_); rintro e w' ⟨rfl, rfl⟩) | ((with_reducible refine (isIn_b H 1 8 false _ h2').mono ?_); rintro e w' ⟨rfl, rfl⟩))
    go_ret
    exact ⟨by rw [HG.out]; rfl, (Ext.refl _).alloc _⟩
  by_cases h3 : inB sp 0 2 = true
  rotate_left
  · have h3' : inB sp 0 2 = false := by simpa using h3
    have HG : Hid (seaB ⟨W, H, xs, hrs, ds, sp⟩ = false) := by show seaB _ = false; simp only [seaB, h3', Bool.false_and, Bool.and_false]
    clear hl hd h3
    gi_enter Try.func55, Try.ntmps55
    gi_wp2_with (gi_at_call 80; first | ((with_reducible refine (isIn_b W 1 10 true _ h1).mono ?_); rintro e w' ⟨rfl, rfl⟩) | ((with_reducible refine (isIn_b H 1 8 true _ h2).mono ?_); rintro e w' ⟨rfl, rfl⟩) | ((with_reducible refine (isIn_b sp 0 2 false _ h3').mono ?_); rintro e w' ⟨rfl, rfl⟩))
    go_ret
    exact ⟨by rw [HG.out]; rfl, (Ext.refl _).alloc _⟩
  by_cases h4 : inB hrs 1 12 = true
  rotate_left
  · have h4' : inB hrs 1 12 = false := by simpa using h4
    have HG : Hid (seaB ⟨W, H, xs, hrs, ds, sp⟩ = false) := by show seaB _ = false; simp only [seaB, h4', Bool.false_and, Bool.and_false]
    clear hl hd h4
    gi_enter Try.func55, Try.ntmps55
    gi_wp2_with (gi_at_call 80; first | ((with_reducible refine (isIn_b W 1 10 true _ h1).mono ?_); rintro e w' ⟨rfl, rfl⟩) | ((with_reducible refine (isIn_b H 1 8 true _ h2).mono ?_); rintro e w' ⟨rfl, rfl⟩) | ((with_reducible refine (isIn_b sp 0 2 true _ h3).mono ?_); rintro e w' ⟨rfl, rfl⟩) | ((with_reducible refine (isIn_b hrs 1 12 false _ h4').mono ?_); rintro e w' ⟨rfl, rfl⟩))
    go_ret
    exact ⟨by rw [HG.out]; rfl, (Ext.refl _).alloc _⟩
  have b1 := inB_spec h1
  have b2 := inB_spec h2
  have b4 := inB_spec h4
  have bm := mul_bounds b1 b2
  have hl1 := hl.mono ((Ext.refl w).alloc (.cells #[.int .i64 W, .int .i64 H, lv, .int .i64 hrs, dv, .int .i64 sp] 25))
  have hd1 := hd.mono ((Ext.refl w).alloc (.cells #[.int .i64 W, .int .i64 H, lv, .int .i64 hrs, dv, .int .i64 sp] 25))
  cases h5 : landB xs (W * H) with
  | false =>
    have HG : Hid (seaB ⟨W, H, xs, hrs, ds, sp⟩ = false) := by show seaB _ = false; simp only [seaB, h5, Bool.false_and, Bool.and_false]
    have HL := hid hl1
    clear hl hd hl1 hd1
    gi_enter Try.func55, Try.ntmps55
    gi_wp2_with (first | (gi_at_call 80; first | ((with_reducible refine (isIn_b W 1 10 true _ h1).mono ?_); rintro e w' ⟨rfl, rfl⟩) | ((with_reducible refine (isIn_b H 1 8 true _ h2).mono ?_); rintro e w' ⟨rfl, rfl⟩) | ((with_reducible refine (isIn_b sp 0 2 true _ h3).mono ?_); rintro e w' ⟨rfl, rfl⟩) | ((with_reducible refine (isIn_b hrs 1 12 true _ h4).mono ?_); rintro e w' ⟨rfl, rfl⟩)) | (gi_at_call 81; refine (isLand_any lv xs (W * H) (by omega) (by omega) _ HL.out).mono ?_; rw [h5]; rintro e w' ⟨rfl, rfl⟩))
    go_ret
    exact ⟨by rw [HG.out]; rfl, (Ext.refl _).alloc _⟩
  | true =>
    have HG : Hid (seaB ⟨W, H, xs, hrs, ds, sp⟩ = driftB ds (hrs - 1)) := by show seaB _ = _; simp only [seaB, h1, h2, h3, h4, h5, Bool.true_and]
    have HL := hid hl1
    have HD := hid hd1
    clear hl hd hl1 hd1
    gi_enter Try.func55, Try.ntmps55
    gi_wp2_with (first | (gi_at_call 80; first | ((with_reducible refine (isIn_b W 1 10 true _ h1).mono ?_); rintro e w' ⟨rfl, rfl⟩) | ((with_reducible refine (isIn_b H 1 8 true _ h2).mono ?_); rintro e w' ⟨rfl, rfl⟩) | ((with_reducible refine (isIn_b sp 0 2 true _ h3).mono ?_); rintro e w' ⟨rfl, rfl⟩) | ((with_reducible refine (isIn_b hrs 1 12 true _ h4).mono ?_); rintro e w' ⟨rfl, rfl⟩)) | (gi_at_call 81; refine (isLand_any lv xs (W * H) (by omega) (by omega) _ HL.out).mono ?_; rw [h5]; rintro e w' ⟨rfl, rfl⟩) | (gi_at_call 82; refine (isDrift_any dv ds (hrs - 1) _ HD.out).mono ?_; rintro e w' ⟨rfl, hx⟩))
    go_ret
    exact ⟨by rw [HG.out]; rfl, Ext.after hx⟩
end Go.Proofs.Ytiklblbjnblkfaa

namespace Go.Proofs.Ytiklblbjnblkfaa
open Go Go.RowKit Go.Shelf

theorem isCell_b (b : Nat) (S : SeaV) (hS : S.Ok) (c : Int) (v : Bool) (w : World) (hs : SeaAt w b S) (h : inB c 0 (S.wide * S.high - 1) = v) :
    Cal 78 #[.pointer (some ⟨b, 0, none⟩), .int .i64 c] w fun e w' => e = .returned (.bool v) ∧ Ext w w' := by
  subst h; exact isCell_any b S hS c w hs

/-- The cells of a block that has just been made, in whatever world has grown out of it. -/
theorem Later.cells {w : World} {cs : Array Value} {t : TypeId} (e : Later (w.alloc (.cells cs t))) (i : Nat) : e.val.cell? ⟨w.heap.size, i, none⟩ = cs[i]? := cell_of (Ext.new e.grown) i

set_option maxHeartbeats 1000000 in
theorem areReports_any (b : Nat) (S : SeaV) (hS : S.Ok) (v : Value) (rs : List Rep) (w : World) (hs : SeaAt w b S) (hr : RepsAt w v rs) :
    Cal 75 #[.pointer (some ⟨b, 0, none⟩), v] w fun e w' => e = .returned (.bool (repsB S.hours (S.wide * S.high) rs)) ∧ Ext w w' := by
  obtain ⟨a, cap, rfl, hlen, hc⟩ := hr
  by_cases hmany : rs.length ≤ 24
  rotate_left
  · have HG : Hid (repsB S.hours (S.wide * S.high) rs = false) := by show repsB _ _ _ = false; unfold repsB; rw [decide_eq_false hmany, Bool.false_and]
    have hm : 24 < rs.length := by omega
    clear hc hs hmany
    gi_enter Try.func75, Try.ntmps75
    gi_wp2
    go_ret
    exact ⟨by rw [HG.out]; rfl, Ext.refl _⟩
  have hh := hS.hours
  gi_enter Try.func75, Try.ntmps75
  gi_wp2
  gi_loopw [12] (fun i wr => ∃ k : Nat, k ≤ rs.length ∧ i = .int .i64 k ∧ Hid (∀ j, j < k → repGood S.hours (S.wide * S.high) rs j = true) ∧ Ext w wr) (fun i _ => rs.length - (intOf i).toNat)
  case atStart => exact ⟨0, Nat.zero_le _, rfl, fun _ h => absurd h (by omega), Ext.refl _⟩
  case round =>
    obtain ⟨k, hk, rfl, hgood, hx⟩ := hrel
    by_cases hlt : k < rs.length
    · obtain ⟨b', off, rfl, hb, hc0, hc1, hc2, hc3⟩ := hc k hlt
      rw [← hx.cell (p := ⟨b', _, none⟩) hb] at hc0 hc1 hc2 hc3
      clear hc
      have hs1 := hs.mono (hx.alloc (.cells #[.int .i64 rs[k].hour, .int .i64 rs[k].cell, .int .i64 rs[k].far, .bool rs[k].there] 52))
      have HS := hid fun e : Later (wr.alloc (.cells #[.int .i64 rs[k].hour, .int .i64 rs[k].cell, .int .i64 rs[k].far, .bool rs[k].there] 52)) => hs1.mono e.grown
      have HC := hid fun e : Later (wr.alloc (.cells #[.int .i64 rs[k].hour, .int .i64 rs[k].cell, .int .i64 rs[k].far, .bool rs[k].there] 52)) => And.intro (hs1.mono e.grown).cells e.cells
      clear hs hs1
      by_cases h1 : inB rs[k].hour 0 (S.hours - 1) = true
      rotate_left
      · have h1' : inB rs[k].hour 0 (S.hours - 1) = false := by simpa using h1
        have HG : Hid (repsB S.hours (S.wide * S.high) rs = false) := by show repsB _ _ _ = false; unfold repsB; rw [allTo_no hlt (by rw [repGood_eq hlt, h1']; rfl), Bool.and_false]
        clear hgood h1
        gi_wp2_with fail
        refine quiet_wide 23 (by kernel_rfl) (by kernel_rfl) ?_
        simp only [List.take_succ_cons, List.take_zero, List.drop_succ_cons, List.drop_zero]
        have hc := HC.out
        repeat (any_goals (first | go_big_quiet_step ((go_at_call 80; with_reducible exact Cal.quiet_same (isIn_b rs[k].hour _ _ false _ h1'))) | quiet_step ((go_at_call 80; with_reducible exact Cal.quiet_same (isIn_b rs[k].hour _ _ false _ h1')))))
        refine wpQuiet_nil ?_
        rintro _ ⟨⟨w1, hx1⟩, rfl⟩
        clear hc HC HS
        gi_wp2
        go_ret
        exact ⟨by rw [HG.out]; rfl, hx.trans (Ext.after hx1)⟩
      by_cases h2 : inB rs[k].cell 0 (S.wide * S.high - 1) = true
      rotate_left
      · have h2' : inB rs[k].cell 0 (S.wide * S.high - 1) = false := by simpa using h2
        have HG : Hid (repsB S.hours (S.wide * S.high) rs = false) := by show repsB _ _ _ = false; unfold repsB; rw [allTo_no hlt (by rw [repGood_eq hlt, h1, h2']; rfl), Bool.and_false]
        clear hgood h2
        gi_wp2_with fail
        refine quiet_wide 23 (by kernel_rfl) (by kernel_rfl) ?_
        simp only [List.take_succ_cons, List.take_zero, List.drop_succ_cons, List.drop_zero]
        have hc := HC.out
        repeat (any_goals (first | go_big_quiet_step ((first | (go_at_call 80; with_reducible exact Cal.quiet_same (isIn_b rs[k].hour _ _ true _ h1)) | (go_at_call 78; with_reducible exact Cal.quiet (isCell_b b S hS rs[k].cell false _ (HS.out _) h2')))) | quiet_step ((first | (go_at_call 80; with_reducible exact Cal.quiet_same (isIn_b rs[k].hour _ _ true _ h1)) | (go_at_call 78; with_reducible exact Cal.quiet (isCell_b b S hS rs[k].cell false _ (HS.out _) h2'))))))
        refine wpQuiet_nil ?_
        rintro _ ⟨⟨w1, hx1⟩, rfl⟩
        clear hc HC HS
        gi_wp2
        go_ret
        exact ⟨by rw [HG.out]; rfl, hx.trans (Ext.after hx1)⟩
      by_cases h3 : inB rs[k].far 0 9 = true
      rotate_left
      · have h3' : inB rs[k].far 0 9 = false := by simpa using h3
        have HG : Hid (repsB S.hours (S.wide * S.high) rs = false) := by show repsB _ _ _ = false; unfold repsB; rw [allTo_no hlt (by rw [repGood_eq hlt, h1, h2, h3']; rfl), Bool.and_false]
        clear hgood h3
        gi_wp2_with fail
        refine quiet_wide 23 (by kernel_rfl) (by kernel_rfl) ?_
        simp only [List.take_succ_cons, List.take_zero, List.drop_succ_cons, List.drop_zero]
        have hc := HC.out
        repeat (any_goals (first | go_big_quiet_step ((first | (go_at_call 80; with_reducible exact Cal.quiet_same (isIn_b rs[k].hour _ _ true _ h1)) | (go_at_call 78; with_reducible exact Cal.quiet (isCell_b b S hS rs[k].cell true _ (HS.out _) h2)) | (go_at_call 80; with_reducible exact Cal.quiet_same (isIn_b rs[k].far _ _ false _ h3')))) | quiet_step ((first | (go_at_call 80; with_reducible exact Cal.quiet_same (isIn_b rs[k].hour _ _ true _ h1)) | (go_at_call 78; with_reducible exact Cal.quiet (isCell_b b S hS rs[k].cell true _ (HS.out _) h2)) | (go_at_call 80; with_reducible exact Cal.quiet_same (isIn_b rs[k].far _ _ false _ h3'))))))
        refine wpQuiet_nil ?_
        rintro _ ⟨⟨w1, hx1⟩, rfl⟩
        clear hc HC HS
        gi_wp2
        go_ret
        exact ⟨by rw [HG.out]; rfl, hx.trans (Ext.after hx1)⟩
      have HU := hid (upTo_succ hgood.out (by rw [repGood_eq hlt, h1, h2, h3]; rfl))
      clear hgood
      gi_wp2_with fail
      refine quiet_wide 23 (by kernel_rfl) (by kernel_rfl) ?_
      simp only [List.take_succ_cons, List.take_zero, List.drop_succ_cons, List.drop_zero]
      have hc := HC.out
      repeat (any_goals (first | go_big_quiet_step ((first | (go_at_call 80; with_reducible exact Cal.quiet_same (isIn_b rs[k].hour _ _ true _ h1)) | (go_at_call 78; with_reducible exact Cal.quiet (isCell_b b S hS rs[k].cell true _ (HS.out _) h2)) | (go_at_call 80; with_reducible exact Cal.quiet_same (isIn_b rs[k].far _ _ true _ h3)))) | quiet_step ((first | (go_at_call 80; with_reducible exact Cal.quiet_same (isIn_b rs[k].hour _ _ true _ h1)) | (go_at_call 78; with_reducible exact Cal.quiet (isCell_b b S hS rs[k].cell true _ (HS.out _) h2)) | (go_at_call 80; with_reducible exact Cal.quiet_same (isIn_b rs[k].far _ _ true _ h3))))))
      refine wpQuiet_nil ?_
      rintro _ ⟨⟨w1, hx1⟩, rfl⟩
      clear hc HC HS
      gi_wp2
      go_roundw
      case rel => exact ⟨k + 1, by omega, by go_num, HU, hx.trans (Ext.after hx1)⟩
      case measure => simp [intOf]; omega
    · obtain rfl : k = rs.length := by omega
      have HG : Hid (repsB S.hours (S.wide * S.high) rs = true) := by show repsB _ _ _ = true; unfold repsB; rw [allTo_yes hgood.out, decide_eq_true hmany]; rfl
      clear hgood hc hs
      gi_wp2
      go_ret
      exact ⟨by rw [HG.out]; rfl, hx⟩
end Go.Proofs.Ytiklblbjnblkfaa

namespace Go.Proofs.Ytiklblbjnblkfaa
open Go Go.RowKit Go.Shelf

set_option maxHeartbeats 1000000 in
theorem areCasts_any (b : Nat) (S : SeaV) (hS : S.Ok) (v : Value) (ds : List Cst) (w : World) (hs : SeaAt w b S) (hr : CastsAt w v ds) :
    Cal 91 #[.pointer (some ⟨b, 0, none⟩), v] w fun e w' => e = .returned (.bool (castsB (S.wide * S.high) ds)) ∧ Ext w w' := by
  obtain ⟨a, cap, rfl, hlen, hc⟩ := hr
  by_cases hmany : inB ds.length 1 8 = true
  rotate_left
  · have hm' : inB ds.length 1 8 = false := by simpa using hmany
    have HG : Hid (castsB (S.wide * S.high) ds = false) := by show castsB _ _ = false; unfold castsB; rw [hm', Bool.false_and]
    clear hc hs hmany
    gi_enter Try.func91, Try.ntmps91
    gi_wp2_with (gi_at_call 80; ((with_reducible refine (isIn_b _ _ _ false _ hm').mono ?_); rintro e w' ⟨rfl, rfl⟩))
    go_ret
    exact ⟨by rw [HG.out]; rfl, Ext.refl _⟩
  gi_enter Try.func91, Try.ntmps91
  gi_wp2_with (gi_at_call 80; ((with_reducible refine (isIn_b _ _ _ true _ hmany).mono ?_); rintro e w' ⟨rfl, rfl⟩))
  gi_loopw [13] (fun i wr => ∃ k : Nat, k ≤ ds.length ∧ i = .int .i64 k ∧ Hid (∀ j, j < k → castGood (S.wide * S.high) ds j = true) ∧ Ext w wr) (fun i _ => ds.length - (intOf i).toNat)
  case atStart => exact ⟨0, Nat.zero_le _, rfl, fun _ h => absurd h (by omega), Ext.refl _⟩
  case round =>
    obtain ⟨k, hk, rfl, hgood, hx⟩ := hrel
    by_cases hlt : k < ds.length
    · obtain ⟨b', off, rfl, hb, hc0, hc1⟩ := hc k hlt
      rw [← hx.cell (p := ⟨b', _, none⟩) hb] at hc0 hc1
      clear hc
      have HS := hid (hs.mono (hx.alloc (.cells #[.int .i64 ds[k].cell, .int .i64 ds[k].far] 64)))
      clear hs
      by_cases h1 : inB ds[k].cell 0 (S.wide * S.high - 1) = true
      rotate_left
      · have h1' : inB ds[k].cell 0 (S.wide * S.high - 1) = false := by simpa using h1
        have HG : Hid (castsB (S.wide * S.high) ds = false) := by show castsB _ _ = false; unfold castsB; rw [allTo_no hlt (by rw [castGood_eq hlt, h1']; rfl), Bool.and_false]
        clear hgood h1
        gi_wp2_with (gi_at_call 78; ((with_reducible refine (isCell_b b S hS ds[k].cell false _ HS.out h1').mono ?_); rintro e w' ⟨rfl, hx1⟩))
        go_ret
        exact ⟨by rw [HG.out]; rfl, hx.trans (Ext.after hx1)⟩
      by_cases h2 : inB ds[k].far 0 9 = true
      rotate_left
      · have h2' : inB ds[k].far 0 9 = false := by simpa using h2
        have HG : Hid (castsB (S.wide * S.high) ds = false) := by show castsB _ _ = false; unfold castsB; rw [allTo_no hlt (by rw [castGood_eq hlt, h1, h2']; rfl), Bool.and_false]
        clear hgood h2
        gi_wp2_with (first | (gi_at_call 78; ((with_reducible refine (isCell_b b S hS ds[k].cell true _ HS.out h1).mono ?_); rintro e w' ⟨rfl, hx1⟩; have hc := cell_of (Ext.new hx1))) | (gi_at_call 80; ((with_reducible refine (isIn_b ds[k].far _ _ false _ h2').mono ?_); rintro e w' ⟨rfl, rfl⟩)))
        go_ret
        exact ⟨by rw [HG.out]; rfl, hx.trans (Ext.after hx1)⟩
      have HU := hid (upTo_succ hgood.out (by rw [castGood_eq hlt, h1, h2]; rfl))
      clear hgood
      gi_wp2_with (first | (gi_at_call 78; ((with_reducible refine (isCell_b b S hS ds[k].cell true _ HS.out h1).mono ?_); rintro e w' ⟨rfl, hx1⟩; have hc := cell_of (Ext.new hx1))) | (gi_at_call 80; ((with_reducible refine (isIn_b ds[k].far _ _ true _ h2).mono ?_); rintro e w' ⟨rfl, rfl⟩)))
      go_roundw
      case rel => exact ⟨k + 1, by omega, by go_num, HU, hx.trans (Ext.after hx1)⟩
      case measure => simp [intOf]; omega
    · obtain rfl : k = ds.length := by omega
      have HG : Hid (castsB (S.wide * S.high) ds = true) := by show castsB _ _ = true; unfold castsB; rw [allTo_yes hgood.out, hmany]; rfl
      clear hgood hc hs
      gi_wp2
      go_ret
      exact ⟨by rw [HG.out]; rfl, hx⟩

def dist (a b c d : Int) : Int := maxL (a - c) [c - a, b - d, d - b]
theorem dist_any (a b c d : Int) (w : World) (ha : -1000 ≤ a ∧ a ≤ 1000) (hb : -1000 ≤ b ∧ b ≤ 1000) (hc : -1000 ≤ c ∧ c ≤ 1000) (hd : -1000 ≤ d ∧ d ≤ 1000) :
    Cal 105 #[.agg #[.int .i64 a, .int .i64 b], .agg #[.int .i64 c, .int .i64 d]] w fun e w' => e = .returned (.int .i64 (dist a b c d)) ∧ Ext w w' := distance_any a b c d w ha hb hc hd

set_option maxHeartbeats 1000000 in
theorem covers_any (cell far a b c d : Int) (w : World) (ha : -1000 ≤ a ∧ a ≤ 1000) (hb : -1000 ≤ b ∧ b ≤ 1000) (hc : -1000 ≤ c ∧ c ≤ 1000) (hd : -1000 ≤ d ∧ d ≤ 1000) :
    Cal 94 #[.agg #[.int .i64 cell, .int .i64 far, .int .i64 a, .int .i64 b], .agg #[.int .i64 c, .int .i64 d]] w fun e w' => e = .returned (.bool (decide (dist a b c d ≤ far))) ∧ Ext w w' := by
  gi_enter Try.func94, Try.ntmps94
  gi_wp2_with fail
  have HC1 := hid fun e : Later ((w.alloc (.cells #[.int .i64 cell, .int .i64 far, .int .i64 a, .int .i64 b] 104)).alloc (.cells #[.int .i64 c, .int .i64 d] 81)) => cell_of (Ext.block e.grown ((Below.heap_alloc _ _ _ (by simp)).trans (Ext.new (Ext.refl _))))
  have HC2 := hid fun e : Later ((w.alloc (.cells #[.int .i64 cell, .int .i64 far, .int .i64 a, .int .i64 b] 104)).alloc (.cells #[.int .i64 c, .int .i64 d] 81)) => e.cells
  refine quiet_wide 8 (by kernel_rfl) (by kernel_rfl) ?_
  simp only [List.take_succ_cons, List.take_zero, List.drop_succ_cons, List.drop_zero]
  have h1 := HC1.out
  have h2 := HC2.out
  simp only [World.size_alloc] at h2
  repeat (any_goals (first | go_big_quiet_step ((go_at_call 105; with_reducible exact Cal.quiet (dist_any a b c d _ ha hb hc hd))) | quiet_step ((go_at_call 105; with_reducible exact Cal.quiet (dist_any a b c d _ ha hb hc hd)))))
  refine wpQuiet_nil ?_
  rintro _ ⟨⟨w1, hx1⟩, rfl⟩
  clear h1 h2 HC1 HC2
  gi_wp2
  go_ret
  exact ⟨rfl, Ext.after (Ext.after hx1)⟩
end Go.Proofs.Ytiklblbjnblkfaa

namespace Go.Proofs.Ytiklblbjnblkfaa
open Go Go.RowKit Go.Shelf

theorem two_new {w : World} {o1 o2 : Obj} : ((w.alloc o1).alloc o2).heap[w.heap.size]? = some o1 := (Below.heap_alloc _ _ _ (by simp)).trans (Ext.new (Ext.refl _))

/-- A report is true of a place. -/
def repTrue (r : Rep) (a b c d : Int) : Bool := r.there == decide (dist a b c d ≤ r.far)
def repVal (r : Rep) (a b : Int) : Value := .agg #[.int .i64 r.hour, .int .i64 r.cell, .int .i64 r.far, .bool r.there, .int .i64 a, .int .i64 b]

set_option maxHeartbeats 1000000 in
theorem isTrue_any (r : Rep) (a b c d : Int) (w : World) (ha : -1000 ≤ a ∧ a ≤ 1000) (hb : -1000 ≤ b ∧ b ≤ 1000) (hc : -1000 ≤ c ∧ c ≤ 1000) (hd : -1000 ≤ d ∧ d ≤ 1000) :
    Cal 97 #[repVal r a b, .agg #[.int .i64 c, .int .i64 d]] w fun e w' => e = .returned (.bool (repTrue r a b c d)) ∧ Ext w w' := by
  unfold repVal
  gi_enter Try.func97, Try.ntmps97
  gi_wp2_with fail
  have HC1 := hid fun e : Later ((w.alloc (.cells #[.int .i64 r.hour, .int .i64 r.cell, .int .i64 r.far, .bool r.there, .int .i64 a, .int .i64 b] 140)).alloc (.cells #[.int .i64 c, .int .i64 d] 81)) => cell_of (Ext.block e.grown two_new)
  have HC2 := hid fun e : Later ((w.alloc (.cells #[.int .i64 r.hour, .int .i64 r.cell, .int .i64 r.far, .bool r.there, .int .i64 a, .int .i64 b] 140)).alloc (.cells #[.int .i64 c, .int .i64 d] 81)) => e.cells
  refine quiet_wide 12 (by kernel_rfl) (by kernel_rfl) ?_
  simp only [List.take_succ_cons, List.take_zero, List.drop_succ_cons, List.drop_zero]
  have h1 := HC1.out
  have h2 := HC2.out
  simp only [World.size_alloc] at h2
  repeat (any_goals (first | go_big_quiet_step ((go_at_call 105; with_reducible exact Cal.quiet (dist_any a b c d _ ha hb hc hd))) | quiet_step ((go_at_call 105; with_reducible exact Cal.quiet (dist_any a b c d _ ha hb hc hd)))))
  refine wpQuiet_nil ?_
  rintro _ ⟨⟨w1, hx1⟩, rfl⟩
  clear h1 h2 HC1 HC2
  gi_wp2
  go_ret
  exact ⟨rfl, Ext.after (Ext.after hx1)⟩

/-- The place of a cell of a sea. -/
def col (S : SeaV) (c : Int) : Int := c % S.wide
def row (S : SeaV) (c : Int) : Int := c / S.wide
theorem place_b (b : Nat) (S : SeaV) (hS : S.Ok) (c : Int) (h0 : 0 ≤ c) (h1 : c ≤ 1000) (w : World) (hs : SeaAt w b S) :
    Cal 50 #[.pointer (some ⟨b, 0, none⟩), .int .i64 c] w fun e w' => e = .returned (.agg #[.int .i64 (col S c), .int .i64 (row S c)]) ∧ Ext w w' := place_any b S hS c h0 h1 w hs

/-- What asks of a report gives: a function value. -/
def askVal (S : SeaV) (r : Rep) : Value := .func (.func 97) #[repVal r (col S r.cell) (row S r.cell)] #[]

set_option maxHeartbeats 1000000 in
theorem asks_any (b : Nat) (S : SeaV) (hS : S.Ok) (r : Rep) (h0 : 0 ≤ r.cell) (h1 : r.cell ≤ 1000) (w : World) (hs : SeaAt w b S) :
    Cal 77 #[.pointer (some ⟨b, 0, none⟩), .agg #[.int .i64 r.hour, .int .i64 r.cell, .int .i64 r.far, .bool r.there]] w fun e w' => e = .returned (askVal S r) ∧ Ext w w' := by
  gi_enter Try.func77, Try.ntmps77
  gi_wp2_with fail
  have HS := hid fun e : Later (w.alloc (.cells #[.int .i64 r.hour, .int .i64 r.cell, .int .i64 r.far, .bool r.there] 52)) => (hs.mono ((Ext.refl w).alloc _)).mono e.grown
  have HC := hid fun e : Later (w.alloc (.cells #[.int .i64 r.hour, .int .i64 r.cell, .int .i64 r.far, .bool r.there] 52)) => e.cells
  refine quiet_wide 7 (by kernel_rfl) (by kernel_rfl) ?_
  simp only [List.take_succ_cons, List.take_zero, List.drop_succ_cons, List.drop_zero]
  have hc := HC.out
  repeat (any_goals (first | go_big_quiet_step ((go_at_call 50; with_reducible exact Cal.quiet (place_b b S hS r.cell h0 h1 _ (HS.out _)))) | quiet_step ((go_at_call 50; with_reducible exact Cal.quiet (place_b b S hS r.cell h0 h1 _ (HS.out _))))))
  refine wpQuiet_nil ?_
  rintro _ ⟨⟨w1, hx1⟩, rfl⟩
  clear hc HC HS
  gi_wp2
  go_ret
  exact ⟨rfl, Ext.after hx1⟩
end Go.Proofs.Ytiklblbjnblkfaa
