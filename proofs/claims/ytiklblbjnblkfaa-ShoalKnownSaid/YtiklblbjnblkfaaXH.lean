/- The chapter's examples, reckoned. -/
import Derived.Test.YtiklblbjnblkfaaXG
set_option linter.unusedSimpArgs false
set_option linter.unusedVariables false
namespace Go.Proofs.Ytiklblbjnblkfaa
open Go Go.RowKit Go.Shelf

def rowD : SeaD := ⟨4, 1, [], 3, [⟨1, 0⟩, ⟨0, 0⟩], 1⟩
def repsL : List Rep := [⟨0, 0, 0, true⟩, ⟨2, 3, 0, true⟩, ⟨1, 0, 1, true⟩, ⟨1, 0, 1, true⟩, ⟨1, 0, 1, true⟩]
theorem ex_track : isTrackRes rowD (repsL.take 2) [0, 2, 3] = .tuple #[.int .i64 0, .bool true, .int .i64 0] := by kernel_rfl
theorem ex_least : leastErr rowD (repsL.take 3) = 0 := by kernel_rfl
theorem ex_leastN : leastN rowD (repsL.take 3) = 1 := by kernel_rfl
theorem ex_leastT : leastTr rowD (repsL.take 3) = [0, 0, 0] := by kernel_rfl
theorem ex_canE : canErr rowD (repsL.take 3) 1 1 = 0 := by kernel_rfl
theorem ex_can : canList rowD (repsL.take 3) 1 1 = [0, 1, 2] := by kernel_rfl
theorem ex_liarsE : leastErr rowD (repsL.take 5) = 0 := by kernel_rfl
theorem ex_liars : liarsList rowD (repsL.take 5) = [1] := by kernel_rfl
def castsN : List Cst := [⟨1, 1⟩, ⟨0, 0⟩]
def castsS : List Cst := [⟨0, 0⟩, ⟨2, 0⟩, ⟨1, 0⟩]
theorem ex_nextE : searchErr rowD (repsL.take 3) 1 1 castsN = 0 := by kernel_rfl
theorem ex_next : nextRes rowD (repsL.take 3) 1 1 castsN = (1, 2) := by kernel_rfl
theorem ex_sureE : sureErr rowD (repsL.take 3) 1 1 castsS = 0 := by kernel_rfl
theorem ex_sure : sureList rowD (repsL.take 3) 1 1 castsS = [0, 1, 2] := by kernel_rfl
end Go.Proofs.Ytiklblbjnblkfaa

namespace Go.Proofs.Ytiklblbjnblkfaa
open Go Go.RowKit Go.Shelf

/-- Two lists of numbers are alike. -/
theorem same_any (a b : Value) (xs ys : List Int) (w : World) (ha : IntsAt w a xs) (hb : IntsAt w b ys) (hl : xs.length ≤ 1000000) :
    Cal 22 #[a, b] w fun e w' => e = .returned (.bool (decide (xs = ys))) ∧ Ext w w' := by
  obtain ⟨aa, ac, rfl, _, hac⟩ := ha
  obtain ⟨ba, bc, rfl, _, hbc⟩ := hb
  gi_enter Try.func22, Try.ntmps22
  by_cases hlen : xs.length = ys.length
  rotate_left
  · have hne : ((xs.length : Int) != (ys.length : Int)) = true := by simp; omega
    have HG : Hid (decide (xs = ys) = false) := by
      show decide (xs = ys) = false
      rw [decide_eq_false_iff_not]; rintro rfl; exact hlen rfl
    clear hac hbc hlen
    gi_wp2
    go_ret
    exact ⟨by rw [HG.out]; rfl, Ext.refl _⟩
  have HA := hid hac
  have HB := hid hbc
  have HL := hid hlen
  rw [← hlen]
  have hne : ((xs.length : Int) != (xs.length : Int)) = false := by simp
  clear hac hbc hlen
  gi_wp2_with fail
  gi_loopw [5] (fun i wr => ∃ k : Nat, k ≤ xs.length ∧ i = .int .i64 k ∧ Hid (∀ j (h : j < xs.length) (h' : j < ys.length), j < k → xs[j] = ys[j]) ∧ Ext w wr) (fun i _ => xs.length - (intOf i).toNat)
  case atStart => exact ⟨0, Nat.zero_le _, rfl, fun _ _ _ h => absurd h (by omega), Ext.refl _⟩
  case round =>
    obtain ⟨k, hk, rfl, hgood, hx⟩ := hrel
    by_cases hlt : k < xs.length
    · have hlt' : k < ys.length := by rw [← HL.out]; exact hlt
      obtain ⟨ab, aoff, rfl, hab, hca⟩ := HA.out k hlt
      obtain ⟨bb, boff, rfl, hbb, hcb⟩ := HB.out k hlt'
      have HC := hid fun e : Later wr => And.intro ((Ext.trans hx e.grown).cell (p := ⟨ab, _, none⟩) hab |>.trans hca) ((Ext.trans hx e.grown).cell (p := ⟨bb, _, none⟩) hbb |>.trans hcb)
      have HX := hid hx
      have HGD := hid hgood
      have hkw : IntKind.i64.wrap ((k : Int) + 1) = k + 1 := by rw [IntKind.wrap_i64]; omega
      clear hca hcb hab hbb hx hgood
      cases hd : (xs[k] != ys[k]) with
      | true =>
        have HG : Hid (decide (xs = ys) = false) := by
          show decide (xs = ys) = false
          rw [decide_eq_false_iff_not]; rintro rfl; simp at hd
        generalize xs[k] = x at *
        generalize ys[k] = y at *
        gi_wp2_with fail
        refine quiet_wide 9 (by kernel_rfl) (by kernel_rfl) ?_
        simp only [List.take_succ_cons, List.take_zero, List.drop_succ_cons, List.drop_zero]
        have q1 := HC.out
        repeat (any_goals (first | go_big_quiet_step (fail) | quiet_step (fail)))
        refine wpQuiet_nil ?_
        rintro w5 ⟨⟨_, hx5⟩, rfl⟩
        clear q1 HC
        gi_wp2
        go_ret
        exact ⟨by rw [HG.out]; rfl, HX.out.trans hx5⟩
      | false =>
        have HEQ : Hid (xs[k] = ys[k]) := by
          show xs[k] = ys[k]
          simpa using hd
        have HNX : Hid (∀ j (h : j < xs.length) (h' : j < ys.length), j < k + 1 → xs[j] = ys[j]) := fun j h h' hj => by
          by_cases e : j = k
          · subst e; exact HEQ.out
          · exact HGD.out j h h' (by omega)
        clear HEQ HGD
        generalize xs[k] = x at *
        generalize ys[k] = y at *
        gi_wp2_with fail
        refine quiet_wide 9 (by kernel_rfl) (by kernel_rfl) ?_
        simp only [List.take_succ_cons, List.take_zero, List.drop_succ_cons, List.drop_zero]
        have q1 := HC.out
        repeat (any_goals (first | go_big_quiet_step (fail) | quiet_step (fail)))
        refine wpQuiet_nil ?_
        rintro w5 ⟨⟨_, hx5⟩, rfl⟩
        clear q1 HC
        gi_wp2
        go_roundw
        case rel => exact ⟨k + 1, by omega, by go_num, HNX, HX.out.trans hx5⟩
        case measure => simp [intOf]; omega
    · obtain rfl : k = xs.length := by omega
      have HG : Hid (decide (xs = ys) = true) := by
        show decide (xs = ys) = true
        rw [decide_eq_true_eq]
        exact List.ext_getElem HL.out fun j h h' => hgood.out j h h' h
      clear hgood
      gi_wp2
      go_ret
      exact ⟨by rw [HG.out]; rfl, hx⟩

theorem Row.ints {w : World} {v : Value} {l : List Nat} (h : Row w 3 1 v l.length (natVals l)) (hl : l.length ≤ 1000000) : IntsAt w v (intsOf l) := by
  obtain ⟨a, cap, rfl, hc⟩ := h.shape
  refine ⟨a, cap, by unfold intsOf; rw [List.length_map], by unfold intsOf; rw [List.length_map]; omega, fun i hi => ?_⟩
  have hi' : i < l.length := by simpa [intsOf] using hi
  obtain ⟨g, hg, hlt, hcell⟩ := hc i (by unfold natVals; rw [List.length_map]; exact hi')
  refine ⟨g, 0, hg, hlt, ?_⟩
  rw [Nat.zero_add, hcell]
  simp [natVals, intsOf]

set_option maxHeartbeats 1000000 in
theorem row_any (w : World) : Cal 45 #[] w fun e w' => ∃ dv, e = .returned (seaVal rowD (.slice none 0 0) dv) ∧ Ext w w' ∧ StepsAt w' dv rowD.drift := by
  gi_enter Try.func45, Try.ntmps45
  gi_wp2_with fail
  have hx : Ext w ((w.alloc (.cells #[.int .i64 4, .int .i64 1, .slice none 0 0, .int .i64 3, .slice (some ⟨w.heap.size + 1, 0, none⟩) 2 2, .int .i64 1] 25)).alloc (.cells #[.int .i64 1, .int .i64 0, .int .i64 0, .int .i64 0] 70)) := ((Ext.refl w).alloc _).alloc _
  have h1 : ((w.alloc (.cells #[.int .i64 4, .int .i64 1, .slice none 0 0, .int .i64 3, .slice (some ⟨w.heap.size + 1, 0, none⟩) 2 2, .int .i64 1] 25)).alloc (.cells #[.int .i64 1, .int .i64 0, .int .i64 0, .int .i64 0] 70)).heap[w.heap.size]? = some (.cells #[.int .i64 4, .int .i64 1, .slice none 0 0, .int .i64 3, .slice (some ⟨w.heap.size + 1, 0, none⟩) 2 2, .int .i64 1] 25 (0, 0)) := two_new
  have h2 : ((w.alloc (.cells #[.int .i64 4, .int .i64 1, .slice none 0 0, .int .i64 3, .slice (some ⟨w.heap.size + 1, 0, none⟩) 2 2, .int .i64 1] 25)).alloc (.cells #[.int .i64 1, .int .i64 0, .int .i64 0, .int .i64 0] 70)).heap[w.heap.size + 1]? = some (.cells #[.int .i64 1, .int .i64 0, .int .i64 0, .int .i64 0] 70 (0, 0)) := by
    have := Ext.new (w := w.alloc (.cells #[.int .i64 4, .int .i64 1, .slice none 0 0, .int .i64 3, .slice (some ⟨w.heap.size + 1, 0, none⟩) 2 2, .int .i64 1] 25)) (o := .cells #[.int .i64 1, .int .i64 0, .int .i64 0, .int .i64 0] 70) (Ext.refl _)
    simpa using this
  generalize (w.alloc (.cells #[.int .i64 4, .int .i64 1, .slice none 0 0, .int .i64 3, .slice (some ⟨w.heap.size + 1, 0, none⟩) 2 2, .int .i64 1] 25)).alloc (.cells #[.int .i64 1, .int .i64 0, .int .i64 0, .int .i64 0] 70) = w1 at *
  have hc := cell_of h1
  have hc2 := cell_of h2
  refine bodyPost_ret (v := seaVal rowD (.slice none 0 0) (.slice (some ⟨w.heap.size + 1, 0, none⟩) 2 2)) (by simp [results, Try.results58, go_sem, seaVal, rowD, hc]) rfl ⟨_, rfl, hx, some ⟨w.heap.size + 1, 0, none⟩, 2, rfl, by simp [rowD], fun i hi => ⟨w.heap.size + 1, 0, rfl, lt_of_block h2, ?_⟩⟩
  have hi2 : i < 2 := hi
  rcases (by omega : i = 0 ∨ i = 1) with rfl | rfl
  · exact ⟨by rw [hc2]; rfl, by rw [hc2]; rfl⟩
  · exact ⟨by rw [hc2]; rfl, by rw [hc2]; rfl⟩
set_option maxHeartbeats 1000000 in
theorem reports_any (n : Nat) (hn : n ≤ 5) (w : World) : Cal 46 #[.int .i64 n] w fun e w' => ∃ v, e = .returned v ∧ Ext w w' ∧ RepsAt w' v (repsL.take n) := by
  gi_enter Try.func46, Try.ntmps46
  gi_wp2_with fail
  have hl : (repsL.take n).length = n := by simp [repsL]; omega
  have h2 : (w.alloc (.cells #[.int .i64 0, .int .i64 0, .int .i64 0, .bool true, .int .i64 2, .int .i64 3, .int .i64 0, .bool true, .int .i64 1, .int .i64 0, .int .i64 1, .bool true, .int .i64 1, .int .i64 0, .int .i64 1, .bool true, .int .i64 1, .int .i64 0, .int .i64 1, .bool true] 52)).heap[w.heap.size]? = some (.cells #[.int .i64 0, .int .i64 0, .int .i64 0, .bool true, .int .i64 2, .int .i64 3, .int .i64 0, .bool true, .int .i64 1, .int .i64 0, .int .i64 1, .bool true, .int .i64 1, .int .i64 0, .int .i64 1, .bool true, .int .i64 1, .int .i64 0, .int .i64 1, .bool true] 52 (0, 0)) := Ext.new (Ext.refl _)
  have hx : Ext w (w.alloc (.cells #[.int .i64 0, .int .i64 0, .int .i64 0, .bool true, .int .i64 2, .int .i64 3, .int .i64 0, .bool true, .int .i64 1, .int .i64 0, .int .i64 1, .bool true, .int .i64 1, .int .i64 0, .int .i64 1, .bool true, .int .i64 1, .int .i64 0, .int .i64 1, .bool true] 52)) := (Ext.refl w).alloc _
  generalize w.alloc (.cells #[.int .i64 0, .int .i64 0, .int .i64 0, .bool true, .int .i64 2, .int .i64 3, .int .i64 0, .bool true, .int .i64 1, .int .i64 0, .int .i64 1, .bool true, .int .i64 1, .int .i64 0, .int .i64 1, .bool true, .int .i64 1, .int .i64 0, .int .i64 1, .bool true] 52) = w1 at *
  have hc2 := cell_of h2
  go_ret
  refine ⟨_, rfl, hx, some ⟨w.heap.size, 0, none⟩, 5, by rw [hl]; rfl, by omega, fun i hi => ⟨w.heap.size, 0, rfl, lt_of_block h2, ?_⟩⟩
  rw [List.getElem_take]
  rw [hl] at hi
  rcases (by omega : i = 0 ∨ i = 1 ∨ i = 2 ∨ i = 3 ∨ i = 4) with rfl | rfl | rfl | rfl | rfl
  all_goals exact ⟨by rw [hc2]; rfl, by rw [hc2]; rfl, by rw [hc2]; rfl, by rw [hc2]; rfl⟩
end Go.Proofs.Ytiklblbjnblkfaa
