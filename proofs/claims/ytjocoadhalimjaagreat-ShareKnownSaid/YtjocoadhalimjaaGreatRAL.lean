/- A voyage is valid. -/
import Derived.Test.YtjocoadhalimjaaGreatRAJ
import Derived.Test.YtjocoadhalimjaaGreatRAK
set_option linter.unusedSimpArgs false
set_option linter.unusedVariables false
namespace Go.Proofs.YtjocoadhalimjaaGreat
section
open Go Go.RowKit Go.Shelf

theorem info3b : (Tryz.prog.info? 3).map (fun i => (i.zero, i.size, i.bytes)) = some (some (.int .i64 0), 1, 8) := info3
theorem cells3 : Tryz.prog.cellsOf 3 = 1 := by kernel_rfl
theorem eql90 (a b c x y z : Int) (w : World) : (Op.equalIn 10000 90 (.agg #[.int .i64 a, .int .i64 b, .int .i64 c]) (.agg #[.int .i64 x, .int .i64 y, .int .i64 z])).run Tryz.prog w = .ok (a == x && (b == y && c == z)) w := by
  obtain ⟨inf, hinf, hz0, hz1, hz2⟩ := info_parts info3
  rw [run_equalIn_array w 9999 _ _ Tryz.underlying90 hinf, cells3]
  rw [eqItems_all (fun i => match i with | 0 => a == x | 1 => b == y | _ => c == z) (List.range 3) fun i hi => ?_]
  · simp [List.range_succ, Bool.and_assoc]
  · have hi := List.mem_range.1 hi
    rcases (by omega : i = 0 ∨ i = 1 ∨ i = 2) with rfl | rfl | rfl
    · exact ⟨.int .i64 a, .int .i64 x, by simp [part, isAgg, run_underlying Tryz.underlying3], by simp [part, isAgg, run_underlying Tryz.underlying3], by simp [go_sem]⟩
    · exact ⟨.int .i64 b, .int .i64 y, by simp [part, isAgg, run_underlying Tryz.underlying3], by simp [part, isAgg, run_underlying Tryz.underlying3], by simp [go_sem]⟩
    · exact ⟨.int .i64 c, .int .i64 z, by simp [part, isAgg, run_underlying Tryz.underlying3], by simp [part, isAgg, run_underlying Tryz.underlying3], by simp [go_sem]⟩
/-- A voyage is valid. -/
def validB (gr bo ne cr : Int) (cs : List Int) (ol ll hl : List Stk) : Bool :=
  inB gr 0 10000000 && (decide (cs.length ≤ 10) && (areB 0 gr cs && (decide (0 ≤ gr - cs.sum) && (areB 0 8 [bo, ne, cr] && ((bo + ne + cr == 8) && (stakesB ol && (stakesB ll && (stakesB hl && (bo == back bo ol && (ne == back ne ll && cr == back cr hl))))))))))
def nmOk (l : List Stk) : Prop := ∀ s ∈ l, s.name.size ≤ maxLen
theorem stakes_small {l : List Stk} (h : stakesB l = true) : smallW l := by
  have := stakes_ok h
  exact ⟨fun s hs => by have := (this.2.1 s hs).2; omega, by omega⟩
theorem sumI_b (v : Value) (xs : List Int) (s : Int) (w : World) (hv : IntsAt w v xs) (hb : ∀ x ∈ xs, -1000000000 ≤ x ∧ x ≤ 1000000000) (hl : xs.length ≤ 1000) (h : xs.sum = s) : Cal 83 #[fnV 84, v] w fun e w' => e = .returned (.int .i64 s) ∧ w = w' := by
  subst h; exact sumI_any v xs w hv hb hl
theorem areIn_b (lo hi : Int) (v : Value) (xs : List Int) (b : Bool) (w : World) (hv : IntsAt w v xs) (h : areB lo hi xs = b) : Cal 82 #[.int .i64 lo, .int .i64 hi, v] w fun e w' => e = .returned (.bool b) ∧ w = w' := by
  subst h; exact areIn_any lo hi v xs w hv
theorem areStakes_b (v : Value) (l : List Stk) (b : Bool) (w : World) (hv : StakesAt w v l) (hn : nmOk l) (h : stakesB l = b) : Cal 47 #[v] w fun e w' => e = .returned (.bool b) ∧ Ext w w' := by
  subst h; exact areStakes_any v l w hv hn
theorem ints3 {w : World} {g : Nat} {a b c : Int} {t : TypeId} (h : w.heap[g]? = some (.cells #[.int .i64 a, .int .i64 b, .int .i64 c] t (0, 0))) : IntsAt w (.slice (some ⟨g, 0, none⟩) 3 3) [a, b, c] := by
  refine ⟨_, 3, rfl, by simp, fun i hi => ⟨g, 0, rfl, lt_of_block h, ?_⟩⟩
  rw [cell_of h]
  match i, hi with
  | 0, _ => rfl
  | 1, _ => rfl
  | 2, _ => rfl
set_option maxRecDepth 100000 in
set_option maxHeartbeats 16000000 in
theorem isValid_any (gr bo ne cr : Int) (cv lv mv : Value) (oa la ha : Option Addr) (on oc ln lc hn hc : Nat) (cs : List Int) (ol ll hl : List Stk) (w : World)
    (hcs : IntsAt w cv cs) (ho : StakesAt w (.slice oa on oc) ol) (hl' : StakesAt w (.slice la ln lc) ll) (hh : StakesAt w (.slice ha hn hc) hl) (no : nmOk ol) (nl : nmOk ll) (nh : nmOk hl) :
    Cal 74 #[.agg #[.int .i64 gr, cv, .int .i64 bo, .int .i64 ne, .int .i64 cr, .slice oa on oc, .slice la ln lc, .slice ha hn hc, lv, mv]] w fun e w' => e = .returned (.bool (validB gr bo ne cr cs ol ll hl)) ∧ Ext w w' := by
  have HE7 := hid (fun (u : World) => eighths_any gr bo ne cr cv lv mv oa la ha on oc ln lc hn hc u)
  obtain ⟨ca, cc, rfl, hcl⟩ := id hcs
  have HCS := hid hcs
  have HO := hid ho
  have HL := hid hl'
  have HH := hid hh
  have HNO := hid no
  have HNL := hid nl
  have HNH := hid nh
  clear hcs ho hl' hh no nl nh hcl
  have hX0 : Ext w (w.alloc (.cells #[.int .i64 gr, (.slice ca cs.length cc), .int .i64 bo, .int .i64 ne, .int .i64 cr, .slice oa on oc, .slice la ln lc, .slice ha hn hc, lv, mv] 83)) := (Ext.refl _).alloc _
  have hB0 := Ext.new (w := w) (o := .cells #[.int .i64 gr, (.slice ca cs.length cc), .int .i64 bo, .int .i64 ne, .int .i64 cr, .slice oa on oc, .slice la ln lc, .slice ha hn hc, lv, mv] 83) (Ext.refl _)
  gi_enter Tryz.func74, Tryz.ntmps74
  gi_upto_region 1 with fail
  have HX := hid hX0
  have HB := hid hB0
  generalize w.alloc (.cells #[.int .i64 gr, .slice ca cs.length cc, .int .i64 bo, .int .i64 ne, .int .i64 cr, .slice oa on oc, .slice la ln lc, .slice ha hn hc, lv, mv] 83) = W0 at *
  have cB := cell_of hB0
  clear hX0 hB0
  gi_upto_region 2 with (gi_at_call 77; ((with_reducible refine (HE7.out _).mono ?_); rintro e w1 ⟨rfl, hx1⟩))
  have hxa : Ext W0 (w1.alloc (.cells #[.int .i64 bo, .int .i64 ne, .int .i64 cr] 90)) := hx1.alloc _
  have hg : (w1.alloc (.cells #[.int .i64 bo, .int .i64 ne, .int .i64 cr] 90)).heap[w1.heap.size]? = some (.cells #[.int .i64 bo, .int .i64 ne, .int .i64 cr] 90 (0, 0)) := Ext.new (Ext.refl _)
  have HXn := hid (HX.out.trans hxa)
  have HBn := hid (hxa.block HB.out)
  have HG := hid hg
  clear hxa hg cB HX HB hx1
  generalize w1.alloc (.cells #[.int .i64 bo, .int .i64 ne, .int .i64 cr] 90) = W at *
  generalize w1.heap.size = g at *
  clear w1 W0
  have q0 := fun e : Later W => cell_of (Ext.block e.grown HBn.out)
  have q1 := fun e : Later W => cell_of (Ext.block e.grown HG.out)
  have hq90 := fun (u : World) => eql90 bo ne cr (back bo ol) (back ne ll) (back cr hl) u
  obtain ⟨d, hd⟩ : ∃ d, gr - cs.sum = d := ⟨_, rfl⟩
  obtain ⟨sm, hsm⟩ : ∃ sm, bo + ne + cr = sm := ⟨_, rfl⟩
  have HVB : Hid (validB gr bo ne cr cs ol ll hl = (inB gr 0 10000000 && (decide (cs.length ≤ 10) && (areB 0 gr cs && (decide (0 ≤ d) && (areB 0 8 [bo, ne, cr] && ((sm == 8) && (stakesB ol && (stakesB ll && (stakesB hl && (bo == back bo ol && (ne == back ne ll && cr == back cr hl)))))))))))) := hid (by unfold validB; rw [hd, hsm])
  have HD := hid hd
  have HSM := hid hsm
  clear hd hsm
  cases h1 : inB gr 0 10000000 with
  | false =>
    have H1 := hid h1
    have C1 := hid (fun e : Later W => isIn_b gr 0 10000000 false e.1 H1.out)
    clear h1
    have HR : Hid (validB gr bo ne cr cs ol ll hl = false) := hid (by rw [HVB.out]; simp only [H1.out, Bool.and_true, Bool.and_false, Bool.true_and, Bool.false_and])
    clear H1 HVB HCS HO HL HH HNO HNL HNH HD HSM
    refine quiet_wide 58 (by kernel_rfl) (by kernel_rfl) ?_
    simp only [List.take_succ_cons, List.take_zero, List.drop_succ_cons, List.drop_zero]
    repeat (any_goals (first | go_big_quiet_step ((go_at_call 46; with_reducible exact Cal.quiet_same (C1.out _))) | quiet_step ((go_at_call 46; with_reducible exact Cal.quiet_same (C1.out _)))))
    refine wpQuiet_nil ?_
    rintro w5 ⟨⟨w5q, hx5⟩, hew5⟩
    obtain rfl : w5 = w5q := hew5
    have hx5 : Ext W w5 := hx5
    clear q0 q1 hq90
    gi_wp2_with fail
    go_ret
    exact ⟨by rw [HR.out]; rfl, HXn.out.trans hx5⟩
  | true =>
  have H1 := hid h1
  have C1 := hid (fun e : Later W => isIn_b gr 0 10000000 true e.1 H1.out)
  clear h1
  cases h2 : decide (cs.length ≤ 10) with
  | false =>
    have H2 := hid h2
    have f2 : ¬ (cs.length : Int) ≤ 10 := by have := H2.out; simp at this; omega
    clear h2
    have HR : Hid (validB gr bo ne cr cs ol ll hl = false) := hid (by rw [HVB.out]; simp only [H1.out, H2.out, Bool.and_true, Bool.and_false, Bool.true_and, Bool.false_and])
    clear H1 H2 HVB HCS HO HL HH HNO HNL HNH HD HSM
    refine quiet_wide 58 (by kernel_rfl) (by kernel_rfl) ?_
    simp only [List.take_succ_cons, List.take_zero, List.drop_succ_cons, List.drop_zero]
    repeat (any_goals (first | go_big_quiet_step ((go_at_call 46; with_reducible exact Cal.quiet_same (C1.out _))) | quiet_step ((go_at_call 46; with_reducible exact Cal.quiet_same (C1.out _)))))
    refine wpQuiet_nil ?_
    rintro w5 ⟨⟨w5q, hx5⟩, hew5⟩
    obtain rfl : w5 = w5q := hew5
    have hx5 : Ext W w5 := hx5
    clear q0 q1 hq90
    gi_wp2_with fail
    go_ret
    exact ⟨by rw [HR.out]; rfl, HXn.out.trans hx5⟩
  | true =>
  have H2 := hid h2
  have f2 : (cs.length : Int) ≤ 10 := by have := H2.out; simp at this; omega
  clear h2
  cases h3 : areB 0 gr cs with
  | false =>
    have H3 := hid h3
    have C3 := hid (fun e : Later W => areIn_b 0 gr _ cs false e.1 (HCS.out.mono (HXn.out.trans e.grown)) H3.out)
    clear h3
    have HR : Hid (validB gr bo ne cr cs ol ll hl = false) := hid (by rw [HVB.out]; simp only [H1.out, H2.out, H3.out, Bool.and_true, Bool.and_false, Bool.true_and, Bool.false_and])
    clear H1 H2 H3 HVB HCS HO HL HH HNO HNL HNH HD HSM
    refine quiet_wide 58 (by kernel_rfl) (by kernel_rfl) ?_
    simp only [List.take_succ_cons, List.take_zero, List.drop_succ_cons, List.drop_zero]
    repeat (any_goals (first | go_big_quiet_step ((first | (go_at_call 46; with_reducible exact Cal.quiet_same (C1.out _)) | (go_at_call 82; with_reducible exact Cal.quiet_same (C3.out _)))) | quiet_step ((first | (go_at_call 46; with_reducible exact Cal.quiet_same (C1.out _)) | (go_at_call 82; with_reducible exact Cal.quiet_same (C3.out _))))))
    refine wpQuiet_nil ?_
    rintro w5 ⟨⟨w5q, hx5⟩, hew5⟩
    obtain rfl : w5 = w5q := hew5
    have hx5 : Ext W w5 := hx5
    clear q0 q1 hq90
    gi_wp2_with fail
    go_ret
    exact ⟨by rw [HR.out]; rfl, HXn.out.trans hx5⟩
  | true =>
  have H3 := hid h3
  have C3 := hid (fun e : Later W => areIn_b 0 gr _ cs true e.1 (HCS.out.mono (HXn.out.trans e.grown)) H3.out)
  clear h3
  cases h4 : decide (0 ≤ d) with
  | false =>
    have H4 := hid h4
    have f4 : ¬ 0 ≤ d := by have := H4.out; simp at this; omega
    have i1 := inB_spec H1.out
    have i3 := areB_iff.1 H3.out
    have C4 := hid (fun e : Later W => divided_any gr bo ne cr _ (.slice oa on oc) (.slice ha hn hc) lv mv la ln lc cs e.1 (HCS.out.mono (HXn.out.trans e.grown)) (fun x hx => by have := i3 x hx; omega) (by omega) (by omega))
    rw [HD.out] at C4
    clear i1 i3
    clear h4
    have HR : Hid (validB gr bo ne cr cs ol ll hl = false) := hid (by rw [HVB.out]; simp only [H1.out, H2.out, H3.out, H4.out, Bool.and_true, Bool.and_false, Bool.true_and, Bool.false_and])
    clear H1 H2 H3 H4 HVB HCS HO HL HH HNO HNL HNH HD HSM
    refine quiet_wide 58 (by kernel_rfl) (by kernel_rfl) ?_
    simp only [List.take_succ_cons, List.take_zero, List.drop_succ_cons, List.drop_zero]
    repeat (any_goals (first | go_big_quiet_step ((first | (go_at_call 46; with_reducible exact Cal.quiet_same (C1.out _)) | (go_at_call 82; with_reducible exact Cal.quiet_same (C3.out _)) | (go_at_call 79; with_reducible exact Cal.quiet (C4.out _)))) | quiet_step ((first | (go_at_call 46; with_reducible exact Cal.quiet_same (C1.out _)) | (go_at_call 82; with_reducible exact Cal.quiet_same (C3.out _)) | (go_at_call 79; with_reducible exact Cal.quiet (C4.out _))))))
    refine wpQuiet_nil ?_
    rintro w5 ⟨⟨w5q, hx5⟩, hew5⟩
    obtain rfl : w5 = w5q := hew5
    have hx5 : Ext W w5 := hx5
    clear q0 q1 hq90
    gi_wp2_with fail
    go_ret
    exact ⟨by rw [HR.out]; rfl, HXn.out.trans hx5⟩
  | true =>
  have H4 := hid h4
  have f4 : 0 ≤ d := by have := H4.out; simpa using this
  have i1 := inB_spec H1.out
  have i3 := areB_iff.1 H3.out
  have C4 := hid (fun e : Later W => divided_any gr bo ne cr _ (.slice oa on oc) (.slice ha hn hc) lv mv la ln lc cs e.1 (HCS.out.mono (HXn.out.trans e.grown)) (fun x hx => by have := i3 x hx; omega) (by omega) (by omega))
  rw [HD.out] at C4
  clear i1 i3
  clear h4
  cases h5 : areB 0 8 [bo, ne, cr] with
  | false =>
    have H5 := hid h5
    have C5 := hid (fun e : Later W => areIn_b 0 8 _ [bo, ne, cr] false e.1 (ints3 (Ext.block e.grown HG.out)) H5.out)
    clear h5
    have HR : Hid (validB gr bo ne cr cs ol ll hl = false) := hid (by rw [HVB.out]; simp only [H1.out, H2.out, H3.out, H4.out, H5.out, Bool.and_true, Bool.and_false, Bool.true_and, Bool.false_and])
    clear H1 H2 H3 H4 H5 HVB HCS HO HL HH HNO HNL HNH HD HSM
    refine quiet_wide 58 (by kernel_rfl) (by kernel_rfl) ?_
    simp only [List.take_succ_cons, List.take_zero, List.drop_succ_cons, List.drop_zero]
    repeat (any_goals (first | go_big_quiet_step ((first | (go_at_call 46; with_reducible exact Cal.quiet_same (C1.out _)) | (go_at_call 82; with_reducible exact Cal.quiet_same (C3.out _)) | (go_at_call 79; with_reducible exact Cal.quiet (C4.out _)) | (go_at_call 82; with_reducible exact Cal.quiet_same (C5.out _)))) | quiet_step ((first | (go_at_call 46; with_reducible exact Cal.quiet_same (C1.out _)) | (go_at_call 82; with_reducible exact Cal.quiet_same (C3.out _)) | (go_at_call 79; with_reducible exact Cal.quiet (C4.out _)) | (go_at_call 82; with_reducible exact Cal.quiet_same (C5.out _))))))
    refine wpQuiet_nil ?_
    rintro w5 ⟨⟨w5q, hx5⟩, hew5⟩
    obtain rfl : w5 = w5q := hew5
    have hx5 : Ext W w5 := hx5
    clear q0 q1 hq90
    gi_wp2_with fail
    go_ret
    exact ⟨by rw [HR.out]; rfl, HXn.out.trans hx5⟩
  | true =>
  have H5 := hid h5
  have C5 := hid (fun e : Later W => areIn_b 0 8 _ [bo, ne, cr] true e.1 (ints3 (Ext.block e.grown HG.out)) H5.out)
  clear h5
  cases h6 : (sm == 8) with
  | false =>
    have H6 := hid h6
    have i5 := areB_iff.1 H5.out
    have C6 := hid (fun e : Later W => sumI_b _ [bo, ne, cr] sm e.1 (ints3 (Ext.block e.grown HG.out)) (fun x hx => by have := i5 x hx; omega) (by simp) (by rw [← HSM.out]; simp; omega))
    clear i5
    have f6 : (sm == 8) = false := H6.out
    clear h6
    have HR : Hid (validB gr bo ne cr cs ol ll hl = false) := hid (by rw [HVB.out]; simp only [H1.out, H2.out, H3.out, H4.out, H5.out, H6.out, Bool.and_true, Bool.and_false, Bool.true_and, Bool.false_and])
    clear H1 H2 H3 H4 H5 H6 HVB HCS HO HL HH HNO HNL HNH HD HSM
    refine quiet_wide 58 (by kernel_rfl) (by kernel_rfl) ?_
    simp only [List.take_succ_cons, List.take_zero, List.drop_succ_cons, List.drop_zero]
    repeat (any_goals (first | go_big_quiet_step ((first | (go_at_call 46; with_reducible exact Cal.quiet_same (C1.out _)) | (go_at_call 82; with_reducible exact Cal.quiet_same (C3.out _)) | (go_at_call 79; with_reducible exact Cal.quiet (C4.out _)) | (go_at_call 82; with_reducible exact Cal.quiet_same (C5.out _)) | (go_at_call 83; with_reducible exact Cal.quiet_same (C6.out _)))) | quiet_step ((first | (go_at_call 46; with_reducible exact Cal.quiet_same (C1.out _)) | (go_at_call 82; with_reducible exact Cal.quiet_same (C3.out _)) | (go_at_call 79; with_reducible exact Cal.quiet (C4.out _)) | (go_at_call 82; with_reducible exact Cal.quiet_same (C5.out _)) | (go_at_call 83; with_reducible exact Cal.quiet_same (C6.out _))))))
    refine wpQuiet_nil ?_
    rintro w5 ⟨⟨w5q, hx5⟩, hew5⟩
    obtain rfl : w5 = w5q := hew5
    have hx5 : Ext W w5 := hx5
    clear q0 q1 hq90
    gi_wp2_with fail
    go_ret
    exact ⟨by rw [HR.out]; rfl, HXn.out.trans hx5⟩
  | true =>
  have H6 := hid h6
  have i5 := areB_iff.1 H5.out
  have C6 := hid (fun e : Later W => sumI_b _ [bo, ne, cr] sm e.1 (ints3 (Ext.block e.grown HG.out)) (fun x hx => by have := i5 x hx; omega) (by simp) (by rw [← HSM.out]; simp; omega))
  clear i5
  have f6 : (sm == 8) = true := H6.out
  clear h6
  cases h7 : stakesB ol with
  | false =>
    have H7 := hid h7
    have C7 := hid (fun e : Later W => areStakes_b _ ol false e.1 (HO.out.mono (HXn.out.trans e.grown)) HNO.out H7.out)
    clear h7
    have HR : Hid (validB gr bo ne cr cs ol ll hl = false) := hid (by rw [HVB.out]; simp only [H1.out, H2.out, H3.out, H4.out, H5.out, H6.out, H7.out, Bool.and_true, Bool.and_false, Bool.true_and, Bool.false_and])
    clear H1 H2 H3 H4 H5 H6 H7 HVB HCS HO HL HH HNO HNL HNH HD HSM
    refine quiet_wide 58 (by kernel_rfl) (by kernel_rfl) ?_
    simp only [List.take_succ_cons, List.take_zero, List.drop_succ_cons, List.drop_zero]
    repeat (any_goals (first | go_big_quiet_step ((first | (go_at_call 46; with_reducible exact Cal.quiet_same (C1.out _)) | (go_at_call 82; with_reducible exact Cal.quiet_same (C3.out _)) | (go_at_call 79; with_reducible exact Cal.quiet (C4.out _)) | (go_at_call 82; with_reducible exact Cal.quiet_same (C5.out _)) | (go_at_call 83; with_reducible exact Cal.quiet_same (C6.out _)) | (go_at_call 47; with_reducible exact Cal.quiet (C7.out _)))) | quiet_step ((first | (go_at_call 46; with_reducible exact Cal.quiet_same (C1.out _)) | (go_at_call 82; with_reducible exact Cal.quiet_same (C3.out _)) | (go_at_call 79; with_reducible exact Cal.quiet (C4.out _)) | (go_at_call 82; with_reducible exact Cal.quiet_same (C5.out _)) | (go_at_call 83; with_reducible exact Cal.quiet_same (C6.out _)) | (go_at_call 47; with_reducible exact Cal.quiet (C7.out _))))))
    refine wpQuiet_nil ?_
    rintro w5 ⟨⟨w5q, hx5⟩, hew5⟩
    obtain rfl : w5 = w5q := hew5
    have hx5 : Ext W w5 := hx5
    clear q0 q1 hq90
    gi_wp2_with fail
    go_ret
    exact ⟨by rw [HR.out]; rfl, HXn.out.trans hx5⟩
  | true =>
  have H7 := hid h7
  have C7 := hid (fun e : Later W => areStakes_b _ ol true e.1 (HO.out.mono (HXn.out.trans e.grown)) HNO.out H7.out)
  clear h7
  cases h8 : stakesB ll with
  | false =>
    have H8 := hid h8
    have C8 := hid (fun e : Later W => areStakes_b _ ll false e.1 (HL.out.mono (HXn.out.trans e.grown)) HNL.out H8.out)
    clear h8
    have HR : Hid (validB gr bo ne cr cs ol ll hl = false) := hid (by rw [HVB.out]; simp only [H1.out, H2.out, H3.out, H4.out, H5.out, H6.out, H7.out, H8.out, Bool.and_true, Bool.and_false, Bool.true_and, Bool.false_and])
    clear H1 H2 H3 H4 H5 H6 H7 H8 HVB HCS HO HL HH HNO HNL HNH HD HSM
    refine quiet_wide 58 (by kernel_rfl) (by kernel_rfl) ?_
    simp only [List.take_succ_cons, List.take_zero, List.drop_succ_cons, List.drop_zero]
    repeat (any_goals (first | go_big_quiet_step ((first | (go_at_call 46; with_reducible exact Cal.quiet_same (C1.out _)) | (go_at_call 82; with_reducible exact Cal.quiet_same (C3.out _)) | (go_at_call 79; with_reducible exact Cal.quiet (C4.out _)) | (go_at_call 82; with_reducible exact Cal.quiet_same (C5.out _)) | (go_at_call 83; with_reducible exact Cal.quiet_same (C6.out _)) | (go_at_call 47; with_reducible exact Cal.quiet (C7.out _)) | (go_at_call 47; with_reducible exact Cal.quiet (C8.out _)))) | quiet_step ((first | (go_at_call 46; with_reducible exact Cal.quiet_same (C1.out _)) | (go_at_call 82; with_reducible exact Cal.quiet_same (C3.out _)) | (go_at_call 79; with_reducible exact Cal.quiet (C4.out _)) | (go_at_call 82; with_reducible exact Cal.quiet_same (C5.out _)) | (go_at_call 83; with_reducible exact Cal.quiet_same (C6.out _)) | (go_at_call 47; with_reducible exact Cal.quiet (C7.out _)) | (go_at_call 47; with_reducible exact Cal.quiet (C8.out _))))))
    refine wpQuiet_nil ?_
    rintro w5 ⟨⟨w5q, hx5⟩, hew5⟩
    obtain rfl : w5 = w5q := hew5
    have hx5 : Ext W w5 := hx5
    clear q0 q1 hq90
    gi_wp2_with fail
    go_ret
    exact ⟨by rw [HR.out]; rfl, HXn.out.trans hx5⟩
  | true =>
  have H8 := hid h8
  have C8 := hid (fun e : Later W => areStakes_b _ ll true e.1 (HL.out.mono (HXn.out.trans e.grown)) HNL.out H8.out)
  clear h8
  cases h9 : stakesB hl with
  | false =>
    have H9 := hid h9
    have C9 := hid (fun e : Later W => areStakes_b _ hl false e.1 (HH.out.mono (HXn.out.trans e.grown)) HNH.out H9.out)
    clear h9
    have HR : Hid (validB gr bo ne cr cs ol ll hl = false) := hid (by rw [HVB.out]; simp only [H1.out, H2.out, H3.out, H4.out, H5.out, H6.out, H7.out, H8.out, H9.out, Bool.and_true, Bool.and_false, Bool.true_and, Bool.false_and])
    clear H1 H2 H3 H4 H5 H6 H7 H8 H9 HVB HCS HO HL HH HNO HNL HNH HD HSM
    refine quiet_wide 58 (by kernel_rfl) (by kernel_rfl) ?_
    simp only [List.take_succ_cons, List.take_zero, List.drop_succ_cons, List.drop_zero]
    repeat (any_goals (first | go_big_quiet_step ((first | (go_at_call 46; with_reducible exact Cal.quiet_same (C1.out _)) | (go_at_call 82; with_reducible exact Cal.quiet_same (C3.out _)) | (go_at_call 79; with_reducible exact Cal.quiet (C4.out _)) | (go_at_call 82; with_reducible exact Cal.quiet_same (C5.out _)) | (go_at_call 83; with_reducible exact Cal.quiet_same (C6.out _)) | (go_at_call 47; with_reducible exact Cal.quiet (C7.out _)) | (go_at_call 47; with_reducible exact Cal.quiet (C8.out _)) | (go_at_call 47; with_reducible exact Cal.quiet (C9.out _)))) | quiet_step ((first | (go_at_call 46; with_reducible exact Cal.quiet_same (C1.out _)) | (go_at_call 82; with_reducible exact Cal.quiet_same (C3.out _)) | (go_at_call 79; with_reducible exact Cal.quiet (C4.out _)) | (go_at_call 82; with_reducible exact Cal.quiet_same (C5.out _)) | (go_at_call 83; with_reducible exact Cal.quiet_same (C6.out _)) | (go_at_call 47; with_reducible exact Cal.quiet (C7.out _)) | (go_at_call 47; with_reducible exact Cal.quiet (C8.out _)) | (go_at_call 47; with_reducible exact Cal.quiet (C9.out _))))))
    refine wpQuiet_nil ?_
    rintro w5 ⟨⟨w5q, hx5⟩, hew5⟩
    obtain rfl : w5 = w5q := hew5
    have hx5 : Ext W w5 := hx5
    clear q0 q1 hq90
    gi_wp2_with fail
    go_ret
    exact ⟨by rw [HR.out]; rfl, HXn.out.trans hx5⟩
  | true =>
  have H9 := hid h9
  have C9 := hid (fun e : Later W => areStakes_b _ hl true e.1 (HH.out.mono (HXn.out.trans e.grown)) HNH.out H9.out)
  clear h9
  cases h10 : (bo == back bo ol && (ne == back ne ll && cr == back cr hl)) with
  | false =>
    have H10 := hid h10
    have f10 : (bo == back bo ol && (ne == back ne ll && cr == back cr hl)) = false := H10.out
    have C10 := hid (fun e : Later W => backed_any gr bo ne cr (.slice ca cs.length cc) lv mv oa la ha on oc ln lc hn hc ol ll hl e.1 (HO.out.mono (HXn.out.trans e.grown)) (HL.out.mono (HXn.out.trans e.grown)) (HH.out.mono (HXn.out.trans e.grown)) (stakes_small H7.out) (stakes_small H8.out) (stakes_small H9.out))
    clear h10
    have HR : Hid (validB gr bo ne cr cs ol ll hl = false) := hid (by rw [HVB.out]; simp only [H1.out, H2.out, H3.out, H4.out, H5.out, H6.out, H7.out, H8.out, H9.out, H10.out, Bool.and_true, Bool.and_false, Bool.true_and, Bool.false_and])
    clear H1 H2 H3 H4 H5 H6 H7 H8 H9 H10 HVB HCS HO HL HH HNO HNL HNH HD HSM
    refine quiet_wide 58 (by kernel_rfl) (by kernel_rfl) ?_
    simp only [List.take_succ_cons, List.take_zero, List.drop_succ_cons, List.drop_zero]
    repeat (any_goals (first | go_big_quiet_step ((first | (go_at_call 46; with_reducible exact Cal.quiet_same (C1.out _)) | (go_at_call 82; with_reducible exact Cal.quiet_same (C3.out _)) | (go_at_call 79; with_reducible exact Cal.quiet (C4.out _)) | (go_at_call 82; with_reducible exact Cal.quiet_same (C5.out _)) | (go_at_call 83; with_reducible exact Cal.quiet_same (C6.out _)) | (go_at_call 47; with_reducible exact Cal.quiet (C7.out _)) | (go_at_call 47; with_reducible exact Cal.quiet (C8.out _)) | (go_at_call 47; with_reducible exact Cal.quiet (C9.out _)) | (go_at_call 94; with_reducible exact Cal.quiet (C10.out _)))) | quiet_step ((first | (go_at_call 46; with_reducible exact Cal.quiet_same (C1.out _)) | (go_at_call 82; with_reducible exact Cal.quiet_same (C3.out _)) | (go_at_call 79; with_reducible exact Cal.quiet (C4.out _)) | (go_at_call 82; with_reducible exact Cal.quiet_same (C5.out _)) | (go_at_call 83; with_reducible exact Cal.quiet_same (C6.out _)) | (go_at_call 47; with_reducible exact Cal.quiet (C7.out _)) | (go_at_call 47; with_reducible exact Cal.quiet (C8.out _)) | (go_at_call 47; with_reducible exact Cal.quiet (C9.out _)) | (go_at_call 94; with_reducible exact Cal.quiet (C10.out _))))))
    refine wpQuiet_nil ?_
    rintro w5 ⟨⟨w5q, hx5⟩, hew5⟩
    obtain rfl : w5 = w5q := hew5
    have hx5 : Ext W w5 := hx5
    clear q0 q1 hq90
    gi_wp2_with fail
    go_ret
    exact ⟨by rw [HR.out]; rfl, HXn.out.trans hx5⟩
  | true =>
  have H10 := hid h10
  have f10 : (bo == back bo ol && (ne == back ne ll && cr == back cr hl)) = true := H10.out
  have C10 := hid (fun e : Later W => backed_any gr bo ne cr (.slice ca cs.length cc) lv mv oa la ha on oc ln lc hn hc ol ll hl e.1 (HO.out.mono (HXn.out.trans e.grown)) (HL.out.mono (HXn.out.trans e.grown)) (HH.out.mono (HXn.out.trans e.grown)) (stakes_small H7.out) (stakes_small H8.out) (stakes_small H9.out))
  clear h10
  have HR : Hid (validB gr bo ne cr cs ol ll hl = true) := hid (by rw [HVB.out]; simp only [H1.out, H2.out, H3.out, H4.out, H5.out, H6.out, H7.out, H8.out, H9.out, H10.out, Bool.and_true, Bool.and_false, Bool.true_and, Bool.false_and])
  clear H1 H2 H3 H4 H5 H6 H7 H8 H9 H10 HVB HCS HO HL HH HNO HNL HNH HD HSM
  refine quiet_wide 58 (by kernel_rfl) (by kernel_rfl) ?_
  simp only [List.take_succ_cons, List.take_zero, List.drop_succ_cons, List.drop_zero]
  repeat (any_goals (first | go_big_quiet_step ((first | (go_at_call 46; with_reducible exact Cal.quiet_same (C1.out _)) | (go_at_call 82; with_reducible exact Cal.quiet_same (C3.out _)) | (go_at_call 79; with_reducible exact Cal.quiet (C4.out _)) | (go_at_call 82; with_reducible exact Cal.quiet_same (C5.out _)) | (go_at_call 83; with_reducible exact Cal.quiet_same (C6.out _)) | (go_at_call 47; with_reducible exact Cal.quiet (C7.out _)) | (go_at_call 47; with_reducible exact Cal.quiet (C8.out _)) | (go_at_call 47; with_reducible exact Cal.quiet (C9.out _)) | (go_at_call 94; with_reducible exact Cal.quiet (C10.out _)))) | quiet_step ((first | (go_at_call 46; with_reducible exact Cal.quiet_same (C1.out _)) | (go_at_call 82; with_reducible exact Cal.quiet_same (C3.out _)) | (go_at_call 79; with_reducible exact Cal.quiet (C4.out _)) | (go_at_call 82; with_reducible exact Cal.quiet_same (C5.out _)) | (go_at_call 83; with_reducible exact Cal.quiet_same (C6.out _)) | (go_at_call 47; with_reducible exact Cal.quiet (C7.out _)) | (go_at_call 47; with_reducible exact Cal.quiet (C8.out _)) | (go_at_call 47; with_reducible exact Cal.quiet (C9.out _)) | (go_at_call 94; with_reducible exact Cal.quiet (C10.out _))))))
  refine wpQuiet_nil ?_
  rintro w5 ⟨⟨w5q, hx5⟩, hew5⟩
  obtain rfl : w5 = w5q := hew5
  have hx5 : Ext W w5 := hx5
  clear q0 q1 hq90
  gi_wp2_with fail
  go_ret
  exact ⟨by rw [HR.out]; rfl, HXn.out.trans hx5⟩
end
section
open Go Go.RowKit Go.Shelf Go.MapKept

/-- A loan. -/
structure Ln where
  f : ByteArray
  g : ByteArray
  n : Int
  r : Int
  deriving Inhabited
def noLn : Ln := ⟨ByteArray.empty, ByteArray.empty, 0, 0⟩
def LoansAt (w : World) (v : Value) (l : List Ln) : Prop :=
  ∃ a cap, v = .slice a l.length cap ∧ (l.length ≤ cap ∧ l.length ≤ 1000000000000000) ∧ ∀ i (h : i < l.length), ∃ b off, a = some ⟨b, off, none⟩ ∧ b < w.heap.size ∧
    w.cell? ⟨b, off + i * 4, none⟩ = some (.string l[i].f) ∧ w.cell? ⟨b, off + i * 4 + 1, none⟩ = some (.string l[i].g) ∧ w.cell? ⟨b, off + i * 4 + 2, none⟩ = some (.int .i64 l[i].n) ∧ w.cell? ⟨b, off + i * 4 + 3, none⟩ = some (.int .i64 l[i].r)
theorem LoansAt.mono {w w' : World} {v : Value} {l : List Ln} (h : LoansAt w v l) (hx : Ext w w') : LoansAt w' v l := by
  obtain ⟨a, cap, hv, hl, hc⟩ := h
  refine ⟨a, cap, hv, hl, fun i hi => ?_⟩
  obtain ⟨b, off, ha, hb, h0, h1, h2, h3⟩ := hc i hi
  exact ⟨b, off, ha, Nat.lt_of_lt_of_le hb hx.size, by rw [hx.cell (p := ⟨b, _, none⟩) hb]; exact h0, by rw [hx.cell (p := ⟨b, _, none⟩) hb]; exact h1, by rw [hx.cell (p := ⟨b, _, none⟩) hb]; exact h2, by rw [hx.cell (p := ⟨b, _, none⟩) hb]; exact h3⟩
abbrev LSt := Nat → Int × Int
def nmsOf (l : List Stk) : List ByteArray := l.map (·.name)
def lnGood (l : List Stk) (x : Ln) : Bool := decide (0 ≤ placeN (nmsOf l) x.f) && (decide (0 ≤ placeN (nmsOf l) x.g) && loanB x.f x.g x.n x.r)
/-- A loan more. -/
def lnStep (l : List Stk) (S : LSt) (x : Ln) : LSt := fun i => if (i : Int) = placeN (nmsOf l) x.g then ((S i).1 + x.n, (S i).2 + (8 - x.r) * x.n) else if (i : Int) = placeN (nmsOf l) x.f then ((S i).1 - x.n, (S i).2 - (8 - x.r) * x.n) else S i
def lent0 (l : List Stk) : LSt := fun i => ((l.getD i noStk).weight, 8 * (l.getD i noStk).weight)
def lentTo (l : List Stk) (xs : List Ln) (k : Nat) : LSt := (xs.take k).foldl (lnStep l) (lent0 l)
theorem lentTo_succ (l : List Stk) {xs : List Ln} {k : Nat} (h : k < xs.length) : lentTo l xs (k + 1) = lnStep l (lentTo l xs k) xs[k] := by
  unfold lentTo
  rw [List.take_succ_eq_append_getElem h, List.foldl_append]; rfl
def notLess (p : Int × Int) : Bool := !(decide (p.1 < 0)) && !(decide (p.2 < 0))
/-- The loans are right. -/
def lendB (l : List Stk) (xs : List Ln) : Bool := decide (xs.length ≤ 12) && (allTo (fun k => lnGood l (xs.getD k noLn)) xs.length && allTo (fun i => notLess (lentTo l xs xs.length i)) l.length)
theorem loan_small {x : Ln} (h : loanB x.f x.g x.n x.r = true) : (1 ≤ x.n ∧ x.n ≤ 1000) ∧ (0 ≤ x.r ∧ x.r ≤ 8) ∧ (0 ≤ (8 - x.r) * x.n ∧ (8 - x.r) * x.n ≤ 8000) := by
  unfold loanB at h
  simp only [Bool.and_eq_true] at h
  have h1 := inB_spec h.2.1
  have h2 := inB_spec h.2.2
  refine ⟨h1, h2, Int.mul_nonneg (by omega) (by omega), ?_⟩
  have : (8 - x.r) * x.n ≤ 8 * 1000 := Int.mul_le_mul (by omega) h1.2 (by omega) (by omega)
  omega
theorem lentTo_bound {l : List Stk} {xs : List Ln} (hw : ∀ s ∈ l, 0 ≤ s.weight ∧ s.weight ≤ 1000) : ∀ k, k ≤ xs.length → (∀ j, j < k → lnGood l (xs.getD j noLn) = true) → ∀ i,
    (-(1000 + 1000 * (k : Int)) ≤ (lentTo l xs k i).1 ∧ (lentTo l xs k i).1 ≤ 1000 + 1000 * (k : Int)) ∧ (-(8000 + 8000 * (k : Int)) ≤ (lentTo l xs k i).2 ∧ (lentTo l xs k i).2 ≤ 8000 + 8000 * (k : Int))
  | 0, _, _, i => by
    unfold lentTo lent0
    rw [List.take_zero, List.foldl_nil]
    rcases Nat.lt_or_ge i l.length with h | h
    · rw [getD_of h]
      have := hw _ (List.getElem_mem h)
      simp only; omega
    · rw [List.getD_eq_getElem?_getD, List.getElem?_eq_none h]; simp [noStk]
  | k + 1, h, hg, i => by
    have ih := lentTo_bound hw k (by omega) (fun j hj => hg j (by omega)) i
    rw [lentTo_succ l (by omega)]
    have hk := hg k (by omega)
    rw [getD_of (by omega)] at hk
    unfold lnGood at hk
    simp only [Bool.and_eq_true] at hk
    have hs := loan_small hk.2.2
    generalize xs[k] = x at *
    unfold lnStep
    push_cast
    split
    · simp only; omega
    · split
      · simp only; omega
      · omega
def lenV (p : Int × Int) : Value := .agg #[.int .i64 p.1, .int .i64 p.2]
/-- The map of lenders. -/
def entM (l : List Stk) (S : LSt) (n : Nat) : GMap := (List.range n).map fun i => (.string (l.getD i noStk).name, lenV (S i))
theorem entM_succ (l : List Stk) (S : LSt) (n : Nat) : entM l S (n + 1) = entM l S n ++ [(.string (l.getD n noStk).name, lenV (S n))] := by
  unfold entM; rw [List.range_succ, List.map_append]; rfl
theorem entM_no {l : List Stk} (hd : (l.map (·.name)).Nodup) (S : LSt) {n : Nat} (hn : n < l.length) : ∀ p ∈ entM l S n, p.1 ≠ .string (l.getD n noStk).name := by
  intro p hp he
  unfold entM at hp
  obtain ⟨i, hi, rfl⟩ := List.mem_map.1 hp
  have hi := List.mem_range.1 hi
  simp only at he
  rw [getD_of (by omega), getD_of hn] at he
  have he := Value.string.inj he
  unfold List.Nodup at hd
  rw [List.pairwise_iff_getElem] at hd
  exact hd i n (by simp; omega) (by simpa using hn) hi (by simpa using he)
theorem placeN_iff {l : List ByteArray} (hd : l.Nodup) {n : ByteArray} {i : Nat} (hi : i < l.length) : placeN l n = i ↔ l[i] = n := by
  constructor
  · intro h
    unfold placeN at h
    cases hf : l.findIdx? (fun x => x.toList == n.toList) with
    | none => rw [hf] at h; simp only at h; omega
    | some j =>
      rw [hf] at h
      simp only at h
      have hj : j = i := by omega
      subst hj
      obtain ⟨h1, h2, _⟩ := List.findIdx?_eq_some_iff_getElem.1 hf
      exact names_inj (by simpa using h2)
  · rintro rfl
    refine placeN_at hi (fun j hj => ?_) rfl
    rw [getD_of (by omega), beq_eq_false_iff_ne]
    intro he
    unfold List.Nodup at hd
    rw [List.pairwise_iff_getElem] at hd
    exact hd j i (by omega) hi hj (names_inj he)
theorem placeN_range (l : List ByteArray) (n : ByteArray) : placeN l n = -1 ∨ ∃ i, ∃ h : i < l.length, placeN l n = i ∧ l[i] = n := by
  unfold placeN
  cases hf : l.findIdx? (fun x => x.toList == n.toList) with
  | none => exact .inl rfl
  | some j =>
    obtain ⟨h1, h2, _⟩ := List.findIdx?_eq_some_iff_getElem.1 hf
    exact .inr ⟨j, h1, rfl, names_inj (by simpa using h2)⟩
theorem zero115 (w : World) : (zeroValue 115).run Tryz.prog w = .ok (lenV (0, 0)) w := by simp [zeroValue, go_sem, lenV, show Tryz.t115.zero = some (.agg #[.int .i64 0, .int .i64 0]) from by kernel_rfl]
/-- A lender is looked up. -/
theorem look_len {w : World} {bm : Nat} {l : List Stk} {S : LSt} (hd : (l.map (·.name)).Nodup) (h : GMapAt .string w bm (entM l S l.length)) (n : ByteArray) :
    ∃ p : Int × Int, ∃ ok : Bool, (Instr.lookup 81 (.map (some bm)) (.string n) true).run Tryz.prog w = .ok (.tuple #[.agg #[.int .i64 p.1, .int .i64 p.2], .bool ok]) w ∧ decide (0 ≤ placeN (nmsOf l) n) = ok ∧ (ok = true → ∃ i, i < l.length ∧ placeN (nmsOf l) n = i ∧ (l.getD i noStk).name = n ∧ p = S i) := by
  rcases placeN_range (nmsOf l) n with hp | ⟨i, hi, hp, hn⟩
  · refine ⟨(0, 0), false, ?_, by rw [hp]; rfl, fun h => by cases h⟩
    refine glookup_none h (show IsKey .string (.string n) from trivial) ?_ true Tryz.underlying81 Tryz.underlying9 (zero115 w)
    intro p hp' he
    unfold entM at hp'
    obtain ⟨i, hi, rfl⟩ := List.mem_map.1 hp'
    have hi := List.mem_range.1 hi
    have he := Value.string.inj he
    rw [getD_of hi] at he
    have := (placeN_iff (l := nmsOf l) hd (n := n) (i := i) (by simpa [nmsOf] using hi)).2 (by simpa [nmsOf] using he)
    omega
  · have hi' : i < l.length := by simpa [nmsOf] using hi
    refine ⟨S i, true, ?_, by rw [hp]; simp, fun _ => ⟨i, hi', hp, by rw [getD_of hi', ← hn]; simp [nmsOf], rfl⟩⟩
    refine glookup_some (v := lenV (S i)) h (show IsKey .string (.string n) from trivial) ?_ true Tryz.underlying81 Tryz.underlying9
    unfold entM
    refine List.mem_map.2 ⟨i, List.mem_range.2 hi', ?_⟩
    rw [getD_of hi', ← hn]; simp [nmsOf]
theorem entM_split (l : List Stk) (S T : LSt) {i n : Nat} (hi : i < n) (hT : ∀ j, j ≠ i → T j = S j) : ∃ a b, entM l S n = a ++ (.string (l.getD i noStk).name, lenV (S i)) :: b ∧ entM l T n = a ++ (.string (l.getD i noStk).name, lenV (T i)) :: b := by
  have h1 : List.range n = List.range i ++ i :: (List.range (n - i - 1)).map (fun j => i + 1 + j) := by
    rw [show n = i + 1 + (n - i - 1) by omega, List.range_add, List.range_succ, List.append_assoc]
    simp
    rw [show i + 1 + (n - i - 1) - i - 1 = n - i - 1 by omega]
  refine ⟨(List.range i).map fun j => (.string (l.getD j noStk).name, lenV (S j)), ((List.range (n - i - 1)).map (fun j => i + 1 + j)).map fun j => (.string (l.getD j noStk).name, lenV (S j)), ?_, ?_⟩
  · unfold entM; rw [h1, List.map_append, List.map_cons]
  · unfold entM
    rw [h1, List.map_append, List.map_cons]
    congr 1
    · exact List.map_congr_left fun j hj => by rw [hT j (by have := List.mem_range.1 hj; omega)]
    · congr 1
      refine List.map_congr_left fun j hj => ?_
      obtain ⟨k, _, rfl⟩ := List.mem_map.1 hj
      rw [hT _ (by omega)]
def setS (S : LSt) (i : Nat) (p : Int × Int) : LSt := fun j => if j = i then p else S j
/-- A lender's entry is stored. -/
theorem store_len {w : World} {bm : Nat} {l : List Stk} {S : LSt} (h : GMapAt .string w bm (entM l S l.length)) {i : Nat} (hi : i < l.length) (n : ByteArray) (hn : (l.getD i noStk).name = n) (p : Int × Int) :
    ∃ o, (Instr.mapUpdate 81 (.map (some bm)) (.string n) (.agg #[.int .i64 p.1, .int .i64 p.2])).run Tryz.prog w = .ok () (w.putObj bm o) ∧ GMapAt .string (w.putObj bm o) bm (entM l (setS S i p) l.length) := by
  obtain ⟨a, b, e1, e2⟩ := entM_split l S (setS S i p) hi (fun j hj => by simp [setS, hj])
  rw [e1, hn] at h
  rw [e2, hn]
  have : lenV (setS S i p i) = .agg #[.int .i64 p.1, .int .i64 p.2] := by simp [setS, lenV]
  rw [this]
  exact gupdate_old h (show IsKey .string (.string n) from trivial) _ Tryz.underlying81 Tryz.underlying9
/-- How many entries are still to come. -/
def iterLeft (w : World) (bm it : Nat) : Nat := match w.heap[bm]?, w.heap[it]? with
  | some (.map es _), some (.mapIter _ _ seen _) => (leftOf es seen).size
  | _, _ => 0
theorem IterAt.count {d : TypeDesc} {w : World} {bm it : Nat} {m left : GMap} (h : IterAt d w bm it m left) : iterLeft w bm it = left.length := by
  obtain ⟨es, clock, seen, c0, hb, hm, hs, hk, hi, hc, hne, hl⟩ := h
  unfold iterLeft
  rw [hb, hi, hl]; simp
end
section
open Go Go.RowKit Go.Shelf

set_option maxRecDepth 100000 in
set_option maxHeartbeats 16000000 in
theorem lend_any (gr bo ne cr : Int) (cv mv : Value) (oa la ha xa : Option Addr) (on oc lc hn hc xc : Nat) (ll : List Stk) (xs : List Ln) (w : World)
    (hl : StakesAt w (.slice la ll.length lc) ll) (hx : LoansAt w (.slice xa xs.length xc) xs) (hw : ∀ s ∈ ll, 0 ≤ s.weight ∧ s.weight ≤ 1000) (hd : (ll.map (·.name)).Nodup) (hl10 : ll.length ≤ 10) :
    Cal 75 #[.agg #[.int .i64 gr, cv, .int .i64 bo, .int .i64 ne, .int .i64 cr, .slice oa on oc, .slice la ll.length lc, .slice ha hn hc, .slice xa xs.length xc, mv]] w fun e w' => Ext w w' ∧ ((lendB ll xs = false ∧ e = .returned (.tuple #[.map none, .bool false])) ∨ (lendB ll xs = true ∧ ∃ bm, e = .returned (.tuple #[.map (some bm), .bool true]) ∧ w.heap.size ≤ bm ∧ Hid (GMapAt .string w' bm (entM ll (lentTo ll xs xs.length) ll.length)))) := by
  obtain ⟨a1, c1, e1, hlb, hlc⟩ := hl
  cases e1
  obtain ⟨a2, c2, e2, hxb, hxc⟩ := hx
  cases e2
  have HLC := hid hlc
  have HXC := hid hxc
  have HW := hid hw
  have HD := hid hd
  have HBN := hid (fun k hk hg i => lentTo_bound (xs := xs) hw k hk hg i)
  have hX0 : Ext w (w.alloc (.cells #[.int .i64 gr, cv, .int .i64 bo, .int .i64 ne, .int .i64 cr, .slice oa on oc, .slice la ll.length lc, .slice ha hn hc, .slice xa xs.length xc, mv] 83)) := (Ext.refl _).alloc _
  have hB0 := Ext.new (w := w) (o := .cells #[.int .i64 gr, cv, .int .i64 bo, .int .i64 ne, .int .i64 cr, .slice oa on oc, .slice la ll.length lc, .slice ha hn hc, .slice xa xs.length xc, mv] 83) (Ext.refl _)
  have hmm := @run_makeMap Tryz.prog
  clear hlc hxc hw hd
  gi_enter Tryz.func75, Tryz.ntmps75
  gi_upto_region 2 with fail
  clear hmm
  have hxm : Ext w ((w.alloc (.cells #[.int .i64 gr, cv, .int .i64 bo, .int .i64 ne, .int .i64 cr, .slice oa on oc, .slice la ll.length lc, .slice ha hn hc, .slice xa xs.length xc, mv] 83)).alloc (.map #[] 0)) := hX0.alloc _
  have HX0 := hid hX0
  have hbx : ((w.alloc (.cells #[.int .i64 gr, cv, .int .i64 bo, .int .i64 ne, .int .i64 cr, .slice oa on oc, .slice la ll.length lc, .slice ha hn hc, .slice xa xs.length xc, mv] 83)).alloc (.map #[] 0)).heap[w.heap.size]? = some (.cells #[.int .i64 gr, cv, .int .i64 bo, .int .i64 ne, .int .i64 cr, .slice oa on oc, .slice la ll.length lc, .slice ha hn hc, .slice xa xs.length xc, mv] 83 (0, 0)) := ((Ext.refl _).alloc _).block hB0
  have hmp : GMapAt .string ((w.alloc (.cells #[.int .i64 gr, cv, .int .i64 bo, .int .i64 ne, .int .i64 cr, .slice oa on oc, .slice la ll.length lc, .slice ha hn hc, .slice xa xs.length xc, mv] 83)).alloc (.map #[] 0)) (w.heap.size + 1) (entM ll (lent0 ll) 0) := by
    have := GMapAt.made .string (w.alloc (.cells #[.int .i64 gr, cv, .int .i64 bo, .int .i64 ne, .int .i64 cr, .slice oa on oc, .slice la ll.length lc, .slice ha hn hc, .slice xa xs.length xc, mv] 83)); rwa [World.size_alloc] at this
  have hsz : ((w.alloc (.cells #[.int .i64 gr, cv, .int .i64 bo, .int .i64 ne, .int .i64 cr, .slice oa on oc, .slice la ll.length lc, .slice ha hn hc, .slice xa xs.length xc, mv] 83)).alloc (.map #[] 0)).heap.size = w.heap.size + 2 := by simp
  clear hX0 hB0 HX0
  generalize (w.alloc (.cells #[.int .i64 gr, cv, .int .i64 bo, .int .i64 ne, .int .i64 cr, .slice oa on oc, .slice la ll.length lc, .slice ha hn hc, .slice xa xs.length xc, mv] 83)).alloc (.map #[] 0) = W at *
  generalize hbm : w.heap.size + 1 = bm at *
  have HBM : Hid (w.heap.size < bm) := hid (by omega)
  clear hbm hsz
  have cb := cell_of hbx
  gi_wp2_with fail
  have HJ : Hid (Ext w W ∧ W.heap[w.heap.size]? = some (.cells #[.int .i64 gr, cv, .int .i64 bo, .int .i64 ne, .int .i64 cr, .slice oa on oc, .slice la ll.length lc, .slice ha hn hc, .slice xa xs.length xc, mv] 83 (0, 0)) ∧ GMapAt .string W bm (entM ll (lent0 ll) 0)) := hid ⟨hxm, hbx, hmp⟩
  clear hxm hbx hmp cb
  gi_loopw [6, 21] (fun u6 i wr => ∃ k : Nat, k ≤ ll.length ∧ i = .int .i64 k ∧ Hid (Ext w wr ∧ wr.heap[w.heap.size]? = some (.cells #[.int .i64 gr, cv, .int .i64 bo, .int .i64 ne, .int .i64 cr, .slice oa on oc, .slice la ll.length lc, .slice ha hn hc, .slice xa xs.length xc, mv] 83 (0, 0)) ∧ GMapAt .string wr bm (entM ll (lent0 ll) k))) (fun _ i _ => ll.length - (intOf i).toNat)
  case atStart => exact ⟨0, Nat.zero_le _, rfl, HJ⟩
  case round =>
    obtain ⟨k, hk, rfl, HI⟩ := hrel
    clear HJ
    by_cases hlt : k < ll.length
    · have hki : (k : Int) < (ll.length : Int) := by omega
      obtain ⟨b, off, rfl, hbb, c0, c1⟩ := HLC.out k hlt
      rw [← HI.out.1.cell (p := ⟨b, _, none⟩) hbb] at c0 c1
      have HS := hid (entM_succ ll (lent0 ll) k)
      have HNO := hid (entM_no HD.out (lent0 ll) hlt)
      have hl0 : lent0 ll k = (ll[k].weight, 8 * ll[k].weight) := by unfold lent0; rw [getD_of hlt]
      rw [hl0, getD_of hlt] at HS
      rw [getD_of hlt] at HNO
      have hwt := HW.out _ (List.getElem_mem hlt)
      clear hl0
      generalize ll[k] = s at *
      have hx1 : Ext wr (wr.alloc (.cells #[.string s.name, .int .i64 s.weight] 49)) := (Ext.refl _).alloc _
      have hnb : (wr.alloc (.cells #[.string s.name, .int .i64 s.weight] 49)).heap[wr.heap.size]? = some (.cells #[.string s.name, .int .i64 s.weight] 49 (0, 0)) := Ext.new (Ext.refl _)
      gi_upto_region 5 with fail
      clear c0 c1
      have HX := hid (HI.out.1.trans hx1)
      have HBX := hid (hx1.block HI.out.2.1)
      have HMP := hid (HI.out.2.2.mono hx1)
      clear HI hx1
      generalize wr.alloc (.cells #[.string s.name, .int .i64 s.weight] 49) = W2 at *
      generalize wr.heap.size = nb at *
      have cs := cell_of hnb
      obtain ⟨o, hup, hma⟩ := gupdate_new HMP.out (show MapKept.IsKey .string (.string s.name) from trivial) HNO.out (lenV (s.weight, 8 * s.weight)) Tryz.underlying81 Tryz.underlying9
      unfold lenV at hup
      have hwm : wrap64 (8 * s.weight) = 8 * s.weight := by unfold wrap64; omega
      have HMA := hid hma
      have HBP := hid (below_put (o := o) HX.out (Nat.le_of_lt HBM.out))
      have HBB : Hid ((W2.putObj bm o).heap[w.heap.size]? = _) := hid ((World.putObj_heap_other (by have := HBM.out; omega)).trans HBX.out)
      clear hma HX HBX HMP hnb HNO
      gi_wp2_with fail
      go_roundw
      case rel => exact ⟨k + 1, by omega, by go_num, hid ⟨HBP.out, HBB.out, by rw [HS.out]; exact HMA.out⟩⟩
      case measure => simp [intOf]; omega
    · obtain rfl : k = ll.length := by omega
      clear HBN
      have HBN := hid (fun k hk hg i => lentTo_bound (xs := xs) HW.out k hk hg i)
      clear HW HLC
      have HMP0 : Hid (GMapAt .string wr bm (entM ll (lentTo ll xs 0) ll.length)) := hid HI.out.2.2
      have cb := cell_of HI.out.2.1
      by_cases h12 : xs.length ≤ 12
      · have h12i : (xs.length : Int) ≤ 12 := by omega
        gi_wp2_with fail
        clear h12i
        have HJ : Hid (Ext w wr ∧ GMapAt .string wr bm (entM ll (lentTo ll xs 0) ll.length)) := hid ⟨HI.out.1, HMP0.out⟩
        clear HI HMP0 cb
        obtain ⟨wo, rfl⟩ : ∃ wo, wo = wr := ⟨wr, rfl⟩
        gi_loopw [8, 9, 10, 11, 12, 13, 44] (fun u8 u9 u10 u11 u12 u13 i wr => ∃ k : Nat, k ≤ xs.length ∧ i = .int .i64 k ∧ Hid (∀ j, j < k → lnGood ll (xs.getD j noLn) = true) ∧ Hid (Ext w wr ∧ GMapAt .string wr bm (entM ll (lentTo ll xs k) ll.length))) (fun _ _ _ _ _ _ i _ => xs.length - (intOf i).toNat)
        case atStart => exact ⟨0, Nat.zero_le _, rfl, hid fun j h => absurd h (by omega), HJ⟩
        case round =>
          obtain ⟨k, hk, rfl, HG, HI⟩ := hrel
          clear HJ
          by_cases hlt : k < xs.length
          · have hki : (k : Int) < (xs.length : Int) := by omega
            obtain ⟨b, off, rfl, hbb, c0, c1, c2, c3⟩ := HXC.out k hlt
            rw [← HI.out.1.cell (p := ⟨b, _, none⟩) hbb] at c0 c1 c2 c3
            have HLS := hid (lentTo_succ ll hlt)
            have HBD := hid (HBN.out k (by omega) HG.out)
            have HQ : Hid (lnGood ll (xs.getD k noLn) = (decide (0 ≤ placeN (nmsOf ll) xs[k].f) && (decide (0 ≤ placeN (nmsOf ll) xs[k].g) && loanB xs[k].f xs[k].g xs[k].n xs[k].r))) := hid (by rw [getD_of hlt]; rfl)
            have HF : Hid (lnGood ll (xs.getD k noLn) = false → lendB ll xs = false) := hid fun h => by unfold lendB; rw [allTo_no hlt h]; simp
            have HU : Hid (lnGood ll (xs.getD k noLn) = true → ∀ j, j < k + 1 → lnGood ll (xs.getD j noLn) = true) := hid fun h => upTo_succ HG.out h
            generalize xs[k] = x at *
            have hx1 : Ext wr (wr.alloc (.cells #[.string x.f, .string x.g, .int .i64 x.n, .int .i64 x.r] 59)) := (Ext.refl _).alloc _
            have hnb : (wr.alloc (.cells #[.string x.f, .string x.g, .int .i64 x.n, .int .i64 x.r] 59)).heap[wr.heap.size]? = some (.cells #[.string x.f, .string x.g, .int .i64 x.n, .int .i64 x.r] 59 (0, 0)) := Ext.new (Ext.refl _)
            gi_upto_region 12 with fail
            clear c0 c1 c2 c3
            have HX := hid (HI.out.1.trans hx1)
            have HMP := hid (HI.out.2.mono hx1)
            clear HI hx1 HG
            generalize wr.alloc (.cells #[.string x.f, .string x.g, .int .i64 x.n, .int .i64 x.r] 59) = W2 at *
            generalize wr.heap.size = nb at *
            have cs := cell_of hnb
            obtain ⟨p, k1, hlk1, hp1, hs1⟩ := look_len HD.out HMP.out x.f
            have hxa : Ext W2 (W2.alloc (.cells #[.int .i64 p.1, .int .i64 p.2] 115)) := (Ext.refl _).alloc _
            have hna : (W2.alloc (.cells #[.int .i64 p.1, .int .i64 p.2] 115)).heap[W2.heap.size]? = some (.cells #[.int .i64 p.1, .int .i64 p.2] 115 (0, 0)) := Ext.new (Ext.refl _)
            gi_upto_region 13 with fail
            clear hlk1 cs
            have hMPa := HMP.out.mono hxa
            have HXa := hid (HX.out.trans hxa)
            have hnba := hxa.block hnb
            clear HX HMP hnb hxa
            generalize W2.alloc (.cells #[.int .i64 p.1, .int .i64 p.2] 115) = W3 at *
            generalize W2.heap.size = na at *
            have cs := cell_of hnba
            obtain ⟨q, k2, hlk2, hp2, hs2⟩ := look_len HD.out hMPa x.g
            have hxb : Ext W3 (W3.alloc (.cells #[.int .i64 q.1, .int .i64 q.2] 115)) := (Ext.refl _).alloc _
            have hnc : (W3.alloc (.cells #[.int .i64 q.1, .int .i64 q.2] 115)).heap[W3.heap.size]? = some (.cells #[.int .i64 q.1, .int .i64 q.2] 115 (0, 0)) := Ext.new (Ext.refl _)
            gi_upto_region 14 with fail
            clear hlk2 cs
            have HMPb := hid (hMPa.mono hxb)
            have HXb := hid (HXa.out.trans hxb)
            have HNB := hid (hxb.block hnba)
            have HNA := hid (hxb.block hna)
            have HNC := hid hnc
            clear hMPa HXa hnba hna hnc hxb
            generalize W3.alloc (.cells #[.int .i64 q.1, .int .i64 q.2] 115) = W4 at *
            generalize W3.heap.size = nc at *
            clear W2 W3
            have cs := cell_of HNB.out
            have HP1 := hid hp1
            have HP2 := hid hp2
            have HS1 := hid hs1
            have HS2 := hid hs2
            clear hp1 hp2 hs1 hs2
            have HIL := hid (fun (u : World) => isLoan_any x.f x.g x.n x.r u)
            cases k1 with
            | false =>
              have HR := hid (HF.out (by rw [HQ.out, HP1.out]; rfl))
              clear HF HU HQ HP1 HP2 HS1 HS2 HBD
              gi_wp2_with fail
              exact bodyPost_ret (v := .tuple #[.map none, .bool false]) (by simp [results, Tryz.results75, go_sem]) rfl ⟨HXb.out, .inl ⟨HR.out, rfl⟩⟩
            | true =>
            cases k2 with
            | false =>
              have HR := hid (HF.out (by rw [HQ.out, HP1.out, HP2.out]; rfl))
              clear HF HU HQ HP1 HP2 HS1 HS2 HBD
              gi_wp2_with fail
              exact bodyPost_ret (v := .tuple #[.map none, .bool false]) (by simp [results, Tryz.results75, go_sem]) rfl ⟨HXb.out, .inl ⟨HR.out, rfl⟩⟩
            | true =>
            cases hlo : loanB x.f x.g x.n x.r with
            | false =>
              have HR := hid (HF.out (by rw [HQ.out, HP1.out, HP2.out, hlo]; rfl))
              rw [hlo] at HIL
              clear HF HU HQ HP1 HP2 HS1 HS2 HBD hlo
              gi_wp2_with (gi_at_call 95; ((with_reducible refine (HIL.out _).mono ?_); rintro e w5 ⟨rfl, hx5⟩))
              exact bodyPost_ret (v := .tuple #[.map none, .bool false]) (by simp [results, Tryz.results75, go_sem]) rfl ⟨HXb.out.trans hx5, .inl ⟨HR.out, rfl⟩⟩
            | true =>
              have HUU := hid (HU.out (by rw [HQ.out, HP1.out, HP2.out, hlo]; rfl))
              have hsm := loan_small hlo
              have hne : x.f ≠ x.g := by
                rintro he
                unfold loanB at hlo
                rw [he] at hlo; simp at hlo
              rw [hlo] at HIL
              obtain ⟨i1, hi1, hp1, hn1, hpe⟩ := HS1.out rfl
              obtain ⟨i2, hi2, hp2, hn2, hqe⟩ := HS2.out rfl
              have hi12 : i1 ≠ i2 := by rintro rfl; exact hne (hn1.symm.trans hn2)
              have hb1 := HBD.out i1
              have hb2 := HBD.out i2
              rw [← hpe] at hb1
              rw [← hqe] at hb2
              have hk12 : (k : Int) ≤ 12 := by omega
              obtain ⟨cl, hcl⟩ : ∃ cl, (8 - x.r) * x.n = cl := ⟨_, rfl⟩
              rw [hcl] at hsm
              have hm1 : wrap64 (8 - x.r) = 8 - x.r := by unfold wrap64; omega
              have hm2 : wrap64 ((8 - x.r) * x.n) = cl := by rw [hcl]; unfold wrap64; omega
              have hm3 : wrap64 (p.1 - x.n) = p.1 - x.n := by unfold wrap64; omega
              have hm4 : wrap64 (p.2 - cl) = p.2 - cl := by unfold wrap64; omega
              have hm5 : wrap64 (q.1 + x.n) = q.1 + x.n := by unfold wrap64; omega
              have hm6 : wrap64 (q.2 + cl) = q.2 + cl := by unfold wrap64; omega
              have HST : Hid (lnStep ll (lentTo ll xs k) x = setS (setS (lentTo ll xs k) i1 (p.1 - x.n, p.2 - cl)) i2 (q.1 + x.n, q.2 + cl)) := hid (by
                funext j
                unfold lnStep setS
                rw [hp1, hp2, hcl, hpe, hqe]
                by_cases hj2 : j = i2
                · subst hj2; simp
                · rw [if_neg (by omega), if_neg hj2]
                  by_cases hj1 : j = i1
                  · subst hj1; simp
                  · rw [if_neg (by omega), if_neg hj1])
              have HN1 := hid hn1
              have HN2 := hid hn2
              have HI1 := hid hi1
              have HI2 := hid hi2
              clear HF HU HQ HP1 HP2 HS1 HS2 HBD hlo hb1 hb2 hn1 hn2 hpe hqe hp1 hp2 hcl hsm hi12 hi1 hi2 hk12
              gi_wp2_with (gi_at_call 95; ((with_reducible refine (HIL.out _).mono ?_); rintro e w5 ⟨rfl, hx5⟩; have hNB := hx5.block HNB.out; have hNA := hx5.block HNA.out; have hNC := hx5.block HNC.out; have hMP := HMPb.out.mono hx5; obtain ⟨o1, hup1, hma1⟩ := store_len hMP HI1.out x.f HN1.out (p.1 - x.n, p.2 - cl); obtain ⟨o2, hup2, hma2⟩ := store_len hma1 HI2.out x.g HN2.out (q.1 + x.n, q.2 + cl); have csb := cell_of hNB; have csa := cell_of hNA; have csb' := cell_of ((World.putObj_heap_other (hMP.notCells hNB)).trans hNB : (w5.putObj bm o1).heap[nb]? = _); have csc' := cell_of ((World.putObj_heap_other (hMP.notCells hNC)).trans hNC : (w5.putObj bm o1).heap[nc]? = _); have HMA2 := hid hma2; have HX5 := hid (HXb.out.trans hx5); clear hMP hma1 hma2 hNB hNA hNC hx5))
              go_roundw
              case rel => exact ⟨k + 1, by omega, by go_num, HUU, hid ⟨below_put (below_put HX5.out (Nat.le_of_lt HBM.out) _) (Nat.le_of_lt HBM.out) _, by rw [HLS.out, HST.out]; exact HMA2.out⟩⟩
              case measure => simp [intOf]; omega
          · obtain rfl : k = xs.length := by omega
            have HAL : Hid (allTo (fun j => lnGood ll (xs.getD j noLn)) xs.length = true) := hid (allTo_yes HG.out)
            have HLB : Hid (lendB ll xs = allTo (fun i => notLess (lentTo ll xs xs.length i)) ll.length) := hid (by unfold lendB; rw [HAL.out]; simp [h12])
            clear HG HBN HAL HXC
            obtain ⟨S, hS⟩ : ∃ S, lentTo ll xs xs.length = S := ⟨_, rfl⟩
            rw [hS] at HI HLB
            have HS := hid hS
            clear hS
            obtain ⟨wi, hri, hxi, hit⟩ := iter_made HI.out.2 Tryz.underlying81
            have HXI := hid (HI.out.1.trans hxi)
            have HI0 := hid HI.out.1
            have HIT := hid hit
            clear hit hxi HI
            gi_wp2_with fail
            clear hri
            have HTL : Hid (w.heap.size ≤ wr.heap.size) := hid HI0.out.size
            generalize wr.heap.size = it at *
            have HJ : Hid (∃ left, IterAt .string wi bm it (entM ll S ll.length) left ∧ (∀ p ∈ entM ll S ll.length, p ∈ left ∨ ∃ z, p.2 = lenV z ∧ notLess z = true) ∧ Ext w wi) := hid ⟨_, HIT.out, fun p hp => .inl hp, HXI.out⟩
            clear HIT HXI
            gi_loopw [15] (fun u15 wr => Hid (∃ left, IterAt .string wr bm it (entM ll S ll.length) left ∧ (∀ p ∈ entM ll S ll.length, p ∈ left ∨ ∃ z, p.2 = lenV z ∧ notLess z = true) ∧ Ext w wr)) (fun _ wr => iterLeft wr bm it)
            case atStart => exact HJ
            case round =>
              clear HJ
              obtain ⟨left, hit, hall, hx⟩ := hrel.out
              clear hrel
              have HCT := hid hit.count
              have HALL := hid hall
              have HX := hid hx
              clear hall hx
              rcases iter_next hit 0 with ⟨hl0, hnx⟩ | ⟨kk, vv, w', o, la', lb', hle, hmem, hnx, hw1, hit', hen⟩
              · have HR : Hid (lendB ll xs = true) := hid (by
                  rw [HLB.out]
                  refine allTo_yes fun i hi => ?_
                  have hm : ((.string (ll.getD i noStk).name, lenV (S i)) : Value × Value) ∈ entM ll S ll.length := List.mem_map.2 ⟨i, List.mem_range.2 hi, rfl⟩
                  rcases HALL.out _ hm with h | ⟨z, hz, hg⟩
                  · rw [hl0] at h; cases h
                  · have : S i = z := by
                      unfold lenV at hz
                      simp at hz
                      exact Prod.ext hz.1 hz.2
                    rw [this]; exact hg)
                have HMM := hid hit.map
                clear hit HALL HCT
                gi_wp2_with fail
                exact bodyPost_ret (v := .tuple #[.map (some bm), .bool true]) (by simp [results, Tryz.results75, go_sem]) rfl ⟨HX.out, .inr ⟨HR.out, bm, rfl, Nat.le_of_lt HBM.out, by rw [HS.out]; exact hid HMM.out⟩⟩
              · have hxw : Ext w w' := by
                  obtain ⟨w1, h1, rfl⟩ := hw1
                  refine below_put ?_ HTL.out o
                  rcases h1 with rfl | rfl
                  · exact HX.out
                  · exact HX.out.trans (Ext.drawn _)
                have hen1 := hen w' (Ext.refl _)
                have HIT := hid hit'
                have HXW := hid hxw
                have HLE := hid hle
                obtain ⟨i, hi, hie⟩ := List.mem_map.1 hmem
                have hi := List.mem_range.1 hi
                obtain ⟨rfl, rfl⟩ : kk = .string (ll.getD i noStk).name ∧ vv = lenV (S i) := ⟨(congrArg Prod.fst hie).symm, (congrArg Prod.snd hie).symm⟩
                have HII := hid hi
                obtain ⟨nm, hnm⟩ : ∃ nm, (ll.getD i noStk).name = nm := ⟨_, rfl⟩
                rw [hnm] at hnx hen1 HLE
                obtain ⟨z, hz⟩ : ∃ z, S i = z := ⟨_, rfl⟩
                rw [hz] at hnx hen1 HLE
                unfold lenV at hnx hen1
                have HZ := hid hz
                clear hit hle hmem hw1 hen hie hi hxw hit' hnm hz
                have hxa : Ext w' (w'.alloc (.cells #[.int .i64 z.1, .int .i64 z.2] 115)) := (Ext.refl _).alloc _
                have HXA := hid hxa
                clear hxa
                by_cases h1 : z.1 < 0
                · have HR : Hid (lendB ll xs = false) := hid (by rw [HLB.out]; exact allTo_no HII.out (by rw [HZ.out]; simp [notLess, h1]))
                  gi_wp2_with fail
                  exact bodyPost_ret (v := .tuple #[.map none, .bool false]) (by simp [results, Tryz.results75, go_sem]) rfl ⟨HXW.out.trans HXA.out, .inl ⟨HR.out, rfl⟩⟩
                · by_cases h2 : z.2 < 0
                  · have HR : Hid (lendB ll xs = false) := hid (by rw [HLB.out]; exact allTo_no HII.out (by rw [HZ.out]; simp [notLess, h2]))
                    gi_wp2_with fail
                    exact bodyPost_ret (v := .tuple #[.map none, .bool false]) (by simp [results, Tryz.results75, go_sem]) rfl ⟨HXW.out.trans HXA.out, .inl ⟨HR.out, rfl⟩⟩
                  · have HG2 : Hid (notLess z = true) := hid (by simp [notLess]; omega)
                    gi_wp2_with fail
                    go_roundw
                    case rel =>
                      refine hid ⟨la' ++ lb', HIT.out.mono HXA.out, fun p hp => ?_, HXW.out.trans HXA.out⟩
                      rcases HALL.out p hp with h | h
                      · rw [HLE.out] at h
                        rcases List.mem_append.1 h with h | h
                        · exact .inl (List.mem_append_left _ h)
                        · rcases List.mem_cons.1 h with rfl | h
                          · exact .inr ⟨z, rfl, HG2.out⟩
                          · exact .inl (List.mem_append_right _ h)
                      · exact .inr h
                    case measure =>
                      rw [HCT.out, (HIT.out.mono HXA.out).count, HLE.out]; simp
      · have HR : Hid (lendB ll xs = false) := hid (by unfold lendB; simp [h12])
        have HX := hid HI.out.1
        have h12i : (12 : Int) < (xs.length : Int) := by omega
        clear HI HBN HMP0
        gi_wp2_with fail
        exact bodyPost_ret (v := .tuple #[.map none, .bool false]) (by simp [results, Tryz.results75, go_sem]) rfl ⟨HX.out, .inl ⟨HR.out, rfl⟩⟩
end
end Go.Proofs.YtjocoadhalimjaaGreat
