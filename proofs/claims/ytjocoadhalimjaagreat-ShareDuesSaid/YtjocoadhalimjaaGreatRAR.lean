/- A voyage is valid. -/
import Derived.Test.YtjocoadhalimjaaGreatRAO
import Derived.Test.YtjocoadhalimjaaGreatRAQ
set_option linter.unusedSimpArgs false
set_option linter.unusedVariables false
namespace Go.Proofs.YtjocoadhalimjaaGreat
section
open Go Go.RowKit Go.Shelf

theorem info3b : (Tryz.prog.info? 3).map (fun i => (i.zero, i.size, i.bytes)) = some (some (.int .i64 0), 1, 8) := info3
theorem cells3 : Tryz.prog.cellsOf 3 = 1 := by kernel_rfl
theorem eql90 (a b c x y z : Int) (w : World) : (Op.equalIn 10000 90 (.agg #[.int .i64 a, .int .i64 b, .int .i64 c]) (.agg #[.int .i64 x, .int .i64 y, .int .i64 z])).run Tryz.prog w = .ok (a == x && (b == y && c == z)) w := by
  obtain ⟨inf, hinf, hz0, hz1, hz2⟩ := info_parts info3
  rw [run_equalIn_array w 9999 _ _ Tryz.underlying90 hinf, cells3]
  rw [eqItems_all (fun i => match i with | 0 => a == x | 1 => b == y | _ => c == z) (List.range 3) fun i hi => ?_]
  · simp [List.range_succ, Bool.and_assoc]
  · have hi := List.mem_range.1 hi
    rcases (by omega : i = 0 ∨ i = 1 ∨ i = 2) with rfl | rfl | rfl
    · exact ⟨.int .i64 a, .int .i64 x, by simp [part, isAgg, run_underlying Tryz.underlying3], by simp [part, isAgg, run_underlying Tryz.underlying3], by simp [go_sem]⟩
    · exact ⟨.int .i64 b, .int .i64 y, by simp [part, isAgg, run_underlying Tryz.underlying3], by simp [part, isAgg, run_underlying Tryz.underlying3], by simp [go_sem]⟩
    · exact ⟨.int .i64 c, .int .i64 z, by simp [part, isAgg, run_underlying Tryz.underlying3], by simp [part, isAgg, run_underlying Tryz.underlying3], by simp [go_sem]⟩
/-- A voyage is valid. -/
def validB (gr bo ne cr : Int) (cs : List Int) (ol ll hl : List Stk) : Bool :=
  inB gr 0 10000000 && (decide (cs.length ≤ 10) && (areB 0 gr cs && (decide (0 ≤ gr - cs.sum) && (areB 0 8 [bo, ne, cr] && ((bo + ne + cr == 8) && (stakesB ol && (stakesB ll && (stakesB hl && (bo == back bo ol && (ne == back ne ll && cr == back cr hl))))))))))
def nmOk (l : List Stk) : Prop := ∀ s ∈ l, s.name.size ≤ maxLen
theorem stakes_small {l : List Stk} (h : stakesB l = true) : smallW l := by
  have := stakes_ok h
  exact ⟨fun s hs => by have := (this.2.1 s hs).2; omega, by omega⟩
theorem sumI_b (v : Value) (xs : List Int) (s : Int) (w : World) (hv : IntsAt w v xs) (hb : ∀ x ∈ xs, -1000000000 ≤ x ∧ x ≤ 1000000000) (hl : xs.length ≤ 1000) (h : xs.sum = s) : Cal 83 #[fnV 84, v] w fun e w' => e = .returned (.int .i64 s) ∧ w = w' := by
  subst h; exact sumI_any v xs w hv hb hl
theorem areIn_b (lo hi : Int) (v : Value) (xs : List Int) (b : Bool) (w : World) (hv : IntsAt w v xs) (h : areB lo hi xs = b) : Cal 82 #[.int .i64 lo, .int .i64 hi, v] w fun e w' => e = .returned (.bool b) ∧ w = w' := by
  subst h; exact areIn_any lo hi v xs w hv
theorem areStakes_b (v : Value) (l : List Stk) (b : Bool) (w : World) (hv : StakesAt w v l) (hn : nmOk l) (h : stakesB l = b) : Cal 47 #[v] w fun e w' => e = .returned (.bool b) ∧ Ext w w' := by
  subst h; exact areStakes_any v l w hv hn
theorem ints3 {w : World} {g : Nat} {a b c : Int} {t : TypeId} (h : w.heap[g]? = some (.cells #[.int .i64 a, .int .i64 b, .int .i64 c] t (0, 0))) : IntsAt w (.slice (some ⟨g, 0, none⟩) 3 3) [a, b, c] := by
  refine ⟨_, 3, rfl, by simp, fun i hi => ⟨g, 0, rfl, lt_of_block h, ?_⟩⟩
  rw [cell_of h]
  match i, hi with
  | 0, _ => rfl
  | 1, _ => rfl
  | 2, _ => rfl
set_option maxRecDepth 100000 in
set_option maxHeartbeats 16000000 in
theorem isValid_any (gr bo ne cr : Int) (cv lv mv : Value) (oa la ha : Option Addr) (on oc ln lc hn hc : Nat) (cs : List Int) (ol ll hl : List Stk) (w : World)
    (hcs : IntsAt w cv cs) (ho : StakesAt w (.slice oa on oc) ol) (hl' : StakesAt w (.slice la ln lc) ll) (hh : StakesAt w (.slice ha hn hc) hl) (no : nmOk ol) (nl : nmOk ll) (nh : nmOk hl) :
    Cal 74 #[.agg #[.int .i64 gr, cv, .int .i64 bo, .int .i64 ne, .int .i64 cr, .slice oa on oc, .slice la ln lc, .slice ha hn hc, lv, mv]] w fun e w' => e = .returned (.bool (validB gr bo ne cr cs ol ll hl)) ∧ Ext w w' := by
  have HE7 := hid (fun (u : World) => eighths_any gr bo ne cr cv lv mv oa la ha on oc ln lc hn hc u)
  obtain ⟨ca, cc, rfl, hcl⟩ := id hcs
  have HCS := hid hcs
  have HO := hid ho
  have HL := hid hl'
  have HH := hid hh
  have HNO := hid no
  have HNL := hid nl
  have HNH := hid nh
  clear hcs ho hl' hh no nl nh hcl
  have hX0 : Ext w (w.alloc (.cells #[.int .i64 gr, (.slice ca cs.length cc), .int .i64 bo, .int .i64 ne, .int .i64 cr, .slice oa on oc, .slice la ln lc, .slice ha hn hc, lv, mv] 83)) := (Ext.refl _).alloc _
  have hB0 := Ext.new (w := w) (o := .cells #[.int .i64 gr, (.slice ca cs.length cc), .int .i64 bo, .int .i64 ne, .int .i64 cr, .slice oa on oc, .slice la ln lc, .slice ha hn hc, lv, mv] 83) (Ext.refl _)
  gi_enter Tryz.func74, Tryz.ntmps74
  gi_upto_region 1 with fail
  have HX := hid hX0
  have HB := hid hB0
  generalize w.alloc (.cells #[.int .i64 gr, .slice ca cs.length cc, .int .i64 bo, .int .i64 ne, .int .i64 cr, .slice oa on oc, .slice la ln lc, .slice ha hn hc, lv, mv] 83) = W0 at *
  have cB := cell_of hB0
  clear hX0 hB0
  gi_upto_region 2 with (gi_at_call 77; ((with_reducible refine (HE7.out _).mono ?_); rintro e w1 ⟨rfl, hx1⟩))
  have hxa : Ext W0 (w1.alloc (.cells #[.int .i64 bo, .int .i64 ne, .int .i64 cr] 90)) := hx1.alloc _
  have hg : (w1.alloc (.cells #[.int .i64 bo, .int .i64 ne, .int .i64 cr] 90)).heap[w1.heap.size]? = some (.cells #[.int .i64 bo, .int .i64 ne, .int .i64 cr] 90 (0, 0)) := Ext.new (Ext.refl _)
  have HXn := hid (HX.out.trans hxa)
  have HBn := hid (hxa.block HB.out)
  have HG := hid hg
  clear hxa hg cB HX HB hx1
  generalize w1.alloc (.cells #[.int .i64 bo, .int .i64 ne, .int .i64 cr] 90) = W at *
  generalize w1.heap.size = g at *
  clear w1 W0
  have q0 := fun e : Later W => cell_of (Ext.block e.grown HBn.out)
  have q1 := fun e : Later W => cell_of (Ext.block e.grown HG.out)
  have hq90 := fun (u : World) => eql90 bo ne cr (back bo ol) (back ne ll) (back cr hl) u
  obtain ⟨d, hd⟩ : ∃ d, gr - cs.sum = d := ⟨_, rfl⟩
  obtain ⟨sm, hsm⟩ : ∃ sm, bo + ne + cr = sm := ⟨_, rfl⟩
  have HVB : Hid (validB gr bo ne cr cs ol ll hl = (inB gr 0 10000000 && (decide (cs.length ≤ 10) && (areB 0 gr cs && (decide (0 ≤ d) && (areB 0 8 [bo, ne, cr] && ((sm == 8) && (stakesB ol && (stakesB ll && (stakesB hl && (bo == back bo ol && (ne == back ne ll && cr == back cr hl)))))))))))) := hid (by unfold validB; rw [hd, hsm])
  have HD := hid hd
  have HSM := hid hsm
  clear hd hsm
  cases h1 : inB gr 0 10000000 with
  | false =>
    have H1 := hid h1
    have C1 := hid (fun e : Later W => isIn_b gr 0 10000000 false e.1 H1.out)
    clear h1
    have HR : Hid (validB gr bo ne cr cs ol ll hl = false) := hid (by rw [HVB.out]; simp only [H1.out, Bool.and_true, Bool.and_false, Bool.true_and, Bool.false_and])
    clear H1 HVB HCS HO HL HH HNO HNL HNH HD HSM
    refine quiet_wide 58 (by kernel_rfl) (by kernel_rfl) ?_
    simp only [List.take_succ_cons, List.take_zero, List.drop_succ_cons, List.drop_zero]
    repeat (any_goals (first | go_big_quiet_step ((go_at_call 46; with_reducible exact Cal.quiet_same (C1.out _))) | quiet_step ((go_at_call 46; with_reducible exact Cal.quiet_same (C1.out _)))))
    refine wpQuiet_nil ?_
    rintro w5 ⟨⟨w5q, hx5⟩, hew5⟩
    obtain rfl : w5 = w5q := hew5
    have hx5 : Ext W w5 := hx5
    clear q0 q1 hq90
    gi_wp2_with fail
    go_ret
    exact ⟨by rw [HR.out]; rfl, HXn.out.trans hx5⟩
  | true =>
  have H1 := hid h1
  have C1 := hid (fun e : Later W => isIn_b gr 0 10000000 true e.1 H1.out)
  clear h1
  cases h2 : decide (cs.length ≤ 10) with
  | false =>
    have H2 := hid h2
    have f2 : ¬ (cs.length : Int) ≤ 10 := by have := H2.out; simp at this; omega
    clear h2
    have HR : Hid (validB gr bo ne cr cs ol ll hl = false) := hid (by rw [HVB.out]; simp only [H1.out, H2.out, Bool.and_true, Bool.and_false, Bool.true_and, Bool.false_and])
    clear H1 H2 HVB HCS HO HL HH HNO HNL HNH HD HSM
    refine quiet_wide 58 (by kernel_rfl) (by kernel_rfl) ?_
    simp only [List.take_succ_cons, List.take_zero, List.drop_succ_cons, List.drop_zero]
    repeat (any_goals (first | go_big_quiet_step ((go_at_call 46; with_reducible exact Cal.quiet_same (C1.out _))) | quiet_step ((go_at_call 46; with_reducible exact Cal.quiet_same (C1.out _)))))
    refine wpQuiet_nil ?_
    rintro w5 ⟨⟨w5q, hx5⟩, hew5⟩
    obtain rfl : w5 = w5q := hew5
    have hx5 : Ext W w5 := hx5
    clear q0 q1 hq90
    gi_wp2_with fail
    go_ret
    exact ⟨by rw [HR.out]; rfl, HXn.out.trans hx5⟩
  | true =>
  have H2 := hid h2
  have f2 : (cs.length : Int) ≤ 10 := by have := H2.out; simp at this; omega
  clear h2
  cases h3 : areB 0 gr cs with
  | false =>
    have H3 := hid h3
    have C3 := hid (fun e : Later W => areIn_b 0 gr _ cs false e.1 (HCS.out.mono (HXn.out.trans e.grown)) H3.out)
    clear h3
    have HR : Hid (validB gr bo ne cr cs ol ll hl = false) := hid (by rw [HVB.out]; simp only [H1.out, H2.out, H3.out, Bool.and_true, Bool.and_false, Bool.true_and, Bool.false_and])
    clear H1 H2 H3 HVB HCS HO HL HH HNO HNL HNH HD HSM
    refine quiet_wide 58 (by kernel_rfl) (by kernel_rfl) ?_
    simp only [List.take_succ_cons, List.take_zero, List.drop_succ_cons, List.drop_zero]
    repeat (any_goals (first | go_big_quiet_step ((first | (go_at_call 46; with_reducible exact Cal.quiet_same (C1.out _)) | (go_at_call 82; with_reducible exact Cal.quiet_same (C3.out _)))) | quiet_step ((first | (go_at_call 46; with_reducible exact Cal.quiet_same (C1.out _)) | (go_at_call 82; with_reducible exact Cal.quiet_same (C3.out _))))))
    refine wpQuiet_nil ?_
    rintro w5 ⟨⟨w5q, hx5⟩, hew5⟩
    obtain rfl : w5 = w5q := hew5
    have hx5 : Ext W w5 := hx5
    clear q0 q1 hq90
    gi_wp2_with fail
    go_ret
    exact ⟨by rw [HR.out]; rfl, HXn.out.trans hx5⟩
  | true =>
  have H3 := hid h3
  have C3 := hid (fun e : Later W => areIn_b 0 gr _ cs true e.1 (HCS.out.mono (HXn.out.trans e.grown)) H3.out)
  clear h3
  cases h4 : decide (0 ≤ d) with
  | false =>
    have H4 := hid h4
    have f4 : ¬ 0 ≤ d := by have := H4.out; simp at this; omega
    have i1 := inB_spec H1.out
    have i3 := areB_iff.1 H3.out
    have C4 := hid (fun e : Later W => divided_any gr bo ne cr _ (.slice oa on oc) (.slice ha hn hc) lv mv la ln lc cs e.1 (HCS.out.mono (HXn.out.trans e.grown)) (fun x hx => by have := i3 x hx; omega) (by omega) (by omega))
    rw [HD.out] at C4
    clear i1 i3
    clear h4
    have HR : Hid (validB gr bo ne cr cs ol ll hl = false) := hid (by rw [HVB.out]; simp only [H1.out, H2.out, H3.out, H4.out, Bool.and_true, Bool.and_false, Bool.true_and, Bool.false_and])
    clear H1 H2 H3 H4 HVB HCS HO HL HH HNO HNL HNH HD HSM
    refine quiet_wide 58 (by kernel_rfl) (by kernel_rfl) ?_
    simp only [List.take_succ_cons, List.take_zero, List.drop_succ_cons, List.drop_zero]
    repeat (any_goals (first | go_big_quiet_step ((first | (go_at_call 46; with_reducible exact Cal.quiet_same (C1.out _)) | (go_at_call 82; with_reducible exact Cal.quiet_same (C3.out _)) | (go_at_call 79; with_reducible exact Cal.quiet (C4.out _)))) | quiet_step ((first | (go_at_call 46; with_reducible exact Cal.quiet_same (C1.out _)) | (go_at_call 82; with_reducible exact Cal.quiet_same (C3.out _)) | (go_at_call 79; with_reducible exact Cal.quiet (C4.out _))))))
    refine wpQuiet_nil ?_
    rintro w5 ⟨⟨w5q, hx5⟩, hew5⟩
    obtain rfl : w5 = w5q := hew5
    have hx5 : Ext W w5 := hx5
    clear q0 q1 hq90
    gi_wp2_with fail
    go_ret
    exact ⟨by rw [HR.out]; rfl, HXn.out.trans hx5⟩
  | true =>
  have H4 := hid h4
  have f4 : 0 ≤ d := by have := H4.out; simpa using this
  have i1 := inB_spec H1.out
  have i3 := areB_iff.1 H3.out
  have C4 := hid (fun e : Later W => divided_any gr bo ne cr _ (.slice oa on oc) (.slice ha hn hc) lv mv la ln lc cs e.1 (HCS.out.mono (HXn.out.trans e.grown)) (fun x hx => by have := i3 x hx; omega) (by omega) (by omega))
  rw [HD.out] at C4
  clear i1 i3
  clear h4
  cases h5 : areB 0 8 [bo, ne, cr] with
  | false =>
    have H5 := hid h5
    have C5 := hid (fun e : Later W => areIn_b 0 8 _ [bo, ne, cr] false e.1 (ints3 (Ext.block e.grown HG.out)) H5.out)
    clear h5
    have HR : Hid (validB gr bo ne cr cs ol ll hl = false) := hid (by rw [HVB.out]; simp only [H1.out, H2.out, H3.out, H4.out, H5.out, Bool.and_true, Bool.and_false, Bool.true_and, Bool.false_and])
    clear H1 H2 H3 H4 H5 HVB HCS HO HL HH HNO HNL HNH HD HSM
    refine quiet_wide 58 (by kernel_rfl) (by kernel_rfl) ?_
    simp only [List.take_succ_cons, List.take_zero, List.drop_succ_cons, List.drop_zero]
    repeat (any_goals (first | go_big_quiet_step ((first | (go_at_call 46; with_reducible exact Cal.quiet_same (C1.out _)) | (go_at_call 82; with_reducible exact Cal.quiet_same (C3.out _)) | (go_at_call 79; with_reducible exact Cal.quiet (C4.out _)) | (go_at_call 82; with_reducible exact Cal.quiet_same (C5.out _)))) | quiet_step ((first | (go_at_call 46; with_reducible exact Cal.quiet_same (C1.out _)) | (go_at_call 82; with_reducible exact Cal.quiet_same (C3.out _)) | (go_at_call 79; with_reducible exact Cal.quiet (C4.out _)) | (go_at_call 82; with_reducible exact Cal.quiet_same (C5.out _))))))
    refine wpQuiet_nil ?_
    rintro w5 ⟨⟨w5q, hx5⟩, hew5⟩
    obtain rfl : w5 = w5q := hew5
    have hx5 : Ext W w5 := hx5
    clear q0 q1 hq90
    gi_wp2_with fail
    go_ret
    exact ⟨by rw [HR.out]; rfl, HXn.out.trans hx5⟩
  | true =>
  have H5 := hid h5
  have C5 := hid (fun e : Later W => areIn_b 0 8 _ [bo, ne, cr] true e.1 (ints3 (Ext.block e.grown HG.out)) H5.out)
  clear h5
  cases h6 : (sm == 8) with
  | false =>
    have H6 := hid h6
    have i5 := areB_iff.1 H5.out
    have C6 := hid (fun e : Later W => sumI_b _ [bo, ne, cr] sm e.1 (ints3 (Ext.block e.grown HG.out)) (fun x hx => by have := i5 x hx; omega) (by simp) (by rw [← HSM.out]; simp; omega))
    clear i5
    have f6 : (sm == 8) = false := H6.out
    clear h6
    have HR : Hid (validB gr bo ne cr cs ol ll hl = false) := hid (by rw [HVB.out]; simp only [H1.out, H2.out, H3.out, H4.out, H5.out, H6.out, Bool.and_true, Bool.and_false, Bool.true_and, Bool.false_and])
    clear H1 H2 H3 H4 H5 H6 HVB HCS HO HL HH HNO HNL HNH HD HSM
    refine quiet_wide 58 (by kernel_rfl) (by kernel_rfl) ?_
    simp only [List.take_succ_cons, List.take_zero, List.drop_succ_cons, List.drop_zero]
    repeat (any_goals (first | go_big_quiet_step ((first | (go_at_call 46; with_reducible exact Cal.quiet_same (C1.out _)) | (go_at_call 82; with_reducible exact Cal.quiet_same (C3.out _)) | (go_at_call 79; with_reducible exact Cal.quiet (C4.out _)) | (go_at_call 82; with_reducible exact Cal.quiet_same (C5.out _)) | (go_at_call 83; with_reducible exact Cal.quiet_same (C6.out _)))) | quiet_step ((first | (go_at_call 46; with_reducible exact Cal.quiet_same (C1.out _)) | (go_at_call 82; with_reducible exact Cal.quiet_same (C3.out _)) | (go_at_call 79; with_reducible exact Cal.quiet (C4.out _)) | (go_at_call 82; with_reducible exact Cal.quiet_same (C5.out _)) | (go_at_call 83; with_reducible exact Cal.quiet_same (C6.out _))))))
    refine wpQuiet_nil ?_
    rintro w5 ⟨⟨w5q, hx5⟩, hew5⟩
    obtain rfl : w5 = w5q := hew5
    have hx5 : Ext W w5 := hx5
    clear q0 q1 hq90
    gi_wp2_with fail
    go_ret
    exact ⟨by rw [HR.out]; rfl, HXn.out.trans hx5⟩
  | true =>
  have H6 := hid h6
  have i5 := areB_iff.1 H5.out
  have C6 := hid (fun e : Later W => sumI_b _ [bo, ne, cr] sm e.1 (ints3 (Ext.block e.grown HG.out)) (fun x hx => by have := i5 x hx; omega) (by simp) (by rw [← HSM.out]; simp; omega))
  clear i5
  have f6 : (sm == 8) = true := H6.out
  clear h6
  cases h7 : stakesB ol with
  | false =>
    have H7 := hid h7
    have C7 := hid (fun e : Later W => areStakes_b _ ol false e.1 (HO.out.mono (HXn.out.trans e.grown)) HNO.out H7.out)
    clear h7
    have HR : Hid (validB gr bo ne cr cs ol ll hl = false) := hid (by rw [HVB.out]; simp only [H1.out, H2.out, H3.out, H4.out, H5.out, H6.out, H7.out, Bool.and_true, Bool.and_false, Bool.true_and, Bool.false_and])
    clear H1 H2 H3 H4 H5 H6 H7 HVB HCS HO HL HH HNO HNL HNH HD HSM
    refine quiet_wide 58 (by kernel_rfl) (by kernel_rfl) ?_
    simp only [List.take_succ_cons, List.take_zero, List.drop_succ_cons, List.drop_zero]
    repeat (any_goals (first | go_big_quiet_step ((first | (go_at_call 46; with_reducible exact Cal.quiet_same (C1.out _)) | (go_at_call 82; with_reducible exact Cal.quiet_same (C3.out _)) | (go_at_call 79; with_reducible exact Cal.quiet (C4.out _)) | (go_at_call 82; with_reducible exact Cal.quiet_same (C5.out _)) | (go_at_call 83; with_reducible exact Cal.quiet_same (C6.out _)) | (go_at_call 47; with_reducible exact Cal.quiet (C7.out _)))) | quiet_step ((first | (go_at_call 46; with_reducible exact Cal.quiet_same (C1.out _)) | (go_at_call 82; with_reducible exact Cal.quiet_same (C3.out _)) | (go_at_call 79; with_reducible exact Cal.quiet (C4.out _)) | (go_at_call 82; with_reducible exact Cal.quiet_same (C5.out _)) | (go_at_call 83; with_reducible exact Cal.quiet_same (C6.out _)) | (go_at_call 47; with_reducible exact Cal.quiet (C7.out _))))))
    refine wpQuiet_nil ?_
    rintro w5 ⟨⟨w5q, hx5⟩, hew5⟩
    obtain rfl : w5 = w5q := hew5
    have hx5 : Ext W w5 := hx5
    clear q0 q1 hq90
    gi_wp2_with fail
    go_ret
    exact ⟨by rw [HR.out]; rfl, HXn.out.trans hx5⟩
  | true =>
  have H7 := hid h7
  have C7 := hid (fun e : Later W => areStakes_b _ ol true e.1 (HO.out.mono (HXn.out.trans e.grown)) HNO.out H7.out)
  clear h7
  cases h8 : stakesB ll with
  | false =>
    have H8 := hid h8
    have C8 := hid (fun e : Later W => areStakes_b _ ll false e.1 (HL.out.mono (HXn.out.trans e.grown)) HNL.out H8.out)
    clear h8
    have HR : Hid (validB gr bo ne cr cs ol ll hl = false) := hid (by rw [HVB.out]; simp only [H1.out, H2.out, H3.out, H4.out, H5.out, H6.out, H7.out, H8.out, Bool.and_true, Bool.and_false, Bool.true_and, Bool.false_and])
    clear H1 H2 H3 H4 H5 H6 H7 H8 HVB HCS HO HL HH HNO HNL HNH HD HSM
    refine quiet_wide 58 (by kernel_rfl) (by kernel_rfl) ?_
    simp only [List.take_succ_cons, List.take_zero, List.drop_succ_cons, List.drop_zero]
    repeat (any_goals (first | go_big_quiet_step ((first | (go_at_call 46; with_reducible exact Cal.quiet_same (C1.out _)) | (go_at_call 82; with_reducible exact Cal.quiet_same (C3.out _)) | (go_at_call 79; with_reducible exact Cal.quiet (C4.out _)) | (go_at_call 82; with_reducible exact Cal.quiet_same (C5.out _)) | (go_at_call 83; with_reducible exact Cal.quiet_same (C6.out _)) | (go_at_call 47; with_reducible exact Cal.quiet (C7.out _)) | (go_at_call 47; with_reducible exact Cal.quiet (C8.out _)))) | quiet_step ((first | (go_at_call 46; with_reducible exact Cal.quiet_same (C1.out _)) | (go_at_call 82; with_reducible exact Cal.quiet_same (C3.out _)) | (go_at_call 79; with_reducible exact Cal.quiet (C4.out _)) | (go_at_call 82; with_reducible exact Cal.quiet_same (C5.out _)) | (go_at_call 83; with_reducible exact Cal.quiet_same (C6.out _)) | (go_at_call 47; with_reducible exact Cal.quiet (C7.out _)) | (go_at_call 47; with_reducible exact Cal.quiet (C8.out _))))))
    refine wpQuiet_nil ?_
    rintro w5 ⟨⟨w5q, hx5⟩, hew5⟩
    obtain rfl : w5 = w5q := hew5
    have hx5 : Ext W w5 := hx5
    clear q0 q1 hq90
    gi_wp2_with fail
    go_ret
    exact ⟨by rw [HR.out]; rfl, HXn.out.trans hx5⟩
  | true =>
  have H8 := hid h8
  have C8 := hid (fun e : Later W => areStakes_b _ ll true e.1 (HL.out.mono (HXn.out.trans e.grown)) HNL.out H8.out)
  clear h8
  cases h9 : stakesB hl with
  | false =>
    have H9 := hid h9
    have C9 := hid (fun e : Later W => areStakes_b _ hl false e.1 (HH.out.mono (HXn.out.trans e.grown)) HNH.out H9.out)
    clear h9
    have HR : Hid (validB gr bo ne cr cs ol ll hl = false) := hid (by rw [HVB.out]; simp only [H1.out, H2.out, H3.out, H4.out, H5.out, H6.out, H7.out, H8.out, H9.out, Bool.and_true, Bool.and_false, Bool.true_and, Bool.false_and])
    clear H1 H2 H3 H4 H5 H6 H7 H8 H9 HVB HCS HO HL HH HNO HNL HNH HD HSM
    refine quiet_wide 58 (by kernel_rfl) (by kernel_rfl) ?_
    simp only [List.take_succ_cons, List.take_zero, List.drop_succ_cons, List.drop_zero]
    repeat (any_goals (first | go_big_quiet_step ((first | (go_at_call 46; with_reducible exact Cal.quiet_same (C1.out _)) | (go_at_call 82; with_reducible exact Cal.quiet_same (C3.out _)) | (go_at_call 79; with_reducible exact Cal.quiet (C4.out _)) | (go_at_call 82; with_reducible exact Cal.quiet_same (C5.out _)) | (go_at_call 83; with_reducible exact Cal.quiet_same (C6.out _)) | (go_at_call 47; with_reducible exact Cal.quiet (C7.out _)) | (go_at_call 47; with_reducible exact Cal.quiet (C8.out _)) | (go_at_call 47; with_reducible exact Cal.quiet (C9.out _)))) | quiet_step ((first | (go_at_call 46; with_reducible exact Cal.quiet_same (C1.out _)) | (go_at_call 82; with_reducible exact Cal.quiet_same (C3.out _)) | (go_at_call 79; with_reducible exact Cal.quiet (C4.out _)) | (go_at_call 82; with_reducible exact Cal.quiet_same (C5.out _)) | (go_at_call 83; with_reducible exact Cal.quiet_same (C6.out _)) | (go_at_call 47; with_reducible exact Cal.quiet (C7.out _)) | (go_at_call 47; with_reducible exact Cal.quiet (C8.out _)) | (go_at_call 47; with_reducible exact Cal.quiet (C9.out _))))))
    refine wpQuiet_nil ?_
    rintro w5 ⟨⟨w5q, hx5⟩, hew5⟩
    obtain rfl : w5 = w5q := hew5
    have hx5 : Ext W w5 := hx5
    clear q0 q1 hq90
    gi_wp2_with fail
    go_ret
    exact ⟨by rw [HR.out]; rfl, HXn.out.trans hx5⟩
  | true =>
  have H9 := hid h9
  have C9 := hid (fun e : Later W => areStakes_b _ hl true e.1 (HH.out.mono (HXn.out.trans e.grown)) HNH.out H9.out)
  clear h9
  cases h10 : (bo == back bo ol && (ne == back ne ll && cr == back cr hl)) with
  | false =>
    have H10 := hid h10
    have f10 : (bo == back bo ol && (ne == back ne ll && cr == back cr hl)) = false := H10.out
    have C10 := hid (fun e : Later W => backed_any gr bo ne cr (.slice ca cs.length cc) lv mv oa la ha on oc ln lc hn hc ol ll hl e.1 (HO.out.mono (HXn.out.trans e.grown)) (HL.out.mono (HXn.out.trans e.grown)) (HH.out.mono (HXn.out.trans e.grown)) (stakes_small H7.out) (stakes_small H8.out) (stakes_small H9.out))
    clear h10
    have HR : Hid (validB gr bo ne cr cs ol ll hl = false) := hid (by rw [HVB.out]; simp only [H1.out, H2.out, H3.out, H4.out, H5.out, H6.out, H7.out, H8.out, H9.out, H10.out, Bool.and_true, Bool.and_false, Bool.true_and, Bool.false_and])
    clear H1 H2 H3 H4 H5 H6 H7 H8 H9 H10 HVB HCS HO HL HH HNO HNL HNH HD HSM
    refine quiet_wide 58 (by kernel_rfl) (by kernel_rfl) ?_
    simp only [List.take_succ_cons, List.take_zero, List.drop_succ_cons, List.drop_zero]
    repeat (any_goals (first | go_big_quiet_step ((first | (go_at_call 46; with_reducible exact Cal.quiet_same (C1.out _)) | (go_at_call 82; with_reducible exact Cal.quiet_same (C3.out _)) | (go_at_call 79; with_reducible exact Cal.quiet (C4.out _)) | (go_at_call 82; with_reducible exact Cal.quiet_same (C5.out _)) | (go_at_call 83; with_reducible exact Cal.quiet_same (C6.out _)) | (go_at_call 47; with_reducible exact Cal.quiet (C7.out _)) | (go_at_call 47; with_reducible exact Cal.quiet (C8.out _)) | (go_at_call 47; with_reducible exact Cal.quiet (C9.out _)) | (go_at_call 94; with_reducible exact Cal.quiet (C10.out _)))) | quiet_step ((first | (go_at_call 46; with_reducible exact Cal.quiet_same (C1.out _)) | (go_at_call 82; with_reducible exact Cal.quiet_same (C3.out _)) | (go_at_call 79; with_reducible exact Cal.quiet (C4.out _)) | (go_at_call 82; with_reducible exact Cal.quiet_same (C5.out _)) | (go_at_call 83; with_reducible exact Cal.quiet_same (C6.out _)) | (go_at_call 47; with_reducible exact Cal.quiet (C7.out _)) | (go_at_call 47; with_reducible exact Cal.quiet (C8.out _)) | (go_at_call 47; with_reducible exact Cal.quiet (C9.out _)) | (go_at_call 94; with_reducible exact Cal.quiet (C10.out _))))))
    refine wpQuiet_nil ?_
    rintro w5 ⟨⟨w5q, hx5⟩, hew5⟩
    obtain rfl : w5 = w5q := hew5
    have hx5 : Ext W w5 := hx5
    clear q0 q1 hq90
    gi_wp2_with fail
    go_ret
    exact ⟨by rw [HR.out]; rfl, HXn.out.trans hx5⟩
  | true =>
  have H10 := hid h10
  have f10 : (bo == back bo ol && (ne == back ne ll && cr == back cr hl)) = true := H10.out
  have C10 := hid (fun e : Later W => backed_any gr bo ne cr (.slice ca cs.length cc) lv mv oa la ha on oc ln lc hn hc ol ll hl e.1 (HO.out.mono (HXn.out.trans e.grown)) (HL.out.mono (HXn.out.trans e.grown)) (HH.out.mono (HXn.out.trans e.grown)) (stakes_small H7.out) (stakes_small H8.out) (stakes_small H9.out))
  clear h10
  have HR : Hid (validB gr bo ne cr cs ol ll hl = true) := hid (by rw [HVB.out]; simp only [H1.out, H2.out, H3.out, H4.out, H5.out, H6.out, H7.out, H8.out, H9.out, H10.out, Bool.and_true, Bool.and_false, Bool.true_and, Bool.false_and])
  clear H1 H2 H3 H4 H5 H6 H7 H8 H9 H10 HVB HCS HO HL HH HNO HNL HNH HD HSM
  refine quiet_wide 58 (by kernel_rfl) (by kernel_rfl) ?_
  simp only [List.take_succ_cons, List.take_zero, List.drop_succ_cons, List.drop_zero]
  repeat (any_goals (first | go_big_quiet_step ((first | (go_at_call 46; with_reducible exact Cal.quiet_same (C1.out _)) | (go_at_call 82; with_reducible exact Cal.quiet_same (C3.out _)) | (go_at_call 79; with_reducible exact Cal.quiet (C4.out _)) | (go_at_call 82; with_reducible exact Cal.quiet_same (C5.out _)) | (go_at_call 83; with_reducible exact Cal.quiet_same (C6.out _)) | (go_at_call 47; with_reducible exact Cal.quiet (C7.out _)) | (go_at_call 47; with_reducible exact Cal.quiet (C8.out _)) | (go_at_call 47; with_reducible exact Cal.quiet (C9.out _)) | (go_at_call 94; with_reducible exact Cal.quiet (C10.out _)))) | quiet_step ((first | (go_at_call 46; with_reducible exact Cal.quiet_same (C1.out _)) | (go_at_call 82; with_reducible exact Cal.quiet_same (C3.out _)) | (go_at_call 79; with_reducible exact Cal.quiet (C4.out _)) | (go_at_call 82; with_reducible exact Cal.quiet_same (C5.out _)) | (go_at_call 83; with_reducible exact Cal.quiet_same (C6.out _)) | (go_at_call 47; with_reducible exact Cal.quiet (C7.out _)) | (go_at_call 47; with_reducible exact Cal.quiet (C8.out _)) | (go_at_call 47; with_reducible exact Cal.quiet (C9.out _)) | (go_at_call 94; with_reducible exact Cal.quiet (C10.out _))))))
  refine wpQuiet_nil ?_
  rintro w5 ⟨⟨w5q, hx5⟩, hew5⟩
  obtain rfl : w5 = w5q := hew5
  have hx5 : Ext W w5 := hx5
  clear q0 q1 hq90
  gi_wp2_with fail
  go_ret
  exact ⟨by rw [HR.out]; rfl, HXn.out.trans hx5⟩
end
section
open Go Go.RowKit Go.Shelf Go.MapKept

/-- A loan. -/
structure Ln where
  f : ByteArray
  g : ByteArray
  n : Int
  r : Int
  deriving Inhabited
def noLn : Ln := ⟨ByteArray.empty, ByteArray.empty, 0, 0⟩
def LoansAt (w : World) (v : Value) (l : List Ln) : Prop :=
  ∃ a cap, v = .slice a l.length cap ∧ (l.length ≤ cap ∧ l.length ≤ 1000000000000000) ∧ ∀ i (h : i < l.length), ∃ b off, a = some ⟨b, off, none⟩ ∧ b < w.heap.size ∧
    w.cell? ⟨b, off + i * 4, none⟩ = some (.string l[i].f) ∧ w.cell? ⟨b, off + i * 4 + 1, none⟩ = some (.string l[i].g) ∧ w.cell? ⟨b, off + i * 4 + 2, none⟩ = some (.int .i64 l[i].n) ∧ w.cell? ⟨b, off + i * 4 + 3, none⟩ = some (.int .i64 l[i].r)
theorem LoansAt.mono {w w' : World} {v : Value} {l : List Ln} (h : LoansAt w v l) (hx : Ext w w') : LoansAt w' v l := by
  obtain ⟨a, cap, hv, hl, hc⟩ := h
  refine ⟨a, cap, hv, hl, fun i hi => ?_⟩
  obtain ⟨b, off, ha, hb, h0, h1, h2, h3⟩ := hc i hi
  exact ⟨b, off, ha, Nat.lt_of_lt_of_le hb hx.size, by rw [hx.cell (p := ⟨b, _, none⟩) hb]; exact h0, by rw [hx.cell (p := ⟨b, _, none⟩) hb]; exact h1, by rw [hx.cell (p := ⟨b, _, none⟩) hb]; exact h2, by rw [hx.cell (p := ⟨b, _, none⟩) hb]; exact h3⟩
abbrev LSt := Nat → Int × Int
def nmsOf (l : List Stk) : List ByteArray := l.map (·.name)
def lnGood (l : List Stk) (x : Ln) : Bool := decide (0 ≤ placeN (nmsOf l) x.f) && (decide (0 ≤ placeN (nmsOf l) x.g) && loanB x.f x.g x.n x.r)
/-- A loan more. -/
def lnStep (l : List Stk) (S : LSt) (x : Ln) : LSt := fun i => if (i : Int) = placeN (nmsOf l) x.g then ((S i).1 + x.n, (S i).2 + (8 - x.r) * x.n) else if (i : Int) = placeN (nmsOf l) x.f then ((S i).1 - x.n, (S i).2 - (8 - x.r) * x.n) else S i
def lent0 (l : List Stk) : LSt := fun i => ((l.getD i noStk).weight, 8 * (l.getD i noStk).weight)
def lentTo (l : List Stk) (xs : List Ln) (k : Nat) : LSt := (xs.take k).foldl (lnStep l) (lent0 l)
theorem lentTo_succ (l : List Stk) {xs : List Ln} {k : Nat} (h : k < xs.length) : lentTo l xs (k + 1) = lnStep l (lentTo l xs k) xs[k] := by
  unfold lentTo
  rw [List.take_succ_eq_append_getElem h, List.foldl_append]; rfl
def notLess (p : Int × Int) : Bool := !(decide (p.1 < 0)) && !(decide (p.2 < 0))
/-- The loans are right. -/
def lendB (l : List Stk) (xs : List Ln) : Bool := decide (xs.length ≤ 12) && (allTo (fun k => lnGood l (xs.getD k noLn)) xs.length && allTo (fun i => notLess (lentTo l xs xs.length i)) l.length)
theorem loan_small {x : Ln} (h : loanB x.f x.g x.n x.r = true) : (1 ≤ x.n ∧ x.n ≤ 1000) ∧ (0 ≤ x.r ∧ x.r ≤ 8) ∧ (0 ≤ (8 - x.r) * x.n ∧ (8 - x.r) * x.n ≤ 8000) := by
  unfold loanB at h
  simp only [Bool.and_eq_true] at h
  have h1 := inB_spec h.2.1
  have h2 := inB_spec h.2.2
  refine ⟨h1, h2, Int.mul_nonneg (by omega) (by omega), ?_⟩
  have : (8 - x.r) * x.n ≤ 8 * 1000 := Int.mul_le_mul (by omega) h1.2 (by omega) (by omega)
  omega
theorem lentTo_bound {l : List Stk} {xs : List Ln} (hw : ∀ s ∈ l, 0 ≤ s.weight ∧ s.weight ≤ 1000) : ∀ k, k ≤ xs.length → (∀ j, j < k → lnGood l (xs.getD j noLn) = true) → ∀ i,
    (-(1000 + 1000 * (k : Int)) ≤ (lentTo l xs k i).1 ∧ (lentTo l xs k i).1 ≤ 1000 + 1000 * (k : Int)) ∧ (-(8000 + 8000 * (k : Int)) ≤ (lentTo l xs k i).2 ∧ (lentTo l xs k i).2 ≤ 8000 + 8000 * (k : Int))
  | 0, _, _, i => by
    unfold lentTo lent0
    rw [List.take_zero, List.foldl_nil]
    rcases Nat.lt_or_ge i l.length with h | h
    · rw [getD_of h]
      have := hw _ (List.getElem_mem h)
      simp only; omega
    · rw [List.getD_eq_getElem?_getD, List.getElem?_eq_none h]; simp [noStk]
  | k + 1, h, hg, i => by
    have ih := lentTo_bound hw k (by omega) (fun j hj => hg j (by omega)) i
    rw [lentTo_succ l (by omega)]
    have hk := hg k (by omega)
    rw [getD_of (by omega)] at hk
    unfold lnGood at hk
    simp only [Bool.and_eq_true] at hk
    have hs := loan_small hk.2.2
    generalize xs[k] = x at *
    unfold lnStep
    push_cast
    split
    · simp only; omega
    · split
      · simp only; omega
      · omega
def lenV (p : Int × Int) : Value := .agg #[.int .i64 p.1, .int .i64 p.2]
/-- The map of lenders. -/
def entM (l : List Stk) (S : LSt) (n : Nat) : GMap := (List.range n).map fun i => (.string (l.getD i noStk).name, lenV (S i))
theorem entM_succ (l : List Stk) (S : LSt) (n : Nat) : entM l S (n + 1) = entM l S n ++ [(.string (l.getD n noStk).name, lenV (S n))] := by
  unfold entM; rw [List.range_succ, List.map_append]; rfl
theorem entM_no {l : List Stk} (hd : (l.map (·.name)).Nodup) (S : LSt) {n : Nat} (hn : n < l.length) : ∀ p ∈ entM l S n, p.1 ≠ .string (l.getD n noStk).name := by
  intro p hp he
  unfold entM at hp
  obtain ⟨i, hi, rfl⟩ := List.mem_map.1 hp
  have hi := List.mem_range.1 hi
  simp only at he
  rw [getD_of (by omega), getD_of hn] at he
  have he := Value.string.inj he
  unfold List.Nodup at hd
  rw [List.pairwise_iff_getElem] at hd
  exact hd i n (by simp; omega) (by simpa using hn) hi (by simpa using he)
theorem placeN_iff {l : List ByteArray} (hd : l.Nodup) {n : ByteArray} {i : Nat} (hi : i < l.length) : placeN l n = i ↔ l[i] = n := by
  constructor
  · intro h
    unfold placeN at h
    cases hf : l.findIdx? (fun x => x.toList == n.toList) with
    | none => rw [hf] at h; simp only at h; omega
    | some j =>
      rw [hf] at h
      simp only at h
      have hj : j = i := by omega
      subst hj
      obtain ⟨h1, h2, _⟩ := List.findIdx?_eq_some_iff_getElem.1 hf
      exact names_inj (by simpa using h2)
  · rintro rfl
    refine placeN_at hi (fun j hj => ?_) rfl
    rw [getD_of (by omega), beq_eq_false_iff_ne]
    intro he
    unfold List.Nodup at hd
    rw [List.pairwise_iff_getElem] at hd
    exact hd j i (by omega) hi hj (names_inj he)
theorem placeN_range (l : List ByteArray) (n : ByteArray) : placeN l n = -1 ∨ ∃ i, ∃ h : i < l.length, placeN l n = i ∧ l[i] = n := by
  unfold placeN
  cases hf : l.findIdx? (fun x => x.toList == n.toList) with
  | none => exact .inl rfl
  | some j =>
    obtain ⟨h1, h2, _⟩ := List.findIdx?_eq_some_iff_getElem.1 hf
    exact .inr ⟨j, h1, rfl, names_inj (by simpa using h2)⟩
theorem zero115 (w : World) : (zeroValue 115).run Tryz.prog w = .ok (lenV (0, 0)) w := by simp [zeroValue, go_sem, lenV, show Tryz.t115.zero = some (.agg #[.int .i64 0, .int .i64 0]) from by kernel_rfl]
/-- A lender is looked up. -/
theorem look_len {w : World} {bm : Nat} {l : List Stk} {S : LSt} (hd : (l.map (·.name)).Nodup) (h : GMapAt .string w bm (entM l S l.length)) (n : ByteArray) :
    ∃ p : Int × Int, ∃ ok : Bool, (Instr.lookup 81 (.map (some bm)) (.string n) true).run Tryz.prog w = .ok (.tuple #[.agg #[.int .i64 p.1, .int .i64 p.2], .bool ok]) w ∧ decide (0 ≤ placeN (nmsOf l) n) = ok ∧ (ok = true → ∃ i, i < l.length ∧ placeN (nmsOf l) n = i ∧ (l.getD i noStk).name = n ∧ p = S i) := by
  rcases placeN_range (nmsOf l) n with hp | ⟨i, hi, hp, hn⟩
  · refine ⟨(0, 0), false, ?_, by rw [hp]; rfl, fun h => by cases h⟩
    refine glookup_none h (show IsKey .string (.string n) from trivial) ?_ true Tryz.underlying81 Tryz.underlying9 (zero115 w)
    intro p hp' he
    unfold entM at hp'
    obtain ⟨i, hi, rfl⟩ := List.mem_map.1 hp'
    have hi := List.mem_range.1 hi
    have he := Value.string.inj he
    rw [getD_of hi] at he
    have := (placeN_iff (l := nmsOf l) hd (n := n) (i := i) (by simpa [nmsOf] using hi)).2 (by simpa [nmsOf] using he)
    omega
  · have hi' : i < l.length := by simpa [nmsOf] using hi
    refine ⟨S i, true, ?_, by rw [hp]; simp, fun _ => ⟨i, hi', hp, by rw [getD_of hi', ← hn]; simp [nmsOf], rfl⟩⟩
    refine glookup_some (v := lenV (S i)) h (show IsKey .string (.string n) from trivial) ?_ true Tryz.underlying81 Tryz.underlying9
    unfold entM
    refine List.mem_map.2 ⟨i, List.mem_range.2 hi', ?_⟩
    rw [getD_of hi', ← hn]; simp [nmsOf]
theorem entM_split (l : List Stk) (S T : LSt) {i n : Nat} (hi : i < n) (hT : ∀ j, j ≠ i → T j = S j) : ∃ a b, entM l S n = a ++ (.string (l.getD i noStk).name, lenV (S i)) :: b ∧ entM l T n = a ++ (.string (l.getD i noStk).name, lenV (T i)) :: b := by
  have h1 : List.range n = List.range i ++ i :: (List.range (n - i - 1)).map (fun j => i + 1 + j) := by
    rw [show n = i + 1 + (n - i - 1) by omega, List.range_add, List.range_succ, List.append_assoc]
    simp
    rw [show i + 1 + (n - i - 1) - i - 1 = n - i - 1 by omega]
  refine ⟨(List.range i).map fun j => (.string (l.getD j noStk).name, lenV (S j)), ((List.range (n - i - 1)).map (fun j => i + 1 + j)).map fun j => (.string (l.getD j noStk).name, lenV (S j)), ?_, ?_⟩
  · unfold entM; rw [h1, List.map_append, List.map_cons]
  · unfold entM
    rw [h1, List.map_append, List.map_cons]
    congr 1
    · exact List.map_congr_left fun j hj => by rw [hT j (by have := List.mem_range.1 hj; omega)]
    · congr 1
      refine List.map_congr_left fun j hj => ?_
      obtain ⟨k, _, rfl⟩ := List.mem_map.1 hj
      rw [hT _ (by omega)]
def setS (S : LSt) (i : Nat) (p : Int × Int) : LSt := fun j => if j = i then p else S j
/-- A lender's entry is stored. -/
theorem store_len {w : World} {bm : Nat} {l : List Stk} {S : LSt} (h : GMapAt .string w bm (entM l S l.length)) {i : Nat} (hi : i < l.length) (n : ByteArray) (hn : (l.getD i noStk).name = n) (p : Int × Int) :
    ∃ o, (Instr.mapUpdate 81 (.map (some bm)) (.string n) (.agg #[.int .i64 p.1, .int .i64 p.2])).run Tryz.prog w = .ok () (w.putObj bm o) ∧ GMapAt .string (w.putObj bm o) bm (entM l (setS S i p) l.length) := by
  obtain ⟨a, b, e1, e2⟩ := entM_split l S (setS S i p) hi (fun j hj => by simp [setS, hj])
  rw [e1, hn] at h
  rw [e2, hn]
  have : lenV (setS S i p i) = .agg #[.int .i64 p.1, .int .i64 p.2] := by simp [setS, lenV]
  rw [this]
  exact gupdate_old h (show IsKey .string (.string n) from trivial) _ Tryz.underlying81 Tryz.underlying9
/-- How many entries are still to come. -/
def iterLeft (w : World) (bm it : Nat) : Nat := match w.heap[bm]?, w.heap[it]? with
  | some (.map es _), some (.mapIter _ _ seen _) => (leftOf es seen).size
  | _, _ => 0
theorem IterAt.count {d : TypeDesc} {w : World} {bm it : Nat} {m left : GMap} (h : IterAt d w bm it m left) : iterLeft w bm it = left.length := by
  obtain ⟨es, clock, seen, c0, hb, hm, hs, hk, hi, hc, hne, hl⟩ := h
  unfold iterLeft
  rw [hb, hi, hl]; simp
end
end Go.Proofs.YtjocoadhalimjaaGreat
