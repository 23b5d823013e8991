/- The examples hold. -/
import Derived.Test.YtiklblbjnblkfaaXH
set_option linter.unusedSimpArgs false
set_option linter.unusedVariables false
namespace Go.Proofs.Ytiklblbjnblkfaa
open Go Go.RowKit Go.Shelf

theorem reports_2 (w : World) : Cal 46 #[.int .i64 2] w fun e w' => ∃ v, e = .returned v ∧ Ext w w' ∧ RepsAt w' v (repsL.take 2) := reports_any 2 (by decide) w
theorem reports_3 (w : World) : Cal 46 #[.int .i64 3] w fun e w' => ∃ v, e = .returned v ∧ Ext w w' ∧ RepsAt w' v (repsL.take 3) := reports_any 3 (by decide) w
theorem reports_5 (w : World) : Cal 46 #[.int .i64 5] w fun e w' => ∃ v, e = .returned v ∧ Ext w w' ∧ RepsAt w' v (repsL.take 5) := reports_any 5 (by decide) w
theorem ints_nil (w : World) : IntsAt w (.slice none 0 0) [] := ⟨none, 0, rfl, by simp, fun i h => absurd h (by simp)⟩
theorem ints_new {w w1 : World} {cs : Array Value} {xs : List Int} (n : Nat) (hx : Ext (w.alloc (.cells cs 3)) w1) (hn : xs.length = n) (hm : n ≤ 1000) (hcs : ∀ i (h : i < xs.length), cs[i]? = some (.int .i64 xs[i])) : IntsAt w1 (.slice (some ⟨w.heap.size, 0, none⟩) n n) xs :=
  ⟨_, n, by rw [hn], by omega, fun i hi => ⟨w.heap.size, 0, rfl, lt_of_block (Ext.new hx), by rw [cell_of (Ext.new hx), Nat.zero_add]; exact hcs i hi⟩⟩
theorem casts_new {w w1 : World} {cs : Array Value} {xs : List Cst} (n : Nat) (hx : Ext (w.alloc (.cells cs 64)) w1) (hn : xs.length = n) (hm : n ≤ 1000) (hcs : ∀ i (h : i < xs.length), cs[i * 2]? = some (.int .i64 xs[i].cell) ∧ cs[i * 2 + 1]? = some (.int .i64 xs[i].far)) : CastsAt w1 (.slice (some ⟨w.heap.size, 0, none⟩) n n) xs :=
  ⟨_, n, by rw [hn], by omega, fun i hi => ⟨w.heap.size, 0, rfl, lt_of_block (Ext.new hx), by rw [cell_of (Ext.new hx), Nat.zero_add]; exact (hcs i hi).1, by rw [cell_of (Ext.new hx), Nat.zero_add]; exact (hcs i hi).2⟩⟩

set_option maxRecDepth 100000 in
set_option maxHeartbeats 2000000 in
theorem works_any (w : World) : Cal 23 #[] w fun e w' => e = .returned (.bool true) ∧ Ext w w' := by
  gi_enter Try.func23, Try.ntmps23
  gi_wp2_with (gi_at_call 45; ((with_reducible refine (row_any _).mono ?_); rintro e w1 ⟨dv1, rfl, hx1, hd1⟩))
  gi_wp2_with (gi_at_call 46; ((with_reducible refine (reports_2 _).mono ?_); rintro e w2 ⟨rv2, rfl, hx2, hr2⟩))
  have ht2 : IntsAt (w2.alloc (.cells #[.int .i64 0, .int .i64 2, .int .i64 3] 3)) (.slice (some ⟨w2.heap.size, 0, none⟩) 3 3) [0, 2, 3] := ints_new 3 (Ext.refl _) rfl (by omega) (fun i hi => by rcases (by simp at hi; omega : i = 0 ∨ i = 1 ∨ i = 2) with rfl | rfl | rfl <;> rfl)
  have hxa2 : Ext w2 (w2.alloc (.cells #[.int .i64 0, .int .i64 2, .int .i64 3] 3)) := (Ext.refl _).alloc _
  have HC := hid (IsTrack_any rowD _ dv1 rv2 _ (repsL.take 2) [0, 2, 3] _ (ints_nil _) (hd1.mono (hx2.trans hxa2)) (hr2.mono hxa2) ht2)
  rw [ex_track] at HC
  gi_wp2_with (gi_at_call 16; ((with_reducible refine (HC.out).mono ?_); rintro e w3 ⟨rfl, hx3⟩))
  have HX := hid (hx1.trans (hx2.trans (hxa2.trans hx3)))
  clear hx1 hx2 hxa2 hx3 hd1 hr2 ht2 HC
  gi_wp2_with (gi_at_call 45; ((with_reducible refine (row_any _).mono ?_); rintro e w4 ⟨dv4, rfl, hx4, hd4⟩))
  gi_wp2_with (gi_at_call 46; ((with_reducible refine (reports_3 _).mono ?_); rintro e w5 ⟨rv5, rfl, hx5, hr5⟩))
  have HC := hid (Least_any rowD _ dv4 rv5 (repsL.take 3) w5 (ints_nil _) (hd4.mono hx5) hr5)
  rw [ex_least, ex_leastN, ex_leastT] at HC
  gi_wp2_with (gi_at_call 20; ((with_reducible refine (HC.out).mono ?_); rintro e w6 ⟨v6, rfl, hx6, hv6⟩))
  have HX := hid (HX.out.trans (hx4.trans (hx5.trans hx6)))
  have HT := hid (hv6.out.ints (by simp))
  clear hx4 hx5 hx6 hd4 hr5 hv6 HC
  gi_wp2_with (gi_at_call 45; ((with_reducible refine (row_any _).mono ?_); rintro e w7 ⟨dv7, rfl, hx7, hd7⟩))
  gi_wp2_with (gi_at_call 46; ((with_reducible refine (reports_3 _).mono ?_); rintro e w8 ⟨rv8, rfl, hx8, hr8⟩))
  have HC := hid (Can_any rowD _ dv7 rv8 (repsL.take 3) 1 1 w8 (ints_nil _) (hd7.mono hx8) hr8)
  rw [ex_canE, ex_can] at HC
  gi_wp2_with (gi_at_call 24; ((with_reducible refine (HC.out).mono ?_); rintro e w9 ⟨v9, rfl, hx9, hv9⟩))
  have HX := hid (HX.out.trans (hx7.trans (hx8.trans hx9)))
  have HT := hid (HT.out.mono (hx7.trans (hx8.trans hx9)))
  have HCN := hid (hv9.out.ints (by simp))
  clear hx7 hx8 hx9 hd7 hr8 hv9 HC
  gi_wp2_with (gi_at_call 45; ((with_reducible refine (row_any _).mono ?_); rintro e w10 ⟨dv10, rfl, hx10, hd10⟩))
  gi_wp2_with (gi_at_call 46; ((with_reducible refine (reports_5 _).mono ?_); rintro e w11 ⟨rv11, rfl, hx11, hr11⟩))
  have HC := hid (Liars_any rowD _ dv10 rv11 (repsL.take 5) w11 (ints_nil _) (hd10.mono hx11) hr11)
  rw [ex_liarsE, ex_liars] at HC
  gi_wp2_with (gi_at_call 26; ((with_reducible refine (HC.out).mono ?_); rintro e w12 ⟨v12, rfl, hx12, hv12⟩))
  have HX := hid (HX.out.trans (hx10.trans (hx11.trans hx12)))
  have HT := hid (HT.out.mono (hx10.trans (hx11.trans hx12)))
  have HCN := hid (HCN.out.mono (hx10.trans (hx11.trans hx12)))
  have HLI := hid (hv12.out.ints (by simp))
  clear hx10 hx11 hx12 hd10 hr11 hv12 HC
  have hn : IntsAt (w12.alloc (.cells #[.int .i64 0, .int .i64 0, .int .i64 0] 3)) (.slice (some ⟨w12.heap.size, 0, none⟩) 3 3) [0, 0, 0] := ints_new 3 (Ext.refl _) rfl (by omega) (fun i hi => by rcases (by simp at hi; omega : i = 0 ∨ i = 1 ∨ i = 2) with rfl | rfl | rfl <;> rfl)
  have hxa : Ext w12 (w12.alloc (.cells #[.int .i64 0, .int .i64 0, .int .i64 0] 3)) := (Ext.refl _).alloc _
  have HC := hid (same_any v6 _ _ _ _ (HT.out.mono hxa) hn (by simp [intsOf]))
  rw [show intsOf [0, 0, 0] = [0, 0, 0] from rfl, show decide (([0, 0, 0] : List Int) = [0, 0, 0]) = true by decide] at HC
  gi_wp2_with (gi_at_call 22; ((with_reducible refine (HC.out).mono ?_); rintro e w13 ⟨rfl, hxs⟩))
  have HX := hid (HX.out.trans (hxa.trans hxs))
  have HCN := hid (HCN.out.mono (hxa.trans hxs))
  have HLI := hid (HLI.out.mono (hxa.trans hxs))
  clear hn hxa hxs HC
  have hn : IntsAt (w13.alloc (.cells #[.int .i64 0, .int .i64 1, .int .i64 2] 3)) (.slice (some ⟨w13.heap.size, 0, none⟩) 3 3) [0, 1, 2] := ints_new 3 (Ext.refl _) rfl (by omega) (fun i hi => by rcases (by simp at hi; omega : i = 0 ∨ i = 1 ∨ i = 2) with rfl | rfl | rfl <;> rfl)
  have hxa : Ext w13 (w13.alloc (.cells #[.int .i64 0, .int .i64 1, .int .i64 2] 3)) := (Ext.refl _).alloc _
  have HC := hid (same_any v9 _ _ _ _ (HCN.out.mono hxa) hn (by simp [intsOf]))
  rw [show intsOf [0, 1, 2] = [0, 1, 2] from rfl, show decide (([0, 1, 2] : List Int) = [0, 1, 2]) = true by decide] at HC
  gi_wp2_with (gi_at_call 22; ((with_reducible refine (HC.out).mono ?_); rintro e w14 ⟨rfl, hxs⟩))
  have HX := hid (HX.out.trans (hxa.trans hxs))
  have HLI := hid (HLI.out.mono (hxa.trans hxs))
  clear hn hxa hxs HC
  have hn : IntsAt (w14.alloc (.cells #[.int .i64 1] 3)) (.slice (some ⟨w14.heap.size, 0, none⟩) 1 1) [1] := ints_new 1 (Ext.refl _) rfl (by omega) (fun i hi => by obtain rfl : i = 0 := (by simp at hi; omega); rfl)
  have hxa : Ext w14 (w14.alloc (.cells #[.int .i64 1] 3)) := (Ext.refl _).alloc _
  have HC := hid (same_any v12 _ _ _ _ (HLI.out.mono hxa) hn (by simp [intsOf]))
  rw [show intsOf [1] = [1] from rfl, show decide (([1] : List Int) = [1]) = true by decide] at HC
  gi_wp2_with (gi_at_call 22; ((with_reducible refine (HC.out).mono ?_); rintro e w15 ⟨rfl, hxs⟩))
  have HX := hid (HX.out.trans (hxa.trans hxs))
  clear hn hxa hxs HC
  gi_wp2_with (gi_at_call 45; ((with_reducible refine (row_any _).mono ?_); rintro e w16 ⟨dv16, rfl, hx16, hd16⟩))
  gi_wp2_with (gi_at_call 46; ((with_reducible refine (reports_3 _).mono ?_); rintro e w17 ⟨rv17, rfl, hx17, hr17⟩))
  have ht : CastsAt (w17.alloc (.cells #[.int .i64 1, .int .i64 1, .int .i64 0, .int .i64 0] 64)) (.slice (some ⟨w17.heap.size, 0, none⟩) 2 2) castsN := casts_new 2 (Ext.refl _) rfl (by omega) (fun i hi => by rcases (by simp [castsN] at hi; omega : i = 0 ∨ i = 1) with rfl | rfl <;> exact ⟨rfl, rfl⟩)
  have hxa : Ext w17 (w17.alloc (.cells #[.int .i64 1, .int .i64 1, .int .i64 0, .int .i64 0] 64)) := (Ext.refl _).alloc _
  have HC := hid (Next_any rowD _ dv16 rv17 _ (repsL.take 3) 1 1 castsN _ (ints_nil _) (hd16.mono (hx17.trans hxa)) (hr17.mono hxa) ht)
  rw [ex_nextE, ex_next] at HC
  gi_wp2_with (gi_at_call 28; ((with_reducible refine (HC.out).mono ?_); rintro e w18 ⟨rfl, hx18⟩))
  have HX := hid (HX.out.trans (hx16.trans (hx17.trans (hxa.trans hx18))))
  clear hx16 hx17 hxa hx18 hd16 hr17 ht HC
  gi_wp2_with (gi_at_call 45; ((with_reducible refine (row_any _).mono ?_); rintro e w19 ⟨dv19, rfl, hx19, hd19⟩))
  gi_wp2_with (gi_at_call 46; ((with_reducible refine (reports_3 _).mono ?_); rintro e w20 ⟨rv20, rfl, hx20, hr20⟩))
  have ht : CastsAt (w20.alloc (.cells #[.int .i64 0, .int .i64 0, .int .i64 2, .int .i64 0, .int .i64 1, .int .i64 0] 64)) (.slice (some ⟨w20.heap.size, 0, none⟩) 3 3) castsS := casts_new 3 (Ext.refl _) rfl (by omega) (fun i hi => by rcases (by simp [castsS] at hi; omega : i = 0 ∨ i = 1 ∨ i = 2) with rfl | rfl | rfl <;> exact ⟨rfl, rfl⟩)
  have hxa : Ext w20 (w20.alloc (.cells #[.int .i64 0, .int .i64 0, .int .i64 2, .int .i64 0, .int .i64 1, .int .i64 0] 64)) := (Ext.refl _).alloc _
  have HC := hid (Sure_any rowD _ dv19 rv20 _ (repsL.take 3) 1 1 castsS _ (ints_nil _) (hd19.mono (hx20.trans hxa)) (hr20.mono hxa) ht)
  rw [ex_sureE, ex_sure] at HC
  gi_wp2_with (gi_at_call 30; ((with_reducible refine (HC.out).mono ?_); rintro e w21 ⟨v21, rfl, hx21, hv21⟩))
  have HX := hid (HX.out.trans (hx19.trans (hx20.trans (hxa.trans hx21))))
  have HT := hid (hv21.out.ints (by simp))
  clear hx19 hx20 hxa hx21 hd19 hr20 ht hv21 HC
  have hn : IntsAt (w21.alloc (.cells #[.int .i64 0, .int .i64 1, .int .i64 2] 3)) (.slice (some ⟨w21.heap.size, 0, none⟩) 3 3) [0, 1, 2] := ints_new 3 (Ext.refl _) rfl (by omega) (fun i hi => by rcases (by simp at hi; omega : i = 0 ∨ i = 1 ∨ i = 2) with rfl | rfl | rfl <;> rfl)
  have hxa : Ext w21 (w21.alloc (.cells #[.int .i64 0, .int .i64 1, .int .i64 2] 3)) := (Ext.refl _).alloc _
  have HC := hid (same_any v21 _ _ _ _ (HT.out.mono hxa) hn (by simp [intsOf]))
  rw [show intsOf [0, 1, 2] = [0, 1, 2] from rfl, show decide (([0, 1, 2] : List Int) = [0, 1, 2]) = true by decide] at HC
  gi_wp2_with (gi_at_call 22; ((with_reducible refine (HC.out).mono ?_); rintro e w22 ⟨rfl, hxs⟩))
  have HX := hid (HX.out.trans (hxa.trans hxs))
  clear hn hxa hxs HC
  gi_wp2
  go_ret
  exact ⟨rfl, HX.out⟩
end Go.Proofs.Ytiklblbjnblkfaa
