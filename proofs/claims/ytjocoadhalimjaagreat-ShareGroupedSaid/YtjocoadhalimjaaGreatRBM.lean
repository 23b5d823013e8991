/- Helpers of the laws: small, weights, fair. -/
import Derived.Test.YtjocoadhalimjaaGreatRBJ
set_option linter.unusedSimpArgs false
set_option linter.unusedVariables false
namespace Go.Proofs.YtjocoadhalimjaaGreat
section
open Go Go.RowKit Go.Shelf

set_option maxRecDepth 100000 in
set_option maxHeartbeats 4000000 in
theorem small_true (v : Value) (l : List Stk) (w : World) (hv : StakesAt w v l) (hl : l.length ≤ 10) (hw : ∀ s ∈ l, 0 ≤ s.weight ∧ s.weight ≤ 1000) : Cal 28 #[v] w fun e w' => e = .returned (.bool true) ∧ w = w' := by
  obtain ⟨a, cap, rfl, ⟨hcap, hlen⟩, hc⟩ := hv
  have HC := hid hc
  have HI := hid (fun (k : Nat) (h : k < l.length) => In_b l[k].weight 0 1000 true w (by have := hw _ (List.getElem_mem h); unfold inB; simp; omega))
  have hle : decide ((l.length : Int) ≤ 10) = true := decide_eq_true (by omega)
  clear hc hw
  gi_enter Tryz.func28, Tryz.ntmps28
  gi_wp2_with fail
  clear hle
  gi_loopw [3, 4] (fun u3 i wr => wr = w ∧ ∃ k : Nat, k ≤ l.length ∧ i = .int .i64 k ∧ u3 = .bool true) (fun _ i _ => l.length - (intOf i).toNat)
  case atStart => exact ⟨rfl, 0, Nat.zero_le _, rfl, rfl⟩
  case round =>
    obtain ⟨rfl, k, hk, rfl, rfl⟩ := hrel
    by_cases hlt : k < l.length
    · have hki : (k : Int) < (l.length : Int) := by omega
      obtain ⟨b, off, rfl, hb, c0, c1⟩ := HC.out k hlt
      have HI2 := hid (HI.out k hlt)
      clear HI
      generalize l[k] = x at *
      gi_wp2_with (gi_at_call 29; ((with_reducible refine (HI2.out).mono ?_); rintro e w1 ⟨rfl, rfl⟩))
      go_roundw
      case rel => exact ⟨by first | rfl | trivial, k + 1, by omega, by go_num, rfl⟩
      case measure => simp [intOf]; omega
    · obtain rfl : k = l.length := by omega
      have hki : ¬ (l.length : Int) < (l.length : Int) := by omega
      gi_wp2_with fail
      go_ret
      exact ⟨rfl, rfl⟩
def wtsL (l : List Stk) : List Int := l.map (·.weight)
theorem wtsL_succ {l : List Stk} {k : Nat} (h : k < l.length) : intsV ((wtsL l).take (k + 1)) = intsV ((wtsL l).take k) ++ [.int .i64 l[k].weight] := by
  unfold wtsL
  rw [List.take_succ_eq_append_getElem (by simpa using h)]
  simp [intsV]
set_option maxRecDepth 100000 in
set_option maxHeartbeats 8000000 in
theorem wtsL_any (v : Value) (l : List Stk) (w : World) (hv : StakesAt w v l) (hl : l.length ≤ 1000) : Cal 31 #[v] w fun e w' => ∃ r, e = .returned r ∧ Ext w w' ∧ Hid (Row w' 3 1 r l.length (intsV (wtsL l))) := by
  obtain ⟨a, cap, rfl, ⟨hcap, hlen⟩, hc⟩ := hv
  have HC := hid hc
  have HN := hid (fun (k : Nat) (h : k < l.length) => wtsL_succ h)
  have HT : Hid ((wtsL l).take l.length = wtsL l) := hid (by unfold wtsL; rw [List.take_of_length_le]; simp)
  obtain ⟨i, hi, hz0, hz1, hz2⟩ := info_parts info3
  have HZ := hid (And.intro hi (And.intro hz0 (And.intro hz1 hz2)))
  clear hc hi hz0 hz1 hz2
  gi_enter Tryz.func31, Tryz.ntmps31
  gi_wp2_with fail
  gi_loopw [3, 4] (fun r i wr => ∃ k : Nat, k ≤ l.length ∧ i = .int .i64 k ∧ Hid (Ext w wr ∧ Row wr 3 1 r k (intsV ((wtsL l).take k)) ∧ ∀ g, r.ownBlock = some g → w.heap.size ≤ g)) (fun _ i _ => l.length - (intOf i).toNat)
  case atStart => exact ⟨0, Nat.zero_le _, rfl, hid ⟨Ext.refl _, by simpa [intsV] using Row.nil _ _ _, fun g h => by simp [Value.ownBlock] at h⟩⟩
  case round =>
    obtain ⟨k, hk, rfl, HI⟩ := hrel
    by_cases hlt : k < l.length
    · have hki : (k : Int) < (l.length : Int) := by omega
      obtain ⟨b, off, rfl, hb, c0, c1⟩ := HC.out k hlt
      have HN2 := hid (HN.out k hlt)
      clear HN
      obtain ⟨hx, hrow, hown⟩ := HI.out
      have hbr : b < wr.heap.size := Nat.lt_of_lt_of_le hb hx.size
      rw [← hx.cell (p := ⟨b, _, none⟩) hb] at c0 c1
      generalize l[k] = x at *
      have HX := hid hx
      have HR := hid hrow
      have HO := hid hown
      obtain ⟨na, nc, rfl⟩ := hrow.isSliceN
      clear HI hx hrow hown
      have hxa : Ext wr (wr.alloc (.cells #[.int .i64 x.weight] 3)) := (Ext.refl _).alloc _
      have hce : (wr.alloc (.cells #[.int .i64 x.weight] 3)).heap[wr.heap.size]? = some (.cells #[.int .i64 x.weight] 3 (0, 0)) := Ext.new (Ext.refl _)
      have HCE := hid (cell_of hce)
      have HXA := hid hxa
      clear hxa hce
      gi_wp2_with (refine wpIn_append_row (fun _ => trivial) rfl (.tmp 11) (.tmp 17) rfl Tryz.underlying23 HZ.out.1 HZ.out.2.1 HZ.out.2.2.1 HZ.out.2.2.2 (by simp [Value.cells]) (by omega) (v := .slice na k nc) rfl (HR.out.mono HXA.out) ⟨wr.heap.size, 0, none⟩ 1 rfl [.int .i64 x.weight] (by simp) (fun j u hj => by match j, hj with | 0, h => (cases h; rw [Addr.add_mid]; exact (HCE.out 0).trans rfl)) (by simp [Value.oneCell']) (by omega) (by omega) ?_; intro v' w' hrow' hgr' how')
      have hn := own_next (HX.out.trans HXA.out) HO.out hgr' how'
      go_roundw
      case rel => exact ⟨k + 1, by omega, by go_num, hid ⟨hn.1, by rw [HN2.out]; exact hrow', hn.2⟩⟩
      case measure => simp [intOf]; omega
    · obtain rfl : k = l.length := by omega
      have hki : ¬ (l.length : Int) < (l.length : Int) := by omega
      gi_wp2_with fail
      go_ret
      exact ⟨_, rfl, HI.out.1, hid (by rw [← HT.out]; exact HI.out.2.1)⟩
end
section
open Go Go.RowKit Go.Shelf

structure FairOk (P : Int) (ls ws : List Int) : Prop where
  len : ls.length = ws.length
  ten : ls.length ≤ 10
  p : 0 ≤ P ∧ P ≤ 10000000
  wb : ∀ i, i < ls.length → 0 ≤ ws.getD i 0 ∧ ws.getD i 0 ≤ 1000000
  lb : ∀ i, i < ls.length → 0 ≤ ls.getD i 0 ∧ ls.getD i 0 ≤ 10000000
  sum : ls.sum = P
  pos : 1 ≤ ws.sum ∧ ws.sum ≤ 10000000
  near : ∀ i, i < ls.length → -ws.sum < ls.getD i 0 * ws.sum - P * ws.getD i 0 ∧ ls.getD i 0 * ws.sum - P * ws.getD i 0 < ws.sum
  mono : ∀ i k, i < ls.length → k < ls.length → ws.getD k 0 < ws.getD i 0 → ls.getD k 0 ≤ ls.getD i 0
theorem mul_bound {x y : Int} (hx : 0 ≤ x ∧ x ≤ 10000000) (hy : 0 ≤ y ∧ y ≤ 10000000) : 0 ≤ x * y ∧ x * y ≤ 100000000000000 := by
  have h0 : 0 ≤ x * y := Int.mul_nonneg hx.1 hy.1
  have h1 : x * y ≤ 10000000 * 10000000 := Int.mul_le_mul hx.2 hy.2 hy.1 (by omega)
  have h2 : (10000000 : Int) * 10000000 = 100000000000000 := by decide
  omega
theorem wrap_mid {x : Int} (h1 : -1000000000000000 ≤ x) (h2 : x ≤ 1000000000000000) : wrap64 x = x := by unfold wrap64; omega
set_option maxRecDepth 100000 in
set_option maxHeartbeats 16000000 in
theorem fair_true (P : Int) (v1 v2 : Value) (ls ws : List Int) (w : World) (h1 : IntsAt w v1 ls) (h2 : IntsAt w v2 ws) (F : FairOk P ls ws) : Cal 30 #[.int .i64 P, v1, v2] w fun e w' => e = .returned (.bool true) ∧ Ext w w' := by
  have HF := hid F
  have HS1 := hid (Sum_any v1 ls w h1 (fun x hx => by obtain ⟨i, hi, rfl⟩ := List.getElem_of_mem hx; have := F.lb i hi; rw [getD_of hi] at this; omega) (by have := F.ten; omega))
  have HS2 := hid (Sum_any v2 ws w h2 (fun x hx => by obtain ⟨i, hi, rfl⟩ := List.getElem_of_mem hx; have := F.wb i (by have := F.len; omega); rw [getD_of hi] at this; omega) (by have := F.ten; have := F.len; omega))
  rw [F.sum] at HS1
  obtain ⟨a, cap, rfl, ⟨hcap, hlen⟩, hc⟩ := h1
  obtain ⟨a2, cap2, rfl, ⟨hcap2, hlen2⟩, hc2⟩ := h2
  have HC1 : Hid (∀ i, i < ls.length → ∃ b off, a = some ⟨b, off, none⟩ ∧ b < w.heap.size ∧ w.cell? ⟨b, off + i, none⟩ = some (.int .i64 (ls.getD i 0))) := hid fun i hi => by rw [getD_of hi]; exact hc i hi
  have HC2 : Hid (∀ i, i < ls.length → ∃ b off, a2 = some ⟨b, off, none⟩ ∧ b < w.heap.size ∧ w.cell? ⟨b, off + i, none⟩ = some (.int .i64 (ws.getD i 0))) := hid fun i hi => by have := F.len; rw [getD_of (by omega)]; exact hc2 i (by omega)
  have hpos := F.pos
  have hl10 := F.ten
  have hPb := F.p
  have hlw : ws.length = ls.length := F.len.symm
  rw [hlw] at hcap2 hlen2 HS2 ⊢
  clear hc hc2 F hlw
  obtain ⟨A, hA⟩ : ∃ A, ws.sum = A := ⟨_, rfl⟩
  have HA := hid hA
  rw [hA] at HS2 hpos
  clear hA
  have hA1 : decide (A < 1) = false := decide_eq_false (by omega)
  have HPOS := hid (And.intro hpos hPb)
  have hwn : wrap64 (-A) = -A := wrap_mid (by omega) (by omega)
  gi_enter Tryz.func30, Tryz.ntmps30
  gi_upto_region 4 with (gi_at_call 34; (first | ((with_reducible refine (HS2.out).mono ?_); rintro e w1 ⟨rfl, rfl⟩) | ((with_reducible refine (HS1.out).mono ?_); rintro e w1 ⟨rfl, rfl⟩)))
  clear hA1 hpos hPb
  gi_wp2_with fail
  gi_loopw [8, 9, 10] (fun i u9 u10 wr => ∃ k : Nat, k ≤ ls.length ∧ i = .int .i64 k ∧ Hid (Ext w wr)) (fun i _ _ _ => ls.length - (intOf i).toNat)
  case atStart => exact ⟨0, Nat.zero_le _, rfl, hid (Ext.refl _)⟩
  case round =>
    obtain ⟨k, hk, rfl, HX⟩ := hrel
    by_cases hlt : k < ls.length
    · have hki : (k : Int) < (ls.length : Int) := by omega
      obtain ⟨b, off, rfl, hb, hcell⟩ := HC1.out k hlt
      obtain ⟨b2, off2, rfl, hb2, hcell2⟩ := HC2.out k hlt
      have hbr : b < wr.heap.size := Nat.lt_of_lt_of_le hb HX.out.size
      have hbr2 : b2 < wr.heap.size := Nat.lt_of_lt_of_le hb2 HX.out.size
      have HCL := hid (fun (u : World) (hu : Ext w u) => And.intro ((hu.cell (p := ⟨b, _, none⟩) hb).trans hcell) ((hu.cell (p := ⟨b2, _, none⟩) hb2).trans hcell2))
      have c1 : ∀ e : Later wr, e.1.cell? ⟨b, off + k, none⟩ = some (.int .i64 (ls.getD k 0)) := fun e => (HCL.out _ (HX.out.trans e.grown)).1
      have c2 : ∀ e : Later wr, e.1.cell? ⟨b2, off2 + k, none⟩ = some (.int .i64 (ws.getD k 0)) := fun e => (HCL.out _ (HX.out.trans e.grown)).2
      have hlb := HF.out.lb k hlt
      have hwb := HF.out.wb k hlt
      have hne := HF.out.near k hlt
      rw [HA.out] at hne
      have HMO := hid (fun j hj => HF.out.mono k j hlt hj)
      obtain ⟨x, hx⟩ : ∃ x, ls.getD k 0 = x := ⟨_, rfl⟩
      obtain ⟨y, hy⟩ : ∃ y, ws.getD k 0 = y := ⟨_, rfl⟩
      rw [hx] at c1 hlb hne HMO HCL
      rw [hy] at c2 hwb hne HMO HCL
      have hm1 := mul_bound hlb (show 0 ≤ A ∧ A ≤ 10000000 by have := HPOS.out; omega)
      have hm2 := mul_bound HPOS.out.2 (show 0 ≤ y ∧ y ≤ 10000000 by omega)
      have HW := hid (And.intro (wrap_mid (x := x * A) (by omega) (by omega)) (And.intro (wrap_mid (x := P * y) (by omega) (by omega)) (wrap_mid (x := x * A - P * y) (by omega) (by omega))))
      have hx0 : decide (x < 0) = false := decide_eq_false (by omega)
      have hn1 : decide (x * A - P * y ≤ -A) = false := decide_eq_false (by omega)
      have hn2 : decide (x * A - P * y ≥ A) = false := decide_eq_false (by omega)
      have HN := hid (And.intro hx0 (And.intro hn1 hn2))
      have HLT := hid hlt
      clear hm1 hm2 hne hlb hwb hcell hcell2 hx hy hx0 hn1 hn2 hb hb2 hbr hbr2 hlt
      gi_upto_region 7 with fail
      obtain ⟨hw1, hw2, hw3⟩ := HW.out
      refine quiet_wide 13 (by kernel_rfl) (by kernel_rfl) ?_
      simp only [List.take_succ_cons, List.take_zero, List.drop_succ_cons, List.drop_zero]
      repeat (any_goals (first | go_big_quiet_step (fail) | quiet_step (fail)))
      refine wpQuiet_nil ?_
      rintro w5 ⟨⟨w5q, hx5⟩, hew5⟩
      obtain rfl : w5 = w5q := hew5
      have HXw5 : Hid (Ext w w5) := hid (HX.out.trans (show Ext wr w5 from hx5))
      clear hx5

      simp only [hw1, hw2, hw3]
      obtain ⟨q, hq⟩ : ∃ q, x * A - P * y = q := ⟨_, rfl⟩
      rw [hq] at HN ⊢
      clear hw1 hw2 hw3 HW hq c1 c2
      have d1 := (HCL.out _ HXw5.out).1
      obtain ⟨hx0, hn1, hn2⟩ := HN.out
      clear HX
      gi_upto_region 10 with fail
      clear d1 hx0 hn1 hn2
      gi_wp2_with fail
      gi_loopw [10] (fun i wr => ∃ j : Nat, j ≤ ls.length ∧ i = .int .i64 j ∧ Hid (Ext w wr)) (fun i _ => ls.length - (intOf i).toNat)
      case atStart => exact ⟨0, Nat.zero_le _, rfl, HXw5⟩
      case round =>
        obtain ⟨j, hj, rfl, HX⟩ := hrel
        by_cases hjl : j < ls.length
        · have hji : (j : Int) < (ls.length : Int) := by omega
          obtain ⟨b', off', e1, hb, hcell⟩ := HC1.out j hjl
          cases e1
          obtain ⟨b2', off2', e2, hb2, hcell2⟩ := HC2.out j hjl
          cases e2
          have c1 : ∀ e : Later wr, e.1.cell? ⟨b, off + k, none⟩ = some (.int .i64 x) := fun e => (HCL.out _ (HX.out.trans e.grown)).1
          have c2 : ∀ e : Later wr, e.1.cell? ⟨b2, off2 + k, none⟩ = some (.int .i64 y) := fun e => (HCL.out _ (HX.out.trans e.grown)).2
          have c3 : ∀ e : Later wr, e.1.cell? ⟨b, off + j, none⟩ = some (.int .i64 (ls.getD j 0)) := fun e => ((HX.out.trans e.grown).cell (p := ⟨b, _, none⟩) hb).trans hcell
          have c4 : ∀ e : Later wr, e.1.cell? ⟨b2, off2 + j, none⟩ = some (.int .i64 (ws.getD j 0)) := fun e => ((HX.out.trans e.grown).cell (p := ⟨b2, _, none⟩) hb2).trans hcell2
          have hmo := HMO.out j hjl
          obtain ⟨x', hx'⟩ : ∃ x, ls.getD j 0 = x := ⟨_, rfl⟩
          obtain ⟨y', hy'⟩ : ∃ y, ws.getD j 0 = y := ⟨_, rfl⟩
          rw [hx'] at c3 hmo
          rw [hy'] at c4 hmo
          have HJL := hid hjl
          clear hx' hy' hb hb2 hcell hcell2 hjl
          have hki : (k : Int) < (ls.length : Int) := by have := HLT.out; omega
          by_cases hyy : y' < y
          · have hd : decide (y > y') = true := decide_eq_true hyy
            have hd2 : decide (x < x') = false := decide_eq_false (by have := hmo hyy; omega)
            clear hyy hmo
            gi_upto_region 13 with fail
            refine quiet_wide 20 (by kernel_rfl) (by kernel_rfl) ?_
            simp only [List.take_succ_cons, List.take_zero, List.drop_succ_cons, List.drop_zero]
            repeat (any_goals (first | go_big_quiet_step (fail) | quiet_step (fail)))
            refine wpQuiet_nil ?_
            rintro w6 ⟨⟨w6q, hx5⟩, hew5⟩
            obtain rfl : w6 = w6q := hew5
            have HXw6 : Hid (Ext w w6) := hid (HX.out.trans (show Ext wr w6 from hx5))
            clear hx5

            clear c1 c2 c3 c4
            gi_wp2_with fail
            go_roundw
            case rel => exact ⟨j + 1, by have := HJL.out; omega, by go_num, HXw6⟩
            case measure => have := HJL.out; simp [intOf]; omega
          · have hd : decide (y > y') = false := decide_eq_false hyy
            clear hyy hmo
            gi_upto_region 13 with fail
            refine quiet_wide 20 (by kernel_rfl) (by kernel_rfl) ?_
            simp only [List.take_succ_cons, List.take_zero, List.drop_succ_cons, List.drop_zero]
            repeat (any_goals (first | go_big_quiet_step (fail) | quiet_step (fail)))
            refine wpQuiet_nil ?_
            rintro w6 ⟨⟨w6q, hx5⟩, hew5⟩
            obtain rfl : w6 = w6q := hew5
            have HXw6 : Hid (Ext w w6) := hid (HX.out.trans (show Ext wr w6 from hx5))
            clear hx5

            clear c1 c2 c3 c4
            gi_wp2_with fail
            go_roundw
            case rel => exact ⟨j + 1, by have := HJL.out; omega, by go_num, HXw6⟩
            case measure => have := HJL.out; simp [intOf]; omega
        · obtain rfl : j = ls.length := by omega
          have hji : ¬ (ls.length : Int) < (ls.length : Int) := by omega
          have HX9 := hid HX.out
          clear hjl
          gi_wp2_with fail
          go_roundw
          case rel => exact ⟨k + 1, by have := HLT.out; omega, by go_num, HX9⟩
          case measure => have := HLT.out; simp [intOf]; omega
    · obtain rfl : k = ls.length := by omega
      have hki : ¬ (ls.length : Int) < (ls.length : Int) := by omega
      gi_wp2_with fail
      go_ret
      exact ⟨rfl, HX.out⟩
end
end Go.Proofs.YtjocoadhalimjaaGreat
