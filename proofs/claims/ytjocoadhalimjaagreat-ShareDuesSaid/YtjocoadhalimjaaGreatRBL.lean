/- What is fair: the law helper fair, and that what a division gives is so. -/
import Derived.Test.YtjocoadhalimjaaGreatRBK
set_option linter.unusedSimpArgs false
set_option linter.unusedVariables false
namespace Go.Proofs.YtjocoadhalimjaaGreat
section
open Go Go.RowKit Go.Shelf

structure FairOk (P : Int) (ls ws : List Int) : Prop where
  len : ls.length = ws.length
  ten : ls.length ≤ 10
  p : 0 ≤ P ∧ P ≤ 10000000
  wb : ∀ i, i < ls.length → 0 ≤ ws.getD i 0 ∧ ws.getD i 0 ≤ 1000000
  lb : ∀ i, i < ls.length → 0 ≤ ls.getD i 0 ∧ ls.getD i 0 ≤ 10000000
  sum : ls.sum = P
  pos : 1 ≤ ws.sum ∧ ws.sum ≤ 10000000
  near : ∀ i, i < ls.length → -ws.sum < ls.getD i 0 * ws.sum - P * ws.getD i 0 ∧ ls.getD i 0 * ws.sum - P * ws.getD i 0 < ws.sum
  mono : ∀ i k, i < ls.length → k < ls.length → ws.getD k 0 < ws.getD i 0 → ls.getD k 0 ≤ ls.getD i 0
theorem mul_bound {x y : Int} (hx : 0 ≤ x ∧ x ≤ 10000000) (hy : 0 ≤ y ∧ y ≤ 10000000) : 0 ≤ x * y ∧ x * y ≤ 100000000000000 := by
  have h0 : 0 ≤ x * y := Int.mul_nonneg hx.1 hy.1
  have h1 : x * y ≤ 10000000 * 10000000 := Int.mul_le_mul hx.2 hy.2 hy.1 (by omega)
  have h2 : (10000000 : Int) * 10000000 = 100000000000000 := by decide
  omega
theorem wrap_mid {x : Int} (h1 : -1000000000000000 ≤ x) (h2 : x ≤ 1000000000000000) : wrap64 x = x := by unfold wrap64; omega
set_option maxRecDepth 100000 in
set_option maxHeartbeats 16000000 in
theorem fair_true (P : Int) (v1 v2 : Value) (ls ws : List Int) (w : World) (h1 : IntsAt w v1 ls) (h2 : IntsAt w v2 ws) (F : FairOk P ls ws) : Cal 30 #[.int .i64 P, v1, v2] w fun e w' => e = .returned (.bool true) ∧ Ext w w' := by
  have HF := hid F
  have HS1 := hid (Sum_any v1 ls w h1 (fun x hx => by obtain ⟨i, hi, rfl⟩ := List.getElem_of_mem hx; have := F.lb i hi; rw [getD_of hi] at this; omega) (by have := F.ten; omega))
  have HS2 := hid (Sum_any v2 ws w h2 (fun x hx => by obtain ⟨i, hi, rfl⟩ := List.getElem_of_mem hx; have := F.wb i (by have := F.len; omega); rw [getD_of hi] at this; omega) (by have := F.ten; have := F.len; omega))
  rw [F.sum] at HS1
  obtain ⟨a, cap, rfl, ⟨hcap, hlen⟩, hc⟩ := h1
  obtain ⟨a2, cap2, rfl, ⟨hcap2, hlen2⟩, hc2⟩ := h2
  have HC1 : Hid (∀ i, i < ls.length → ∃ b off, a = some ⟨b, off, none⟩ ∧ b < w.heap.size ∧ w.cell? ⟨b, off + i, none⟩ = some (.int .i64 (ls.getD i 0))) := hid fun i hi => by rw [getD_of hi]; exact hc i hi
  have HC2 : Hid (∀ i, i < ls.length → ∃ b off, a2 = some ⟨b, off, none⟩ ∧ b < w.heap.size ∧ w.cell? ⟨b, off + i, none⟩ = some (.int .i64 (ws.getD i 0))) := hid fun i hi => by have := F.len; rw [getD_of (by omega)]; exact hc2 i (by omega)
  have hpos := F.pos
  have hl10 := F.ten
  have hPb := F.p
  have hlw : ws.length = ls.length := F.len.symm
  rw [hlw] at hcap2 hlen2 HS2 ⊢
  clear hc hc2 F hlw
  obtain ⟨A, hA⟩ : ∃ A, ws.sum = A := ⟨_, rfl⟩
  have HA := hid hA
  rw [hA] at HS2 hpos
  clear hA
  have hA1 : decide (A < 1) = false := decide_eq_false (by omega)
  have HPOS := hid (And.intro hpos hPb)
  have hwn : wrap64 (-A) = -A := wrap_mid (by omega) (by omega)
  gi_enter Tryz.func30, Tryz.ntmps30
  gi_upto_region 4 with (gi_at_call 34; (first | ((with_reducible refine (HS2.out).mono ?_); rintro e w1 ⟨rfl, rfl⟩) | ((with_reducible refine (HS1.out).mono ?_); rintro e w1 ⟨rfl, rfl⟩)))
  clear hA1 hpos hPb
  gi_wp2_with fail
  gi_loopw [8, 9, 10] (fun i u9 u10 wr => ∃ k : Nat, k ≤ ls.length ∧ i = .int .i64 k ∧ Hid (Ext w wr)) (fun i _ _ _ => ls.length - (intOf i).toNat)
  case atStart => exact ⟨0, Nat.zero_le _, rfl, hid (Ext.refl _)⟩
  case round =>
    obtain ⟨k, hk, rfl, HX⟩ := hrel
    by_cases hlt : k < ls.length
    · have hki : (k : Int) < (ls.length : Int) := by omega
      obtain ⟨b, off, rfl, hb, hcell⟩ := HC1.out k hlt
      obtain ⟨b2, off2, rfl, hb2, hcell2⟩ := HC2.out k hlt
      have hbr : b < wr.heap.size := Nat.lt_of_lt_of_le hb HX.out.size
      have hbr2 : b2 < wr.heap.size := Nat.lt_of_lt_of_le hb2 HX.out.size
      have HCL := hid (fun (u : World) (hu : Ext w u) => And.intro ((hu.cell (p := ⟨b, _, none⟩) hb).trans hcell) ((hu.cell (p := ⟨b2, _, none⟩) hb2).trans hcell2))
      have c1 : ∀ e : Later wr, e.1.cell? ⟨b, off + k, none⟩ = some (.int .i64 (ls.getD k 0)) := fun e => (HCL.out _ (HX.out.trans e.grown)).1
      have c2 : ∀ e : Later wr, e.1.cell? ⟨b2, off2 + k, none⟩ = some (.int .i64 (ws.getD k 0)) := fun e => (HCL.out _ (HX.out.trans e.grown)).2
      have hlb := HF.out.lb k hlt
      have hwb := HF.out.wb k hlt
      have hne := HF.out.near k hlt
      rw [HA.out] at hne
      have HMO := hid (fun j hj => HF.out.mono k j hlt hj)
      obtain ⟨x, hx⟩ : ∃ x, ls.getD k 0 = x := ⟨_, rfl⟩
      obtain ⟨y, hy⟩ : ∃ y, ws.getD k 0 = y := ⟨_, rfl⟩
      rw [hx] at c1 hlb hne HMO HCL
      rw [hy] at c2 hwb hne HMO HCL
      have hm1 := mul_bound hlb (show 0 ≤ A ∧ A ≤ 10000000 by have := HPOS.out; omega)
      have hm2 := mul_bound HPOS.out.2 (show 0 ≤ y ∧ y ≤ 10000000 by omega)
      have HW := hid (And.intro (wrap_mid (x := x * A) (by omega) (by omega)) (And.intro (wrap_mid (x := P * y) (by omega) (by omega)) (wrap_mid (x := x * A - P * y) (by omega) (by omega))))
      have hx0 : decide (x < 0) = false := decide_eq_false (by omega)
      have hn1 : decide (x * A - P * y ≤ -A) = false := decide_eq_false (by omega)
      have hn2 : decide (x * A - P * y ≥ A) = false := decide_eq_false (by omega)
      have HN := hid (And.intro hx0 (And.intro hn1 hn2))
      have HLT := hid hlt
      clear hm1 hm2 hne hlb hwb hcell hcell2 hx hy hx0 hn1 hn2 hb hb2 hbr hbr2 hlt
      gi_upto_region 7 with fail
      obtain ⟨hw1, hw2, hw3⟩ := HW.out
      refine quiet_wide 13 (by kernel_rfl) (by kernel_rfl) ?_
      simp only [List.take_succ_cons, List.take_zero, List.drop_succ_cons, List.drop_zero]
      repeat (any_goals (first | go_big_quiet_step (fail) | quiet_step (fail)))
      refine wpQuiet_nil ?_
      rintro w5 ⟨⟨w5q, hx5⟩, hew5⟩
      obtain rfl : w5 = w5q := hew5
      have HXw5 : Hid (Ext w w5) := hid (HX.out.trans (show Ext wr w5 from hx5))
      clear hx5

      simp only [hw1, hw2, hw3]
      obtain ⟨q, hq⟩ : ∃ q, x * A - P * y = q := ⟨_, rfl⟩
      rw [hq] at HN ⊢
      clear hw1 hw2 hw3 HW hq c1 c2
      have d1 := (HCL.out _ HXw5.out).1
      obtain ⟨hx0, hn1, hn2⟩ := HN.out
      clear HX
      gi_upto_region 10 with fail
      clear d1 hx0 hn1 hn2
      gi_wp2_with fail
      gi_loopw [10] (fun i wr => ∃ j : Nat, j ≤ ls.length ∧ i = .int .i64 j ∧ Hid (Ext w wr)) (fun i _ => ls.length - (intOf i).toNat)
      case atStart => exact ⟨0, Nat.zero_le _, rfl, HXw5⟩
      case round =>
        obtain ⟨j, hj, rfl, HX⟩ := hrel
        by_cases hjl : j < ls.length
        · have hji : (j : Int) < (ls.length : Int) := by omega
          obtain ⟨b', off', e1, hb, hcell⟩ := HC1.out j hjl
          cases e1
          obtain ⟨b2', off2', e2, hb2, hcell2⟩ := HC2.out j hjl
          cases e2
          have c1 : ∀ e : Later wr, e.1.cell? ⟨b, off + k, none⟩ = some (.int .i64 x) := fun e => (HCL.out _ (HX.out.trans e.grown)).1
          have c2 : ∀ e : Later wr, e.1.cell? ⟨b2, off2 + k, none⟩ = some (.int .i64 y) := fun e => (HCL.out _ (HX.out.trans e.grown)).2
          have c3 : ∀ e : Later wr, e.1.cell? ⟨b, off + j, none⟩ = some (.int .i64 (ls.getD j 0)) := fun e => ((HX.out.trans e.grown).cell (p := ⟨b, _, none⟩) hb).trans hcell
          have c4 : ∀ e : Later wr, e.1.cell? ⟨b2, off2 + j, none⟩ = some (.int .i64 (ws.getD j 0)) := fun e => ((HX.out.trans e.grown).cell (p := ⟨b2, _, none⟩) hb2).trans hcell2
          have hmo := HMO.out j hjl
          obtain ⟨x', hx'⟩ : ∃ x, ls.getD j 0 = x := ⟨_, rfl⟩
          obtain ⟨y', hy'⟩ : ∃ y, ws.getD j 0 = y := ⟨_, rfl⟩
          rw [hx'] at c3 hmo
          rw [hy'] at c4 hmo
          have HJL := hid hjl
          clear hx' hy' hb hb2 hcell hcell2 hjl
          have hki : (k : Int) < (ls.length : Int) := by have := HLT.out; omega
          by_cases hyy : y' < y
          · have hd : decide (y > y') = true := decide_eq_true hyy
            have hd2 : decide (x < x') = false := decide_eq_false (by have := hmo hyy; omega)
            clear hyy hmo
            gi_upto_region 13 with fail
            refine quiet_wide 20 (by kernel_rfl) (by kernel_rfl) ?_
            simp only [List.take_succ_cons, List.take_zero, List.drop_succ_cons, List.drop_zero]
            repeat (any_goals (first | go_big_quiet_step (fail) | quiet_step (fail)))
            refine wpQuiet_nil ?_
            rintro w6 ⟨⟨w6q, hx5⟩, hew5⟩
            obtain rfl : w6 = w6q := hew5
            have HXw6 : Hid (Ext w w6) := hid (HX.out.trans (show Ext wr w6 from hx5))
            clear hx5

            clear c1 c2 c3 c4
            gi_wp2_with fail
            go_roundw
            case rel => exact ⟨j + 1, by have := HJL.out; omega, by go_num, HXw6⟩
            case measure => have := HJL.out; simp [intOf]; omega
          · have hd : decide (y > y') = false := decide_eq_false hyy
            clear hyy hmo
            gi_upto_region 13 with fail
            refine quiet_wide 20 (by kernel_rfl) (by kernel_rfl) ?_
            simp only [List.take_succ_cons, List.take_zero, List.drop_succ_cons, List.drop_zero]
            repeat (any_goals (first | go_big_quiet_step (fail) | quiet_step (fail)))
            refine wpQuiet_nil ?_
            rintro w6 ⟨⟨w6q, hx5⟩, hew5⟩
            obtain rfl : w6 = w6q := hew5
            have HXw6 : Hid (Ext w w6) := hid (HX.out.trans (show Ext wr w6 from hx5))
            clear hx5

            clear c1 c2 c3 c4
            gi_wp2_with fail
            go_roundw
            case rel => exact ⟨j + 1, by have := HJL.out; omega, by go_num, HXw6⟩
            case measure => have := HJL.out; simp [intOf]; omega
        · obtain rfl : j = ls.length := by omega
          have hji : ¬ (ls.length : Int) < (ls.length : Int) := by omega
          have HX9 := hid HX.out
          clear hjl
          gi_wp2_with fail
          go_roundw
          case rel => exact ⟨k + 1, by have := HLT.out; omega, by go_num, HX9⟩
          case measure => have := HLT.out; simp [intOf]; omega
    · obtain rfl : k = ls.length := by omega
      have hki : ¬ (ls.length : Int) < (ls.length : Int) := by omega
      gi_wp2_with fail
      go_ret
      exact ⟨rfl, HX.out⟩
end
section
open Go Go.RowKit Go.Shelf

theorem undef_no' {b : Bool} (h : some undef = some (Value.bool b)) : False := by cases h
theorem pysF_len (ps : List Py) : (pysF ps).length = ps.length * 3 := by
  induction ps with
  | nil => rfl
  | cons p ps ih => 
    have e : pysF (p :: ps) = [.int .i64 p.a, .int .i64 p.z, .int .i64 p.s] ++ pysF ps := rfl
    rw [e, List.length_append, ih]; simp; omega
theorem pysF_set : ∀ (ps : List Py) (k : Nat) (q : Py), k < ps.length → pysF (ps.set k q) = (pysF ps).take (k * 3) ++ [.int .i64 q.a, .int .i64 q.z, .int .i64 q.s] ++ (pysF ps).drop (k * 3 + 3)
  | [], k, q, h => by simp at h
  | p :: ps, 0, q, h => by
    have e : pysF (p :: ps) = [.int .i64 p.a, .int .i64 p.z, .int .i64 p.s] ++ pysF ps := rfl
    rw [e]; rfl
  | p :: ps, k + 1, q, h => by
    have e : pysF (p :: ps) = [.int .i64 p.a, .int .i64 p.z, .int .i64 p.s] ++ pysF ps := rfl
    have ih := pysF_set ps k q (by simpa using h)
    have e2 : pysF ((p :: ps).set (k + 1) q) = [.int .i64 p.a, .int .i64 p.z, .int .i64 p.s] ++ pysF (ps.set k q) := rfl
    rw [e2, e, ih, show (k + 1) * 3 = k * 3 + 3 by omega]
    simp only [List.cons_append, List.nil_append, List.take_succ_cons, List.drop_succ_cons]
theorem app_pays {w : World} {v : Value} {n : Nat} {xs : List Value} (h : Row w 74 3 v n xs) (p : Addr) (c : Nat) (m : List Py) (hn : n + m.length ≤ 1000000) (hnews : ∀ j u, (pysF m)[j]? = some u → w.cell? (p.add j) = some u) :
    ∃ v' w', (Builtin.append_ #[67, 67] 67 #[v, .slice (some p) m.length c]).run Tryz.prog w = .ok v' w' ∧ Row w' 74 3 v' (n + m.length) (xs ++ pysF m) ∧ w.grownBy w' v.ownBlock ∧ (v'.ownBlock = v.ownBlock ∨ v'.ownBlock = some w.heap.size) := by
  obtain ⟨i, hi, hz0, hz1, hz2⟩ := info_parts info74
  rcases Nat.eq_zero_or_pos m.length with h0 | h0
  · have hm : m = [] := List.eq_nil_of_length_eq_zero h0
    subst hm
    obtain ⟨sa, sc, rfl⟩ := h.isSliceN
    have hc : n ≤ sc := by
      rcases h.2 with ⟨e, h0⟩ | ⟨g, cap, cur, e, _, h1, _⟩
      · omega
      · cases e; exact h1
    exact ⟨_, w, append_none Tryz.underlying67 hi hc (some p) c, by simpa [pysF] using h, ⟨rfl, rfl, rfl, Nat.le_refl _, fun _ _ _ => rfl⟩, .inl rfl⟩
  · exact append_rows (sz := 3) (bytes := 24) (t := 67) (ty := 67) Tryz.underlying67 hi hz0 hz1 hz2 (by simp [Value.cells]) (by omega) h0 h p c (pysF m) (pysF_len m) hnews (pysF_one m) (by omega) (by omega)
/-- All payments but one. -/
theorem less_pays {w0 w : World} {b : Nat} {sc c1 c2 : Nat} {p2 : Addr} {l : List Py} (hx : Ext w0 w) (h : Row w0 74 3 (.slice (some ⟨b, 0, none⟩) l.length sc) l.length (pysF l)) {k : Nat} (hk : k < l.length) (h0 : l.length ≤ 1000) (hp : k + 1 < l.length → p2 = ⟨b, (k + 1) * 3, none⟩) :
    ∃ v1 w1, (Builtin.append_ #[67, 67] 67 #[.slice (some ⟨w.heap.size, 0, none⟩) 0 0, .slice (some ⟨b, 0, none⟩) k c1]).run Tryz.prog (w.alloc (.cells #[] 74)) = .ok v1 w1 ∧ Ext w w1 ∧
      ∃ v2 w2, (Builtin.append_ #[67, 67] 67 #[v1, .slice (some p2) (l.length - (k + 1)) c2]).run Tryz.prog w1 = .ok v2 w2 ∧
      Row w2 74 3 v2 (l.length - 1) (pysF (l.take k ++ l.drop (k + 1))) ∧ Ext w w2 := by
  have e1 : (l.take k).length = k := by simp; omega
  have e2 : (l.drop (k + 1)).length = l.length - (k + 1) := by simp
  have cells : ∀ u : World, Ext w0 u → ∀ j x, (pysF l)[j]? = some x → u.cell? ((⟨b, 0, none⟩ : Addr).add j) = some x := fun u hu => by
    obtain ⟨g, cap, e, hc⟩ := row_src (h.mono hu) (by omega)
    cases e; exact hc
  have ea : pysF l = pysF (l.take k) ++ pysF (l.drop k) := by rw [← pysF_app, List.take_append_drop]
  have eb : pysF l = pysF (l.take (k + 1)) ++ pysF (l.drop (k + 1)) := by rw [← pysF_app, List.take_append_drop]
  obtain ⟨v1, w1, hrun1, hrow1, hgr1, how1⟩ := app_pays (row_empty w 74 3) ⟨b, 0, none⟩ c1 (l.take k) (by omega) (fun j u hj => by
    refine cells _ (hx.alloc _) j u ?_
    have hj2 := (List.getElem?_eq_some_iff.1 hj).1
    rw [ea, List.getElem?_append_left hj2]; exact hj)
  have hx1 : Ext w w1 := ext_grown ((Ext.refl w).alloc _) hgr1 fun g' hg' => by cases hg'; exact Nat.le_refl _
  rw [e1] at hrun1
  rw [Nat.zero_add, List.nil_append, e1] at hrow1
  obtain ⟨v2, w2, hrun2, hrow2, hgr2, how2⟩ := app_pays hrow1 p2 c2 (l.drop (k + 1)) (by omega) (fun j u hj => by
    have hj2 : j < (l.drop (k + 1)).length * 3 := by rw [← pysF_len]; exact (List.getElem?_eq_some_iff.1 hj).1
    rw [hp (by omega)]
    have := cells _ (hx.trans hx1) ((k + 1) * 3 + j) u (by
      rw [eb, List.getElem?_append_right (by rw [pysF_len, List.length_take]; omega), pysF_len, List.length_take, show (k + 1) * 3 + j - min (k + 1) l.length * 3 = j by rw [Nat.min_eq_left (by omega)]; omega]
      exact hj)
    rw [Addr.add_mid] at this ⊢
    rw [Nat.zero_add] at this
    exact this)
  rw [e2] at hrun2
  rw [e2, show k + (l.length - (k + 1)) = l.length - 1 by omega, ← pysF_app] at hrow2
  have ho1 : ∀ g, v1.ownBlock = some g → w.heap.size ≤ g := fun g hg => by
    rcases how1 with e | e <;> rw [hg] at e <;> cases e <;> simp
  exact ⟨v1, w1, hrun1, hx1, v2, w2, hrun2, hrow2, ext_grown hx1 hgr2 ho1⟩
/-- What goes on in the region that copies all but one: nothing, a new list, the first part, the other one. -/
def fewJ (wd wa w1 w2 : World) (i j k : Nat) : InvJ := fun L x u => (L i = false → u = wd) ∧ (L i = true → L j = false → u = wa) ∧ (L j = true → L k = false → u = w1) ∧ (L k = true → u = w2) ∧ (L j = true → L i = true) ∧ (L k = true → L j = true)
section
variable {wd wa w1 w2 u : World} {L : Nat → Bool} {x : Nat → Value} {i j k : Nat}
theorem fewJ_start : fewJ wd wa w1 w2 i j k (fun _ => false) (fun _ => undef) wd :=
  by refine ⟨fun _ => rfl, ?_, ?_, ?_, ?_, ?_⟩ <;> intro h <;> cases h
theorem fewJ_ext (h : fewJ wd wa w1 w2 i j k L x u) (ha : Ext wd wa) (h1 : Ext wd w1) (h2 : Ext wd w2) : Ext wd u := by
  obtain ⟨a, b, c, d, _, _⟩ := h
  cases hi : L i with
  | false => rw [a hi]; exact Ext.refl _
  | true =>
    cases hj : L j with
    | false => rw [b hi hj]; exact ha
    | true =>
      cases hk : L k with
      | false => rw [c hj hk]; exact h1
      | true => rw [d hk]; exact h2
theorem fewJ_other (h : fewJ wd wa w1 w2 i j k L x u) {q : Nat} (hi : i ≠ q) (hj : j ≠ q) (hk : k ≠ q) : fewJ wd wa w1 w2 i j k (updL L q) x u := by
  unfold fewJ updL at *
  rw [if_neg hi, if_neg hj, if_neg hk]; exact h
theorem fewJ_0 (h : fewJ wd wa w1 w2 i j k L x u) (hL : L i = false) (hj : j ≠ i) (hk : k ≠ i) : u = wd ∧ fewJ wd wa w1 w2 i j k (updL L i) x wa := by
  obtain ⟨a, b, c, d, e, f⟩ := h
  have hLj : L j = false := by cases hh : L j with | false => rfl | true => rw [e hh] at hL; cases hL
  have hLk : L k = false := by cases hh : L k with | false => rfl | true => rw [f hh] at hLj; cases hLj
  refine ⟨a hL, ?_⟩
  unfold fewJ updL
  rw [if_pos rfl, if_neg hj, if_neg hk, hLj, hLk]
  exact ⟨fun h => (by cases h), fun _ _ => rfl, fun h => (by cases h), fun h => (by cases h), fun h => (by cases h), fun h => (by cases h)⟩
theorem fewJ_1 (h : fewJ wd wa w1 w2 i j k L x u) (h0 : L i = true) (hL : L j = false) (hi : i ≠ j) (hk : k ≠ j) : u = wa ∧ fewJ wd wa w1 w2 i j k (updL L j) x w1 := by
  obtain ⟨a, b, c, d, e, f⟩ := h
  have hLk : L k = false := by cases hh : L k with | false => rfl | true => rw [f hh] at hL; cases hL
  refine ⟨b h0 hL, ?_⟩
  unfold fewJ updL
  rw [if_pos rfl, if_neg hi, if_neg hk, h0, hLk]
  exact ⟨fun h => (by cases h), fun _ h => (by cases h), fun _ _ => rfl, fun h => (by cases h), fun _ => rfl, fun h => (by cases h)⟩
theorem fewJ_2 (h : fewJ wd wa w1 w2 i j k L x u) (h1 : L j = true) (hL : L k = false) (hi : i ≠ k) (hj : j ≠ k) : u = w1 ∧ fewJ wd wa w1 w2 i j k (updL L k) x w2 := by
  obtain ⟨a, b, c, d, e, f⟩ := h
  refine ⟨c h1 hL, ?_⟩
  unfold fewJ updL
  rw [if_pos rfl, if_neg hi, if_neg hj, h1, e h1]
  exact ⟨fun h => (by cases h), fun _ h => (by cases h), fun _ h => (by cases h), fun _ => rfl, fun _ => rfl, fun _ => rfl⟩
end
theorem gives_store {F : Fence} {n : Nat} {R : World → World → Prop} {o : Oper} {a : Act} {w : World} {V : Value → World → Prop} (ty : TypeId) (x y : Operand) (ho : o.op = .store ty x y) {g off : Nat} (hx : a.eval x = .pointer (some ⟨g, off, none⟩)) {t : TypeId} {cells cur : Array Value}
    (hy : a.eval y = .agg cells) (hg : w.heap[g]? = some (.cells cur t (0, 0))) (hi : (Tryz.prog.info? ty).map (·.size) = some cells.size) (hl : off + cells.size ≤ cur.size) (h1 : cells.all (·.oneCell') = true)
    (h : V undef (w.setRow g (cur.toList.take off ++ cells.toList ++ cur.toList.drop (off + cells.size)).toArray) ∧ R w (w.setRow g (cur.toList.take off ++ cells.toList ++ cur.toList.drop (off + cells.size)).toArray)) : gives F n Tryz.prog R o a w V := by
  have hl : (storeVar ty ⟨g, off, none⟩ (.agg cells)).run Tryz.prog w = .ok () (w.setRow g (cur.toList.take off ++ cells.toList ++ cur.toList.drop (off + cells.size)).toArray) := by
    have := run_storeCells_at (P := Tryz.prog) g off t cells.toList 0 cur w hg (by simpa using hl) (fun v hv => (Array.all_eq_true_iff_forall_mem.1 h1) v (by simpa using hv))
    cases hq : Tryz.prog.info? ty with
    | none => simp [hq] at hi
    | some i =>
      have hs : cells.size = i.size := by simp [hq] at hi; omega
      simp only [Nat.add_zero, Array.length_toList] at this
      simp [storeVar, sizeOf, typeInfo, hq, Value.cells, hs, this]
  unfold gives
  rw [Oper.semAt_eq _ _ _ (by rw [ho]; intro c h; cases h)]
  unfold execOp
  simp only [ho, hx, hy, Instr.storeAt, Instr.sureAddr, Sem.run_bind, Sem.run_pure, Result.andThen_ok, hl]
  exact h
/-- A payment of a row is changed. -/
theorem pays_set {w : World} {g cap : Nat} {ps : List Py} (h : Row w 74 3 (.slice (some ⟨g, 0, none⟩) ps.length cap) ps.length (pysF ps)) {k : Nat} (hk : k < ps.length) (q : Py) :
    ∃ cur : Array Value, w.heap[g]? = some (.cells cur 74 (0, 0)) ∧ k * 3 + 3 ≤ cur.size ∧ Row (w.setRow g (cur.toList.take (k * 3) ++ [Value.int .i64 q.a, .int .i64 q.z, .int .i64 q.s] ++ cur.toList.drop (k * 3 + 3)).toArray) 74 3 (.slice (some ⟨g, 0, none⟩) ps.length cap) ps.length (pysF (ps.set k q)) := by
  obtain ⟨hl, h⟩ := h
  rcases h with ⟨e, _⟩ | ⟨g', cap', cur, e, hg, h1, h2, h3, h4⟩
  · cases e
  · cases e
    have hle : ps.length * 3 ≤ cur.size := by rw [h3]; exact Nat.mul_le_mul_right _ h1
    refine ⟨cur, hg, by omega, ⟨by rw [pysF_len, List.length_set], .inr ⟨g, cap, _, rfl, setRow_heap w g cur _ 74 _ hg, h1, h2, ?_, ?_⟩⟩⟩
    · simp only [List.size_toArray, List.length_append, List.length_take, List.length_drop, Array.length_toList, List.length_cons, List.length_nil]
      omega
    · rw [pysF_set ps k q hk, ← h4]
      refine List.ext_getElem? fun j => ?_
      simp only [List.getElem?_take, List.getElem?_append, List.length_append, List.length_take, List.length_cons, List.length_nil, Array.length_toList, List.getElem?_drop]
      have e1 : min (k * 3) cur.size = k * 3 := by omega
      have e2 : min (k * 3) (min (ps.length * 3) cur.size) = k * 3 := by omega
      rw [e1, e2]
      by_cases c0 : j < ps.length * 3
      · rw [if_pos c0]
        by_cases c1 : j < k * 3 + (0 + 1 + 1 + 1)
        · rw [if_pos c1, if_pos c1]
          by_cases c2 : j < k * 3
          · rw [if_pos c2, if_pos c2, if_pos c2, if_pos c2, if_pos c0]
          · rw [if_neg c2, if_neg c2]
        · rw [if_neg c1, if_neg c1, if_pos (by omega)]
      · rw [if_neg c0]
        rw [if_neg (show ¬ j < k * 3 + (0 + 1 + 1 + 1) by omega), if_neg (by omega)]
end
end Go.Proofs.YtjocoadhalimjaaGreat
