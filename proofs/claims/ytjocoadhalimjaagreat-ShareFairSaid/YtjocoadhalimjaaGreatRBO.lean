/- What a division gives is fair; the law ShareFair. -/
import Derived.Test.YtjocoadhalimjaaGreatRBM
import Derived.Test.YtjocoadhalimjaaGreatRBJ
import Derived.Test.YtjocoadhalimjaaGreatRBI
import Derived.Test.YtjocoadhalimjaaGreatRBK
import Derived.Test.YtjocoadhalimjaaGreatRAT
set_option linter.unusedSimpArgs false
set_option linter.unusedVariables false
namespace Go.Proofs.YtjocoadhalimjaaGreat
section
open Go Go.RowKit Go.Shelf

def gvs (P : Int) (l : List Stk) : List Int := (List.range l.length).map (giveTo P l)
theorem gvs_len (P : Int) (l : List Stk) : (gvs P l).length = l.length := by simp [gvs]
theorem gvs_get (P : Int) (l : List Stk) {i : Nat} (hi : i < l.length) : (gvs P l).getD i 0 = giveTo P l i := by
  rw [getD_of (by rw [gvs_len]; exact hi)]; simp [gvs]
theorem wtsL_len (l : List Stk) : (wtsL l).length = l.length := by simp [wtsL]
theorem wtsL_get (l : List Stk) {i : Nat} (hi : i < l.length) : (wtsL l).getD i 0 = (l.getD i noStk).weight := by
  rw [getD_of (by rw [wtsL_len]; exact hi), getD_of hi]; simp [wtsL]
theorem wtsL_sum (l : List Stk) : (wtsL l).sum = sumW l := rfl
theorem give_fair {P : Int} {l : List Stk} (hP : 0 ≤ P ∧ P ≤ 10000000) (hw : ∀ s ∈ l, 0 ≤ s.weight ∧ s.weight ≤ 1000000) (hl : l.length ≤ 10) (hA : 0 < sumW l) (hd : (l.map (·.name)).Nodup) : FairOk P (gvs P l) (wtsL l) := by
  have hw0 : ∀ s ∈ l, 0 ≤ s.weight := fun s hs => (hw s hs).1
  have hO := ltN_orders hd
  have hst := sumW_tot hw0
  have ht : 0 < Sv.tot (List.range l.length) (wN l) := by omega
  have hg := fun i (hi : i < l.length) => giveTo_eq hP.1 hw0 hA hd hi
  have hf := give_facts hP.1 hw0 hA hd
  have hPn : P = (P.toNat : Int) := (Int.toNat_of_nonneg hP.1).symm
  refine ⟨by rw [gvs_len, wtsL_len], by rw [gvs_len]; exact hl, hP, fun i hi => ?_, fun i hi => ?_, hf.2.2, ⟨by rw [wtsL_sum]; omega, ?_⟩, fun i hi => ?_, fun i k hi hk hlt => ?_⟩
  · rw [gvs_len] at hi
    rw [wtsL_get l hi, getD_of hi]; exact hw _ (List.getElem_mem hi)
  · rw [gvs_len] at hi
    rw [gvs_get P l hi]
    have := hf.1 i hi; omega
  · rw [wtsL_sum]
    have h := sum_within (M := 1000000) (by omega) (l.map (·.weight)) (fun x hx => by obtain ⟨s, hs, rfl⟩ := List.mem_map.1 hx; have := hw s hs; omega)
    rw [List.length_map] at h
    unfold sumW; omega
  · rw [gvs_len] at hi
    rw [gvs_get P l hi, wtsL_get l hi, wN_cast hw0 hi, wtsL_sum, hst, hg i hi]
    have h := Sv.gets_near (s := P.toNat) hO List.nodup_range ht (List.mem_range.2 hi)
    have e : P * ((wN l i : Nat) : Int) = ((P.toNat * wN l i : Nat) : Int) := by
      conv => lhs; rw [hPn]
      norm_cast
    have e2 : ((Sv.gets (List.range l.length) P.toNat (wN l) (ltN l) i : Nat) : Int) * ((Sv.tot (List.range l.length) (wN l) : Nat) : Int) = ((Sv.tot (List.range l.length) (wN l) * Sv.gets (List.range l.length) P.toNat (wN l) (ltN l) i : Nat) : Int) := by
      rw [Int.mul_comm]; norm_cast
    rw [e, e2]
    omega
  · rw [gvs_len] at hi hk
    rw [wtsL_get l hi, wtsL_get l hk, wN_cast hw0 hi, wN_cast hw0 hk] at hlt
    rw [gvs_get P l hi, gvs_get P l hk, hg i hi, hg k hk]
    have := Sv.gets_mono (s := P.toNat) hO ht (List.mem_range.2 hi) (List.mem_range.2 hk) (by omega)
    omega
theorem give_step {P : Int} {l : List Stk} (hP : 0 ≤ P) (hw : ∀ s ∈ l, 0 ≤ s.weight) (hA : 0 < sumW l) (hd : (l.map (·.name)).Nodup) {i : Nat} (hi : i < l.length) : giveTo (P + 1) l i ≤ giveTo P l i + 1 ∧ giveTo P l i - 1 ≤ giveTo (P + 1) l i := by
  have hst := sumW_tot hw
  have h := Sv.gets_step (s := P.toNat) (ltN_orders hd) List.nodup_range (show 0 < Sv.tot (List.range l.length) (wN l) by omega) (List.mem_range.2 hi)
  rw [giveTo_eq hP hw hA hd hi, giveTo_eq (by omega) hw hA hd hi, show (P + 1).toNat = P.toNat + 1 by omega]
  omega
theorem intsF_gvs (P : Int) (l : List Stk) : intsF l.length (giveTo P l) = intsV (gvs P l) := intsV_intsF _ _
theorem divE_ok {P : Int} {l : List Stk} (h : divE P l = 0) : (0 ≤ P ∧ P ≤ 10000000) ∧ stakesB l = true ∧ sumW l ≠ 0 := by
  unfold divE at h
  cases h1 : inB P 0 10000000 with
  | false => rw [h1] at h; simp at h
  | true =>
    rw [h1] at h
    cases h2 : stakesB l with
    | false => rw [h2] at h; simp at h
    | true =>
      refine ⟨inB_spec h1, rfl, fun h3 => ?_⟩
      rw [h2, h3] at h; simp at h
theorem divE_more {P : Int} {l : List Stk} (h : divE P l = 0) (hP : P ≠ 10000000) : divE (P + 1) l = 0 := by
  obtain ⟨h1, h2, h3⟩ := divE_ok h
  unfold divE
  rw [show inB (P + 1) 0 10000000 = true by unfold inB; simp; omega, h2]
  simp [h3]

set_option maxRecDepth 100000 in
set_option maxHeartbeats 16000000 in
theorem ShareFair_any (P : Int) (v : Value) (l : List Stk) (w : World) (hv : StakesAt w v l) (hn : ∀ s ∈ l, s.name.size ≤ maxLen) : Cal 6 #[.int .i64 P, v] w fun e w' => e = .returned (.bool true) ∧ Ext w w' := by
  have HWK := hid (fun (u : World) => works_any u)
  by_cases he : divE P l = 0
  · obtain ⟨hP, hst, hz⟩ := divE_ok he
    have hok := stakes_ok hst
    have hsw : 0 < sumW l := by
      have := sumW_nonneg (l := l) fun s hs => (hok.2.1 s hs).2.1
      omega
    have HDV := hid (Divide_ok P v l w hv hn he)
    have HSM := hid (fun (u : World) (hu : Ext w u) => small_true v l u (hv.mono hu) hok.1 fun s hs => (hok.2.1 s hs).2)
    have HIN := hid (fun (u : World) => In_b P 0 10000000 true u (by unfold inB; simp; omega))
    have HWT := hid (fun (u : World) (hu : Ext w u) => wtsL_any v l u (hv.mono hu) (by omega))
    have HD2 := hid (fun (h : P ≠ 10000000) (u : World) (hu : Ext w u) => Divide_ok (P + 1) v l u (hv.mono hu) hn (divE_more he h))
    have hwt : ∀ s ∈ l, 0 ≤ s.weight ∧ s.weight ≤ 1000000 := fun s hs => by have := (hok.2.1 s hs).2; omega
    have HF1 := hid (give_fair hP hwt hok.1 hsw hok.2.2)
    have HF2 := hid (fun (h : P ≠ 10000000) => give_fair (P := P + 1) (by omega) hwt hok.1 hsw hok.2.2)
    have HST := hid (fun (i : Nat) (hi : i < l.length) => give_step hP.1 (fun s hs => (hwt s hs).1) hsw hok.2.2 hi)
    have HL := hid hok.1
    have HGB := hid (fun (i : Nat) (hi : i < l.length) => (give_facts hP.1 (fun s hs => (hwt s hs).1) hsw hok.2.2).1 i hi)
    clear hv hn he hst hz hok hsw hwt
    gi_enter Tryz.func6, Tryz.ntmps6
    gi_upto_region 2 with (gi_at_call 15; ((with_reducible refine (HDV.out).mono ?_); rintro e w1 ⟨r, rfl, hx1, HR⟩))
    obtain ⟨ra, rc, rfl⟩ := HR.out.isSliceN
    have HX1 := hid hx1
    have HI1 := hid (fun (u : World) (hu : Ext w1 u) => (show IntsAt u (.slice ra l.length rc) (gvs P l) by
      have := IntsAt.of_row (xs := gvs P l) (by rw [gvs_len, ← intsF_gvs]; exact HR.out.mono hu) (by rw [gvs_len]; have := HL.out; omega)
      exact this))
    clear hx1 HDV
    gi_upto_region 6 with (first | (gi_at_call 28; ((with_reducible refine (HSM.out _ HX1.out).mono ?_); rintro e w2 ⟨rfl, rfl⟩)) | (gi_at_call 29; ((with_reducible refine (HIN.out _).mono ?_); rintro e w3 ⟨rfl, rfl⟩)) | (gi_at_call 31; ((with_reducible refine (HWT.out _ HX1.out).mono ?_); rintro e w4 ⟨wr1, rfl, hx4, HW4⟩; have HX4 := hid hx4; have HFC := hid (fair_true P _ wr1 (gvs P l) (wtsL l) w4 (HI1.out _ hx4) (IntsAt.of_row (by rw [wtsL_len]; exact HW4.out) (by rw [wtsL_len]; have := HL.out; omega)) HF1.out); clear hx4)) | (gi_at_call 30; ((with_reducible refine (HFC.out).mono ?_); rintro e w5 ⟨rfl, hx5⟩; have HX5 := hid (HX4.out.trans hx5); clear hx5)))
    by_cases hmax : P = 10000000
    · have hm : (P == 10000000) = true := by simpa using hmax
      clear hmax
      gi_wp2_with (gi_at_call 18; ((with_reducible refine (HWK.out _).mono ?_); rintro e w9 ⟨rfl, hx9⟩; have HXD := hid (HX1.out.trans (HX5.out.trans hx9)); clear hx9))
      go_ret
      exact ⟨rfl, HXD.out⟩
    · have hm : (P == 10000000) = false := by simpa using hmax
      have HX5w := hid (HX1.out.trans HX5.out)
      have HDV := hid (HD2.out hmax _ HX5w.out)
      have HFF := hid (HF2.out hmax)
      have hw1 : wrap64 (P + 1) = P + 1 := wrap_mid (by omega) (by omega)
      have hw2 : IntKind.i64.wrap (P + 1) = P + 1 := by rw [IntKind.wrap_i64]; omega
      clear hmax HD2 HF2 HFC
      gi_upto_region 11 with (first | (gi_at_call 15; ((with_reducible refine (HDV.out).mono ?_); rintro e w6 ⟨r2, rfl, hx6, HR2⟩; have HX6 := hid hx6; clear hx6)) | (gi_at_call 31; ((with_reducible refine (HWT.out _ (HX5w.out.trans HX6.out)).mono ?_); rintro e w7 ⟨wr2, rfl, hx7, HW7⟩; have HX7 := hid hx7; have HFC := hid (fair_true (P + 1) _ wr2 (gvs (P + 1) l) (wtsL l) w7 (IntsAt.of_row (by rw [gvs_len, ← intsF_gvs]; exact HR2.out.mono hx7) (by rw [gvs_len]; have := HL.out; omega)) (IntsAt.of_row (by rw [wtsL_len]; exact HW7.out) (by rw [wtsL_len]; have := HL.out; omega)) HFF.out); clear hx7)) | (gi_at_call 30; ((with_reducible refine (HFC.out).mono ?_); rintro e w8 ⟨rfl, hx8⟩; have HX8 := hid (HX7.out.trans hx8); clear hx8)))
      obtain ⟨r2a, r2c, rfl⟩ := HR2.out.isSliceN
      have hx17 := HX7.out
      have HC1 := hid (fun (i : Nat) (hi : i < l.length) => (show ∃ b, ra = some ⟨b, 0, none⟩ ∧ ∀ u, Ext w8 u → u.cell? ⟨b, i, none⟩ = some (.int .i64 (giveTo P l i)) by
        obtain ⟨g, cap, cur, e, _, hg, hc, _⟩ := HR.out.cells1 hi
        cases e
        refine ⟨g, rfl, fun u hu => ?_⟩
        rw [(HX5.out.trans (HX6.out.trans (HX8.out.trans hu))).cell (p := ⟨g, _, none⟩) (lt_of_block hg), hc]; simp [intsF, hi]))
      have HC2 := hid (fun (i : Nat) (hi : i < l.length) => (show ∃ b, r2a = some ⟨b, 0, none⟩ ∧ ∀ u, Ext w8 u → u.cell? ⟨b, i, none⟩ = some (.int .i64 (giveTo (P + 1) l i)) by
        obtain ⟨g, cap, cur, e, _, hg, hc, _⟩ := HR2.out.cells1 hi
        cases e
        refine ⟨g, rfl, fun u hu => ?_⟩
        rw [(HX8.out.trans hu).cell (p := ⟨g, _, none⟩) (lt_of_block hg), hc]; simp [intsF, hi]))
      have hlc : l.length ≤ rc := by
        rcases HR.out.2 with ⟨e, h0⟩ | ⟨g, cap, cur, e, _, h1, _⟩
        · omega
        · cases e; exact h1
      have HXE := hid (HX5w.out.trans (HX6.out.trans HX8.out))
      clear hx17 HX7 HX8 HX6 HX5 HX5w HX4 HR HR2 HI1 HFC hw1 hw2 HDV HFF
      gi_wp2_with fail
      gi_loopw [8] (fun i wr => ∃ k : Nat, k ≤ l.length ∧ i = .int .i64 k ∧ Hid (Ext w8 wr)) (fun i _ => l.length - (intOf i).toNat)
      case atStart => exact ⟨0, Nat.zero_le _, rfl, hid (Ext.refl _)⟩
      case round =>
        obtain ⟨k, hk, rfl, HX⟩ := hrel
        by_cases hlt : k < l.length
        · have hki : (k : Int) < (l.length : Int) := by omega
          obtain ⟨b1, rfl, h1⟩ := HC1.out k hlt
          obtain ⟨b2, rfl, h2⟩ := HC2.out k hlt
          have c1 : ∀ e : Later wr, e.1.cell? ⟨b1, k, none⟩ = some (.int .i64 (giveTo P l k)) := fun e => h1 _ (HX.out.trans e.grown)
          have c2 : ∀ e : Later wr, e.1.cell? ⟨b2, k, none⟩ = some (.int .i64 (giveTo (P + 1) l k)) := fun e => h2 _ (HX.out.trans e.grown)
          have hst := HST.out k hlt
          have hgb := HGB.out k hlt
          have hlc2 := HL.out
          have HLT := hid hlt
          generalize giveTo P l k = x at *
          generalize giveTo (P + 1) l k = y at *
          have HW := hid (And.intro (wrap_mid (x := x + 1) (by omega) (by omega)) (wrap_mid (x := x - 1) (by omega) (by omega)))
          have hd1 : decide (y > x + 1) = false := decide_eq_false (by omega)
          have hd2 : decide (y < x - 1) = false := decide_eq_false (by omega)
          clear h1 h2 hst hgb hlt
          obtain ⟨hw1, hw2⟩ := HW.out
          clear HW
          gi_upto_region 14 with fail
          refine quiet_wide 22 (by kernel_rfl) (by kernel_rfl) ?_
          simp only [List.take_succ_cons, List.take_zero, List.drop_succ_cons, List.drop_zero]
          repeat (any_goals (first | go_big_quiet_step (fail) | quiet_step (fail)))
          refine wpQuiet_nil ?_
          rintro w6 ⟨⟨w6q, hx5⟩, hew5⟩
          obtain rfl : w6 = w6q := hew5
          have HX6 : Hid (Ext wr w6) := hid (show Ext wr w6 from hx5)
          clear hx5
          clear c1 c2
          gi_wp2_with fail
          all_goals first
            | exact (undef_no' ‹_›).elim
            | (go_roundw
               case rel => exact ⟨k + 1, by have := HLT.out; omega, by go_num, hid (HX.out.trans HX6.out)⟩
               case measure => have := HLT.out; simp [intOf]; omega)
        · obtain rfl : k = l.length := by omega
          have hki : ¬ (l.length : Int) < (l.length : Int) := by omega
          gi_wp2_with (gi_at_call 18; ((with_reducible refine (HWK.out _).mono ?_); rintro e w9 ⟨rfl, hx9⟩; have HXD := hid (HXE.out.trans (HX.out.trans hx9)); clear hx9))
          go_ret
          exact ⟨rfl, HXD.out⟩
  · have HDV := hid (Divide_bad P v l w hv hn he)
    have hz : (divE P l == 0) = false := by simpa using he
    have hz2 : (divE P l != 0) = true := by simpa using he
    generalize divE P l = E at *
    clear hv hn he
    gi_enter Tryz.func6, Tryz.ntmps6
    gi_wp2_with (first | (gi_at_call 15; ((with_reducible refine (HDV.out).mono ?_); rintro e w1 ⟨rfl, hx1⟩; have HX := hid hx1; clear hx1)) | (gi_at_call 18; ((with_reducible refine (HWK.out _).mono ?_); rintro e w4 ⟨rfl, hx4⟩; have HX := hid (HX.out.trans hx4); clear hx4)))
    go_ret
    exact ⟨rfl, HX.out⟩
end
section
open Go Go.RowKit Go.Shelf
open Go.ChangeShapes Go.WideShapes Go.ChangeAt

theorem fields49 : (Tryz.prog.underlying 49).map (fun d => match d with | .struct fs => fs.toList.map (fun f => (f.type, f.offset)) | _ => []) = some [(9, 0), (3, 1)] := by kernel_rfl
theorem fields58 : (Tryz.prog.underlying 58).map (fun d => match d with | .struct fs => fs.toList.map (fun f => (f.type, f.offset)) | _ => []) = some [(9, 0), (9, 1), (3, 2), (3, 3)] := by kernel_rfl
theorem fields59 : (Tryz.prog.underlying 59).map (fun d => match d with | .struct fs => fs.toList.map (fun f => (f.type, f.offset)) | _ => []) = some [(9, 0), (9, 1), (3, 2), (3, 3)] := by kernel_rfl
theorem fields32 : (Tryz.prog.underlying 32).map (fun d => match d with | .struct fs => fs.toList.map (fun f => (f.type, f.offset)) | _ => []) = some [(3, 0), (23, 1), (3, 2), (3, 3), (3, 4), (22, 5), (22, 6), (22, 7), (30, 8)] := by kernel_rfl
theorem cells49 : Tryz.prog.cellsOf 49 = 2 := by kernel_rfl
theorem cells59 : Tryz.prog.cellsOf 59 = 4 := by kernel_rfl
theorem cells9 : Tryz.prog.cellsOf 9 = 1 := by kernel_rfl
theorem cells22 : Tryz.prog.cellsOf 22 = 1 := by kernel_rfl
theorem cells23 : Tryz.prog.cellsOf 23 = 1 := by kernel_rfl
theorem cells30 : Tryz.prog.cellsOf 30 = 1 := by kernel_rfl
theorem cells32 : Tryz.prog.cellsOf 32 = 9 := by kernel_rfl
theorem bytes49 : Tryz.prog.bytesOf 49 = 24 := by kernel_rfl
theorem bytes59 : Tryz.prog.bytesOf 59 = 48 := by kernel_rfl
theorem lst2 {l : List Value} (h : l.length = 2) : ∃ c0 c1, l = [c0, c1] := by
  match l, h with
  | [a, b], _ => exact ⟨a, b, rfl⟩
theorem lst4 {l : List Value} (h : l.length = 4) : ∃ c0 c1 c2 c3, l = [c0, c1, c2, c3] := by
  match l, h with
  | [a, b, c, d], _ => exact ⟨a, b, c, d, rfl⟩
theorem lst9 {l : List Value} (h : l.length = 9) : ∃ c0 c1 c2 c3 c4 c5 c6 c7 c8, l = [c0, c1, c2, c3, c4, c5, c6, c7, c8] := by
  match l, h with
  | [a, b, c, d, e, f, g, i, j], _ => exact ⟨a, b, c, d, e, f, g, i, j, rfl⟩
section
variable {H : Type} {enc : TypeId × Value → H} {W : World} {base fuel : Nat} {spare : Nat → Bool} {held : Bool} {x : DataW H × List MemPlace} {cs : List Value}
theorem trod_fields {t : TypeId} {l : List (TypeId × Nat)} (hf : (Tryz.prog.underlying t).map (fun d => match d with | .struct fs => fs.toList.map (fun f => (f.type, f.offset)) | _ => []) = some l) (hl : l ≠ []) (h : DataW.trod enc Tryz.prog W base spare held fuel t cs = some x) :
    ∃ n, cs.length = Tryz.prog.cellsOf t ∧ ∀ p ∈ l, ∃ y, DataW.trod enc Tryz.prog W base spare held n p.1 ((cs.drop p.2).take (Tryz.prog.cellsOf p.1)) = some y ∧ ∀ m ∈ y.1.weights Tryz.prog p.1, m ∈ x.1.weights Tryz.prog t := by
  cases hu : Tryz.prog.underlying t with
  | none => rw [hu] at hf; cases hf
  | some d =>
    rw [hu] at hf
    cases d with
    | struct fs =>
      simp only [Option.map_some, Option.some.injEq] at hf
      obtain ⟨xs, n, _, hxe, hlen, hxl, hx⟩ := DataW.trod_struct hu h
      refine ⟨n, hlen, fun p hp => ?_⟩
      rw [← hf] at hp
      obtain ⟨f, hfm, rfl⟩ := List.mem_map.1 hp
      obtain ⟨i, hi, hfi⟩ := List.getElem_of_mem hfm
      have hi' : i < fs.size := by simpa using hi
      have h1 := hx i f (by rw [← hfi]; simp [hi'])
      have hi2 : i < xs.length := by omega
      refine ⟨xs[i], by rw [h1]; simp [hi2], fun m hm => ?_⟩
      simp only [hxe, DataW.weights, hu]
      exact DataW.weights_mem_each (j := i) (t := f.type) (d := xs[i].1) (by rw [List.getElem?_map, Array.getElem?_toList, ← hfi]; simp [hi']) (by simp [hi2]) m hm
    | _ => simp at hf; first | exact absurd hf hl | exact absurd hf.symm hl

theorem trod_str (h : DataW.trod enc Tryz.prog W base spare held fuel 9 cs = some x) : ∃ s : ByteArray, cs = [.string s] ∧ s.size ≤ maxLen := by
  obtain ⟨s, h1, _, h2⟩ := DataW.trod_string Tryz.underlying9 h
  exact ⟨s, h1, h2⟩
theorem stake_open (h : DataW.trod enc Tryz.prog W base spare held fuel 49 cs = some x) : ∃ z : Stk, cs = [.string z.name, .int .i64 z.weight] ∧ z.name.size ≤ maxLen := by
  obtain ⟨m, hlen, hfs⟩ := trod_fields fields49 (by simp) h
  rw [cells49] at hlen
  obtain ⟨y0, h0, gh0⟩ := hfs (9, 0) (by simp)
  obtain ⟨y1, h1, gh1⟩ := hfs (3, 1) (by simp)
  obtain ⟨c0, c1, rfl⟩ := lst2 hlen
  rw [cells9] at h0
  rw [cells3] at h1
  obtain ⟨z0, e0, w0⟩ := trod_str h0
  obtain ⟨z1, e1, _⟩ := trod_int3 h1
  simp at e0 e1
  subst e0; subst e1
  exact ⟨⟨z0, z1⟩, rfl, w0⟩
theorem loan_open (h : DataW.trod enc Tryz.prog W base spare held fuel 59 cs = some x) : ∃ z : Ln, cs = [.string z.f, .string z.g, .int .i64 z.n, .int .i64 z.r] := by
  obtain ⟨m, hlen, hfs⟩ := trod_fields fields59 (by simp) h
  rw [cells59] at hlen
  obtain ⟨y0, h0, gh0⟩ := hfs (9, 0) (by simp)
  obtain ⟨y1, h1, gh1⟩ := hfs (9, 1) (by simp)
  obtain ⟨y2, h2, gh2⟩ := hfs (3, 2) (by simp)
  obtain ⟨y3, h3, gh3⟩ := hfs (3, 3) (by simp)
  obtain ⟨c0, c1, c2, c3, rfl⟩ := lst4 hlen
  rw [cells9] at h0 h1
  rw [cells3] at h2 h3
  obtain ⟨z0, e0, _⟩ := trod_str h0
  obtain ⟨z1, e1, _⟩ := trod_str h1
  obtain ⟨z2, e2, _⟩ := trod_int3 h2
  obtain ⟨z3, e3, _⟩ := trod_int3 h3
  simp at e0 e1 e2 e3
  subst e0; subst e1; subst e2; subst e3
  exact ⟨⟨z0, z1, z2, z3⟩, rfl⟩
theorem stakes_open (h : DataW.trod enc Tryz.prog W base spare held fuel 22 cs = some x) (hw : ∀ m ∈ x.1.weights Tryz.prog 22, m ≤ reachBytes) : ∃ v xs, cs = [v] ∧ StakesAt W v xs ∧ nmOk xs := by
  obtain ⟨a, len, cap, rfl, hl, hx⟩ := trod_slice_at Tryz.underlying22 cells49 (by omega) h hw (by rw [bytes49]; omega)
  obtain ⟨xs, hxl, hxs⟩ := choose_list (α := Stk) (n := len) (p := fun i z => (∃ b off, a = some ⟨b, off, none⟩ ∧ b < W.heap.size ∧ W.cell? ⟨b, off + i * 2, none⟩ = some (.string z.name) ∧ W.cell? ⟨b, off + i * 2 + 1, none⟩ = some (.int .i64 z.weight)) ∧ z.name.size ≤ maxLen) fun i hi => by
    obtain ⟨b, off, n, cs', y, ha, hb, hc, hcell, hy⟩ := hx i hi
    obtain ⟨z, rfl, hz⟩ := stake_open hy
    exact ⟨z, ⟨b, off, ha, hb, by have := hcell 0 (by omega); first | exact this | simpa using this, by have := hcell 1 (by omega); first | exact this | simpa using this⟩, hz⟩
  exact ⟨_, xs, rfl, ⟨a, cap, by rw [hxl], by omega, fun i hi => (hxs i hi).1⟩, fun s hs => by obtain ⟨i, hi, rfl⟩ := List.getElem_of_mem hs; exact (hxs i hi).2⟩
theorem loans_open (h : DataW.trod enc Tryz.prog W base spare held fuel 30 cs = some x) (hw : ∀ m ∈ x.1.weights Tryz.prog 30, m ≤ reachBytes) : ∃ v xs, cs = [v] ∧ LoansAt W v xs := by
  obtain ⟨a, len, cap, rfl, hl, hx⟩ := trod_slice_at Tryz.underlying30 cells59 (by omega) h hw (by rw [bytes59]; omega)
  obtain ⟨xs, hxl, hxs⟩ := choose_list (α := Ln) (n := len) (p := fun i z => ∃ b off, a = some ⟨b, off, none⟩ ∧ b < W.heap.size ∧ W.cell? ⟨b, off + i * 4, none⟩ = some (.string z.f) ∧ W.cell? ⟨b, off + i * 4 + 1, none⟩ = some (.string z.g) ∧ W.cell? ⟨b, off + i * 4 + 2, none⟩ = some (.int .i64 z.n) ∧ W.cell? ⟨b, off + i * 4 + 3, none⟩ = some (.int .i64 z.r)) fun i hi => by
    obtain ⟨b, off, n, cs', y, ha, hb, hc, hcell, hy⟩ := hx i hi
    obtain ⟨z, rfl⟩ := loan_open hy
    exact ⟨z, b, off, ha, hb, by have := hcell 0 (by omega); first | exact this | simpa using this, by have := hcell 1 (by omega); first | exact this | simpa using this, by have := hcell 2 (by omega); first | exact this | simpa using this, by have := hcell 3 (by omega); first | exact this | simpa using this⟩
  exact ⟨_, xs, rfl, a, cap, by rw [hxl], by omega, hxs⟩
set_option maxRecDepth 100000 in
theorem stakes_arg {r : Reach} {b0 : Nat} {v : Value} {d : DataW H} {p : List MemPlace} (hv : Value.okWide Tryz.prog W r b0 22 v) (h : DataW.Trod enc Tryz.prog W base spare held 22 v d p) (hw : ∀ m ∈ d.weights Tryz.prog 22, m ≤ reachBytes) : ∃ xs, StakesAt W v xs ∧ nmOk xs := by
  obtain ⟨a, len, cap, rfl⟩ := okWide_slice Tryz.underlying22 hv
  obtain ⟨fuel, hf⟩ := h
  obtain ⟨v', xs, e, hc⟩ := stakes_open hf hw
  simp [Value.cells] at e
  subst e
  exact ⟨xs, hc⟩
/-- A voyage, as a value, is what it holds. -/
def VArg (w : World) (v : Value) (V : Voy) : Prop := ∃ s : VS, v = .agg (voyA V s) ∧ VoyAt w V s
set_option maxRecDepth 100000 in
theorem voyage_arg {r : Reach} {b0 : Nat} {v : Value} {d : DataW H} {p : List MemPlace} (hv : Value.okWide Tryz.prog W r b0 32 v) (h : DataW.Trod enc Tryz.prog W base spare held 32 v d p) (hw : ∀ m ∈ d.weights Tryz.prog 32, m ≤ reachBytes) : ∃ V, VArg W v V := by
  obtain ⟨fs, hfs0⟩ : ∃ fs, Tryz.prog.underlying 32 = some (.struct fs) := ⟨_, Tryz.underlying32⟩
  obtain ⟨cs, rfl, hsz⟩ := okWide_struct hfs0 hv
  obtain ⟨fuel, hf⟩ := h
  obtain ⟨m, hlen, hfs⟩ := trod_fields fields32 (by simp) hf
  obtain ⟨y0, h0, gh0⟩ := hfs (3, 0) (by simp)
  obtain ⟨y1, h1, gh1⟩ := hfs (23, 1) (by simp)
  obtain ⟨y2, h2, gh2⟩ := hfs (3, 2) (by simp)
  obtain ⟨y3, h3, gh3⟩ := hfs (3, 3) (by simp)
  obtain ⟨y4, h4, gh4⟩ := hfs (3, 4) (by simp)
  obtain ⟨y5, h5, gh5⟩ := hfs (22, 5) (by simp)
  obtain ⟨y6, h6, gh6⟩ := hfs (22, 6) (by simp)
  obtain ⟨y7, h7, gh7⟩ := hfs (22, 7) (by simp)
  obtain ⟨y8, h8, gh8⟩ := hfs (30, 8) (by simp)
  obtain ⟨l, rfl⟩ : ∃ l : List Value, cs = l.toArray := ⟨cs.toList, by simp⟩
  rw [cells32] at hsz
  obtain ⟨c0, c1, c2, c3, c4, c5, c6, c7, c8, rfl⟩ := lst9 (by simpa using hsz)
  rw [cells3] at h0 h2 h3 h4
  rw [cells23] at h1
  rw [cells22] at h5 h6 h7
  rw [cells30] at h8
  obtain ⟨z0, e0, _⟩ := trod_int3 h0
  obtain ⟨v1, l1, e1, k1⟩ := ints_open h1 (fun m hm => hw m (gh1 m hm))
  obtain ⟨z2, e2, _⟩ := trod_int3 h2
  obtain ⟨z3, e3, _⟩ := trod_int3 h3
  obtain ⟨z4, e4, _⟩ := trod_int3 h4
  obtain ⟨v5, l5, e5, k5, n5⟩ := stakes_open h5 (fun m hm => hw m (gh5 m hm))
  obtain ⟨v6, l6, e6, k6, n6⟩ := stakes_open h6 (fun m hm => hw m (gh6 m hm))
  obtain ⟨v7, l7, e7, k7, n7⟩ := stakes_open h7 (fun m hm => hw m (gh7 m hm))
  obtain ⟨v8, l8, e8, k8⟩ := loans_open h8 (fun m hm => hw m (gh8 m hm))
  simp [Value.cells] at e0 e1 e2 e3 e4 e5 e6 e7 e8
  subst e0; subst e1; subst e2; subst e3; subst e4; subst e5; subst e6; subst e7; subst e8
  obtain ⟨a1, p1, q1, _⟩ := id k1
  obtain ⟨a5, p5, q5, _⟩ := id k5
  obtain ⟨a6, p6, q6, _⟩ := id k6
  obtain ⟨a7, p7, q7, _⟩ := id k7
  obtain ⟨a8, p8, q8, _⟩ := id k8
  subst q1; subst q5; subst q6; subst q7; subst q8
  exact ⟨⟨z0, z2, z3, z4, l1, l5, l6, l7, l8⟩, ⟨a1, a5, a6, a7, a8, p1, p5, p6, p7, p8⟩, rfl, ⟨k1, k5, k6, k7, k8, n5, n6, n7⟩⟩
set_option maxRecDepth 100000 in
theorem nums2_arg {r : Reach} {b0 : Nat} {v : Value} {d : DataW H} {p : List MemPlace} (hv : Value.okWide Tryz.prog W r b0 46 v) (h : DataW.Trod enc Tryz.prog W base spare held 46 v d p) : ∃ z0 z1, v = .agg #[.int .i64 z0, .int .i64 z1] := by
  have hc46 : Tryz.prog.cellsOf 46 = 2 := by kernel_rfl
  obtain ⟨cs, rfl, hsz⟩ : ∃ cs, v = .agg cs ∧ cs.size = Tryz.prog.cellsOf 46 := by
    simp only [Value.okWide, Tryz.underlying46] at hv
    obtain ⟨cs, h1, h2, _⟩ := hv
    exact ⟨cs, h1, h2⟩
  obtain ⟨fuel, hf⟩ := h
  obtain ⟨xs, m, _, _, hlen, hxl, hx⟩ := DataW.trod_array Tryz.underlying46 hf
  obtain ⟨l, rfl⟩ : ∃ l : List Value, cs = l.toArray := ⟨cs.toList, by simp⟩
  rw [hc46] at hsz
  obtain ⟨c0, c1, rfl⟩ := lst2 (by simpa using hsz)
  have h0 := hx 0 (by omega)
  have h1 := hx 1 (by omega)
  rw [cells3] at h0 h1
  obtain ⟨z0, e0, w0⟩ := trod_int3 (x := xs[0]'(by omega)) (h0.trans (by simp [hxl]))
  obtain ⟨z1, e1, w1⟩ := trod_int3 (x := xs[1]'(by omega)) (h1.trans (by simp [hxl]))
  simp [Value.cells] at e0 e1
  subst e0; subst e1
  exact ⟨z0, z1, rfl⟩
set_option maxRecDepth 100000 in
theorem nums4_arg {r : Reach} {b0 : Nat} {v : Value} {d : DataW H} {p : List MemPlace} (hv : Value.okWide Tryz.prog W r b0 56 v) (h : DataW.Trod enc Tryz.prog W base spare held 56 v d p) : ∃ z0 z1 z2 z3, v = .agg #[.int .i64 z0, .int .i64 z1, .int .i64 z2, .int .i64 z3] := by
  have hc56 : Tryz.prog.cellsOf 56 = 4 := by kernel_rfl
  obtain ⟨cs, rfl, hsz⟩ : ∃ cs, v = .agg cs ∧ cs.size = Tryz.prog.cellsOf 56 := by
    simp only [Value.okWide, Tryz.underlying56] at hv
    obtain ⟨cs, h1, h2, _⟩ := hv
    exact ⟨cs, h1, h2⟩
  obtain ⟨fuel, hf⟩ := h
  obtain ⟨xs, m, _, _, hlen, hxl, hx⟩ := DataW.trod_array Tryz.underlying56 hf
  obtain ⟨l, rfl⟩ : ∃ l : List Value, cs = l.toArray := ⟨cs.toList, by simp⟩
  rw [hc56] at hsz
  obtain ⟨c0, c1, c2, c3, rfl⟩ := lst4 (by simpa using hsz)
  have h0 := hx 0 (by omega)
  have h1 := hx 1 (by omega)
  have h2 := hx 2 (by omega)
  have h3 := hx 3 (by omega)
  rw [cells3] at h0 h1 h2 h3
  obtain ⟨z0, e0, w0⟩ := trod_int3 (x := xs[0]'(by omega)) (h0.trans (by simp [hxl]))
  obtain ⟨z1, e1, w1⟩ := trod_int3 (x := xs[1]'(by omega)) (h1.trans (by simp [hxl]))
  obtain ⟨z2, e2, w2⟩ := trod_int3 (x := xs[2]'(by omega)) (h2.trans (by simp [hxl]))
  obtain ⟨z3, e3, w3⟩ := trod_int3 (x := xs[3]'(by omega)) (h3.trans (by simp [hxl]))
  simp [Value.cells] at e0 e1 e2 e3
  subst e0; subst e1; subst e2; subst e3
  exact ⟨z0, z1, z2, z3, rfl⟩
end
end
end Go.Proofs.YtjocoadhalimjaaGreat
