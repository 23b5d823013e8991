/- Groups, Clear, IsClear. -/
import Derived.Test.YtjocoadhalimjaaGreatRBD
import Derived.Test.YtjocoadhalimjaaGreatRAQ
import Derived.Test.YtjocoadhalimjaaGreatRAC
import Derived.Test.YtjocoadhalimjaaGreatRAA
set_option linter.unusedSimpArgs false
set_option linter.unusedVariables false
namespace Go.Proofs.YtjocoadhalimjaaGreat
section
open Go Go.RowKit Go.Shelf

theorem newDebts_bad {v : Value} {xs : List Int} {w : World} (hv : IntsAt w v xs) (h : debtsB xs = false) : Cal 62 #[v] w fun e w' => e = .returned (.tuple #[.slice none 0 0, .int .i64 33]) ∧ Ext w w' :=
  (newDebts_any v xs w hv).mono fun e w' ⟨hx, h'⟩ => by
    rcases h' with ⟨_, h1⟩ | ⟨h1, _⟩
    · exact ⟨h1, hx⟩
    · rw [h] at h1; cases h1
theorem newDebts_ok {v : Value} {xs : List Int} {w : World} (hv : IntsAt w v xs) (h : debtsB xs = true) : Cal 62 #[v] w fun e w' => ∃ r, e = .returned (.tuple #[r, .int .i64 0]) ∧ Ext w w' ∧ Hid (Row w' 3 1 r xs.length (intsV xs) ∧ ∀ g, r.ownBlock = some g → w.heap.size ≤ g) :=
  (newDebts_any v xs w hv).mono fun e w' ⟨hx, h'⟩ => by
    rcases h' with ⟨h1, _⟩ | ⟨_, r, h1, h2⟩
    · rw [h] at h1; cases h1
    · exact ⟨r, h1, hx, h2⟩
set_option maxHeartbeats 4000000 in
theorem Groups_bad (v : Value) (xs : List Int) (w : World) (hv : IntsAt w v xs) (h : debtsB xs = false) : Cal 37 #[v] w fun e w' => e = .returned (.tuple #[.slice none 0 0, .int .i64 33]) ∧ Ext w w' := by
  have HD := hid (newDebts_bad hv h)
  clear hv h
  gi_enter Tryz.func37, Tryz.ntmps37
  gi_wp2_with (gi_at_call 62; ((with_reducible refine (HD.out).mono ?_); rintro e w1 ⟨rfl, hx1⟩))
  exact bodyPost_ret (v := .tuple #[.slice none 0 0, .int .i64 33]) (by simp [results, Tryz.results37, go_sem]) rfl ⟨rfl, hx1⟩
set_option maxHeartbeats 4000000 in
theorem Clear_bad (v : Value) (xs : List Int) (w : World) (hv : IntsAt w v xs) (h : debtsB xs = false) : Cal 41 #[v] w fun e w' => e = .returned (.tuple #[.slice none 0 0, .int .i64 33]) ∧ Ext w w' := by
  have HD := hid (newDebts_bad hv h)
  clear hv h
  gi_enter Tryz.func41, Tryz.ntmps41
  gi_wp2_with (gi_at_call 62; ((with_reducible refine (HD.out).mono ?_); rintro e w1 ⟨rfl, hx1⟩))
  exact bodyPost_ret (v := .tuple #[.slice none 0 0, .int .i64 33]) (by simp [results, Tryz.results41, go_sem]) rfl ⟨rfl, hx1⟩
set_option maxHeartbeats 4000000 in
theorem IsClear_bad (v pv : Value) (xs : List Int) (w : World) (hv : IntsAt w v xs) (h : debtsB xs = false) : Cal 42 #[v, pv] w fun e w' => e = .returned (.tuple #[.bool false, .int .i64 33]) ∧ Ext w w' := by
  have HD := hid (newDebts_bad hv h)
  clear hv h
  gi_enter Tryz.func42, Tryz.ntmps42
  gi_wp2_with (gi_at_call 62; ((with_reducible refine (HD.out).mono ?_); rintro e w1 ⟨rfl, hx1⟩))
  exact bodyPost_ret (v := .tuple #[.bool false, .int .i64 33]) (by simp [results, Tryz.results42, go_sem]) rfl ⟨rfl, hx1⟩
/-- Groups in memory, as many as there can be. -/
def GroupsIn (n0 : Nat) (w : World) (r : Value) (xs : List Int) (vs : List Value) (ts : List Nat) : Prop :=
  Row w 23 1 r ts.length vs ∧ (∀ g, r.ownBlock = some g → n0 ≤ g) ∧ GsAt n0 w vs (grpsN ts) ∧ GroupsOk xs.length (balF xs) (openTo xs xs.length) 0 ts ∧ Sv.Best xs.length (balF xs) (Sv.nz xs.length (balF xs)) ts.length ∧ ts.length ≤ 10
set_option maxHeartbeats 4000000 in
theorem Groups_ok (v : Value) (xs : List Int) (w : World) (hv : IntsAt w v xs) (h : debtsB xs = true) : Cal 37 #[v] w fun e w' => ∃ r vs ts, e = .returned (.tuple #[r, .int .i64 0]) ∧ Ext w w' ∧ Hid (GroupsIn w.heap.size w' r xs vs ts) := by
  have HD := hid (newDebts_ok hv h)
  have HB := hid (debts_ok h)
  clear hv h
  gi_enter Tryz.func37, Tryz.ntmps37
  gi_wp2_with (first | (gi_at_call 62; ((with_reducible refine (HD.out).mono ?_); rintro e w1 ⟨r1, rfl, hx1, HR1⟩; have HX1 := hid hx1; have HG1 := hid (groups_any r1 xs w1 (IntsAt.of_row HR1.out.1 (by have := HB.out.1; omega)) HB.out.1 HB.out.2.1 HB.out.2.2); clear hx1)) | (gi_at_call 63; ((with_reducible refine (HG1.out).mono ?_); rintro e w2 ⟨r, vs, ts, rfl, hx2, HG2⟩; have HX2 := hid (HX1.out.trans hx2); clear hx2)))
  exact bodyPost_ret (v := .tuple #[r, .int .i64 0]) (by simp [results, Tryz.results37, go_sem]) rfl ⟨r, vs, ts, rfl, HX2.out, hid ⟨HG2.out.1, fun g hg => Nat.le_trans HX1.out.size (HG2.out.2.1 g hg), ⟨HG2.out.2.2.1.1, fun k hk => ⟨(HG2.out.2.2.1.2 k hk).1, fun g hg => Nat.le_trans HX1.out.size ((HG2.out.2.2.1.2 k hk).2 g hg)⟩⟩, HG2.out.2.2.2⟩⟩
set_option maxHeartbeats 4000000 in
theorem Clear_ok (v : Value) (xs : List Int) (w : World) (hv : IntsAt w v xs) (h : debtsB xs = true) : Cal 41 #[v] w fun e w' => ∃ r ps, e = .returned (.tuple #[r, .int .i64 0]) ∧ Ext w w' ∧ Hid (Row w' 74 3 r ps.length (pysF ps) ∧ (∀ q, r.ownBlock = some q → w.heap.size ≤ q) ∧ Cleared xs ps) := by
  have HD := hid (newDebts_ok hv h)
  have HB := hid (debts_ok h)
  clear hv h
  gi_enter Tryz.func41, Tryz.ntmps41
  gi_wp2_with (first | (gi_at_call 62; ((with_reducible refine (HD.out).mono ?_); rintro e w1 ⟨r1, rfl, hx1, HR1⟩; have HG1 := hid (clear_any r1 xs w w1 hx1 HR1.out.1 HR1.out.2 HB.out.1 HB.out.2.1 HB.out.2.2); clear hx1)) | (gi_at_call 64; ((with_reducible refine (HG1.out).mono ?_); rintro e w2 ⟨r, ps, rfl, hx2, HG2⟩; have HX2 := hid hx2; clear hx2)))
  exact bodyPost_ret (v := .tuple #[r, .int .i64 0]) (by simp [results, Tryz.results41, go_sem]) rfl ⟨r, ps, rfl, HX2.out, HG2⟩
set_option maxHeartbeats 4000000 in
theorem IsClear_ok (v pv : Value) (xs : List Int) (ps : List Py) (w : World) (hv : IntsAt w v xs) (hp : PaysAt w pv ps) (hsm : ∀ p ∈ ps, sm p) (h : debtsB xs = true) : Cal 42 #[v, pv] w fun e w' => e = .returned (.tuple #[.bool (clearB xs ps), .int .i64 0]) ∧ Ext w w' := by
  have HD := hid (newDebts_ok hv h)
  have HB := hid (debts_ok h)
  have HP := hid hp
  have HS := hid hsm
  clear hv h hp hsm
  gi_enter Tryz.func42, Tryz.ntmps42
  gi_wp2_with (first | (gi_at_call 62; ((with_reducible refine (HD.out).mono ?_); rintro e w1 ⟨r1, rfl, hx1, HR1⟩; have HX1 := hid hx1; have HG1 := hid (isCleared_any r1 pv xs ps w1 (IntsAt.of_row HR1.out.1 (by have := HB.out.1; omega)) (HP.out.mono hx1) (fun x hx => by have := HB.out.2.1 x hx; omega) HB.out.1 HS.out); clear hx1)) | (gi_at_call 65; ((with_reducible refine (HG1.out).mono ?_); rintro e w2 ⟨rfl, hx2⟩; have HX2 := hid (HX1.out.trans hx2); clear hx2)))
  exact bodyPost_ret (v := .tuple #[.bool (clearB xs ps), .int .i64 0]) (by simp [results, Tryz.results42, go_sem]) rfl ⟨rfl, HX2.out⟩
end
section
open Go Go.RowKit Go.Shelf

/-- The rest of a number by another one, from 0 on. -/
def modI (x m : Int) : Int := if x.tmod m < 0 then x.tmod m + m else x.tmod m
theorem modI_ok (x : Int) {m : Int} (hm : 1 ≤ m) : 0 ≤ modI x m ∧ modI x m < m := by
  have h1 := Int.tmod_lt_of_pos x (show 0 < m by omega)
  have h2 := Int.tmod_lt_of_pos (-x) (show 0 < m by omega)
  rw [Int.neg_tmod] at h2
  unfold modI
  split <;> omega
theorem mod_any (x m : Int) (w : World) (hm : 1 ≤ m ∧ m ≤ 1000000000000000000) :
    Cal 32 #[.int .i64 x, .int .i64 m] w fun e w' => e = .returned (.int .i64 (modI x m)) ∧ w = w' := by
  have h1 := Int.tmod_lt_of_pos x (show 0 < m by omega)
  have h2 := Int.tmod_lt_of_pos (-x) (show 0 < m by omega)
  rw [Int.neg_tmod] at h2
  have hw : IntKind.i64.wrap (x.tmod m + m) = x.tmod m + m := by rw [IntKind.wrap_i64]; omega
  have HM : Hid (modI x m = if x.tmod m < 0 then x.tmod m + m else x.tmod m) := rfl
  have hm0 : (m == 0) = false := by simp; omega
  gi_enter Tryz.func32, Tryz.ntmps32
  by_cases hneg : x.tmod m < 0
  · have HG := HM.out.trans (if_pos hneg)
    have HG2 := hid HG
    clear HG HM
    have hd : decide (x.tmod m < 0) = true := decide_eq_true hneg
    gi_wp2
    go_ret
    exact ⟨by rw [HG2.out]; rfl, rfl⟩
  · have HG := HM.out.trans (if_neg hneg)
    have HG2 := hid HG
    clear HG HM
    have hd : decide (x.tmod m < 0) = false := decide_eq_false hneg
    gi_wp2
    go_ret
    exact ⟨by rw [HG2.out]; rfl, rfl⟩
/-- A number from lo to hi, as a number chooses it. -/
def pickI (xs : List Int) (k : Int) : Int := if xs.length = 0 then 0 else xs.getD (modI k xs.length).toNat 0
theorem Pick_any (v : Value) (xs : List Int) (k : Int) (w : World) (h : IntsAt w v xs) :
    Cal 66 #[v, .int .i64 k] w fun e w' => e = .returned (.int .i64 (pickI xs k)) ∧ Ext w w' := by
  obtain ⟨a, cap, rfl, hl, hc⟩ := h
  gi_enter Tryz.func66, Tryz.ntmps66
  by_cases h0 : xs.length = 0
  · have HP : Hid (pickI xs k = 0) := if_pos h0
    have hz : ((xs.length : Int) == 0) = true := by rw [beq_iff_eq]; omega
    clear hc h0
    gi_wp2
    go_ret
    exact ⟨by rw [HP.out]; rfl, Ext.refl _⟩
  · have hz : ((xs.length : Int) == 0) = false := by rw [beq_eq_false_iff_ne]; omega
    have hmo := modI_ok k (m := (xs.length : Int)) (by omega)
    obtain ⟨j, hj⟩ : ∃ j : Nat, modI k xs.length = j := ⟨(modI k xs.length).toNat, by omega⟩
    have hjl : j < xs.length := by omega
    obtain ⟨b, off, rfl, hb, hcell⟩ := hc j hjl
    have HP : Hid (pickI xs k = xs[j]) := by
      show _ = _
      unfold pickI
      rw [if_neg h0, hj, Int.toNat_natCast, getD_of hjl]
    have HM := hid (mod_any k xs.length w (by omega))
    rw [hj] at HM
    clear hc h0 hmo hj
    generalize xs[j] = y at *
    gi_wp2_with (gi_at_call 32; ((with_reducible refine HM.out.mono ?_); rintro e w5 ⟨rfl, rfl⟩))
    go_ret
    exact ⟨by rw [HP.out]; rfl, Ext.refl _⟩

def pre (xs : List Int) (k : Nat) : Bool := decide (xs.length ≤ 10) && areB (-1000000) 1000000 (xs.take k)
theorem pre_succ {xs : List Int} {k : Nat} (h : k < xs.length) (hp : pre xs k = true) : pre xs (k + 1) = inB xs[k] (-1000000) 1000000 := by
  unfold pre at hp ⊢
  rw [Bool.and_eq_true] at hp
  rw [hp.1, Bool.true_and, List.take_succ_eq_append_getElem h]
  have h2 := areB_iff.1 hp.2
  cases hb : inB xs[k] (-1000000) 1000000 with
  | true =>
    refine areB_iff.2 fun x hx => ?_
    rcases List.mem_append.1 hx with hx | hx
    · exact h2 x hx
    · rw [List.mem_singleton] at hx; subst hx; exact inB_spec hb
  | false =>
    cases ha : areB (-1000000) 1000000 (xs.take k ++ [xs[k]]) with
    | false => rfl
    | true =>
      have h3 := areB_iff.1 ha xs[k] (List.mem_append_right _ (List.mem_singleton.2 rfl))
      exfalso
      rw [show inB xs[k] (-1000000) 1000000 = true by unfold inB; simp; omega] at hb; cases hb
theorem pre_false {xs : List Int} {k : Nat} (hp : pre xs k = false) : debtsB xs = false := by
  cases h : debtsB xs with
  | false => rfl
  | true =>
    obtain ⟨h1, h2, _⟩ := debts_ok h
    exfalso
    have : pre xs k = true := by
      unfold pre
      rw [Bool.and_eq_true]
      exact ⟨decide_eq_true h1, areB_iff.2 fun x hx => h2 x (List.mem_of_mem_take hx)⟩
    rw [this] at hp; cases hp
theorem pre_all {xs : List Int} (hp : pre xs xs.length = true) : debtsB xs = (xs.sum == 0) ∧ xs.length ≤ 10 ∧ ∀ x ∈ xs, -1000000 ≤ x ∧ x ≤ 1000000 := by
  unfold pre at hp
  rw [List.take_length, Bool.and_eq_true] at hp
  refine ⟨?_, of_decide_eq_true hp.1, areB_iff.1 hp.2⟩
  unfold debtsB
  rw [hp.1, hp.2]; rfl
set_option maxHeartbeats 4000000 in
theorem owing_any (v : Value) (xs : List Int) (w : World) (hv : IntsAt w v xs) (hll : xs.length ≤ 1000000000000000) : Cal 38 #[v] w fun e w' => e = .returned (.bool (debtsB xs)) ∧ w = w' := by
  have HV := hid hv
  obtain ⟨a, cap, rfl, hl, hc⟩ := id hv
  have HC := hid hc
  have hle : decide ((xs.length : Int) ≤ 10) = pre xs 0 := by
    unfold pre
    rw [List.take_zero, show areB (-1000000) 1000000 ([] : List Int) = true from areB_iff.2 (by simp), Bool.and_true]
    exact decide_eq_decide.2 (by omega)
  clear hv hc
  have HDB : Hid (∀ k, pre xs k = false → debtsB xs = false) := hid fun k h => pre_false h
  have HDA : Hid (pre xs xs.length = true → debtsB xs = (xs.sum == 0) ∧ xs.length ≤ 10 ∧ ∀ x ∈ xs, -1000000 ≤ x ∧ x ≤ 1000000) := hid pre_all
  have HPS : Hid (∀ k (h : k < xs.length), pre xs k = true → pre xs (k + 1) = inB xs[k] (-1000000) 1000000) := hid fun k h => pre_succ h
  gi_enter Tryz.func38, Tryz.ntmps38
  gi_wp2_with fail
  try rw [hle]
  clear hle
  gi_loopw [3, 4] (fun u3 i wr => wr = w ∧ ∃ k : Nat, k ≤ xs.length ∧ i = .int .i64 k ∧ u3 = .bool (pre xs k)) (fun _ i _ => xs.length - (intOf i).toNat)
  case atStart => exact ⟨rfl, 0, Nat.zero_le _, rfl, rfl⟩
  case round =>
    obtain ⟨rfl, k, hk, rfl, rfl⟩ := hrel
    cases hp : pre xs k with
    | false =>
      have HF := hid (HDB.out k hp)
      clear hp
      gi_wp2_with fail
      go_ret
      exact ⟨by rw [HF.out]; rfl, rfl⟩
    | true =>
      by_cases hlt : k < xs.length
      · have hki : (k : Int) < (xs.length : Int) := by omega
        obtain ⟨b, off, rfl, hb, hcell⟩ := HC.out k hlt
        have HN := hid (HPS.out k hlt hp)
        have HI := hid (In_b xs[k] (-1000000) 1000000 _ wr HN.out.symm)
        clear hp HN
        generalize xs[k] = x at *
        obtain ⟨q, hq⟩ : ∃ q, pre xs (k + 1) = q := ⟨_, rfl⟩
        rw [hq] at HI
        have HQ := hid hq
        clear hq
        gi_wp2_with (gi_at_call 29; ((with_reducible refine (HI.out).mono ?_); rintro e w1 ⟨rfl, rfl⟩))
        go_roundw
        case rel => exact ⟨by first | rfl | trivial, k + 1, by omega, by go_num, by first | rfl | (rw [HQ.out])⟩
        case measure => simp [intOf]; omega
      · obtain rfl : k = xs.length := by omega
        have hki : ¬ (xs.length : Int) < (xs.length : Int) := by omega
        have HA := hid (HDA.out hp)
        have HSU := hid (Sum_any (.slice a xs.length cap) xs wr HV.out (fun x hx => by have := HA.out.2.2 x hx; omega) (by have := HA.out.2.1; omega))
        clear hp hlt
        gi_wp2_with (gi_at_call 34; ((with_reducible refine (HSU.out).mono ?_); rintro e w1 ⟨rfl, rfl⟩))
        go_ret
        exact ⟨by rw [HA.out.1]; rfl, rfl⟩
end
end Go.Proofs.YtjocoadhalimjaaGreat
