/- Small functions over lists: where a number stands, the number that is picked, whether all are in another list; whether a report is true of a track. -/
import Derived.Test.YtlgcnjcbmihefaaXU
import Derived.Test.YtlgcnjcbmihefaaXR
set_option linter.unusedSimpArgs false
set_option linter.unusedVariables false
namespace Go.Proofs.Ytlgcnjcbmihefaa
open Go Go.RowKit Go.Shelf

def placeI (xs : List Int) (x : Int) : Int := match xs.findIdx? (fun y => y == x) with | some i => (i : Int) | none => -1
theorem placeI_mem {xs : List Int} {x : Int} : 0 ≤ placeI xs x ↔ x ∈ xs := by
  unfold placeI
  cases h : xs.findIdx? (fun y => y == x) with
  | none =>
    have := List.findIdx?_eq_none_iff.mp h
    constructor
    · intro h; exact absurd h (by decide)
    · intro hm
      have := this x hm
      simp at this
  | some i =>
    obtain ⟨hi, hp, _⟩ := List.findIdx?_eq_some_iff_getElem.mp h
    constructor
    · intro _
      have e : xs[i] = x := by simpa using hp
      rw [← e]; exact List.getElem_mem _
    · intro _; exact Int.natCast_nonneg i

set_option maxHeartbeats 1000000 in
theorem Place_any (v : Value) (xs : List Int) (x : Int) (w : World) (h : IntsAt w v xs) :
    Cal 34 #[v, .int .i64 x] w fun e w' => e = .returned (.int .i64 (placeI xs x)) ∧ Ext w w' := by
  obtain ⟨a, cap, rfl, hl, hc⟩ := h
  have HC0 := hid hc
  clear hc
  gi_enter Try.func34, Try.ntmps34
  gi_wp2_with fail
  gi_loopw [5] (fun i wr => ∃ k : Nat, k ≤ xs.length ∧ i = .int .i64 k ∧ Hid (∀ j (h : j < xs.length), j < k → xs[j] ≠ x) ∧ Ext w wr) (fun i _ => xs.length - (intOf i).toNat)
  case atStart => exact ⟨0, Nat.zero_le _, rfl, fun _ _ h => absurd h (by omega), Ext.refl _⟩
  case round =>
    obtain ⟨k, hk, rfl, hno, hx⟩ := hrel
    by_cases hlt : k < xs.length
    · obtain ⟨b, off, rfl, hb, hcell⟩ := HC0.out k hlt
      have hcell2 := (hx.cell (p := ⟨b, _, none⟩) hb).trans hcell
      have HX := hid hx
      have HNO := hid hno.out
      have hkw : IntKind.i64.wrap ((k : Int) + 1) = k + 1 := by rw [IntKind.wrap_i64]; omega
      clear hcell hx hno
      cases hd : (xs[k] == x) with
      | true =>
        have HP : Hid (placeI xs x = k) := by
          show _ = _
          unfold placeI
          rw [List.findIdx?_eq_some_iff_getElem.mpr ⟨hlt, hd, fun j hj => by simpa using HNO.out j (by omega) hj⟩]
        clear HNO HC0
        generalize xs[k] = y at *
        gi_wp2
        go_ret
        exact ⟨by rw [HP.out]; rfl, HX.out⟩
      | false =>
        have HNX : Hid (∀ j (h : j < xs.length), j < k + 1 → xs[j] ≠ x) := fun j h hj => by
          by_cases e : j = k
          · subst e; simpa using hd
          · exact HNO.out j h (by omega)
        clear HNO
        generalize xs[k] = y at *
        gi_wp2
        go_roundw
        case rel => exact ⟨k + 1, by omega, by go_num, HNX, HX.out⟩
        case measure => simp [intOf]; omega
    · obtain rfl : k = xs.length := by omega
      have HP : Hid (placeI xs x = -1) := by
        show _ = _
        unfold placeI
        rw [List.findIdx?_eq_none_iff.mpr (fun y hy => by
          obtain ⟨j, hj, rfl⟩ := List.getElem_of_mem hy
          simpa using hno.out j hj hj)]
      clear hno
      gi_wp2
      go_ret
      exact ⟨by rw [HP.out]; rfl, hx⟩

theorem mod_big (x m : Int) (w : World) (hm : 1 ≤ m ∧ m ≤ 1000000000000000) :
    Cal 37 #[.int .i64 x, .int .i64 m] w fun e w' => e = .returned (.int .i64 (modI x m)) ∧ w = w' := by
  have h1 := Int.tmod_lt_of_pos x (show 0 < m by omega)
  have h2 := Int.tmod_lt_of_pos (-x) (show 0 < m by omega)
  rw [Int.neg_tmod] at h2
  have hw : IntKind.i64.wrap (x.tmod m + m) = x.tmod m + m := by rw [IntKind.wrap_i64]; omega
  have HM : Hid (modI x m = if x.tmod m < 0 then x.tmod m + m else x.tmod m) := rfl
  have hm0 : (m == 0) = false := by simp; omega
  gi_enter Try.func37, Try.ntmps37
  by_cases hneg : x.tmod m < 0
  · have HG := HM.out.trans (if_pos hneg)
    have HG2 := hid HG
    clear HG HM
    have hd : decide (x.tmod m < 0) = true := decide_eq_true hneg
    gi_wp2
    go_ret
    exact ⟨by rw [HG2.out]; rfl, rfl⟩
  · have HG := HM.out.trans (if_neg hneg)
    have HG2 := hid HG
    clear HG HM
    have hd : decide (x.tmod m < 0) = false := decide_eq_false hneg
    gi_wp2
    go_ret
    exact ⟨by rw [HG2.out]; rfl, rfl⟩
def pickI (xs : List Int) (k : Int) : Int := if xs.length = 0 then 0 else xs.getD (modI k xs.length).toNat 0
theorem pickI_mem {xs : List Int} {k : Int} (h : xs.length ≠ 0) : pickI xs k ∈ xs := by
  unfold pickI
  rw [if_neg h]
  have := modI_ok k (m := (xs.length : Int)) (by omega)
  rw [getD_of (show (modI k xs.length).toNat < xs.length by omega)]
  exact List.getElem_mem _
theorem Pick_any (v : Value) (xs : List Int) (k : Int) (w : World) (h : IntsAt w v xs) :
    Cal 72 #[v, .int .i64 k] w fun e w' => e = .returned (.int .i64 (pickI xs k)) ∧ Ext w w' := by
  obtain ⟨a, cap, rfl, hl, hc⟩ := h
  gi_enter Try.func72, Try.ntmps72
  by_cases h0 : xs.length = 0
  · have HP : Hid (pickI xs k = 0) := if_pos h0
    have hz : ((xs.length : Int) == 0) = true := by rw [beq_iff_eq]; omega
    clear hc h0
    gi_wp2
    go_ret
    exact ⟨by rw [HP.out]; rfl, Ext.refl _⟩
  · have hz : ((xs.length : Int) == 0) = false := by rw [beq_eq_false_iff_ne]; omega
    have hmo := modI_ok k (m := (xs.length : Int)) (by omega)
    obtain ⟨j, hj⟩ : ∃ j : Nat, modI k xs.length = j := ⟨(modI k xs.length).toNat, by omega⟩
    have hjl : j < xs.length := by omega
    obtain ⟨b, off, rfl, hb, hcell⟩ := hc j hjl
    have HP : Hid (pickI xs k = xs[j]) := by
      show _ = _
      unfold pickI
      rw [if_neg h0, hj, Int.toNat_natCast, getD_of hjl]
    have HM := hid (mod_big k xs.length w (by omega))
    rw [hj] at HM
    clear hc h0 hmo hj
    generalize xs[j] = y at *
    gi_wp2_with (gi_at_call 37; ((with_reducible refine HM.out.mono ?_); rintro e w5 ⟨rfl, rfl⟩))
    go_ret
    exact ⟨by rw [HP.out]; rfl, Ext.refl _⟩

set_option maxHeartbeats 1000000 in
theorem subset_any (v1 v2 : Value) (xs ys : List Int) (w : World) (h1 : IntsAt w v1 xs) (h2 : IntsAt w v2 ys) (hs : ∀ x ∈ xs, x ∈ ys) :
    Cal 38 #[v1, v2] w fun e w' => e = .returned (.bool true) ∧ Ext w w' := by
  have H2 := hid h2
  obtain ⟨a, cap, rfl, hl, hc⟩ := h1
  have HC0 := hid hc
  have HS := hid hs
  clear hc hs h2
  gi_enter Try.func38, Try.ntmps38
  gi_wp2_with fail
  gi_loopw [5] (fun i wr => ∃ k : Nat, k ≤ xs.length ∧ i = .int .i64 k ∧ Ext w wr) (fun i _ => xs.length - (intOf i).toNat)
  case atStart => exact ⟨0, Nat.zero_le _, rfl, Ext.refl _⟩
  case round =>
    obtain ⟨k, hk, rfl, hx⟩ := hrel
    by_cases hlt : k < xs.length
    · obtain ⟨b, off, rfl, hb, hcell⟩ := HC0.out k hlt
      have hcell2 := (hx.cell (p := ⟨b, _, none⟩) hb).trans hcell
      have HX := hid hx
      have hkw : IntKind.i64.wrap ((k : Int) + 1) = k + 1 := by rw [IntKind.wrap_i64]; omega
      have HP := hid (Place_any _ ys xs[k] wr (H2.out.mono hx))
      have hp0 := placeI_mem.mpr (HS.out xs[k] (List.getElem_mem _))
      have hneg : decide (placeI ys xs[k] < 0) = false := by rw [decide_eq_false_iff_not]; omega
      clear hcell hx hp0
      generalize placeI ys xs[k] = r at *
      generalize xs[k] = y at *
      gi_wp2_with (gi_at_call 34; ((with_reducible refine HP.out.mono ?_); rintro e w5 ⟨rfl, hx5⟩))
      go_roundw
      case rel => exact ⟨k + 1, by omega, by go_num, HX.out.trans hx5⟩
      case measure => simp [intOf]; omega
    · obtain rfl : k = xs.length := by omega
      gi_wp2
      go_ret
      exact ⟨rfl, hx⟩

set_option maxRecDepth 100000 in
set_option maxHeartbeats 1000000 in
theorem told_any (D : SeaD) (lv dv tv : Value) (r : Rep) (tr : List Int) (w : World) (hw : 1 ≤ D.wide ∧ D.wide ≤ 10) (ht : IntsAt w tv tr) (hr0 : 0 ≤ r.hour) (hr : r.hour < tr.length) (hrc : 0 ≤ r.cell ∧ r.cell ≤ 1000) (htb : ∀ c ∈ tr, 0 ≤ c ∧ c ≤ 1000) :
    Cal 33 #[seaVal D lv dv, .agg #[.int .i64 r.hour, .int .i64 r.cell, .int .i64 r.far, .bool r.there], tv] w fun e w' => e = .returned (.bool (repTrue r (col (seaOf D) r.cell) (row (seaOf D) r.cell) (col (seaOf D) (tr.getD r.hour.toNat 0)) (row (seaOf D) (tr.getD r.hour.toNat 0)))) ∧ Ext w w' := by
  unfold seaVal repTrue
  obtain ⟨a, cap, rfl, hl, hc⟩ := ht
  obtain ⟨rh, rc, rf, rt⟩ := r
  simp only at hr hr0 hrc ⊢
  obtain ⟨j, rfl⟩ : ∃ j : Nat, rh = j := ⟨rh.toNat, by omega⟩
  have hjl : j < tr.length := by omega
  rw [Int.toNat_natCast, getD_of hjl]
  obtain ⟨b, off, rfl, hb, hcell⟩ := hc j hjl
  have htc := htb tr[j] (List.getElem_mem _)
  obtain ⟨dd, hdd⟩ : ∃ dd, dist (col (seaOf D) rc) (row (seaOf D) rc) (col (seaOf D) tr[j]) (row (seaOf D) tr[j]) = dd := ⟨_, rfl⟩
  rw [hdd]
  have hx1 : Ext w ((w.alloc (.cells #[.int .i64 D.wide, .int .i64 D.high, lv, .int .i64 D.hours, dv, .int .i64 D.speed] 25)).alloc (.cells #[.int .i64 j, .int .i64 rc, .int .i64 rf, .bool rt] 52)) := ((Ext.refl w).alloc _).alloc _
  have hb1 : ((w.alloc (.cells #[.int .i64 D.wide, .int .i64 D.high, lv, .int .i64 D.hours, dv, .int .i64 D.speed] 25)).alloc (.cells #[.int .i64 j, .int .i64 rc, .int .i64 rf, .bool rt] 52)).heap[w.heap.size]? = some (.cells #[.int .i64 D.wide, .int .i64 D.high, lv, .int .i64 D.hours, dv, .int .i64 D.speed] 25 (0, 0)) := two_new
  have hb2 : ((w.alloc (.cells #[.int .i64 D.wide, .int .i64 D.high, lv, .int .i64 D.hours, dv, .int .i64 D.speed] 25)).alloc (.cells #[.int .i64 j, .int .i64 rc, .int .i64 rf, .bool rt] 52)).heap[w.heap.size + 1]? = some (.cells #[.int .i64 j, .int .i64 rc, .int .i64 rf, .bool rt] 52 (0, 0)) := by
    have := Ext.new (w := w.alloc (.cells #[.int .i64 D.wide, .int .i64 D.high, lv, .int .i64 D.hours, dv, .int .i64 D.speed] 25)) (o := .cells #[.int .i64 j, .int .i64 rc, .int .i64 rf, .bool rt] 52) (Ext.refl _)
    simpa using this
  gi_enter Try.func33, Try.ntmps33
  gi_wp2_with fail
  generalize (w.alloc (.cells #[.int .i64 D.wide, .int .i64 D.high, lv, .int .i64 D.hours, dv, .int .i64 D.speed] 25)).alloc (.cells #[.int .i64 j, .int .i64 rc, .int .i64 rf, .bool rt] 52) = w1 at *
  have HAP := hid fun e : Later w1 => apart_any D lv dv rc tr[j] e.val hw hrc htc
  rw [seaVal] at HAP
  simp only [hdd] at HAP
  clear hdd
  have HC := hid fun e : Later w1 => And.intro (cell_of (Ext.block e.grown hb1)) (And.intro (cell_of (Ext.block e.grown hb2)) (((hx1.trans e.grown).cell (p := ⟨b, _, none⟩) hb).trans hcell))
  have HX := hid hx1
  clear hc hcell hb hb1 hb2 hx1 htb htc
  generalize tr[j] = y at *
  refine quiet_wide 15 (by kernel_rfl) (by kernel_rfl) ?_
  simp only [List.take_succ_cons, List.take_zero, List.drop_succ_cons, List.drop_zero]
  have q1 := HC.out
  repeat (any_goals (first | go_big_quiet_step ((go_at_call 40; with_reducible exact Cal.quiet (HAP.out _))) | quiet_step ((go_at_call 40; with_reducible exact Cal.quiet (HAP.out _)))))
  refine wpQuiet_nil ?_
  rintro w5 ⟨⟨_, hx5⟩, rfl⟩
  clear q1 HC HAP
  gi_wp2
  go_ret
  refine ⟨?_, HX.out.trans hx5⟩
  congr 2
  cases rt <;> cases decide (dd ≤ rf) <;> rfl
end Go.Proofs.Ytlgcnjcbmihefaa
