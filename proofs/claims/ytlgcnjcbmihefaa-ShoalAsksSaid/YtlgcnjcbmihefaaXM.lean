/- The statements' small helpers. -/
import Derived.Test.YtlgcnjcbmihefaaXK
set_option linter.unusedSimpArgs false
set_option linter.unusedVariables false
namespace Go.Proofs.Ytlgcnjcbmihefaa
open Go Go.RowKit Go.Shelf

theorem in_any (n lo hi : Int) (w : World) :
    Cal 39 #[.int .i64 n, .int .i64 lo, .int .i64 hi] w fun e w' => e = .returned (.bool (inB n lo hi)) ∧ w = w' := by
  unfold inB
  gi_enter Try.func39, Try.ntmps39
  gi_wp2
  · go_ret; exact ⟨by simp [*], rfl⟩
  · have h : ¬ lo ≤ n := by omega
    go_ret; exact ⟨by simp [h], rfl⟩
theorem in_b (n lo hi : Int) (v : Bool) (w : World) (h : inB n lo hi = v) :
    Cal 39 #[.int .i64 n, .int .i64 lo, .int .i64 hi] w fun e w' => e = .returned (.bool v) ∧ w = w' := by
  subst h; exact in_any n lo hi w
theorem abs_any (x : Int) (w : World) (hx : -1000000 ≤ x ∧ x ≤ 1000000) :
    Cal 71 #[.int .i64 x] w fun e w' => e = .returned (.int .i64 (max (-x) x)) ∧ w = w' := by
  gi_enter Try.func71, Try.ntmps71
  gi_wp2
  all_goals go_ret
  all_goals first | exact ⟨by rw [Int.max_eq_right (by omega)]; rfl, rfl⟩ | exact ⟨by rw [Int.max_eq_left (by omega)]; rfl, rfl⟩
/-- The rest of a number by another one, from 0 on. -/
def modI (x m : Int) : Int := if x.tmod m < 0 then x.tmod m + m else x.tmod m
theorem modI_ok (x : Int) {m : Int} (hm : 1 ≤ m) : 0 ≤ modI x m ∧ modI x m < m := by
  have h1 := Int.tmod_lt_of_pos x (show 0 < m by omega)
  have h2 := Int.tmod_lt_of_pos (-x) (show 0 < m by omega)
  rw [Int.neg_tmod] at h2
  unfold modI
  split <;> omega
theorem mod_any (x m : Int) (w : World) (hm : 1 ≤ m ∧ m ≤ 1000) :
    Cal 37 #[.int .i64 x, .int .i64 m] w fun e w' => e = .returned (.int .i64 (modI x m)) ∧ w = w' := by
  have h1 := Int.tmod_lt_of_pos x (show 0 < m by omega)
  have h2 := Int.tmod_lt_of_pos (-x) (show 0 < m by omega)
  rw [Int.neg_tmod] at h2
  have hw : IntKind.i64.wrap (x.tmod m + m) = x.tmod m + m := by rw [IntKind.wrap_i64]; omega
  have HM : Hid (modI x m = if x.tmod m < 0 then x.tmod m + m else x.tmod m) := rfl
  have hm0 : (m == 0) = false := by simp; omega
  gi_enter Try.func37, Try.ntmps37
  by_cases hneg : x.tmod m < 0
  · have HG := HM.out.trans (if_pos hneg)
    have HG2 := hid HG
    clear HG HM
    have hd : decide (x.tmod m < 0) = true := decide_eq_true hneg
    gi_wp2
    go_ret
    exact ⟨by rw [HG2.out]; rfl, rfl⟩
  · have HG := HM.out.trans (if_neg hneg)
    have HG2 := hid HG
    clear HG HM
    have hd : decide (x.tmod m < 0) = false := decide_eq_false hneg
    gi_wp2
    go_ret
    exact ⟨by rw [HG2.out]; rfl, rfl⟩

theorem dist_max (a b c d : Int) : dist a b c d = max (max (-(a - c)) (a - c)) (max (-(b - d)) (b - d)) := by
  unfold dist maxL
  simp only [List.foldl_cons, List.foldl_nil]
  repeat' split
  all_goals omega
set_option maxRecDepth 100000 in
set_option maxHeartbeats 1000000 in
theorem apart_any (D : SeaD) (lv dv : Value) (a b : Int) (w : World) (hw : 1 ≤ D.wide ∧ D.wide ≤ 10) (ha : 0 ≤ a ∧ a ≤ 1000) (hb : 0 ≤ b ∧ b ≤ 1000) :
    Cal 40 #[seaVal D lv dv, .int .i64 a, .int .i64 b] w fun e w' => e = .returned (.int .i64 (dist (col (seaOf D) a) (row (seaOf D) a) (col (seaOf D) b) (row (seaOf D) b))) ∧ Ext w w' := by
  unfold seaVal
  have h1 := Int.emod_nonneg a (show D.wide ≠ 0 by omega)
  have h2 := Int.emod_lt_of_pos a (show 0 < D.wide by omega)
  have h3 := Int.emod_nonneg b (show D.wide ≠ 0 by omega)
  have h4 := Int.emod_lt_of_pos b (show 0 < D.wide by omega)
  have h5 := Int.ediv_nonneg ha.1 (show 0 ≤ D.wide by omega)
  have h6 := Int.ediv_le_self D.wide ha.1
  have h7 := Int.ediv_nonneg hb.1 (show 0 ≤ D.wide by omega)
  have h8 := Int.ediv_le_self D.wide hb.1
  have HD : Hid (dist (col (seaOf D) a) (row (seaOf D) a) (col (seaOf D) b) (row (seaOf D) b) = max (max (-(a % D.wide - b % D.wide)) (a % D.wide - b % D.wide)) (max (-(a / D.wide - b / D.wide)) (a / D.wide - b / D.wide))) := dist_max _ _ _ _
  gi_enter Try.func40, Try.ntmps40
  gi_wp2_with fail
  have hnb : (w.alloc (.cells #[.int .i64 D.wide, .int .i64 D.high, lv, .int .i64 D.hours, dv, .int .i64 D.speed] 25)).heap[w.heap.size]? = some (.cells #[.int .i64 D.wide, .int .i64 D.high, lv, .int .i64 D.hours, dv, .int .i64 D.speed] 25 (0, 0)) := Ext.new (Ext.refl _)
  have hx1 : Ext w (w.alloc (.cells #[.int .i64 D.wide, .int .i64 D.high, lv, .int .i64 D.hours, dv, .int .i64 D.speed] 25)) := (Ext.refl w).alloc _
  generalize w.alloc (.cells #[.int .i64 D.wide, .int .i64 D.high, lv, .int .i64 D.hours, dv, .int .i64 D.speed] 25) = w1 at *
  have HC := hid fun e : Later w1 => cell_of (Ext.block e.grown hnb)
  have HA1 := hid fun e : Later w1 => abs_any (a % D.wide - b % D.wide) e.val (by omega)
  have HA2 := hid fun e : Later w1 => abs_any (a / D.wide - b / D.wide) e.val (by omega)
  have HX := hid hx1
  generalize max (-(a % D.wide - b % D.wide)) (a % D.wide - b % D.wide) = p at *
  generalize max (-(a / D.wide - b / D.wide)) (a / D.wide - b / D.wide) = q at *
  clear hnb hx1
  by_cases hpq : p < q
  · rw [Int.max_eq_right (by omega)] at HD
    refine quiet_wide 21 (by kernel_rfl) (by kernel_rfl) ?_
    simp only [List.take_succ_cons, List.take_zero, List.drop_succ_cons, List.drop_zero]
    have q1 := HC.out
    repeat (any_goals (first | go_big_quiet_step ((first | (go_at_call 71; with_reducible exact Cal.quiet_same (HA1.out _)) | (go_at_call 71; with_reducible exact Cal.quiet_same (HA2.out _)))) | quiet_step ((first | (go_at_call 71; with_reducible exact Cal.quiet_same (HA1.out _)) | (go_at_call 71; with_reducible exact Cal.quiet_same (HA2.out _))))))
    refine wpQuiet_nil ?_
    rintro w5 ⟨⟨_, hx5⟩, rfl⟩
    clear q1 HC
    gi_wp2
    go_ret
    exact ⟨by rw [HD.out]; rfl, HX.out.trans hx5⟩
  · rw [Int.max_eq_left (by omega)] at HD
    refine quiet_wide 21 (by kernel_rfl) (by kernel_rfl) ?_
    simp only [List.take_succ_cons, List.take_zero, List.drop_succ_cons, List.drop_zero]
    have q1 := HC.out
    repeat (any_goals (first | go_big_quiet_step ((first | (go_at_call 71; with_reducible exact Cal.quiet_same (HA1.out _)) | (go_at_call 71; with_reducible exact Cal.quiet_same (HA2.out _)))) | quiet_step ((first | (go_at_call 71; with_reducible exact Cal.quiet_same (HA1.out _)) | (go_at_call 71; with_reducible exact Cal.quiet_same (HA2.out _))))))
    refine wpQuiet_nil ?_
    rintro w5 ⟨⟨_, hx5⟩, rfl⟩
    clear q1 HC
    gi_wp2
    go_ret
    exact ⟨by rw [HD.out]; rfl, HX.out.trans hx5⟩
end Go.Proofs.Ytlgcnjcbmihefaa

namespace Go.Proofs.Ytlgcnjcbmihefaa
open Go Go.RowKit Go.Shelf

def soundB (D : SeaD) (rs : List Rep) : Bool := seaB D && repsB D.hours (D.wide * D.high) rs
theorem sea_bounds {D : SeaD} (h : seaB D = true) : inB D.wide 1 10 = true ∧ inB D.high 1 8 = true ∧ inB D.hours 1 12 = true ∧ inB D.speed 0 2 = true ∧ (D.drift.length : Int) = D.hours - 1 := by
  have hst := steps_ok h
  unfold seaB at h
  simp only [Bool.and_eq_true] at h
  exact ⟨h.1.1.1.1.1, h.1.1.1.1.2, h.1.1.2, h.1.1.1.2, hst.1⟩
theorem rep_bounds {D : SeaD} {rs : List Rep} (h : repsB D.hours (D.wide * D.high) rs = true) (k : Nat) (hk : k < rs.length) : inB rs[k].hour 0 (D.hours - 1) = true ∧ inB rs[k].cell 0 (D.wide * D.high - 1) = true := by
  unfold repsB allTo at h
  rw [Bool.and_eq_true] at h
  have := List.all_eq_true.1 h.2 k (List.mem_range.2 hk)
  rw [repGood_eq hk, Bool.and_eq_true, Bool.and_eq_true] at this
  exact this.1

set_option maxRecDepth 100000 in
set_option maxHeartbeats 2000000 in
theorem sound_any (D : SeaD) (rs : List Rep) (v : Value) (w : World) (hs : SearchAt w v D rs) :
    Cal 31 #[v] w fun e w' => e = .returned (.bool (soundB D rs)) ∧ Ext w w' := by
  obtain ⟨lv, dv, rv, rfl, hl, hd, hr⟩ := hs
  have hx : Ext w (w.alloc (.cells #[.int .i64 D.wide, .int .i64 D.high, lv, .int .i64 D.hours, dv, .int .i64 D.speed, rv] 28)) := (Ext.refl w).alloc _
  have hbx : (w.alloc (.cells #[.int .i64 D.wide, .int .i64 D.high, lv, .int .i64 D.hours, dv, .int .i64 D.speed, rv] 28)).heap[w.heap.size]? = some (.cells #[.int .i64 D.wide, .int .i64 D.high, lv, .int .i64 D.hours, dv, .int .i64 D.speed, rv] 28 (0, 0)) := Ext.new (Ext.refl _)
  have HT := hid (IsTrack_any D lv dv rv (.slice none 0 0) rs [] _ (hl.mono hx) (hd.mono hx) (hr.mono hx) (ints_nil _))
  rw [seaVal] at HT
  have HBX := hid hbx
  have HX := hid hx
  obtain ⟨da, dcap, rfl, _, _⟩ := hd
  obtain ⟨ra, rcap, rfl, hrl, hrc⟩ := hr
  have HRC := hid hrc
  clear hl hx hbx hrc
  gi_enter Try.func31, Try.ntmps31
  cases hb : soundB D rs with
  | false =>
    obtain ⟨ec, he, hec⟩ : ∃ ec : Int, isTrackRes D rs [] = .tuple #[.int .i64 0, .bool false, .int .i64 ec] ∧ (ec == 0) = false := by
      unfold isTrackRes
      cases h1 : seaB D with
      | false => exact ⟨10, rfl, rfl⟩
      | true =>
        cases h2 : repsB D.hours (D.wide * D.high) rs with
        | false => exact ⟨11, by simp [h2], rfl⟩
        | true => unfold soundB at hb; rw [h1, h2] at hb; cases hb
    rw [he] at HT
    clear he hb
    gi_wp2_with (gi_at_call 15; ((with_reducible refine HT.out.mono ?_); rintro e w1 ⟨rfl, hx1⟩; have hc1 := cell_of (hx1.block HBX.out)))
    gi_loopw [6, 7] (fun a i wr => a = .bool false ∧ i = .int .i64 0 ∧ Ext w1 wr) (fun _ _ _ => 0)
    case atStart => exact ⟨rfl, rfl, Ext.refl _⟩
    case round =>
      obtain ⟨rfl, rfl, hx2⟩ := hrel
      gi_wp2
      go_ret
      exact ⟨rfl, HX.out.trans (hx1.trans hx2)⟩
  | true =>
    have hb2 := hb
    unfold soundB at hb2
    rw [Bool.and_eq_true] at hb2
    have hbd := sea_bounds hb2.1
    have HRB := hid (rep_bounds hb2.2)
    have hro := (reps_ok hb2.1 hb2.2).1
    have he : isTrackRes D rs [] = .tuple #[.int .i64 0, .bool false, .int .i64 0] := by
      unfold isTrackRes
      rw [if_neg (by rw [hb2.1]; simp), if_neg (by rw [hb2.2]; simp), if_pos]
      unfold trackB
      have := inB_spec hbd.2.2.1
      rw [decide_eq_false (by show ¬ ((([] : List Int).length : Int) = D.hours); simp; omega), Bool.false_and]
    rw [he] at HT
    have H1 := hid hbd.1
    have H2 := hid hbd.2.1
    have H3 := hid hbd.2.2.1
    have H4 := hid hbd.2.2.2.1
    have h5 : ((D.drift.length : Int) == D.hours - 1) = true := by simpa using hbd.2.2.2.2
    have hh := inB_spec hbd.2.2.1
    have hw := inB_spec hbd.1
    have hg := inB_spec hbd.2.1
    have hm := mul_bounds hw hg
    have hww : IntKind.i64.wrap (D.wide * D.high) = D.wide * D.high := by rw [IntKind.wrap_i64]; omega
    have hwm : IntKind.i64.wrap (D.wide * D.high - 1) = D.wide * D.high - 1 := by rw [IntKind.wrap_i64]; omega
    clear he hb hb2 hbd
    gi_wp2_with (first | (gi_at_call 15; ((with_reducible refine HT.out.mono ?_); rintro e w1 ⟨rfl, hx1⟩; have hc1 := cell_of (hx1.block HBX.out); have HB1 := hid (hx1.block HBX.out))) | (gi_at_call 39; ((with_reducible refine (in_b _ _ _ true _ H1.out).mono ?_); rintro e w9 ⟨rfl, rfl⟩)) | (gi_at_call 39; ((with_reducible refine (in_b _ _ _ true _ H2.out).mono ?_); rintro e w9 ⟨rfl, rfl⟩)) | (gi_at_call 39; ((with_reducible refine (in_b _ _ _ true _ H3.out).mono ?_); rintro e w9 ⟨rfl, rfl⟩)) | (gi_at_call 39; ((with_reducible refine (in_b _ _ _ true _ H4.out).mono ?_); rintro e w9 ⟨rfl, rfl⟩)))
    gi_loopw [6, 7] (fun a i wr => ∃ k : Nat, k ≤ rs.length ∧ a = .bool true ∧ i = .int .i64 k ∧ Ext w1 wr) (fun _ i _ => rs.length - (intOf i).toNat)
    case atStart => exact ⟨0, Nat.zero_le _, rfl, rfl, Ext.refl _⟩
    case round =>
      obtain ⟨k, hk, rfl, rfl, hx2⟩ := hrel
      have hbw := hx2.block HB1.out
      have hcw := cell_of hbw
      by_cases hlt : k < rs.length
      · obtain ⟨rb, off, rfl, hrb, hr0, hr1, _, _⟩ := HRC.out k hlt
        have hrk := HRB.out k hlt
        have HRK := hid hrk
        have HC := hid fun e : Later wr => And.intro (cell_of (Ext.block e.grown hbw)) (And.intro ((HX.out.trans (hx1.trans (Ext.trans hx2 e.grown))).cell (p := ⟨rb, _, none⟩) hrb |>.trans hr0) ((HX.out.trans (hx1.trans (Ext.trans hx2 e.grown))).cell (p := ⟨rb, _, none⟩) hrb |>.trans hr1))
        have HX2 := hid hx2
        clear hr0 hr1 hrb hrk hbw hx2
        generalize rs[k].hour = rh at *
        generalize rs[k].cell = rc at *
        gi_wp2_with fail
        clear hcw
        refine quiet_wide 28 (by kernel_rfl) (by kernel_rfl) ?_
        simp only [List.take_succ_cons, List.take_zero, List.drop_succ_cons, List.drop_zero]
        have q1 := HC.out
        repeat (any_goals (first | go_big_quiet_step ((first | (go_at_call 39; with_reducible exact Cal.quiet_same (in_b _ _ _ true _ HRK.out.1)) | (go_at_call 39; with_reducible exact Cal.quiet_same (in_b _ _ _ true _ HRK.out.2)))) | quiet_step ((first | (go_at_call 39; with_reducible exact Cal.quiet_same (in_b _ _ _ true _ HRK.out.1)) | (go_at_call 39; with_reducible exact Cal.quiet_same (in_b _ _ _ true _ HRK.out.2))))))
        refine wpQuiet_nil ?_
        rintro w5 ⟨⟨_, hx5⟩, rfl⟩
        clear q1 HC
        gi_wp2
        go_roundw
        case rel => exact ⟨k + 1, by omega, rfl, by go_num, HX2.out.trans hx5⟩
        case measure => simp [intOf]; omega
      · obtain rfl : k = rs.length := by omega
        gi_wp2
        go_ret
        exact ⟨rfl, HX.out.trans (hx1.trans hx2)⟩
end Go.Proofs.Ytlgcnjcbmihefaa

namespace Go.Proofs.Ytlgcnjcbmihefaa
open Go Go.RowKit Go.Shelf

/-- Whether a cast covers a cell. -/
def covB (D : SeaD) (c : Cst) (d : Nat) : Bool := decide (dist (col (seaOf D) c.cell) (row (seaOf D) c.cell) (col (seaOf D) (d : Int)) (row (seaOf D) (d : Int)) ≤ c.far)
theorem leftOf_count (D : SeaD) (c : Cst) (l : List Nat) : (leftOf (col (seaOf D) c.cell) (row (seaOf D) c.cell) c.far (placesOf D l)).length + l.countP (covB D c) = l.length := by
  unfold leftOf placesOf
  induction l with
  | nil => rfl
  | cons d l ih =>
    rw [List.map_cons, List.filter_cons, List.countP_cons, List.length_cons]
    by_cases h : dist (col (seaOf D) c.cell) (row (seaOf D) c.cell) (plcOf D d).1 (plcOf D d).2 ≤ c.far
    · have h1 : covB D c d = true := decide_eq_true h
      simp only [h, decide_true, Bool.not_true, Bool.false_eq_true, if_false, h1, if_true]
      omega
    · have h1 : covB D c d = false := decide_eq_false h
      simp only [h, decide_false, Bool.not_false, if_true, h1, Bool.false_eq_true, if_false, List.length_cons]
      omega
theorem wOf_eq (D : SeaD) (c : Cst) (l : List Nat) : wOf D (placesOf D l) c = if (l.countP (covB D c) : Int) < (l.length : Int) - l.countP (covB D c) then (l.length : Int) - l.countP (covB D c) else l.countP (covB D c) := by
  have h := leftOf_count D c l
  have hp : (placesOf D l).length = l.length := by unfold placesOf; rw [List.length_map]
  unfold wOf worstOf maxL
  rw [hp]
  simp only [List.foldl_cons, List.foldl_nil]
  split <;> split <;> omega
/-- What the advised cast is. -/
theorem nextTo_ok (D : SeaD) (ps : List (Int × Int)) (cs : List Cst) : ∀ k, 0 < k → (nextTo D ps cs k).1 < k ∧ (nextTo D ps cs k).2 = wOf D ps (cs.getD (nextTo D ps cs k).1 ⟨0, 0⟩) ∧ (∀ j, j < k → (nextTo D ps cs k).2 ≤ wOf D ps (cs.getD j ⟨0, 0⟩)) ∧ (∀ j, j < (nextTo D ps cs k).1 → (nextTo D ps cs k).2 < wOf D ps (cs.getD j ⟨0, 0⟩))
  | 0, h => absurd h (by omega)
  | k + 1, _ => by
    have e : nextTo D ps cs (k + 1) = if (k == 0) || decide (wOf D ps (cs.getD k ⟨0, 0⟩) < (nextTo D ps cs k).2) then (k, wOf D ps (cs.getD k ⟨0, 0⟩)) else nextTo D ps cs k := rfl
    by_cases hk : k = 0
    · subst hk
      rw [e, if_pos (by simp)]
      refine ⟨by simp, rfl, fun j hj => ?_, fun j hj => by simp at hj⟩
      obtain rfl : j = 0 := by omega
      exact Int.le_refl _
    · have ih := nextTo_ok D ps cs k (by omega)
      by_cases hl : wOf D ps (cs.getD k ⟨0, 0⟩) < (nextTo D ps cs k).2
      · rw [e, if_pos (by rw [decide_eq_true hl, Bool.or_true])]
        refine ⟨by simp, rfl, fun j hj => ?_, fun j hj => ?_⟩
        · rcases Nat.lt_or_ge j k with h | h
          · have := ih.2.2.1 j h; simp only; omega
          · obtain rfl : j = k := by omega
            exact Int.le_refl _
        · have := ih.2.2.1 j hj; simp only; omega
      · rw [e, if_neg (by rw [decide_eq_false hl, Bool.or_false]; simpa using hk)]
        refine ⟨by omega, ih.2.1, fun j hj => ?_, ih.2.2.2⟩
        rcases Nat.lt_or_ge j k with h | h
        · exact ih.2.2.1 j h
        · obtain rfl : j = k := by omega
          omega
theorem ask_ok {D : SeaD} {rs : List Rep} (h : soundB D rs = true) (x y : Int) : askErr D rs (modI x 25) (modI y D.hours) = 0 := by
  unfold soundB at h
  rw [Bool.and_eq_true] at h
  have hb := sea_bounds h.1
  have h1 := modI_ok x (m := 25) (by omega)
  have h2 := modI_ok y (m := D.hours) (inB_spec hb.2.2.1).1
  unfold askErr
  rw [if_neg (by rw [h.1]; simp), if_neg (by rw [h.2]; simp), if_neg]
  unfold inB
  simp
  omega
end Go.Proofs.Ytlgcnjcbmihefaa
