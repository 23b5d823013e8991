/- The reference: small functions. -/
import Derived.Test.YtlgcnjcbmihefaaXV
import Derived.Test.YtlgcnjcbmihefaaXM
import Derived.Test.YtlgcnjcbmihefaaXU
import Derived.Test.YtlgcnjcbmihefaaXQ
import Derived.Test.YtlgcnjcbmihefaaYF
set_option linter.unusedSimpArgs false
set_option linter.unusedVariables false
namespace Go.Proofs.Ytlgcnjcbmihefaa
open Go Go.RowKit Go.Shelf

theorem undefNo {b : Bool} (h : some undef = some (Value.bool b)) : False := by
  unfold undef at h
  cases h
set_option maxRecDepth 100000 in
set_option maxHeartbeats 2000000 in
theorem distance_ref (D : SeaD) (lv dv : Value) (a b : Int) (w : World) (hw : 1 ≤ D.wide ∧ D.wide ≤ 10) (ha : 0 ≤ a ∧ a ≤ 1000) (hb : 0 ≤ b ∧ b ≤ 1000) :
    Cal 89 #[seaVal D lv dv, .int .i64 a, .int .i64 b] w fun e w' => e = .returned (.int .i64 (dist (col (seaOf D) a) (row (seaOf D) a) (col (seaOf D) b) (row (seaOf D) b))) ∧ Ext w w' := by
  unfold seaVal
  have h1 := Int.emod_nonneg a (show D.wide ≠ 0 by omega)
  have h2 := Int.emod_lt_of_pos a (show 0 < D.wide by omega)
  have h3 := Int.emod_nonneg b (show D.wide ≠ 0 by omega)
  have h4 := Int.emod_lt_of_pos b (show 0 < D.wide by omega)
  have h5 := Int.ediv_nonneg ha.1 (show 0 ≤ D.wide by omega)
  have h6 := Int.ediv_le_self D.wide ha.1
  have h7 := Int.ediv_nonneg hb.1 (show 0 ≤ D.wide by omega)
  have h8 := Int.ediv_le_self D.wide hb.1
  have HD : Hid (dist (col (seaOf D) a) (row (seaOf D) a) (col (seaOf D) b) (row (seaOf D) b) = max (max (-(a % D.wide - b % D.wide)) (a % D.wide - b % D.wide)) (max (-(a / D.wide - b / D.wide)) (a / D.wide - b / D.wide))) := dist_max _ _ _ _
  gi_enter Try.func89, Try.ntmps89
  gi_wp2_with fail
  have hnb : (w.alloc (.cells #[.int .i64 D.wide, .int .i64 D.high, lv, .int .i64 D.hours, dv, .int .i64 D.speed] 25)).heap[w.heap.size]? = some (.cells #[.int .i64 D.wide, .int .i64 D.high, lv, .int .i64 D.hours, dv, .int .i64 D.speed] 25 (0, 0)) := Ext.new (Ext.refl _)
  have hx1 : Ext w (w.alloc (.cells #[.int .i64 D.wide, .int .i64 D.high, lv, .int .i64 D.hours, dv, .int .i64 D.speed] 25)) := (Ext.refl w).alloc _
  generalize w.alloc (.cells #[.int .i64 D.wide, .int .i64 D.high, lv, .int .i64 D.hours, dv, .int .i64 D.speed] 25) = w1 at *
  have HC := hid fun e : Later w1 => cell_of (Ext.block e.grown hnb)
  have HA1 := hid fun e : Later w1 => abs_any (a % D.wide - b % D.wide) e.val (by omega)
  have HA2 := hid fun e : Later w1 => abs_any (a / D.wide - b / D.wide) e.val (by omega)
  have HX := hid hx1
  generalize max (-(a % D.wide - b % D.wide)) (a % D.wide - b % D.wide) = p at *
  generalize max (-(a / D.wide - b / D.wide)) (a / D.wide - b / D.wide) = q at *
  clear hnb hx1
  by_cases hpq : p < q
  · rw [Int.max_eq_right (by omega)] at HD
    refine quiet_wide 21 (by kernel_rfl) (by kernel_rfl) ?_
    simp only [List.take_succ_cons, List.take_zero, List.drop_succ_cons, List.drop_zero]
    have q1 := HC.out
    repeat (any_goals (first | go_big_quiet_step ((first | (go_at_call 71; with_reducible exact Cal.quiet_same (HA1.out _)) | (go_at_call 71; with_reducible exact Cal.quiet_same (HA2.out _)))) | quiet_step ((first | (go_at_call 71; with_reducible exact Cal.quiet_same (HA1.out _)) | (go_at_call 71; with_reducible exact Cal.quiet_same (HA2.out _))))))
    refine wpQuiet_nil ?_
    rintro w5 ⟨⟨_, hx5⟩, rfl⟩
    clear q1
    clear HC
    gi_wp2
    go_ret
    exact ⟨by rw [HD.out]; rfl, HX.out.trans hx5⟩
  · rw [Int.max_eq_left (by omega)] at HD
    refine quiet_wide 21 (by kernel_rfl) (by kernel_rfl) ?_
    simp only [List.take_succ_cons, List.take_zero, List.drop_succ_cons, List.drop_zero]
    have q1 := HC.out
    repeat (any_goals (first | go_big_quiet_step ((first | (go_at_call 71; with_reducible exact Cal.quiet_same (HA1.out _)) | (go_at_call 71; with_reducible exact Cal.quiet_same (HA2.out _)))) | quiet_step ((first | (go_at_call 71; with_reducible exact Cal.quiet_same (HA1.out _)) | (go_at_call 71; with_reducible exact Cal.quiet_same (HA2.out _))))))
    refine wpQuiet_nil ?_
    rintro w5 ⟨⟨_, hx5⟩, rfl⟩
    clear q1
    clear HC
    gi_wp2
    go_ret
    exact ⟨by rw [HD.out]; rfl, HX.out.trans hx5⟩

set_option maxRecDepth 100000 in
set_option maxHeartbeats 2000000 in
theorem untrue_ref (D : SeaD) (lv dv : Value) (r : Rep) (c : Int) (w : World) (hw : 1 ≤ D.wide ∧ D.wide ≤ 10) (hr : 0 ≤ r.cell ∧ r.cell ≤ 1000) (hc : 0 ≤ c ∧ c ≤ 1000) :
    Cal 64 #[seaVal D lv dv, .agg #[.int .i64 r.hour, .int .i64 r.cell, .int .i64 r.far, .bool r.there], .int .i64 c] w fun e w' => e = .returned (.bool (!repTrue r (col (seaOf D) r.cell) (row (seaOf D) r.cell) (col (seaOf D) c) (row (seaOf D) c))) ∧ Ext w w' := by
  have hb1 : ((w.alloc (.cells #[.int .i64 D.wide, .int .i64 D.high, lv, .int .i64 D.hours, dv, .int .i64 D.speed] 25)).alloc (.cells #[.int .i64 r.hour, .int .i64 r.cell, .int .i64 r.far, .bool r.there] 52)).heap[w.heap.size]? = some (.cells #[.int .i64 D.wide, .int .i64 D.high, lv, .int .i64 D.hours, dv, .int .i64 D.speed] 25 (0, 0)) := two_new
  have hb2 : ((w.alloc (.cells #[.int .i64 D.wide, .int .i64 D.high, lv, .int .i64 D.hours, dv, .int .i64 D.speed] 25)).alloc (.cells #[.int .i64 r.hour, .int .i64 r.cell, .int .i64 r.far, .bool r.there] 52)).heap[w.heap.size + 1]? = some (.cells #[.int .i64 r.hour, .int .i64 r.cell, .int .i64 r.far, .bool r.there] 52 (0, 0)) := by
    have := Ext.new (w := w.alloc (.cells #[.int .i64 D.wide, .int .i64 D.high, lv, .int .i64 D.hours, dv, .int .i64 D.speed] 25)) (o := .cells #[.int .i64 r.hour, .int .i64 r.cell, .int .i64 r.far, .bool r.there] 52) (Ext.refl _)
    simpa using this
  have hx : Ext w ((w.alloc (.cells #[.int .i64 D.wide, .int .i64 D.high, lv, .int .i64 D.hours, dv, .int .i64 D.speed] 25)).alloc (.cells #[.int .i64 r.hour, .int .i64 r.cell, .int .i64 r.far, .bool r.there] 52)) := ((Ext.refl w).alloc _).alloc _
  have HDI := hid fun e : World => distance_ref D lv dv r.cell c e hw hr hc
  unfold seaVal at HDI ⊢
  gi_enter Try.func64, Try.ntmps64
  gi_wp2_with fail
  generalize (w.alloc (.cells #[.int .i64 D.wide, .int .i64 D.high, lv, .int .i64 D.hours, dv, .int .i64 D.speed] 25)).alloc (.cells #[.int .i64 r.hour, .int .i64 r.cell, .int .i64 r.far, .bool r.there] 52) = w1 at *
  have HC := hid fun e : Later w1 => And.intro (cell_of (Ext.block e.grown hb1)) (cell_of (Ext.block e.grown hb2))
  have HDE := hid fun e : Later w1 => HDI.out e.val
  have HX := hid hx
  clear hb1 hb2 hx HDI
  have HRT : Hid (repTrue r (col (seaOf D) r.cell) (row (seaOf D) r.cell) (col (seaOf D) c) (row (seaOf D) c) = (r.there == decide (dist (col (seaOf D) r.cell) (row (seaOf D) r.cell) (col (seaOf D) c) (row (seaOf D) c) ≤ r.far))) := rfl
  generalize dist (col (seaOf D) r.cell) (row (seaOf D) r.cell) (col (seaOf D) c) (row (seaOf D) c) = dd at *
  cases hd : decide (dd ≤ r.far) <;> cases ht : r.there
  all_goals
    rw [ht] at HC
    refine quiet_wide 12 (by kernel_rfl) (by kernel_rfl) ?_
    simp only [List.take_succ_cons, List.take_zero, List.drop_succ_cons, List.drop_zero]
    have q1 := HC.out
    repeat (any_goals (first | go_big_quiet_step ((go_at_call 89; with_reducible exact Cal.quiet (HDE.out _))) | quiet_step ((go_at_call 89; with_reducible exact Cal.quiet (HDE.out _)))))
    refine wpQuiet_nil ?_
    rintro w5 ⟨⟨_, hx5⟩, rfl⟩
    clear q1
    clear HC HDE
    gi_wp2
    go_ret
    exact ⟨by rw [HRT.out, ht, hd]; rfl, HX.out.trans hx5⟩


def waterB (D : SeaD) (c : Int) : Bool := inB c 0 (D.wide * D.high - 1) && !D.land.contains c
def stepB (D : SeaD) (h : Nat) (a b : Int) : Bool := inB (col (seaOf D) b - col (seaOf D) a - stepE D.drift h) (-D.speed) D.speed && inB (row (seaOf D) b - row (seaOf D) a - stepN D.drift h) (-D.speed) D.speed

set_option maxRecDepth 100000 in
set_option maxHeartbeats 2000000 in
theorem water_ref (D : SeaD) (lv dv : Value) (c : Int) (w : World) (hm : 1 ≤ D.wide * D.high ∧ D.wide * D.high ≤ 80) (hl : IntsAt w lv D.land) :
    Cal 49 #[seaVal D lv dv, .int .i64 c] w fun e w' => e = .returned (.bool (waterB D c)) ∧ Ext w w' := by
  have hb1 : (w.alloc (.cells #[.int .i64 D.wide, .int .i64 D.high, lv, .int .i64 D.hours, dv, .int .i64 D.speed] 25)).heap[w.heap.size]? = some (.cells #[.int .i64 D.wide, .int .i64 D.high, lv, .int .i64 D.hours, dv, .int .i64 D.speed] 25 (0, 0)) := Ext.new (Ext.refl _)
  have hx : Ext w (w.alloc (.cells #[.int .i64 D.wide, .int .i64 D.high, lv, .int .i64 D.hours, dv, .int .i64 D.speed] 25)) := (Ext.refl w).alloc _
  have hww : IntKind.i64.wrap (D.wide * D.high) = D.wide * D.high := by rw [IntKind.wrap_i64]; omega
  have hwm : IntKind.i64.wrap (D.wide * D.high - 1) = D.wide * D.high - 1 := by rw [IntKind.wrap_i64]; omega
  have HL := hid (hl.mono hx)
  unfold seaVal
  gi_enter Try.func49, Try.ntmps49
  gi_wp2_with fail
  generalize w.alloc (.cells #[.int .i64 D.wide, .int .i64 D.high, lv, .int .i64 D.hours, dv, .int .i64 D.speed] 25) = w1 at *
  have hcb := cell_of hb1
  have HX := hid hx
  have HPL := hid (Place_any lv D.land c w1 HL.out)
  have hpm := placeI_mem (xs := D.land) (x := c)
  clear hb1 hx
  cases hin : inB c 0 (D.wide * D.high - 1) with
  | false =>
    have HR : Hid (waterB D c = false) := by show waterB D c = false; unfold waterB; rw [hin]; rfl
    have HIN := hid (in_b c 0 (D.wide * D.high - 1) false w1 hin)
    gi_wp2_with (gi_at_call 39; ((with_reducible refine HIN.out.mono ?_); rintro e w2 ⟨rfl, rfl⟩))
    all_goals first | exact (undefNo (by assumption)).elim | (go_ret; exact ⟨by rw [HR.out]; rfl, HX.out⟩)
  | true =>
    have HIN := hid (in_b c 0 (D.wide * D.high - 1) true w1 hin)
    cases hmem : D.land.contains c with
    | false =>
      have HR : Hid (waterB D c = true) := by show waterB D c = true; unfold waterB; rw [hin, hmem]; rfl
      have hnn : ¬ 0 ≤ placeI D.land c := fun h => by rw [List.contains_iff_mem.mpr (hpm.mp h)] at hmem; cases hmem
      have dp : decide (placeI D.land c < 0) = true := by rw [decide_eq_true_eq]; omega
      clear hnn
      clear hpm hmem
      gi_wp2_with (first | (gi_at_call 39; ((with_reducible refine HIN.out.mono ?_); rintro e w2 ⟨rfl, rfl⟩)) | (gi_at_call 34; ((with_reducible refine HPL.out.mono ?_); rintro e w3 ⟨rfl, hx3⟩)))
      all_goals first | exact (undefNo (by assumption)).elim | (go_ret; exact ⟨by rw [HR.out]; rfl, HX.out.trans hx3⟩)
    | true =>
      have HR : Hid (waterB D c = false) := by show waterB D c = false; unfold waterB; rw [hin, hmem]; rfl
      have dp : decide (placeI D.land c < 0) = false := by rw [decide_eq_false_iff_not]; have := hpm.mpr (List.contains_iff_mem.mp hmem); omega
      clear hpm hmem
      gi_wp2_with (first | (gi_at_call 39; ((with_reducible refine HIN.out.mono ?_); rintro e w2 ⟨rfl, rfl⟩)) | (gi_at_call 34; ((with_reducible refine HPL.out.mono ?_); rintro e w3 ⟨rfl, hx3⟩)))
      all_goals first | exact (undefNo (by assumption)).elim | (go_ret; exact ⟨by rw [HR.out]; rfl, HX.out.trans hx3⟩)

set_option maxRecDepth 100000 in
set_option maxHeartbeats 4000000 in
theorem step_ref (D : SeaD) (lv dv : Value) (h : Nat) (a b : Int) (w : World) (hw : 1 ≤ D.wide ∧ D.wide ≤ 10) (hs : 0 ≤ D.speed ∧ D.speed ≤ 2) (hd : StepsAt w dv D.drift) (hh : h < D.drift.length) (hb : (-2 ≤ D.drift[h].east ∧ D.drift[h].east ≤ 2) ∧ (-2 ≤ D.drift[h].north ∧ D.drift[h].north ≤ 2))
    (ha : 0 ≤ a ∧ a ≤ 1000) (hc : 0 ≤ b ∧ b ≤ 1000) (h12 : D.drift.length ≤ 1000) :
    Cal 50 #[seaVal D lv dv, .int .i64 h, .int .i64 a, .int .i64 b] w fun e w' => e = .returned (.bool (stepB D h a b)) ∧ Ext w w' := by
  obtain ⟨da, dcap, rfl, _, hdc⟩ := hd
  obtain ⟨db, off, rfl, hdb, e0, e1⟩ := hdc h hh
  have hb1 : (w.alloc (.cells #[.int .i64 D.wide, .int .i64 D.high, lv, .int .i64 D.hours, .slice (some ⟨db, off, none⟩) D.drift.length dcap, .int .i64 D.speed] 25)).heap[w.heap.size]? = some (.cells #[.int .i64 D.wide, .int .i64 D.high, lv, .int .i64 D.hours, .slice (some ⟨db, off, none⟩) D.drift.length dcap, .int .i64 D.speed] 25 (0, 0)) := Ext.new (Ext.refl _)
  have hx : Ext w (w.alloc (.cells #[.int .i64 D.wide, .int .i64 D.high, lv, .int .i64 D.hours, .slice (some ⟨db, off, none⟩) D.drift.length dcap, .int .i64 D.speed] 25)) := (Ext.refl w).alloc _
  have h1 := Int.emod_nonneg a (show D.wide ≠ 0 by omega)
  have h2 := Int.emod_lt_of_pos a (show 0 < D.wide by omega)
  have h3 := Int.emod_nonneg b (show D.wide ≠ 0 by omega)
  have h4 := Int.emod_lt_of_pos b (show 0 < D.wide by omega)
  have h5 := Int.ediv_nonneg ha.1 (show 0 ≤ D.wide by omega)
  have h6 := Int.ediv_le_self D.wide ha.1
  have h7 := Int.ediv_nonneg hc.1 (show 0 ≤ D.wide by omega)
  have h8 := Int.ediv_le_self D.wide hc.1
  have hE : stepE D.drift h = D.drift[h].east := by unfold stepE; rw [getD_of hh]
  have hN : stepN D.drift h = D.drift[h].north := by unfold stepN; rw [getD_of hh]
  unfold stepB
  rw [hE, hN]
  unfold seaVal col row
  show Cal 50 _ w fun e w' => e = .returned (.bool (inB (b % D.wide - a % D.wide - D.drift[h].east) (-D.speed) D.speed && inB (b / D.wide - a / D.wide - D.drift[h].north) (-D.speed) D.speed)) ∧ Ext w w'
  clear hE hN hdc
  have E0 := hid e0
  have E1 := hid e1
  clear e0 e1
  generalize D.drift[h].east = se at *
  generalize D.drift[h].north = sn at *
  gi_enter Try.func50, Try.ntmps50
  gi_wp2_with fail
  generalize w.alloc (.cells #[.int .i64 D.wide, .int .i64 D.high, lv, .int .i64 D.hours, .slice (some ⟨db, off, none⟩) D.drift.length dcap, .int .i64 D.speed] 25) = w1 at *
  have HC := hid fun e : Later w1 => And.intro (cell_of (Ext.block e.grown hb1)) (And.intro (((hx.trans e.grown).cell (p := ⟨db, _, none⟩) hdb).trans E0.out) (((hx.trans e.grown).cell (p := ⟨db, _, none⟩) hdb).trans E1.out))
  refine quiet_wide 16 (by kernel_rfl) (by kernel_rfl) ?_
  simp only [List.take_succ_cons, List.take_zero, List.drop_succ_cons, List.drop_zero]
  have q1 := HC.out
  repeat (any_goals (first | go_big_quiet_step ((fail)) | quiet_step ((fail))))
  refine wpQuiet_nil ?_
  rintro w2 ⟨⟨_, hx2⟩, rfl⟩
  clear q1
  clear HC
  gi_wp2_with fail
  have HC := hid fun e : Later w2 => And.intro (cell_of (Ext.block (Ext.trans hx2 e.grown) hb1)) (And.intro (((hx.trans (Ext.trans hx2 e.grown)).cell (p := ⟨db, _, none⟩) hdb).trans E0.out) (((hx.trans (Ext.trans hx2 e.grown)).cell (p := ⟨db, _, none⟩) hdb).trans E1.out))
  refine quiet_wide 16 (by kernel_rfl) (by kernel_rfl) ?_
  simp only [List.take_succ_cons, List.take_zero, List.drop_succ_cons, List.drop_zero]
  have q1 := HC.out
  repeat (any_goals (first | go_big_quiet_step ((fail)) | quiet_step ((fail))))
  refine wpQuiet_nil ?_
  rintro w3 ⟨⟨_, hx3⟩, rfl⟩
  clear q1
  clear HC
  have hcb := cell_of (Ext.block (Ext.trans hx2 hx3) hb1)
  have HX := hid (hx.trans (Ext.trans hx2 hx3))
  clear hb1 hx hx2 hx3 E0 E1
  cases hi1 : inB (b % D.wide - a % D.wide - se) (-D.speed) D.speed with
  | false =>
    have HI1 := hid (in_b _ _ _ false w3 hi1)
    gi_wp2_with (gi_at_call 39; ((with_reducible refine HI1.out.mono ?_); rintro e w4 ⟨rfl, rfl⟩))
    all_goals first | exact (undefNo (by assumption)).elim | (go_ret; exact ⟨by rw [hi1]; rfl, HX.out⟩)
  | true =>
    have HI1 := hid (in_b _ _ _ true w3 hi1)
    have HI2 := hid (in_b (b / D.wide - a / D.wide - sn) (-D.speed) D.speed _ w3 rfl)
    generalize hbb : inB (b / D.wide - a / D.wide - sn) (-D.speed) D.speed = bb at *
    gi_wp2_with (first | (gi_at_call 39; ((with_reducible refine HI1.out.mono ?_); rintro e w4 ⟨rfl, rfl⟩)) | (gi_at_call 39; ((with_reducible refine HI2.out.mono ?_); rintro e w5 ⟨rfl, rfl⟩)))
    all_goals first | exact (undefNo (by assumption)).elim | (go_ret; exact ⟨by rw [hi1, hbb]; rfl, HX.out⟩)

theorem ofHour_take {rs : List Rep} {k : Nat} (hk : k < rs.length) (h : Nat) : ofHour (rs.take (k + 1)) h = ofHour (rs.take k) h ++ (if rs[k].hour == (h : Int) then [rs[k]] else []) := by
  rw [List.take_succ_eq_append_getElem hk, ofHour_snoc]
theorem untrueN_take {S : SeaV} {rs : List Rep} {k : Nat} (hk : k < rs.length) (h : Nat) (x y : Int) : untrueN S (rs.take (k + 1)) h x y = untrueN S (rs.take k) h x y + (if (rs[k].hour == (h : Int) && !repTrue rs[k] (col S rs[k].cell) (row S rs[k].cell) x y) then 1 else 0) := by
  unfold untrueN
  rw [ofHour_take hk, List.countP_append]
  cases h1 : (rs[k].hour == (h : Int)) <;> cases h2 : repTrue rs[k] (col S rs[k].cell) (row S rs[k].cell) x y <;> simp [h1, h2]

set_option maxRecDepth 100000 in
set_option maxHeartbeats 4000000 in
theorem lies_ref (D : SeaD) (lv dv rv : Value) (rs : List Rep) (h : Nat) (c : Int) (w : World) (hw : 1 ≤ D.wide ∧ D.wide ≤ 10) (hr : RepsAt w rv rs) (hc : 0 ≤ c ∧ c ≤ 1000) (h24 : rs.length ≤ 24) (hrc : ∀ r ∈ rs, 0 ≤ r.cell ∧ r.cell ≤ 1000) (hh : h ≤ 1000) :
    Cal 51 #[seaVal D lv dv, rv, .int .i64 h, .int .i64 c] w fun e w' => e = .returned (.int .i64 (untrueN (seaOf D) rs h (col (seaOf D) c) (row (seaOf D) c) : Nat)) ∧ Ext w w' := by
  obtain ⟨ra, rcap, rfl, _, hcell⟩ := hr
  have HRC := hid hcell
  have HRB := hid hrc
  have hb1 : (w.alloc (.cells #[.int .i64 D.wide, .int .i64 D.high, lv, .int .i64 D.hours, dv, .int .i64 D.speed] 25)).heap[w.heap.size]? = some (.cells #[.int .i64 D.wide, .int .i64 D.high, lv, .int .i64 D.hours, dv, .int .i64 D.speed] 25 (0, 0)) := Ext.new (Ext.refl _)
  have hx : Ext w (w.alloc (.cells #[.int .i64 D.wide, .int .i64 D.high, lv, .int .i64 D.hours, dv, .int .i64 D.speed] 25)) := (Ext.refl w).alloc _
  have HUN := hid fun (r : Rep) (hr : 0 ≤ r.cell ∧ r.cell ≤ 1000) (e : World) => untrue_ref D lv dv r c e hw hr hc
  unfold seaVal at HUN ⊢
  gi_enter Try.func51, Try.ntmps51
  gi_wp2_with fail
  generalize w.alloc (.cells #[.int .i64 D.wide, .int .i64 D.high, lv, .int .i64 D.hours, dv, .int .i64 D.speed] 25) = w1 at *
  have HB := hid hb1
  have HX := hid hx
  clear hb1 hx hcell hrc
  gi_loopw [9, 10] (fun n i wr => ∃ k : Nat, k ≤ rs.length ∧ n = .int .i64 (untrueN (seaOf D) (rs.take k) h (col (seaOf D) c) (row (seaOf D) c) : Nat) ∧ i = .int .i64 k ∧ Ext w1 wr) (fun _ i _ => rs.length - (intOf i).toNat)
  case atStart => exact ⟨0, Nat.zero_le _, by simp [untrueN, ofHour], rfl, Ext.refl _⟩
  case round =>
    obtain ⟨k, hk, rfl, rfl, hxk⟩ := hrel
    by_cases hlk : k < rs.length
    · obtain ⟨rb, off, rfl, hrl, c0, c1, c2, c3⟩ := HRC.out k hlk
      have HUT := hid (untrueN_take (S := seaOf D) hlk h (col (seaOf D) c) (row (seaOf D) c))
      have hle : untrueN (seaOf D) (rs.take k) h (col (seaOf D) c) (row (seaOf D) c) ≤ 24 := untrueN_le (by rw [List.length_take]; omega)
      have hrb := HRB.out rs[k] (List.getElem_mem _)
      have HU := hid fun e : Later wr => HUN.out rs[k] hrb e.val
      have hxe := fun e : Later wr => HX.out.trans (Ext.trans hxk e.grown)
      have HC := hid fun e : Later wr => And.intro (cell_of ((Ext.trans hxk e.grown).block HB.out)) (And.intro (((hxe e).cell (p := ⟨rb, _, none⟩) hrl).trans c0) (And.intro (((hxe e).cell (p := ⟨rb, _, none⟩) hrl).trans c1) (And.intro (((hxe e).cell (p := ⟨rb, _, none⟩) hrl).trans c2) (((hxe e).cell (p := ⟨rb, _, none⟩) hrl).trans c3))))
      have HXK := hid hxk
      clear hrl c0 c1 c2 c3 hrb hxe hxk
      generalize untrueN (seaOf D) (rs.take k) h (col (seaOf D) c) (row (seaOf D) c) = cnt at *
      generalize rs[k] = rp at *
      generalize repTrue rp (col (seaOf D) rp.cell) (row (seaOf D) rp.cell) (col (seaOf D) c) (row (seaOf D) c) = bt at *
      cases hq : (rp.hour == (h : Int)) <;> cases bt
      all_goals
        rw [hq] at HUT
        gi_wp2_with fail
        refine quiet_wide 16 (by kernel_rfl) (by kernel_rfl) ?_
        simp only [List.take_succ_cons, List.take_zero, List.drop_succ_cons, List.drop_zero]
        have q1 := HC.out
        repeat (any_goals (first | go_big_quiet_step ((go_at_call 64; with_reducible exact Cal.quiet (HU.out _))) | quiet_step ((go_at_call 64; with_reducible exact Cal.quiet (HU.out _)))))
        refine wpQuiet_nil ?_
        rintro w5 ⟨⟨_, hx5⟩, rfl⟩
        clear q1
        clear HC HU
        gi_wp2
        all_goals exact ⟨⟨k + 1, by omega, by rw [HUT.out]; go_num, by go_num, HXK.out.trans hx5⟩, by simp [intOf]; omega⟩
    · obtain rfl : k = rs.length := by omega
      rw [List.take_length] at *
      gi_wp2
      go_ret
      exact ⟨rfl, HX.out.trans hxk⟩


set_option maxRecDepth 100000 in
set_option maxHeartbeats 4000000 in
theorem rising_ref (v : Value) (xs : List Int) (n : Int) (w : World) (h : IntsAt w v xs) (hn : 1 ≤ n ∧ n ≤ 1000) :
    Cal 35 #[v, .int .i64 n] w fun e w' => e = .returned (.bool (landB xs n)) ∧ Ext w w' := by
  obtain ⟨la, lcap, rfl, hlen, hc⟩ := h
  have HC0 := hid hc
  clear hc
  gi_enter Try.func35, Try.ntmps35
  gi_wp2_with fail
  gi_loopw [5] (fun i wr => ∃ k : Nat, k ≤ xs.length ∧ i = .int .i64 k ∧ Hid (∀ j, j < k → landGood xs n j = true) ∧ Ext w wr) (fun i _ => xs.length - (intOf i).toNat)
  case atStart => exact ⟨0, Nat.zero_le _, rfl, fun j hj => absurd hj (by omega), Ext.refl _⟩
  case round =>
    obtain ⟨k, hk, rfl, hg, hx⟩ := hrel
    by_cases hlt : k < xs.length
    · obtain ⟨g, off, rfl, hgl, hcell⟩ := HC0.out k hlt
      have HG := hid hg.out
      have HX := hid hx
      cases hin : inB xs[k] 0 (n - 1) with
      | false =>
        have HRES : Hid (landB xs n = false) := allTo_no hlt (landGood_no hlt hin)
        have HIN := hid fun e : Later wr => in_b xs[k] 0 (n - 1) false e.val hin
        have HC := hid fun e : Later wr => ((Ext.trans hx e.grown).cell (p := ⟨g, _, none⟩) hgl |>.trans hcell)
        clear hcell hgl hx hin hg
        generalize xs[k] = x at *
        gi_wp2_with fail
        refine quiet_wide 24 (by kernel_rfl) (by kernel_rfl) ?_
        simp only [List.take_succ_cons, List.take_zero, List.drop_succ_cons, List.drop_zero]
        have q1 := HC.out
        repeat (any_goals (first | go_big_quiet_step ((go_at_call 39; with_reducible exact Cal.quiet_same (HIN.out _))) | quiet_step ((go_at_call 39; with_reducible exact Cal.quiet_same (HIN.out _)))))
        refine wpQuiet_nil ?_
        rintro w5 ⟨⟨_, hx5⟩, rfl⟩
        clear q1
        clear HC HIN
        gi_wp2
        go_ret
        exact ⟨by rw [HRES.out]; rfl, HX.out.trans hx5⟩
      | true =>
        have HIN := hid fun e : Later wr => in_b xs[k] 0 (n - 1) true e.val hin
        have hin2 := inB_spec hin
        by_cases hk0 : k = 0
        · subst hk0
          rw [Nat.add_zero] at hcell
          have HGK : Hid (landGood xs n 0 = true) := by show landGood xs n 0 = true; rw [landGood_zero hlt]; exact hin
          have HC := hid fun e : Later wr => ((Ext.trans hx e.grown).cell (p := ⟨g, _, none⟩) hgl |>.trans hcell)
          clear hcell hgl hx hin hg
          generalize xs[0] = x at *
          gi_wp2_with fail
          refine quiet_wide 24 (by kernel_rfl) (by kernel_rfl) ?_
          simp only [List.take_succ_cons, List.take_zero, List.drop_succ_cons, List.drop_zero]
          have q1 := HC.out
          repeat (any_goals (first | go_big_quiet_step ((go_at_call 39; with_reducible exact Cal.quiet_same (HIN.out _))) | quiet_step ((go_at_call 39; with_reducible exact Cal.quiet_same (HIN.out _)))))
          refine wpQuiet_nil ?_
          rintro w5 ⟨⟨_, hx5⟩, rfl⟩
          clear q1
          clear HC HIN
          gi_wp2
          go_roundw
          case rel => exact ⟨0 + 1, by omega, by go_num, fun j hj => by rw [show j = 0 by omega]; exact HGK.out, HX.out.trans hx5⟩
          case measure => simp [intOf]; omega
        · obtain ⟨m, hm⟩ : ∃ m, k = m + 1 := ⟨k - 1, by omega⟩
          have hml : m < xs.length := by omega
          obtain ⟨g', off', hg', hgl', hcell'⟩ := HC0.out m hml
          cases hg'
          have hpos : decide ((0 : Int) < (k : Int)) = true := by rw [decide_eq_true_eq]; omega
          have hpos2 : decide (0 < k) = true := by rw [decide_eq_true_eq]; omega
          have hkm : (k : Int) - 1 = m := by omega
          have HC := hid fun e : Later wr => And.intro ((Ext.trans hx e.grown).cell (p := ⟨g, _, none⟩) hgl |>.trans hcell) ((Ext.trans hx e.grown).cell (p := ⟨g, _, none⟩) hgl' |>.trans hcell')
          have HLP : Hid (landGood xs n k = (inB xs[k] 0 (n - 1) && decide (xs[m]'hml < xs[k]))) := by
            show landGood xs n k = _
            rw [landGood_pos hlt hk0]
            simp only [show k - 1 = m by omega]
          rw [hin] at HLP
          have HLT := hid hlt
          clear hcell hcell' hgl hgl' hx hin hg HC0
          generalize xs[k] = x at *
          generalize xs[m]'hml = y at *
          have HM := hid hm
          clear hm
          by_cases hle : x ≤ y
          · have d1 : decide (x ≤ y) = true := by rw [decide_eq_true_eq]; exact hle
            have HRES : Hid (landB xs n = false) := allTo_no HLT.out (by rw [HLP.out, decide_eq_false (by omega)]; rfl)
            clear hle HLP
            gi_wp2_with fail
            refine quiet_wide 24 (by kernel_rfl) (by kernel_rfl) ?_
            simp only [List.take_succ_cons, List.take_zero, List.drop_succ_cons, List.drop_zero]
            have q1 := HC.out
            repeat (any_goals (first | go_big_quiet_step ((go_at_call 39; with_reducible exact Cal.quiet_same (HIN.out _))) | quiet_step ((go_at_call 39; with_reducible exact Cal.quiet_same (HIN.out _)))))
            refine wpQuiet_nil ?_
            rintro w5 ⟨⟨_, hx5⟩, rfl⟩
            clear q1
            clear HC HIN
            gi_wp2
            go_ret
            exact ⟨by rw [HRES.out]; rfl, HX.out.trans hx5⟩
          · have d1 : decide (x ≤ y) = false := by rw [decide_eq_false_iff_not]; exact hle
            have HGK : Hid (landGood xs n k = true) := by show _ = true; rw [HLP.out, decide_eq_true (by omega)]; rfl
            clear hle HLP
            gi_wp2_with fail
            refine quiet_wide 24 (by kernel_rfl) (by kernel_rfl) ?_
            simp only [List.take_succ_cons, List.take_zero, List.drop_succ_cons, List.drop_zero]
            have q1 := HC.out
            repeat (any_goals (first | go_big_quiet_step ((go_at_call 39; with_reducible exact Cal.quiet_same (HIN.out _))) | quiet_step ((go_at_call 39; with_reducible exact Cal.quiet_same (HIN.out _)))))
            refine wpQuiet_nil ?_
            rintro w5 ⟨⟨_, hx5⟩, rfl⟩
            clear q1
            clear HC HIN
            gi_wp2
            go_roundw
            case rel => exact ⟨k + 1, by have := HM.out; omega, by go_num, fun j hj => by
                                by_cases e : j = k
                                · rw [e]; exact HGK.out
                                · exact HG.out j (by omega), HX.out.trans hx5⟩
            case measure => have := HM.out; simp [intOf]; omega
    · obtain rfl : k = xs.length := by omega
      have HRES : Hid (landB xs n = true) := allTo_yes hg.out
      gi_wp2
      go_ret
      exact ⟨by rw [HRES.out]; rfl, hx⟩

set_option maxHeartbeats 1000000 in
theorem same_ref (v1 v2 : Value) (xs : List Int) (w : World) (h1 : IntsAt w v1 xs) (h2 : IntsAt w v2 xs) :
    Cal 21 #[v1, v2] w fun e w' => e = .returned (.bool true) ∧ Ext w w' := by
  obtain ⟨a1, c1, rfl, _, hc1⟩ := h1
  obtain ⟨a2, c2, rfl, hlen, hc2⟩ := h2
  have HC1 := hid hc1
  have HC2 := hid hc2
  clear hc1 hc2
  gi_enter Try.func21, Try.ntmps21
  gi_wp2_with fail
  gi_loopw [5] (fun i wr => ∃ k : Nat, k ≤ xs.length ∧ i = .int .i64 k ∧ Ext w wr) (fun i _ => xs.length - (intOf i).toNat)
  case atStart => exact ⟨0, Nat.zero_le _, rfl, Ext.refl _⟩
  case round =>
    obtain ⟨k, hk, rfl, hx⟩ := hrel
    by_cases hlt : k < xs.length
    · obtain ⟨g1, o1, rfl, hg1, e1⟩ := HC1.out k hlt
      obtain ⟨g2, o2, rfl, hg2, e2⟩ := HC2.out k hlt
      have HX := hid hx
      have HC := hid fun e : Later wr => And.intro ((Ext.trans hx e.grown).cell (p := ⟨g1, _, none⟩) hg1 |>.trans e1) ((Ext.trans hx e.grown).cell (p := ⟨g2, _, none⟩) hg2 |>.trans e2)
      clear e1 e2 hg1 hg2 hx HC1 HC2
      generalize xs[k] = x at *
      have hxx : (x != x) = false := by simp
      gi_wp2_with fail
      refine quiet_wide 9 (by kernel_rfl) (by kernel_rfl) ?_
      simp only [List.take_succ_cons, List.take_zero, List.drop_succ_cons, List.drop_zero]
      have q1 := HC.out
      repeat (any_goals (first | go_big_quiet_step ((fail)) | quiet_step ((fail))))
      refine wpQuiet_nil ?_
      rintro w5 ⟨⟨_, hx5⟩, rfl⟩
      clear q1
      clear HC
      gi_wp2
      go_roundw
      case rel => exact ⟨k + 1, by omega, by go_num, HX.out.trans hx5⟩
      case measure => simp [intOf]; omega
    · obtain rfl : k = xs.length := by omega
      gi_wp2
      go_ret
      exact ⟨rfl, hx⟩
end Go.Proofs.Ytlgcnjcbmihefaa
