/- The reference: a sea that is right, reports that are right. -/
import Derived.Test.YtlgcnjcbmihefaaZA
set_option linter.unusedSimpArgs false
set_option linter.unusedVariables false
namespace Go.Proofs.Ytlgcnjcbmihefaa
open Go Go.RowKit Go.Shelf

theorem allTo_succ (good : Nat → Bool) (k : Nat) : allTo good (k + 1) = (allTo good k && good k) := by
  unfold allTo
  rw [List.range_succ, List.all_append]
  simp
theorem allTo_less {good : Nat → Bool} {k n : Nat} (h : k ≤ n) (hf : allTo good k = false) : allTo good n = false := by
  cases hn : allTo good n with
  | false => rfl
  | true =>
    unfold allTo at hn hf
    have : (List.range k).all good = true := List.all_eq_true.mpr fun i hi => List.all_eq_true.mp hn i (List.mem_range.2 (Nat.lt_of_lt_of_le (List.mem_range.1 hi) h))
    rw [this] at hf
    cases hf

def checkN (D : SeaD) : Int := if seaB D = false then 10 else 0
theorem checkN_f {D : SeaD} (h : seaB D = false) : checkN D = 10 := if_pos h
theorem checkN_t {D : SeaD} (h : seaB D = true) : checkN D = 0 := if_neg (by rw [h]; simp)

set_option maxRecDepth 100000 in
set_option maxHeartbeats 8000000 in
theorem check_ref (D : SeaD) (lv dv : Value) (w : World) (hl : IntsAt w lv D.land) (hd : StepsAt w dv D.drift) :
    Cal 18 #[seaVal D lv dv] w fun e w' => e = .returned (.int .i64 (checkN D)) ∧ Ext w w' := by
  obtain ⟨da, dcap, rfl, hdl, hdc⟩ := hd
  have hb1 : (w.alloc (.cells #[.int .i64 D.wide, .int .i64 D.high, lv, .int .i64 D.hours, .slice da D.drift.length dcap, .int .i64 D.speed] 25)).heap[w.heap.size]? = some (.cells #[.int .i64 D.wide, .int .i64 D.high, lv, .int .i64 D.hours, .slice da D.drift.length dcap, .int .i64 D.speed] 25 (0, 0)) := Ext.new (Ext.refl _)
  have hx : Ext w (w.alloc (.cells #[.int .i64 D.wide, .int .i64 D.high, lv, .int .i64 D.hours, .slice da D.drift.length dcap, .int .i64 D.speed] 25)) := (Ext.refl w).alloc _
  have HL := hid (hl.mono hx)
  have HDC := hid hdc
  clear hl hdc
  unfold seaVal
  gi_enter Try.func18, Try.ntmps18
  gi_wp2_with fail
  generalize w.alloc (.cells #[.int .i64 D.wide, .int .i64 D.high, lv, .int .i64 D.hours, .slice da D.drift.length dcap, .int .i64 D.speed] 25) = w1 at *
  have hcb := cell_of hb1
  have HB := hid hb1
  have HX := hid hx
  clear hb1 hx
  cases b1 : inB D.wide 1 10 with
  | false =>
    have HR : Hid (seaB D = false) := by show seaB D = false; unfold seaB; rw [b1]; rfl
    gi_wp2_with (gi_at_call 39; ((with_reducible refine (in_b _ _ _ _ _ b1).mono ?_); rintro e wq ⟨rfl, rfl⟩))
    all_goals first | exact (undefNo (by assumption)).elim | skip
    gi_loopw [3, 4] (fun o i wr => o = .bool false ∧ Ext w1 wr) (fun _ _ _ => 0)
    case atStart => exact ⟨rfl, Ext.refl _⟩
    case round =>
      obtain ⟨rfl, hxr⟩ := hrel
      gi_wp2
      all_goals first | exact (undefNo (by assumption)).elim | (go_ret; exact ⟨by rw [checkN_f HR.out]; rfl, HX.out.trans hxr⟩)
  | true =>
    cases b2 : inB D.high 1 8 with
    | false =>
      have HR : Hid (seaB D = false) := by show seaB D = false; unfold seaB; rw [b1, b2]; rfl
      gi_wp2_with (first | (gi_at_call 39; ((with_reducible refine (in_b _ _ _ _ _ b1).mono ?_); rintro e wq ⟨rfl, rfl⟩)) | (gi_at_call 39; ((with_reducible refine (in_b _ _ _ _ _ b2).mono ?_); rintro e wq ⟨rfl, rfl⟩)))
      all_goals first | exact (undefNo (by assumption)).elim | skip
      gi_loopw [3, 4] (fun o i wr => o = .bool false ∧ Ext w1 wr) (fun _ _ _ => 0)
      case atStart => exact ⟨rfl, Ext.refl _⟩
      case round =>
        obtain ⟨rfl, hxr⟩ := hrel
        gi_wp2
        all_goals first | exact (undefNo (by assumption)).elim | (go_ret; exact ⟨by rw [checkN_f HR.out]; rfl, HX.out.trans hxr⟩)
    | true =>
      cases b3 : inB D.speed 0 2 with
      | false =>
        have HR : Hid (seaB D = false) := by show seaB D = false; unfold seaB; rw [b1, b2, b3]; rfl
        gi_wp2_with (first | (gi_at_call 39; ((with_reducible refine (in_b _ _ _ _ _ b1).mono ?_); rintro e wq ⟨rfl, rfl⟩)) | (gi_at_call 39; ((with_reducible refine (in_b _ _ _ _ _ b2).mono ?_); rintro e wq ⟨rfl, rfl⟩)) | (gi_at_call 39; ((with_reducible refine (in_b _ _ _ _ _ b3).mono ?_); rintro e wq ⟨rfl, rfl⟩)))
        all_goals first | exact (undefNo (by assumption)).elim | skip
        gi_loopw [3, 4] (fun o i wr => o = .bool false ∧ Ext w1 wr) (fun _ _ _ => 0)
        case atStart => exact ⟨rfl, Ext.refl _⟩
        case round =>
          obtain ⟨rfl, hxr⟩ := hrel
          gi_wp2
          all_goals first | exact (undefNo (by assumption)).elim | (go_ret; exact ⟨by rw [checkN_f HR.out]; rfl, HX.out.trans hxr⟩)
      | true =>
        cases b4 : inB D.hours 1 12 with
        | false =>
          have HR : Hid (seaB D = false) := by show seaB D = false; unfold seaB; rw [b1, b2, b3, b4]; rfl
          gi_wp2_with (first | (gi_at_call 39; ((with_reducible refine (in_b _ _ _ _ _ b1).mono ?_); rintro e wq ⟨rfl, rfl⟩)) | (gi_at_call 39; ((with_reducible refine (in_b _ _ _ _ _ b2).mono ?_); rintro e wq ⟨rfl, rfl⟩)) | (gi_at_call 39; ((with_reducible refine (in_b _ _ _ _ _ b3).mono ?_); rintro e wq ⟨rfl, rfl⟩)) | (gi_at_call 39; ((with_reducible refine (in_b _ _ _ _ _ b4).mono ?_); rintro e wq ⟨rfl, rfl⟩)))
          all_goals first | exact (undefNo (by assumption)).elim | skip
          gi_loopw [3, 4] (fun o i wr => o = .bool false ∧ Ext w1 wr) (fun _ _ _ => 0)
          case atStart => exact ⟨rfl, Ext.refl _⟩
          case round =>
            obtain ⟨rfl, hxr⟩ := hrel
            gi_wp2
            all_goals first | exact (undefNo (by assumption)).elim | (go_ret; exact ⟨by rw [checkN_f HR.out]; rfl, HX.out.trans hxr⟩)
        | true =>
          have hh := inB_spec b4
          have hmb := mul_bounds (inB_spec b1) (inB_spec b2)
          have hww : IntKind.i64.wrap (D.wide * D.high) = D.wide * D.high := by rw [IntKind.wrap_i64]; omega
          by_cases hlen : (D.drift.length : Int) = D.hours - 1
          · have q5 : ((D.drift.length : Int) == D.hours - 1) = true := by rw [beq_iff_eq]; exact hlen
            have HRI := hid (rising_ref lv D.land (D.wide * D.high) w1 HL.out (by omega))
            have hd12 : D.drift.length ≤ 1000 := by omega
            have HLEN := hid hlen
            clear hlen
            cases b6 : landB D.land (D.wide * D.high) with
            | false =>
              rw [b6] at HRI
              have HR : Hid (seaB D = false) := by show seaB D = false; unfold seaB; rw [b1, b2, b3, b4, b6]; rfl
              gi_wp2_with (first | (gi_at_call 39; ((with_reducible refine (in_b _ _ _ _ _ b1).mono ?_); rintro e wq ⟨rfl, rfl⟩)) | (gi_at_call 39; ((with_reducible refine (in_b _ _ _ _ _ b2).mono ?_); rintro e wq ⟨rfl, rfl⟩)) | (gi_at_call 39; ((with_reducible refine (in_b _ _ _ _ _ b3).mono ?_); rintro e wq ⟨rfl, rfl⟩)) | (gi_at_call 39; ((with_reducible refine (in_b _ _ _ _ _ b4).mono ?_); rintro e wq ⟨rfl, rfl⟩)) | (gi_at_call 35; ((with_reducible refine HRI.out.mono ?_); rintro e w2 ⟨rfl, hx2⟩)))
              all_goals first | exact (undefNo (by assumption)).elim | skip
              gi_loopw [3, 4] (fun o i wr => o = .bool false ∧ Ext w1 wr) (fun _ _ _ => 0)
              case atStart => exact ⟨rfl, hx2⟩
              case round =>
                obtain ⟨rfl, hxr⟩ := hrel
                gi_wp2
                all_goals first | exact (undefNo (by assumption)).elim | (go_ret; exact ⟨by rw [checkN_f HR.out]; rfl, HX.out.trans hxr⟩)
            | true =>
              rw [b6] at HRI
              gi_wp2_with (first | (gi_at_call 39; ((with_reducible refine (in_b _ _ _ _ _ b1).mono ?_); rintro e wq ⟨rfl, rfl⟩)) | (gi_at_call 39; ((with_reducible refine (in_b _ _ _ _ _ b2).mono ?_); rintro e wq ⟨rfl, rfl⟩)) | (gi_at_call 39; ((with_reducible refine (in_b _ _ _ _ _ b3).mono ?_); rintro e wq ⟨rfl, rfl⟩)) | (gi_at_call 39; ((with_reducible refine (in_b _ _ _ _ _ b4).mono ?_); rintro e wq ⟨rfl, rfl⟩)) | (gi_at_call 35; ((with_reducible refine HRI.out.mono ?_); rintro e w2 ⟨rfl, hx2⟩)))
              all_goals first | exact (undefNo (by assumption)).elim | skip
              have HS : Hid (seaB D = allTo (driftGood D.drift) D.drift.length) := by
                show seaB D = _
                unfold seaB driftB
                rw [b1, b2, b3, b4, b6, decide_eq_true HLEN.out]
                rfl
              gi_loopw [3, 4] (fun o i wr => ∃ k : Nat, k ≤ D.drift.length ∧ o = .bool (allTo (driftGood D.drift) k) ∧ i = .int .i64 k ∧ Ext w1 wr) (fun _ i _ => D.drift.length - (intOf i).toNat)
              case atStart => exact ⟨0, Nat.zero_le _, rfl, rfl, hx2⟩
              case round =>
                obtain ⟨k, hk, rfl, rfl, hxr⟩ := hrel
                have hcr := cell_of (hxr.block HB.out)
                cases hok : allTo (driftGood D.drift) k with
                | false =>
                  have HR : Hid (seaB D = false) := by show seaB D = false; rw [HS.out]; exact allTo_less hk hok
                  gi_wp2
                  all_goals first | exact (undefNo (by assumption)).elim | (go_ret; exact ⟨by rw [checkN_f HR.out]; rfl, HX.out.trans hxr⟩)
                | true =>
                  by_cases hlt : k < D.drift.length
                  · obtain ⟨db, off, rfl, hdb, e0, e1⟩ := HDC.out k hlt
                    have e0' := ((HX.out.trans hxr).cell (p := ⟨db, _, none⟩) hdb).trans e0
                    have e1' := ((HX.out.trans hxr).cell (p := ⟨db, _, none⟩) hdb).trans e1
                    have HNX : Hid (allTo (driftGood D.drift) (k + 1) = (inB D.drift[k].east (-2) 2 && inB D.drift[k].north (-2) 2)) := by
                      show allTo _ _ = _
                      rw [allTo_succ, hok, Bool.true_and, driftGood_eq hlt]
                    clear e0 e1 hok
                    generalize D.drift[k].east = se at *
                    generalize D.drift[k].north = sn at *
                    cases d1 : inB se (-2) 2 with
                    | false =>
                      rw [d1, Bool.false_and] at HNX
                      gi_wp2_with (gi_at_call 39; ((with_reducible refine (in_b _ _ _ _ _ d1).mono ?_); rintro e wq ⟨rfl, rfl⟩))
                      all_goals first | exact (undefNo (by assumption)).elim | exact ⟨⟨k + 1, by omega, by rw [HNX.out], by go_num, hxr⟩, by simp [intOf]; omega⟩
                    | true =>
                      rw [d1, Bool.true_and] at HNX
                      have HI2 := hid fun e : World => in_b sn (-2) 2 _ e rfl
                      generalize inB sn (-2) 2 = bb at *
                      gi_wp2_with (first | (gi_at_call 39; ((with_reducible refine (in_b _ _ _ _ _ d1).mono ?_); rintro e wq ⟨rfl, rfl⟩)) | (gi_at_call 39; ((with_reducible refine (HI2.out _).mono ?_); rintro e wq ⟨rfl, rfl⟩)))
                      all_goals first | exact (undefNo (by assumption)).elim | exact ⟨⟨k + 1, by omega, by rw [HNX.out], by go_num, hxr⟩, by simp [intOf]; omega⟩
                  · obtain rfl : k = D.drift.length := by omega
                    have HR : Hid (seaB D = true) := by show seaB D = true; rw [HS.out]; exact hok
                    gi_wp2
                    all_goals first | exact (undefNo (by assumption)).elim | (go_ret; exact ⟨by rw [checkN_t HR.out]; rfl, HX.out.trans hxr⟩)
          · have q5 : ((D.drift.length : Int) == D.hours - 1) = false := by rw [beq_eq_false_iff_ne]; exact hlen
            have HR : Hid (seaB D = false) := by show seaB D = false; unfold seaB; unfold driftB; rw [b1, b2, b3, b4, decide_eq_false hlen]; simp
            gi_wp2_with (first | (gi_at_call 39; ((with_reducible refine (in_b _ _ _ _ _ b1).mono ?_); rintro e wq ⟨rfl, rfl⟩)) | (gi_at_call 39; ((with_reducible refine (in_b _ _ _ _ _ b2).mono ?_); rintro e wq ⟨rfl, rfl⟩)) | (gi_at_call 39; ((with_reducible refine (in_b _ _ _ _ _ b3).mono ?_); rintro e wq ⟨rfl, rfl⟩)) | (gi_at_call 39; ((with_reducible refine (in_b _ _ _ _ _ b4).mono ?_); rintro e wq ⟨rfl, rfl⟩)))
            all_goals first | exact (undefNo (by assumption)).elim | skip
            gi_loopw [3, 4] (fun o i wr => o = .bool false ∧ Ext w1 wr) (fun _ _ _ => 0)
            case atStart => exact ⟨rfl, Ext.refl _⟩
            case round =>
              obtain ⟨rfl, hxr⟩ := hrel
              gi_wp2
              all_goals first | exact (undefNo (by assumption)).elim | (go_ret; exact ⟨by rw [checkN_f HR.out]; rfl, HX.out.trans hxr⟩)


def askedN (D : SeaD) (rs : List Rep) : Int := if seaB D = false then 10 else if repsB D.hours (D.wide * D.high) rs = false then 11 else 0
theorem askedN_s {D : SeaD} {rs : List Rep} (h : seaB D = false) : askedN D rs = 10 := if_pos h
theorem askedN_r {D : SeaD} {rs : List Rep} (h : seaB D = true) (h2 : repsB D.hours (D.wide * D.high) rs = false) : askedN D rs = 11 := by unfold askedN; rw [if_neg (by rw [h]; simp), if_pos h2]
theorem askedN_t {D : SeaD} {rs : List Rep} (h : seaB D = true) (h2 : repsB D.hours (D.wide * D.high) rs = true) : askedN D rs = 0 := by unfold askedN; rw [if_neg (by rw [h]; simp), if_neg (by rw [h2]; simp)]

set_option maxRecDepth 100000 in
set_option maxHeartbeats 8000000 in
theorem asked_ref (D : SeaD) (lv dv rv : Value) (rs : List Rep) (w : World) (hl : IntsAt w lv D.land) (hd : StepsAt w dv D.drift) (hr : RepsAt w rv rs) :
    Cal 48 #[seaVal D lv dv, rv] w fun e w' => e = .returned (.int .i64 (askedN D rs)) ∧ Ext w w' := by
  obtain ⟨ra, rcap, rfl, hlen, hrc⟩ := hr
  have HRC := hid hrc
  have hb1 : (w.alloc (.cells #[.int .i64 D.wide, .int .i64 D.high, lv, .int .i64 D.hours, dv, .int .i64 D.speed] 25)).heap[w.heap.size]? = some (.cells #[.int .i64 D.wide, .int .i64 D.high, lv, .int .i64 D.hours, dv, .int .i64 D.speed] 25 (0, 0)) := Ext.new (Ext.refl _)
  have hx : Ext w (w.alloc (.cells #[.int .i64 D.wide, .int .i64 D.high, lv, .int .i64 D.hours, dv, .int .i64 D.speed] 25)) := (Ext.refl w).alloc _
  have HCH := hid (check_ref D lv dv _ (hl.mono hx) (hd.mono hx))
  unfold seaVal at HCH ⊢
  clear hl hd hrc
  gi_enter Try.func48, Try.ntmps48
  gi_wp2_with fail
  generalize w.alloc (.cells #[.int .i64 D.wide, .int .i64 D.high, lv, .int .i64 D.hours, dv, .int .i64 D.speed] 25) = w1 at *
  have hcb := cell_of hb1
  have HB := hid hb1
  have HX := hid hx
  clear hb1 hx
  cases hsb : seaB D with
  | false =>
    rw [checkN_f hsb] at HCH
    have HR := hid (askedN_s (rs := rs) hsb)
    gi_wp2_with (gi_at_call 18; ((with_reducible refine HCH.out.mono ?_); rintro e w2 ⟨rfl, hx2⟩))
    go_ret
    exact ⟨by rw [HR.out]; rfl, HX.out.trans hx2⟩
  | true =>
    rw [checkN_t hsb] at HCH
    have hbd := sea_bounds hsb
    have hh := inB_spec hbd.2.2.1
    have hmb := mul_bounds (inB_spec hbd.1) (inB_spec hbd.2.1)
    have hww : IntKind.i64.wrap (D.wide * D.high) = D.wide * D.high := by rw [IntKind.wrap_i64]; omega
    have hwm : IntKind.i64.wrap (D.wide * D.high - 1) = D.wide * D.high - 1 := by rw [IntKind.wrap_i64]; omega
    have HSB := hid hsb
    clear hsb hbd
    by_cases h24 : rs.length ≤ 24
    · have d24 : decide ((rs.length : Int) ≤ 24) = true := by rw [decide_eq_true_eq]; omega
      have HRS : Hid (repsB D.hours (D.wide * D.high) rs = allTo (repGood D.hours (D.wide * D.high) rs) rs.length) := by
        show repsB _ _ _ = _
        unfold repsB
        rw [decide_eq_true h24, Bool.true_and]
      gi_wp2_with (gi_at_call 18; ((with_reducible refine HCH.out.mono ?_); rintro e w2 ⟨rfl, hx2⟩; have hcb2 := cell_of (hx2.block HB.out)))
      gi_loopw [6, 7] (fun o i wr => ∃ k : Nat, k ≤ rs.length ∧ o = .bool (allTo (repGood D.hours (D.wide * D.high) rs) k) ∧ i = .int .i64 k ∧ Ext w1 wr) (fun _ i _ => rs.length - (intOf i).toNat)
      case atStart => exact ⟨0, Nat.zero_le _, rfl, rfl, hx2⟩
      case round =>
        obtain ⟨k, hk, rfl, rfl, hxr⟩ := hrel
        cases hok : allTo (repGood D.hours (D.wide * D.high) rs) k with
        | false =>
          have HR := hid (askedN_r HSB.out (show repsB D.hours (D.wide * D.high) rs = false by rw [HRS.out]; exact allTo_less hk hok))
          gi_wp2
          all_goals first | exact (undefNo (by assumption)).elim | (go_ret; exact ⟨by rw [HR.out]; rfl, HX.out.trans hxr⟩)
        | true =>
          by_cases hlt : k < rs.length
          · obtain ⟨rb, off, rfl, hrl, c0, c1, c2, c3⟩ := HRC.out k hlt
            have hxe := fun e : Later wr => HX.out.trans (Ext.trans hxr e.grown)
            have HC := hid fun e : Later wr => And.intro (cell_of ((Ext.trans hxr e.grown).block HB.out)) (And.intro (((hxe e).cell (p := ⟨rb, _, none⟩) hrl).trans c0) (And.intro (((hxe e).cell (p := ⟨rb, _, none⟩) hrl).trans c1) (And.intro (((hxe e).cell (p := ⟨rb, _, none⟩) hrl).trans c2) (((hxe e).cell (p := ⟨rb, _, none⟩) hrl).trans c3))))
            have HNX : Hid (allTo (repGood D.hours (D.wide * D.high) rs) (k + 1) = (inB rs[k].hour 0 (D.hours - 1) && inB rs[k].cell 0 (D.wide * D.high - 1) && inB rs[k].far 0 9)) := by
              show allTo _ _ = _
              rw [allTo_succ, hok, Bool.true_and, repGood_eq hlt]
            have HXR := hid hxr
            clear c0 c1 c2 c3 hrl hxe hok hxr
            generalize rs[k] = rp at *
            cases d1 : inB rp.hour 0 (D.hours - 1) with
            | false =>
              have HI1 := hid fun e : Later wr => in_b rp.hour 0 (D.hours - 1) false e.val d1
              rw [d1, Bool.false_and, Bool.false_and] at HNX
              gi_wp2_with fail
              refine quiet_wide 31 (by kernel_rfl) (by kernel_rfl) ?_
              simp only [List.take_succ_cons, List.take_zero, List.drop_succ_cons, List.drop_zero]
              have q1 := HC.out
              repeat (any_goals (first | go_big_quiet_step ((go_at_call 39; with_reducible exact Cal.quiet_same (HI1.out _))) | quiet_step ((go_at_call 39; with_reducible exact Cal.quiet_same (HI1.out _)))))
              refine wpQuiet_nil ?_
              rintro w5 ⟨⟨_, hx5⟩, rfl⟩
              clear q1
              clear HC
              gi_wp2
              all_goals first | exact (undefNo (by assumption)).elim | exact ⟨⟨k + 1, by omega, by rw [HNX.out], by go_num, HXR.out.trans hx5⟩, by simp [intOf]; omega⟩
            | true =>
              have HI1 := hid fun e : Later wr => in_b rp.hour 0 (D.hours - 1) true e.val d1
              cases d2 : inB rp.cell 0 (D.wide * D.high - 1) with
              | false =>
                have HI2 := hid fun e : Later wr => in_b rp.cell 0 (D.wide * D.high - 1) false e.val d2
                rw [d1, d2, Bool.and_false, Bool.false_and] at HNX
                gi_wp2_with fail
                refine quiet_wide 31 (by kernel_rfl) (by kernel_rfl) ?_
                simp only [List.take_succ_cons, List.take_zero, List.drop_succ_cons, List.drop_zero]
                have q1 := HC.out
                repeat (any_goals (first | go_big_quiet_step ((first | (go_at_call 39; with_reducible exact Cal.quiet_same (HI1.out _)) | (go_at_call 39; with_reducible exact Cal.quiet_same (HI2.out _)))) | quiet_step ((first | (go_at_call 39; with_reducible exact Cal.quiet_same (HI1.out _)) | (go_at_call 39; with_reducible exact Cal.quiet_same (HI2.out _))))))
                refine wpQuiet_nil ?_
                rintro w5 ⟨⟨_, hx5⟩, rfl⟩
                clear q1
                clear HC
                gi_wp2
                all_goals first | exact (undefNo (by assumption)).elim | exact ⟨⟨k + 1, by omega, by rw [HNX.out], by go_num, HXR.out.trans hx5⟩, by simp [intOf]; omega⟩
              | true =>
                have HI2 := hid fun e : Later wr => in_b rp.cell 0 (D.wide * D.high - 1) true e.val d2
                have HI3 := hid fun e : Later wr => in_b rp.far 0 9 _ e.val rfl
                rw [d1, d2, Bool.true_and, Bool.true_and] at HNX
                generalize inB rp.far 0 9 = bb at *
                gi_wp2_with fail
                refine quiet_wide 31 (by kernel_rfl) (by kernel_rfl) ?_
                simp only [List.take_succ_cons, List.take_zero, List.drop_succ_cons, List.drop_zero]
                have q1 := HC.out
                repeat (any_goals (first | go_big_quiet_step ((first | (go_at_call 39; with_reducible exact Cal.quiet_same (HI1.out _)) | (go_at_call 39; with_reducible exact Cal.quiet_same (HI2.out _)) | (go_at_call 39; with_reducible exact Cal.quiet_same (HI3.out _)))) | quiet_step ((first | (go_at_call 39; with_reducible exact Cal.quiet_same (HI1.out _)) | (go_at_call 39; with_reducible exact Cal.quiet_same (HI2.out _)) | (go_at_call 39; with_reducible exact Cal.quiet_same (HI3.out _))))))
                refine wpQuiet_nil ?_
                rintro w5 ⟨⟨_, hx5⟩, rfl⟩
                clear q1
                clear HC
                gi_wp2
                all_goals first | exact (undefNo (by assumption)).elim | exact ⟨⟨k + 1, by omega, by rw [HNX.out], by go_num, HXR.out.trans hx5⟩, by simp [intOf]; omega⟩
          · obtain rfl : k = rs.length := by omega
            have HR := hid (askedN_t HSB.out (show repsB D.hours (D.wide * D.high) rs = true by rw [HRS.out]; exact hok))
            gi_wp2
            all_goals first | exact (undefNo (by assumption)).elim | (go_ret; exact ⟨by rw [HR.out]; rfl, HX.out.trans hxr⟩)
    · have d24 : decide ((rs.length : Int) ≤ 24) = false := by rw [decide_eq_false_iff_not]; omega
      have d24n : decide (rs.length ≤ 24) = false := by rw [decide_eq_false_iff_not]; omega
      have HR := hid (askedN_r HSB.out (show repsB D.hours (D.wide * D.high) rs = false by unfold repsB; rw [decide_eq_false h24]; rfl))
      gi_wp2_with (gi_at_call 18; ((with_reducible refine HCH.out.mono ?_); rintro e w2 ⟨rfl, hx2⟩; have hcb2 := cell_of (hx2.block HB.out)))
      gi_loopw [6, 7] (fun o i wr => o = .bool false ∧ Ext w1 wr) (fun _ _ _ => 0)
      case atStart => exact ⟨rfl, hx2⟩
      case round =>
        obtain ⟨rfl, hxr⟩ := hrel
        gi_wp2
        all_goals first | exact (undefNo (by assumption)).elim | (go_ret; exact ⟨by rw [HR.out]; rfl, HX.out.trans hxr⟩)


theorem water_good {D : SeaD} {c : Int} : waterB D c = (inB c 0 (D.wide * D.high - 1) && isOpen D.land c.toNat) := by
  unfold waterB isOpen
  cases h : inB c 0 (D.wide * D.high - 1) with
  | false => rfl
  | true =>
    have := inB_spec h
    rw [show ((c.toNat : Nat) : Int) = c by omega]
theorem step_swims {D : SeaD} {h : Nat} {a b : Int} (hs : 0 ≤ D.speed) : stepB D h a b = swimsB D.speed.toNat (col (seaOf D) a) (row (seaOf D) a) (stepE D.drift h) (stepN D.drift h) (col (seaOf D) b) (row (seaOf D) b) := by
  unfold stepB swimsB inB
  rw [Bool.eq_iff_iff]
  simp only [Bool.and_eq_true, decide_eq_true_eq, mem_reach]
  omega

set_option maxRecDepth 100000 in
set_option maxHeartbeats 8000000 in
theorem isTrack_ref (D : SeaD) (lv dv rv tv : Value) (rs : List Rep) (tr : List Int) (w : World) (hl : IntsAt w lv D.land) (hd : StepsAt w dv D.drift) (hr : RepsAt w rv rs) (ht : IntsAt w tv tr) :
    Cal 16 #[seaVal D lv dv, rv, tv] w fun e w' => e = .returned (isTrackRes D rs tr) ∧ Ext w w' := by
  obtain ⟨ta, tcap, rfl, htl, htc⟩ := ht
  have HTC := hid htc
  have hb1 : (w.alloc (.cells #[.int .i64 D.wide, .int .i64 D.high, lv, .int .i64 D.hours, dv, .int .i64 D.speed] 25)).heap[w.heap.size]? = some (.cells #[.int .i64 D.wide, .int .i64 D.high, lv, .int .i64 D.hours, dv, .int .i64 D.speed] 25 (0, 0)) := Ext.new (Ext.refl _)
  have hx : Ext w (w.alloc (.cells #[.int .i64 D.wide, .int .i64 D.high, lv, .int .i64 D.hours, dv, .int .i64 D.speed] 25)) := (Ext.refl w).alloc _
  have HAS := hid (asked_ref D lv dv rv rs _ (hl.mono hx) (hd.mono hx) (hr.mono hx))
  have HL := hid (hl.mono hx)
  have HD := hid (hd.mono hx)
  have HR := hid (hr.mono hx)
  unfold seaVal at HAS ⊢
  clear hl hd htc hr
  gi_enter Try.func16, Try.ntmps16
  gi_wp2_with fail
  generalize w.alloc (.cells #[.int .i64 D.wide, .int .i64 D.high, lv, .int .i64 D.hours, dv, .int .i64 D.speed] 25) = w1 at *
  have HB := hid hb1
  have hcb := cell_of hb1
  have HX := hid hx
  clear hb1 hx
  cases hsb : seaB D with
  | false =>
    have HG : Hid (isTrackRes D rs tr = .tuple #[.int .i64 0, .bool false, .int .i64 10]) := if_pos hsb
    rw [askedN_s hsb] at HAS
    gi_wp2_with (gi_at_call 48; ((with_reducible refine HAS.out.mono ?_); rintro e w2 ⟨rfl, hx2⟩))
    exact bodyPost_ret (v := .tuple #[.int .i64 0, .bool false, .int .i64 10]) (results_tmp3 (fn := Try.f16) (t := 6) (u := 7) (v := 8) rfl _ _ _) rfl ⟨by rw [HG.out], HX.out.trans hx2⟩
  | true =>
    cases hrb : repsB D.hours (D.wide * D.high) rs with
    | false =>
      have HG : Hid (isTrackRes D rs tr = .tuple #[.int .i64 0, .bool false, .int .i64 11]) := by
        show _ = _
        unfold isTrackRes; rw [if_neg (by rw [hsb]; simp), if_pos hrb]
      rw [askedN_r hsb hrb] at HAS
      gi_wp2_with (gi_at_call 48; ((with_reducible refine HAS.out.mono ?_); rintro e w2 ⟨rfl, hx2⟩))
      exact bodyPost_ret (v := .tuple #[.int .i64 0, .bool false, .int .i64 11]) (results_tmp3 (fn := Try.f16) (t := 6) (u := 7) (v := 8) rfl _ _ _) rfl ⟨by rw [HG.out], HX.out.trans hx2⟩
    | true =>
      rw [askedN_t hsb hrb] at HAS
      have hbd := sea_bounds hsb
      have hh := inB_spec hbd.2.2.1
      have hw := inB_spec hbd.1
      have hsp := inB_spec hbd.2.2.2.1
      have hmb := mul_bounds (inB_spec hbd.1) (inB_spec hbd.2.1)
      have hro := reps_ok hsb hrb
      have hst := steps_ok hsb
      have HST := hid hst.2
      have HDL := hid hst.1
      have hd12 : D.drift.length ≤ 1000 := by have := hst.1; omega
      have h24 := hro.1
      have HRO := hid fun r (h : r ∈ rs) => (hro.2 r h).1
      have HBAD : Hid (∀ k, k < tr.length → trackGood (seaOf D) D.land D.speed.toNat D.drift tr k = false → isTrackRes D rs tr = .tuple #[.int .i64 0, .bool false, .int .i64 0]) := fun k hk hg => by
        unfold isTrackRes trackB
        rw [if_neg (by rw [hsb]; simp), if_neg (by rw [hrb]; simp), allTo_no hk hg, Bool.and_false, if_pos rfl]
      have HLB : Hid ((tr.length : Int) ≠ D.hours → isTrackRes D rs tr = .tuple #[.int .i64 0, .bool false, .int .i64 0]) := fun h => by
        unfold isTrackRes trackB
        rw [if_neg (by rw [hsb]; simp), if_neg (by rw [hrb]; simp), decide_eq_false (show ¬ (tr.length : Int) = (seaOf D).hours from h), Bool.false_and, if_pos rfl]
      have HOK : Hid ((tr.length : Int) = D.hours → (∀ j, j < tr.length → trackGood (seaOf D) D.land D.speed.toNat D.drift tr j = true) → isTrackRes D rs tr = .tuple #[.int .i64 (untrueTo D rs tr tr.length), .bool true, .int .i64 0]) := fun h hg => by
        unfold isTrackRes trackB
        rw [if_neg (by rw [hsb]; simp), if_neg (by rw [hrb]; simp), decide_eq_true (show (tr.length : Int) = (seaOf D).hours from h), allTo_yes hg, Bool.and_true, if_neg (by simp)]
      clear hsb hrb hbd hro hst
      by_cases hlen : (tr.length : Int) = D.hours
      · have q1 : ((tr.length : Int) != D.hours) = false := by rw [bne_eq_false_iff_eq]; exact hlen
        have HLEN := hid hlen
        have ht12 : tr.length ≤ 12 := by omega
        clear hlen HLB
        gi_wp2_with (gi_at_call 48; ((with_reducible refine HAS.out.mono ?_); rintro e w2 ⟨rfl, hx2⟩; have hcb2 := cell_of (hx2.block HB.out)))
        gi_loopw [10, 11] (fun n i wr => ∃ k : Nat, k ≤ tr.length ∧ n = .int .i64 (untrueTo D rs tr k) ∧ i = .int .i64 k ∧ Hid (∀ j, j < k → trackGood (seaOf D) D.land D.speed.toNat D.drift tr j = true) ∧ Ext w1 wr) (fun _ i _ => tr.length - (intOf i).toNat)
        case atStart => exact ⟨0, Nat.zero_le _, rfl, rfl, fun j hj => absurd hj (by omega), hx2⟩
        case round =>
          obtain ⟨k, hk, rfl, rfl, hgk, hxr⟩ := hrel
          by_cases hlt : k < tr.length
          · obtain ⟨tb, toff, rfl, htb, htcell⟩ := HTC.out k hlt
            have HGK := hid hgk.out
            have hul := untrueTo_le (D := D) (tr := tr) h24 k
            have HUS := hid (untrueTo_succ D rs tr k)
            rw [getD_of hlt] at HUS
            have HXR := hid hxr
            have HWA := hid fun e : Later wr => water_ref D lv dv tr[k] e.val hmb (HL.out.mono (Ext.trans hxr e.grown))
            have hxe := fun e : Later wr => HX.out.trans (Ext.trans hxr e.grown)
            have hc1 := fun e : Later wr => cell_of ((Ext.trans hxr e.grown).block HB.out)
            have hc2 := fun e : Later wr => ((hxe e).cell (p := ⟨tb, _, none⟩) htb).trans htcell
            cases hwb : waterB D tr[k] with
            | false =>
              rw [hwb, seaVal] at HWA
              have HG := hid (HBAD.out k hlt (by
                cases hi : inB tr[k] 0 (D.wide * D.high - 1) with
                | false => exact trackGood_in hlt hi
                | true => rw [water_good, hi, Bool.true_and] at hwb; exact trackGood_open hlt hwb))
              have HC := hid fun e : Later wr => And.intro (hc1 e) (hc2 e)
              clear hc1 hc2 hxe htcell htb hwb hgk hxr HUS
              generalize tr[k] = tk at *
              gi_wp2_with fail
              refine quiet_wide 27 (by kernel_rfl) (by kernel_rfl) ?_
              simp only [List.take_succ_cons, List.take_zero, List.drop_succ_cons, List.drop_zero]
              have q1 := HC.out
              repeat (any_goals (first | go_big_quiet_step ((go_at_call 49; with_reducible exact Cal.quiet (HWA.out _))) | quiet_step ((go_at_call 49; with_reducible exact Cal.quiet (HWA.out _)))))
              refine wpQuiet_nil ?_
              rintro w5 ⟨⟨_, hx5⟩, rfl⟩
              clear q1
              clear HC HWA
              gi_wp2
              exact bodyPost_ret (v := .tuple #[.int .i64 0, .bool false, .int .i64 0]) (results_tmp3 (fn := Try.f16) (t := 6) (u := 7) (v := 8) rfl _ _ _) rfl ⟨by rw [HG.out], HX.out.trans (HXR.out.trans hx5)⟩
            | true =>
              rw [hwb, seaVal] at HWA
              have hwg := hwb
              rw [water_good, Bool.and_eq_true] at hwg
              have hik := inB_spec hwg.1
              have HTK : Hid (0 ≤ tr[k] ∧ tr[k] ≤ 1000) := by show _ ∧ _; omega
              have HTB := hid (And.intro htb htcell)
              by_cases hk0 : k = 0
              · subst hk0
                have HGN : Hid (∀ j, j < 0 + 1 → trackGood (seaOf D) D.land D.speed.toNat D.drift tr j = true) := fun j hj => by
                  rw [show j = 0 by omega, trackGood_zero hlt, Bool.and_eq_true]; exact hwg
                rw [Nat.add_zero] at HTB
                simp only [Nat.add_zero] at hc2
                have HC := hid fun e : Later wr => And.intro (hc1 e) (hc2 e)
                clear hc1 hc2 hxe htcell htb hwb hgk hxr hwg hik
                generalize tr[0] = tk at *
                generalize untrueTo D rs tr 0 = u0 at *
                gi_wp2_with fail
                refine quiet_wide 27 (by kernel_rfl) (by kernel_rfl) ?_
                simp only [List.take_succ_cons, List.take_zero, List.drop_succ_cons, List.drop_zero]
                have q1 := HC.out
                repeat (any_goals (first | go_big_quiet_step ((go_at_call 49; with_reducible exact Cal.quiet (HWA.out _))) | quiet_step ((go_at_call 49; with_reducible exact Cal.quiet (HWA.out _)))))
                refine wpQuiet_nil ?_
                rintro w5 ⟨⟨_, hx5⟩, rfl⟩
                clear q1
                clear HC HWA
                have HXS := hid (HXR.out.trans hx5)
                have HLI := hid fun e : Later w5 => lies_ref D lv dv rv rs 0 tk e.val hw (HR.out.mono (HXS.out.trans e.grown)) HTK.out h24 HRO.out (by omega)
                rw [seaVal] at HLI
                rw [show ((0 : Nat) : Int) = 0 from rfl] at HLI
                have HC := hid fun e : Later w5 => And.intro (cell_of ((HXS.out.trans e.grown).block HB.out)) (((HX.out.trans (HXS.out.trans e.grown)).cell (p := ⟨tb, _, none⟩) HTB.out.1).trans HTB.out.2)
                have hun : untrueN (seaOf D) rs 0 (col (seaOf D) tk) (row (seaOf D) tk) ≤ 24 := untrueN_le h24
                generalize untrueN (seaOf D) rs 0 (col (seaOf D) tk) (row (seaOf D) tk) = un at *
                gi_wp2_with fail
                refine quiet_wide 10 (by kernel_rfl) (by kernel_rfl) ?_
                simp only [List.take_succ_cons, List.take_zero, List.drop_succ_cons, List.drop_zero]
                have q1 := HC.out
                repeat (any_goals (first | go_big_quiet_step ((go_at_call 51; with_reducible exact Cal.quiet (HLI.out _))) | quiet_step ((go_at_call 51; with_reducible exact Cal.quiet (HLI.out _)))))
                refine wpQuiet_nil ?_
                rintro w6 ⟨⟨_, hx6⟩, rfl⟩
                clear q1
                clear HC HLI
                gi_wp2
                go_roundw
                case rel => exact ⟨0 + 1, by omega, by rw [HUS.out]; go_num, by go_num, HGN.out, HXS.out.trans hx6⟩
                case measure => simp [intOf]; omega
              · obtain ⟨m, hm⟩ : ∃ m, k = m + 1 := ⟨k - 1, by omega⟩
                have hml : m < tr.length := by omega
                have hmd : m < D.drift.length := by have := HDL.out; have := HLEN.out; omega
                obtain ⟨tb', toff', htb', hmb', hmcell⟩ := HTC.out m hml
                cases htb'
                have hgm := HGK.out m (by omega)
                have him : inB tr[m] 0 (D.wide * D.high - 1) = true := by
                  cases hi : inB tr[m] 0 (D.wide * D.high - 1) with
                  | true => rfl
                  | false => rw [trackGood_in hml hi] at hgm; cases hgm
                have him2 := inB_spec him
                have HSP := hid fun e : Later wr => step_ref D lv dv m tr[m] tr[k] e.val hw hsp (HD.out.mono (Ext.trans hxr e.grown)) hmd (HST.out m hmd) (by omega) HTK.out hd12
                rw [seaVal] at HSP
                have HTG : Hid (trackGood (seaOf D) D.land D.speed.toNat D.drift tr k = stepB D m tr[m] tr[k]) := by
                  show _ = _
                  rw [trackGood_pos hlt hk0 (by omega), step_swims hsp.1]
                  have e1 : stepE D.drift m = D.drift[m].east := by unfold stepE; rw [getD_of hmd]
                  have e2 : stepN D.drift m = D.drift[m].north := by unfold stepN; rw [getD_of hmd]
                  rw [e1, e2, show (inB tr[k] 0 ((seaOf D).wide * (seaOf D).high - 1) && isOpen D.land tr[k].toNat) = true by rw [Bool.and_eq_true]; exact hwg, Bool.true_and]
                  simp only [show k - 1 = m by omega]
                have hpos : decide ((0 : Int) < (k : Int)) = true := by rw [decide_eq_true_eq]; omega
                have hpos2 : decide (0 < k) = true := by rw [decide_eq_true_eq]; omega
                have hkm : (k : Int) - 1 = m := by omega
                have hc3 := fun e : Later wr => ((hxe e).cell (p := ⟨tb, _, none⟩) hmb').trans hmcell
                have HC := hid fun e : Later wr => And.intro (hc1 e) (And.intro (hc2 e) (hc3 e))
                have HLT := hid hlt
                have HM := hid hm
                clear hc1 hc2 hc3 hxe htcell htb hwb hgk hxr hwg hik hmcell hmb' hgm him him2 hm
                generalize tr[k] = tk at *
                generalize tr[m] = tm at *
                generalize untrueTo D rs tr k = u0 at *
                cases hsb : stepB D m tm tk with
                | false =>
                  rw [hsb] at HSP HTG
                  have HG := hid (HBAD.out k HLT.out HTG.out)
                  clear HUS
                  gi_wp2_with fail
                  refine quiet_wide 27 (by kernel_rfl) (by kernel_rfl) ?_
                  simp only [List.take_succ_cons, List.take_zero, List.drop_succ_cons, List.drop_zero]
                  have q1 := HC.out
                  repeat (any_goals (first | go_big_quiet_step ((first | (go_at_call 49; with_reducible exact Cal.quiet (HWA.out _)) | (go_at_call 50; with_reducible exact Cal.quiet (HSP.out _)))) | quiet_step ((first | (go_at_call 49; with_reducible exact Cal.quiet (HWA.out _)) | (go_at_call 50; with_reducible exact Cal.quiet (HSP.out _))))))
                  refine wpQuiet_nil ?_
                  rintro w5 ⟨⟨_, hx5⟩, rfl⟩
                  clear q1
                  clear HC HWA HSP
                  gi_wp2
                  exact bodyPost_ret (v := .tuple #[.int .i64 0, .bool false, .int .i64 0]) (results_tmp3 (fn := Try.f16) (t := 6) (u := 7) (v := 8) rfl _ _ _) rfl ⟨by rw [HG.out], HX.out.trans (HXR.out.trans hx5)⟩
                | true =>
                  rw [hsb] at HSP HTG
                  have HGN : Hid (∀ j, j < k + 1 → trackGood (seaOf D) D.land D.speed.toNat D.drift tr j = true) := fun j hj => by
                    by_cases e : j = k
                    · rw [e]; exact HTG.out
                    · exact HGK.out j (by omega)
                  gi_wp2_with fail
                  refine quiet_wide 27 (by kernel_rfl) (by kernel_rfl) ?_
                  simp only [List.take_succ_cons, List.take_zero, List.drop_succ_cons, List.drop_zero]
                  have q1 := HC.out
                  repeat (any_goals (first | go_big_quiet_step ((first | (go_at_call 49; with_reducible exact Cal.quiet (HWA.out _)) | (go_at_call 50; with_reducible exact Cal.quiet (HSP.out _)))) | quiet_step ((first | (go_at_call 49; with_reducible exact Cal.quiet (HWA.out _)) | (go_at_call 50; with_reducible exact Cal.quiet (HSP.out _))))))
                  refine wpQuiet_nil ?_
                  rintro w5 ⟨⟨_, hx5⟩, rfl⟩
                  clear q1
                  clear HC HWA HSP
                  have HXS := hid (HXR.out.trans hx5)
                  have HLI := hid fun e : Later w5 => lies_ref D lv dv rv rs k tk e.val hw (HR.out.mono (HXS.out.trans e.grown)) HTK.out h24 HRO.out (by omega)
                  rw [seaVal] at HLI
                  have HC := hid fun e : Later w5 => And.intro (cell_of ((HXS.out.trans e.grown).block HB.out)) (((HX.out.trans (HXS.out.trans e.grown)).cell (p := ⟨tb, _, none⟩) HTB.out.1).trans HTB.out.2)
                  have hun : untrueN (seaOf D) rs k (col (seaOf D) tk) (row (seaOf D) tk) ≤ 24 := untrueN_le h24
                  generalize untrueN (seaOf D) rs k (col (seaOf D) tk) (row (seaOf D) tk) = un at *
                  gi_wp2_with fail
                  refine quiet_wide 10 (by kernel_rfl) (by kernel_rfl) ?_
                  simp only [List.take_succ_cons, List.take_zero, List.drop_succ_cons, List.drop_zero]
                  have q1 := HC.out
                  repeat (any_goals (first | go_big_quiet_step ((go_at_call 51; with_reducible exact Cal.quiet (HLI.out _))) | quiet_step ((go_at_call 51; with_reducible exact Cal.quiet (HLI.out _)))))
                  refine wpQuiet_nil ?_
                  rintro w6 ⟨⟨_, hx6⟩, rfl⟩
                  clear q1
                  clear HC HLI
                  gi_wp2
                  go_roundw
                  case rel => exact ⟨k + 1, by omega, by rw [HUS.out]; go_num, by go_num, HGN.out, HXS.out.trans hx6⟩
                  case measure => simp [intOf]; omega
          · obtain rfl : k = tr.length := by omega
            have HG := hid (HOK.out HLEN.out hgk.out)
            gi_wp2
            exact bodyPost_ret (v := .tuple #[.int .i64 (untrueTo D rs tr tr.length), .bool true, .int .i64 0]) (results_tmp3 (fn := Try.f16) (t := 6) (u := 7) (v := 8) rfl _ _ _) rfl ⟨by rw [HG.out], HX.out.trans hxr⟩
      · have q1 : ((tr.length : Int) != D.hours) = true := by rw [bne_iff_ne]; exact hlen
        have HG := hid (HLB.out hlen)
        gi_wp2_with (gi_at_call 48; ((with_reducible refine HAS.out.mono ?_); rintro e w2 ⟨rfl, hx2⟩; have hcb2 := cell_of (hx2.block HB.out)))
        exact bodyPost_ret (v := .tuple #[.int .i64 0, .bool false, .int .i64 0]) (results_tmp3 (fn := Try.f16) (t := 6) (u := 7) (v := 8) rfl _ _ _) rfl ⟨by rw [HG.out], HX.out.trans hx2⟩
end Go.Proofs.Ytlgcnjcbmihefaa
