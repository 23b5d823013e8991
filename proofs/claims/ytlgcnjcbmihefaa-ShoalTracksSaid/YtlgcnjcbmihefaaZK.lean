/- ShoalTracks: its walk. -/
import Derived.Test.YtlgcnjcbmihefaaZI
import Derived.Test.YtlgcnjcbmihefaaXJ
import Derived.Test.YtlgcnjcbmihefaaXK
set_option linter.unusedSimpArgs false
set_option linter.unusedVariables false
namespace Go.Proofs.Ytlgcnjcbmihefaa
open Go Go.RowKit Go.Shelf

theorem isTrackRes_form (D : SeaD) (rs : List Rep) (tr : List Int) : ∃ (a : Int) (b : Bool) (c : Int), isTrackRes D rs tr = .tuple #[.int .i64 a, .bool b, .int .i64 c] := by
  unfold isTrackRes
  split
  · exact ⟨_, _, _, rfl⟩
  · split
    · exact ⟨_, _, _, rfl⟩
    · split
      · exact ⟨_, _, _, rfl⟩
      · exact ⟨_, _, _, rfl⟩

theorem first_pick_len {D : SeaD} {rs : List Rep} (he : leastErr D rs = 0) : (leastTr D rs).length ≤ 1000 := by
  have hsb : seaB D = true := by
    cases h : seaB D with
    | true => rfl
    | false => unfold leastErr at he; rw [if_pos h] at he; cases he
  have hrb : repsB D.hours (D.wide * D.high) rs = true := by
    cases h : repsB D.hours (D.wide * D.high) rs with
    | true => rfl
    | false => unfold leastErr at he; rw [if_neg (by rw [hsb]; simp), if_pos h] at he; cases he
  have hS : soundB D rs = true := by unfold soundB; rw [hsb, hrb]; rfl
  have hF : fewestF D rs < 25 := by
    rcases leastErr_cases hS with ⟨h, _⟩ | ⟨_, h, _⟩
    · rw [h] at he; cases he
    · exact h
  have hh := inB_spec (sea_bounds hsb).2.2.1
  have ok := first_ok (reps_ok hsb hrb).1 (seaB_80 hsb) (by omega) hF D.hours.toNat (Nat.le_refl _)
  unfold leastTr
  rw [if_neg (by rw [he]; simp), ok.len]
  omega

set_option maxRecDepth 100000 in
set_option maxHeartbeats 8000000 in
theorem ShoalTracks_any (D : SeaD) (rs : List Rep) (tr : List Int) (v0 v1 : Value) (w : World) (h0 : SearchAt w v0 D rs) (h1 : IntsAt w v1 tr) :
    Cal 3 #[v0, v1] w fun e w' => e = .returned (.bool true) ∧ Ext w w' := by
  obtain ⟨lv, dv, rv, rfl, hl, hd, hr⟩ := h0
  have hx : Ext w (w.alloc (.cells #[.int .i64 D.wide, .int .i64 D.high, lv, .int .i64 D.hours, dv, .int .i64 D.speed, rv] 28)) := (Ext.refl w).alloc _
  have hb1 : (w.alloc (.cells #[.int .i64 D.wide, .int .i64 D.high, lv, .int .i64 D.hours, dv, .int .i64 D.speed, rv] 28)).heap[w.heap.size]? = some (.cells #[.int .i64 D.wide, .int .i64 D.high, lv, .int .i64 D.hours, dv, .int .i64 D.speed, rv] 28 (0, 0)) := Ext.new (Ext.refl _)
  have HL := hid (hl.mono hx)
  have HD := hid (hd.mono hx)
  have HR := hid (hr.mono hx)
  have HBT := hid (h1.mono hx)
  have HX := hid hx
  have HB1 := hid hb1
  clear hl hd hr hx hb1 h1
  gi_enter Try.func3, Try.ntmps3
  gi_wp2_with fail
  generalize w.alloc (.cells #[.int .i64 D.wide, .int .i64 D.high, lv, .int .i64 D.hours, dv, .int .i64 D.speed, rv] 28) = w0 at *
  have HT1 := hid (IsTrack_any D lv dv rv v1 rs tr w0 HL.out HD.out HR.out HBT.out)
  have HT2 := hid fun (e : World) (hx : Ext w0 e) => isTrack_ref D lv dv rv v1 rs tr e (HL.out.mono hx) (HD.out.mono hx) (HR.out.mono hx) (HBT.out.mono hx)
  have HC1 := hid fun (e : World) (hx : Ext w0 e) => Check_any D lv dv e (HL.out.mono hx) (HD.out.mono hx)
  have HC2 := hid fun (e : World) (hx : Ext w0 e) => check_ref D lv dv e (HL.out.mono hx) (HD.out.mono hx)
  have HL1 := hid fun (e : World) (hx : Ext w0 e) => Least_any D lv dv rv rs e (HL.out.mono hx) (HD.out.mono hx) (HR.out.mono hx)
  have HL2 := hid fun (e : World) (hx : Ext w0 e) => least_ref D lv dv rv rs e (HL.out.mono hx) (HD.out.mono hx) (HR.out.mono hx)
  have HCB := hid fun (e : World) (hx : Ext w0 e) => cell_of (hx.block HB1.out)
  obtain ⟨ra, rb, rc, hres⟩ := isTrackRes_form D rs tr
  obtain ⟨ck, hck1, hck2⟩ : ∃ ck : Int, (if seaB D then (0 : Int) else 10) = ck ∧ checkN D = ck := by
    cases h : seaB D with
    | true => exact ⟨0, rfl, checkN_t h⟩
    | false => exact ⟨10, rfl, checkN_f h⟩
  rw [hres] at HT1 HT2
  rw [hck1] at HC1
  rw [hck2] at HC2
  rw [seaVal] at HT1 HT2 HC1 HC2 HL1 HL2
  have htl : (leastTr D rs).length ≤ 1000 := by
    by_cases he : leastErr D rs = 0
    · have hff := (first_pick_len he)
      exact hff
    · unfold leastTr; rw [if_pos he]; simp
  clear hres hck1 hck2
  have n1 : (ra != ra) = false := by simp
  have n2 : (rb != rb) = false := by simp
  have n3 : (rc != rc) = false := by simp
  have n4 : (ck != ck) = false := by simp
  generalize leastTr D rs = lt at *
  generalize leastN D rs = ln at *
  generalize leastErr D rs = le at *
  gi_wp2_with (first | (gi_at_call 15; ((with_reducible refine HT1.out.mono ?_); rintro e w1 ⟨rfl, hx1⟩; have hcb1 := HCB.out w1 hx1; have HT22 := hid (HT2.out w1 hx1))) | (gi_at_call 16; ((with_reducible refine HT22.out.mono ?_); rintro e w2 ⟨rfl, hx2⟩)))
  have HX2 := hid (hx1.trans hx2)
  have HC := hid fun e : Later w2 => HCB.out e.val (HX2.out.trans e.grown)
  have HQ1 := hid fun e : Later w2 => HC1.out e.val (HX2.out.trans e.grown)
  have HQ2 := hid fun e : Later w2 => HC2.out e.val (HX2.out.trans e.grown)
  refine quiet_wide 22 (by kernel_rfl) (by kernel_rfl) ?_
  simp only [List.take_succ_cons, List.take_zero, List.drop_succ_cons, List.drop_zero]
  have q1 := HC.out
  repeat (any_goals (first | go_big_quiet_step ((first | (go_at_call 17; with_reducible exact Cal.quiet (HQ1.out _)) | (go_at_call 18; with_reducible exact Cal.quiet (HQ2.out _)))) | quiet_step ((first | (go_at_call 17; with_reducible exact Cal.quiet (HQ1.out _)) | (go_at_call 18; with_reducible exact Cal.quiet (HQ2.out _))))))
  refine wpQuiet_nil ?_
  rintro w3 ⟨⟨_, hx3⟩, rfl⟩
  clear q1
  clear HC HQ1 HQ2
  have HX3 := hid (HX2.out.trans hx3)
  have hcb3 := HCB.out w3 HX3.out
  have HL13 := hid (HL1.out w3 HX3.out)
  gi_wp2_with (first | (gi_at_call 19; ((with_reducible refine HL13.out.mono ?_); rintro e w4 ⟨v4, rfl, hx4, hv4⟩; obtain ⟨a4, c4, rfl⟩ := hv4.out.isSliceN; have hcb4 := HCB.out w4 (HX3.out.trans hx4); have HL24 := hid (HL2.out w4 (HX3.out.trans hx4)))) | (gi_at_call 20; ((with_reducible refine HL24.out.mono ?_); rintro e w5 ⟨v5, rfl, hx5, hv5⟩; obtain ⟨a5, c5, rfl⟩ := hv5.out.isSliceN; have HSM := hid (same_ref (.slice a4 lt.length c4) (.slice a5 lt.length c5) (intsOf lt) w5 ((hv4.out.mono hx5).ints (by omega)) (hv5.out.ints (by omega))))) | (gi_at_call 21; ((with_reducible refine HSM.out.mono ?_); rintro e w6 ⟨rfl, hx6⟩)) | (gi_at_call 22; ((with_reducible refine (works_any _).mono ?_); rintro e wz ⟨rfl, hxz⟩)))
  all_goals first | exact (undefNo (by assumption)).elim | (go_ret; exact ⟨rfl, HX.out.trans (HX3.out.trans (hx4.trans (hx5.trans (hx6.trans hxz))))⟩)
end Go.Proofs.Ytlgcnjcbmihefaa
