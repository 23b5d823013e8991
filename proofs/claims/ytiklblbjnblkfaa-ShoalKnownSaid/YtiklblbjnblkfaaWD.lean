/- newAsked. -/
import Derived.Test.YtiklblbjnblkfaaWC
set_option linter.unusedSimpArgs false
set_option linter.unusedVariables false
namespace Go.Proofs.Ytiklblbjnblkfaa
open Go Go.RowKit Go.Shelf

/-- The error of what is asked with a number of false reports and an hour; 0 when there is none. -/
def askErr (D : SeaD) (rs : List Rep) (wrong hour : Int) : Int :=
  if seaB D = false then 10 else if repsB D.hours (D.wide * D.high) rs = false then 11 else if (inB wrong 0 24 && inB hour 0 (D.hours - 1)) = false then 7 else 0
def NewAsked (D : SeaD) (rs : List Rep) (wrong hour : Int) (e : Ending) (w : World) : Prop :=
  (askErr D rs wrong hour ≠ 0 ∧ e = .returned (.tuple #[.pointer none, .int .i64 (askErr D rs wrong hour)])) ∨
  (askErr D rs wrong hour = 0 ∧ seaB D = true ∧ repsB D.hours (D.wide * D.high) rs = true ∧ inB wrong 0 24 = true ∧ inB hour 0 (D.hours - 1) = true ∧
    ∃ b S, e = .returned (.tuple #[.pointer (some ⟨b, 0, none⟩), .int .i64 0]) ∧ Hid (SeaFull w b S D rs))

set_option maxRecDepth 100000 in
set_option maxHeartbeats 1000000 in
theorem newAsked_any (D : SeaD) (lv dv rv : Value) (rs : List Rep) (wrong hour : Int) (w : World) (hl : IntsAt w lv D.land) (hd : StepsAt w dv D.drift) (hr : RepsAt w rv rs) :
    Cal 61 #[seaVal D lv dv, rv, .int .i64 wrong, .int .i64 hour] w fun e w' => Ext w w' ∧ NewAsked D rs wrong hour e w' := by
  unfold seaVal
  gi_enter Try.func61, Try.ntmps61
  have hx := (Ext.refl w).alloc (.cells #[.int .i64 D.wide, .int .i64 D.high, lv, .int .i64 D.hours, dv, .int .i64 D.speed] 25)
  cases hb : seaB D with
  | false =>
    have HN := hid (newSea_bad D lv dv rv _ (hl.mono hx) (hd.mono hx) hb)
    rw [seaVal] at HN
    have HG : Hid (askErr D rs wrong hour = 10) := if_pos hb
    clear hl hd hr hx hb
    gi_wp2_with (gi_at_call 47; ((with_reducible refine HN.out.mono ?_); rintro e w1 ⟨rfl, hx1⟩))
    exact bodyPost_ret (v := .tuple #[.pointer none, .int .i64 10]) (results_tmp2 (fn := Try.f61) (t := 8) (u := 9) rfl _ _ _) rfl ⟨Ext.after hx1, .inl ⟨by rw [HG.out]; decide, by rw [HG.out]⟩⟩
  | true =>
    have HN := hid (newSea_any D lv dv rv rs _ (hl.mono hx) (hd.mono hx) (hr.mono hx) hb)
    rw [seaVal] at HN
    have HB := hid hb
    clear hl hd hr hx hb
    cases h1 : inB wrong 0 24 with
    | false =>
      gi_wp2_with (first | (gi_at_call 47; ((with_reducible refine HN.out.mono ?_); rintro e w1 ⟨hx1, hN⟩; clear HN; rcases hN.split with ⟨hrb, rfl⟩ | ⟨hrb, b, S, rfl, HF⟩)) | (gi_at_call 80; ((with_reducible refine (isIn_b wrong _ _ false _ h1).mono ?_); rintro e w2 ⟨rfl, rfl⟩)))
      · have HG : Hid (askErr D rs wrong hour = 11) := (if_neg (by rw [HB.out]; simp)).trans (if_pos hrb)
        exact bodyPost_ret (v := .tuple #[.pointer none, .int .i64 11]) (results_tmp2 (fn := Try.f61) (t := 8) (u := 9) rfl _ _ _) rfl ⟨Ext.after hx1, .inl ⟨by rw [HG.out]; decide, by rw [HG.out]⟩⟩
      · have HG : Hid (askErr D rs wrong hour = 7) := (if_neg (by rw [HB.out]; simp)).trans ((if_neg (by rw [hrb]; simp)).trans (if_pos (by rw [h1]; rfl)))
        exact bodyPost_ret (v := .tuple #[.pointer none, .int .i64 7]) (results_tmp2 (fn := Try.f61) (t := 8) (u := 9) rfl _ _ _) rfl ⟨Ext.after hx1, .inl ⟨by rw [HG.out]; decide, by rw [HG.out]⟩⟩
    | true =>
      have hbh : Hid (1 ≤ D.hours ∧ D.hours ≤ 12) := by
        have := HB.out; unfold seaB at this; simp only [Bool.and_eq_true] at this; exact inB_spec this.1.1.2
      cases h2 : inB hour 0 (D.hours - 1) with
      | false =>
        have h2b := hid h2
        gi_wp2_with (first | (gi_at_call 47; ((with_reducible refine HN.out.mono ?_); rintro e w1 ⟨hx1, hN⟩; clear HN; rcases hN.split with ⟨hrb, rfl⟩ | ⟨hrb, b, S, rfl, HF⟩; rotate_left; have hcl := HF.out.at_.cells; rw [HF.out.hours] at hcl; have hbd := hbh.out)) | (gi_at_call 80; ((with_reducible refine (isIn_b wrong _ _ true _ h1).mono ?_); rintro e w2 ⟨rfl, rfl⟩)) | (gi_at_call 80; ((with_reducible refine (isIn_b hour _ _ false _ h2).mono ?_); rintro e w2 ⟨rfl, rfl⟩)))
        · have HG : Hid (askErr D rs wrong hour = 7) := (if_neg (by rw [HB.out]; simp)).trans ((if_neg (by rw [hrb]; simp)).trans (if_pos (by rw [h1, h2]; rfl)))
          exact bodyPost_ret (v := .tuple #[.pointer none, .int .i64 7]) (results_tmp2 (fn := Try.f61) (t := 8) (u := 9) rfl _ _ _) rfl ⟨Ext.after hx1, .inl ⟨by rw [HG.out]; decide, by rw [HG.out]⟩⟩
        · have HG : Hid (askErr D rs wrong hour = 11) := (if_neg (by rw [HB.out]; simp)).trans (if_pos hrb)
          exact bodyPost_ret (v := .tuple #[.pointer none, .int .i64 11]) (results_tmp2 (fn := Try.f61) (t := 8) (u := 9) rfl _ _ _) rfl ⟨Ext.after hx1, .inl ⟨by rw [HG.out]; decide, by rw [HG.out]⟩⟩
      | true =>
        gi_wp2_with (first | (gi_at_call 47; ((with_reducible refine HN.out.mono ?_); rintro e w1 ⟨hx1, hN⟩; clear HN; rcases hN.split with ⟨hrb, rfl⟩ | ⟨hrb, b, S, rfl, HF⟩; rotate_left; have hcl := HF.out.at_.cells; rw [HF.out.hours] at hcl; have hbd := hbh.out)) | (gi_at_call 80; ((with_reducible refine (isIn_b wrong _ _ true _ h1).mono ?_); rintro e w2 ⟨rfl, rfl⟩)) | (gi_at_call 80; ((with_reducible refine (isIn_b hour _ _ true _ h2).mono ?_); rintro e w2 ⟨rfl, rfl⟩)))
        · have HG : Hid (askErr D rs wrong hour = 0) := (if_neg (by rw [HB.out]; simp)).trans ((if_neg (by rw [hrb]; simp)).trans (if_neg (by rw [h1, h2]; simp)))
          exact bodyPost_ret (v := .tuple #[.pointer (some ⟨b, 0, none⟩), .int .i64 0]) (results_tmp2 (fn := Try.f61) (t := 8) (u := 9) rfl _ _ _) rfl ⟨Ext.after hx1, .inr ⟨HG.out, HB.out, hrb, h1, h2, b, S, rfl, HF⟩⟩
        · have HG : Hid (askErr D rs wrong hour = 11) := (if_neg (by rw [HB.out]; simp)).trans (if_pos hrb)
          exact bodyPost_ret (v := .tuple #[.pointer none, .int .i64 11]) (results_tmp2 (fn := Try.f61) (t := 8) (u := 9) rfl _ _ _) rfl ⟨Ext.after hx1, .inl ⟨by rw [HG.out]; decide, by rw [HG.out]⟩⟩
end Go.Proofs.Ytiklblbjnblkfaa
