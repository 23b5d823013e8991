/- Can, as it is called from outside. -/
import Derived.Test.YtiklblbjnblkfaaWW
set_option linter.unusedSimpArgs false
set_option linter.unusedVariables false
namespace Go.Proofs.Ytiklblbjnblkfaa
open Go Go.RowKit Go.Shelf

def canErr (D : SeaD) (rs : List Rep) (wrong hour : Int) : Int := if askErr D rs wrong hour ≠ 0 then askErr D rs wrong hour else if (canF D rs wrong hour.toNat).length = 0 then 12 else 0
def canList (D : SeaD) (rs : List Rep) (wrong hour : Int) : List Nat := if askErr D rs wrong hour ≠ 0 then [] else canF D rs wrong hour.toNat
theorem hours_nat {D : SeaD} (h : seaB D = true) : D.hours = (D.hours.toNat : Int) := by
  unfold seaB at h
  simp only [Bool.and_eq_true] at h
  have := inB_spec h.1.1.2
  omega

set_option maxRecDepth 100000 in
set_option maxHeartbeats 1000000 in
theorem Can_any (D : SeaD) (lv dv rv : Value) (rs : List Rep) (wrong hour : Int) (w : World) (hl : IntsAt w lv D.land) (hd : StepsAt w dv D.drift) (hr : RepsAt w rv rs) :
    Cal 24 #[seaVal D lv dv, rv, .int .i64 wrong, .int .i64 hour] w fun e w' => ∃ v, e = .returned (.tuple #[v, .int .i64 (canErr D rs wrong hour)]) ∧ Ext w w' ∧ Hid (Row w' 3 1 v (canList D rs wrong hour).length (natVals (canList D rs wrong hour))) := by
  unfold seaVal
  gi_enter Try.func24, Try.ntmps24
  have hx := (Ext.refl w).alloc (.cells #[.int .i64 D.wide, .int .i64 D.high, lv, .int .i64 D.hours, dv, .int .i64 D.speed] 25)
  have HN := hid (newAsked_any D lv dv rv rs wrong hour _ (hl.mono hx) (hd.mono hx) (hr.mono hx))
  rw [seaVal] at HN
  clear hl hd hr hx
  by_cases h0 : askErr D rs wrong hour = 0
  rotate_left
  · have HE : Hid (canErr D rs wrong hour = askErr D rs wrong hour) := if_pos h0
    have HL : Hid (canList D rs wrong hour = []) := if_pos h0
    have HA : Hid (∀ e w', NewAsked D rs wrong hour e w' → e = .returned (.tuple #[.pointer none, .int .i64 (askErr D rs wrong hour)])) := fun e w' h => by
      rcases h with h | h
      · exact h.2
      · exact absurd h.1 h0
    have hne : (askErr D rs wrong hour != 0) = true := by simpa using h0
    clear h0
    generalize askErr D rs wrong hour = ae at *
    gi_wp2_with (gi_at_call 61; ((with_reducible refine HN.out.mono ?_); rintro e w1 ⟨hx1, hN⟩; have he := HA.out _ _ hN; subst he; clear hN HN))
    exact bodyPost_ret (v := .tuple #[.slice none 0 0, .int .i64 ae]) (results_tmp2 (fn := Try.f24) (t := 8) (u := 9) rfl _ _ _) rfl ⟨_, by rw [HE.out], Ext.after hx1, by rw [HL.out]; exact Row.nil _ _ _⟩
  · have HA : Hid (∀ e w', NewAsked D rs wrong hour e w' → seaB D = true ∧ repsB D.hours (D.wide * D.high) rs = true ∧ inB hour 0 (D.hours - 1) = true ∧ ∃ b S, e = .returned (.tuple #[.pointer (some ⟨b, 0, none⟩), .int .i64 0]) ∧ Hid (SeaFull w' b S D rs)) := fun e w' h => by
      rcases h with h | h
      · exact absurd h0 h.1
      · exact ⟨h.2.1, h.2.2.1, h.2.2.2.2.1, h.2.2.2.2.2⟩
    have HL : Hid (canList D rs wrong hour = canF D rs wrong hour.toNat) := if_neg (fun h => h h0)
    have HE : Hid (canErr D rs wrong hour = if (canF D rs wrong hour.toNat).length = 0 then 12 else 0) := if_neg (fun h => h h0)
    clear h0
    cases hc : decide ((canF D rs wrong hour.toNat).length = 0) with
    | true =>
      have hn0 : (((canF D rs wrong hour.toNat).length : Int) == 0) = true := by simpa using hc
      have HC := hid hc
      clear hc
      gi_wp2_with (first | (gi_at_call 61; ((with_reducible refine HN.out.mono ?_); rintro e w1 ⟨hx1, hN⟩; obtain ⟨hb, hrb, hh, b, S, rfl, hF⟩ := HA.out _ _ hN; have HCA := hid (can_any b D.hours.toNat hour.toNat D S rs wrong w1 hF.out hb (hours_nat hb) (fun r hr => ((reps_ok hb hrb).2 r hr).1) (reps_ok hb hrb).1 (by have h1 := inB_spec hh; have h2 := hours_nat hb; omega)); rw [show ((hour.toNat : Nat) : Int) = hour by have h1 := inB_spec hh; omega] at HCA; clear hN HN HA)) | (gi_at_call 62; ((with_reducible refine HCA.out.mono ?_); rintro e w2 ⟨v, rfl, hx2, hrow, _⟩; obtain ⟨a, cap, rfl, _⟩ := hrow.out.shape)))
      exact bodyPost_ret (v := .tuple #[.slice none 0 0, .int .i64 12]) (results_tmp2 (fn := Try.f24) (t := 8) (u := 9) rfl _ _ _) rfl ⟨_, by rw [HE.out, if_pos (of_decide_eq_true HC.out)], (Ext.after hx1).trans hx2, by rw [HL.out, List.eq_nil_of_length_eq_zero (of_decide_eq_true HC.out)]; exact Row.nil _ _ _⟩
    | false =>
      have hn0 : (((canF D rs wrong hour.toNat).length : Int) == 0) = false := by simpa using hc
      have HC := hid hc
      clear hc
      gi_wp2_with (first | (gi_at_call 61; ((with_reducible refine HN.out.mono ?_); rintro e w1 ⟨hx1, hN⟩; obtain ⟨hb, hrb, hh, b, S, rfl, hF⟩ := HA.out _ _ hN; have HCA := hid (can_any b D.hours.toNat hour.toNat D S rs wrong w1 hF.out hb (hours_nat hb) (fun r hr => ((reps_ok hb hrb).2 r hr).1) (reps_ok hb hrb).1 (by have h1 := inB_spec hh; have h2 := hours_nat hb; omega)); rw [show ((hour.toNat : Nat) : Int) = hour by have h1 := inB_spec hh; omega] at HCA; clear hN HN HA)) | (gi_at_call 62; ((with_reducible refine HCA.out.mono ?_); rintro e w2 ⟨v, rfl, hx2, hrow, _⟩; obtain ⟨a, cap, rfl, _⟩ := hrow.out.shape)))
      exact bodyPost_ret (v := .tuple #[.slice a (canF D rs wrong hour.toNat).length cap, .int .i64 0]) (results_tmp2 (fn := Try.f24) (t := 8) (u := 9) rfl _ _ _) rfl ⟨_, by rw [HE.out, if_neg (of_decide_eq_false HC.out)], (Ext.after hx1).trans hx2, by rw [HL.out]; exact hrow.out⟩
end Go.Proofs.Ytiklblbjnblkfaa
