/- Least, as it is called from outside. -/
import Derived.Test.YtiklblbjnblkfaaXF
set_option linter.unusedSimpArgs false
set_option linter.unusedVariables false
namespace Go.Proofs.Ytiklblbjnblkfaa
open Go Go.RowKit Go.Shelf

def leastN (D : SeaD) (rs : List Rep) : Int := if leastErr D rs ≠ 0 then 0 else fewestF D rs
def leastTr (D : SeaD) (rs : List Rep) : List Nat := if leastErr D rs ≠ 0 then [] else (firstTo D rs (fewestF D rs) D.hours.toNat).1
theorem minL_bounds : ∀ (xs : List Int) (x : Int), (0 ≤ x ∧ x ≤ 1000) → (∀ y ∈ xs, 0 ≤ y ∧ y ≤ 1000) → 0 ≤ minL x xs ∧ minL x xs ≤ 1000
  | [], x, h, _ => h
  | y :: ys, x, h, hy => by
    show 0 ≤ minL (if y < x then y else x) ys ∧ minL (if y < x then y else x) ys ≤ 1000
    refine minL_bounds ys _ ?_ fun z hz => hy z (by simp [hz])
    have := hy y (by simp)
    split <;> assumption
theorem fewest_bounds (D : SeaD) {rs : List Rep} (h24 : rs.length ≤ 24) : -1000 ≤ fewestF D rs ∧ fewestF D rs ≤ 1000 := by
  have := minL_bounds ((List.range 80).map (fromF D rs 0)) 25 (by omega) fun y hy => by
    obtain ⟨c, _, rfl⟩ := List.mem_map.1 hy
    exact fromF_bounds D h24 0 c
  unfold fewestF rowMin
  omega

set_option maxRecDepth 100000 in
set_option maxHeartbeats 1000000 in
theorem Least_any (D : SeaD) (lv dv rv : Value) (rs : List Rep) (w : World) (hl : IntsAt w lv D.land) (hd : StepsAt w dv D.drift) (hr : RepsAt w rv rs) :
    Cal 20 #[seaVal D lv dv, rv] w fun e w' => ∃ v, e = .returned (.tuple #[.int .i64 (leastN D rs), v, .int .i64 (leastErr D rs)]) ∧ Ext w w' ∧ Hid (Row w' 3 1 v (leastTr D rs).length (natVals (leastTr D rs))) := by
  unfold seaVal
  gi_enter Try.func20, Try.ntmps20
  have hx := (Ext.refl w).alloc (.cells #[.int .i64 D.wide, .int .i64 D.high, lv, .int .i64 D.hours, dv, .int .i64 D.speed] 25)
  cases hb : seaB D with
  | false =>
    have HN := hid (newSea_bad D lv dv rv _ (hl.mono hx) (hd.mono hx) hb)
    rw [seaVal] at HN
    have HG : Hid (leastErr D rs = 10) := if_pos hb
    have HL : Hid (leastTr D rs = [] ∧ leastN D rs = 0) := ⟨if_pos (by rw [HG.out]; decide), if_pos (by rw [HG.out]; decide)⟩
    clear hl hd hr hx hb
    gi_wp2_with (gi_at_call 47; ((with_reducible refine HN.out.mono ?_); rintro e w1 ⟨rfl, hx1⟩))
    exact bodyPost_ret (v := .tuple #[.int .i64 0, .slice none 0 0, .int .i64 10]) (results_tmp3 (fn := Try.f20) (t := 4) (u := 5) (v := 6) rfl _ _ _) rfl ⟨_, by rw [HG.out, HL.out.2], Ext.after hx1, by rw [HL.out.1]; exact Row.nil _ _ _⟩
  | true =>
    have HN := hid (newSea_any D lv dv rv rs _ (hl.mono hx) (hd.mono hx) (hr.mono hx) hb)
    rw [seaVal] at HN
    have HB := hid hb
    have HR := hid hr
    clear hl hd hr hx hb
    have hlen : rs.length ≤ 1000000000000000 := by obtain ⟨_, _, _, h, _⟩ := HR.out; exact h
    obtain ⟨ra, rcap, hrv, _, hrc⟩ := HR.out
    subst hrv
    have HRC := hid hrc
    clear hrc
    have HHB : Hid (0 < D.hours.toNat ∧ D.hours.toNat ≤ 12) := by
      have h1 := HB.out
      unfold seaB at h1
      simp only [Bool.and_eq_true] at h1
      have := inB_spec h1.1.1.2
      exact ⟨by omega, by omega⟩
    cases hc : decide (fewestF D rs = 25) with
    | true =>
      have hf1 : (fewestF D rs == 25) = true := by simpa using hc
      have HFC := hid (of_decide_eq_true hc)
      clear hc
      gi_wp2_with (first | (gi_at_call 47; ((with_reducible refine HN.out.mono ?_); rintro e w1 ⟨hx1, hN⟩; clear HN; rcases hN.split with ⟨hrb, rfl⟩ | ⟨hrb, b, S, rfl, HF⟩; rotate_left; have HRO := hid (reps_ok HB.out hrb); have HRB := hid hrb; clear hrb; have HCH := hid (chart_any b D.hours.toNat D S rs w1 HF.out HB.out (hours_nat HB.out) (fun r hr => (HRO.out.2 r hr).1) HRO.out.1))) | (gi_at_call 56; ((with_reducible refine HCH.out.mono ?_); rintro e w2 ⟨g1, g2, g3, rfl, hx2, hrows⟩; clear HCH; unfold chartVal; have HFE := hid (fewest_any b g1 g2 g3 D.hours.toNat (fromF D rs) (w2.alloc (.cells #[.pointer (some ⟨b, 0, none⟩), .slice (some ⟨g1, 0, none⟩) D.hours.toNat D.hours.toNat, .slice (some ⟨g2, 0, none⟩) D.hours.toNat D.hours.toNat, .slice (some ⟨g3, 0, none⟩) D.hours.toNat D.hours.toNat] 90)) (hrows.out.2.2.mono ((Ext.refl w2).alloc _)) HHB.out.1 (Nat.le_trans HHB.out.2 (by decide))); unfold chartVal at HFE; rw [show rowMin (fromF D rs 0) = fewestF D rs from rfl] at HFE)) | (gi_at_call 57; ((with_reducible refine HFE.out.mono ?_); rintro e w3 ⟨rfl, hx3⟩; clear HFE)))
      · have HG : Hid (leastErr D rs = 4) := (if_neg (by rw [HB.out]; simp)).trans ((if_neg (by rw [HRB.out]; simp)).trans (if_pos HFC.out))
        have HL : Hid (leastTr D rs = [] ∧ leastN D rs = 0) := ⟨if_pos (by rw [HG.out]; decide), if_pos (by rw [HG.out]; decide)⟩
        exact bodyPost_ret (v := .tuple #[.int .i64 0, .slice none 0 0, .int .i64 4]) (results_tmp3 (fn := Try.f20) (t := 4) (u := 5) (v := 6) rfl _ _ _) rfl ⟨_, by rw [HG.out, HL.out.2], (Ext.after hx1).trans (hx2.trans (Ext.after hx3)), by rw [HL.out.1]; exact Row.nil _ _ _⟩
      · have HG : Hid (leastErr D rs = 11) := (if_neg (by rw [HB.out]; simp)).trans (if_pos hrb)
        have HL : Hid (leastTr D rs = [] ∧ leastN D rs = 0) := ⟨if_pos (by rw [HG.out]; decide), if_pos (by rw [HG.out]; decide)⟩
        exact bodyPost_ret (v := .tuple #[.int .i64 0, .slice none 0 0, .int .i64 11]) (results_tmp3 (fn := Try.f20) (t := 4) (u := 5) (v := 6) rfl _ _ _) rfl ⟨_, by rw [HG.out, HL.out.2], Ext.after hx1, by rw [HL.out.1]; exact Row.nil _ _ _⟩
    | false =>
      have hf1 : (fewestF D rs == 25) = false := by simpa using hc
      have HFC := hid (of_decide_eq_false hc)
      clear hc
      gi_wp2_with (first | (gi_at_call 47; ((with_reducible refine HN.out.mono ?_); rintro e w1 ⟨hx1, hN⟩; clear HN; rcases hN.split with ⟨hrb, rfl⟩ | ⟨hrb, b, S, rfl, HF⟩; rotate_left; have HRO := hid (reps_ok HB.out hrb); have HRB := hid hrb; clear hrb; have HCH := hid (chart_any b D.hours.toNat D S rs w1 HF.out HB.out (hours_nat HB.out) (fun r hr => (HRO.out.2 r hr).1) HRO.out.1))) | (gi_at_call 56; ((with_reducible refine HCH.out.mono ?_); rintro e w2 ⟨g1, g2, g3, rfl, hx2, hrows⟩; clear HCH; unfold chartVal; have HFE := hid (fewest_any b g1 g2 g3 D.hours.toNat (fromF D rs) (w2.alloc (.cells #[.pointer (some ⟨b, 0, none⟩), .slice (some ⟨g1, 0, none⟩) D.hours.toNat D.hours.toNat, .slice (some ⟨g2, 0, none⟩) D.hours.toNat D.hours.toNat, .slice (some ⟨g3, 0, none⟩) D.hours.toNat D.hours.toNat] 90)) (hrows.out.2.2.mono ((Ext.refl w2).alloc _)) HHB.out.1 (Nat.le_trans HHB.out.2 (by decide))); unfold chartVal at HFE; rw [show rowMin (fromF D rs 0) = fewestF D rs from rfl] at HFE)) | (gi_at_call 57; ((with_reducible refine HFE.out.mono ?_); rintro e w3 ⟨rfl, hx3⟩; clear HFE; have HCB := cell_of (Ext.new hx3); have HFT := hid (first_any b g1 g2 g3 D.hours.toNat D S rs (fewestF D rs) w3 (HF.out.mono (hx2.trans (Ext.after hx3))) HB.out (hours_nat HB.out) HRO.out.1 (fewest_bounds D HRO.out.1) (hrows.out.1.mono (Ext.after hx3)) (hrows.out.2.1.mono (Ext.after hx3)) (hrows.out.2.2.mono (Ext.after hx3))); unfold chartVal at HFT)) | (gi_at_call 58; ((with_reducible refine HFT.out.mono ?_); rintro e w4 ⟨v4, rfl, hx4, hr4⟩)))
      rotate_left
      · have HG : Hid (leastErr D rs = 11) := (if_neg (by rw [HB.out]; simp)).trans (if_pos hrb)
        have HL : Hid (leastTr D rs = [] ∧ leastN D rs = 0) := ⟨if_pos (by rw [HG.out]; decide), if_pos (by rw [HG.out]; decide)⟩
        exact bodyPost_ret (v := .tuple #[.int .i64 0, .slice none 0 0, .int .i64 11]) (results_tmp3 (fn := Try.f20) (t := 4) (u := 5) (v := 6) rfl _ _ _) rfl ⟨_, by rw [HG.out, HL.out.2], Ext.after hx1, by rw [HL.out.1]; exact Row.nil _ _ _⟩
      have HG : Hid (leastErr D rs = 0) := (if_neg (by rw [HB.out]; simp)).trans ((if_neg (by rw [HRB.out]; simp)).trans (if_neg HFC.out))
      have HL : Hid (leastTr D rs = (firstTo D rs (fewestF D rs) D.hours.toNat).1 ∧ leastN D rs = fewestF D rs) := ⟨if_neg (by rw [HG.out]; decide), if_neg (by rw [HG.out]; decide)⟩
      have HX := hid ((Ext.after hx1).trans (hx2.trans (Ext.after hx3)))
      exact bodyPost_ret (v := .tuple #[.int .i64 (fewestF D rs), v4, .int .i64 0]) (results_tmp3 (fn := Try.f20) (t := 4) (u := 5) (v := 6) rfl _ _ _) rfl ⟨_, by rw [HG.out, HL.out.2], HX.out.trans hx4, by rw [HL.out.1]; exact hr4.out⟩
end Go.Proofs.Ytiklblbjnblkfaa
