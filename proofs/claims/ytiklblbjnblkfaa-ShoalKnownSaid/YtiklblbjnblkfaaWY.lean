/- Liars, as it is called from outside. -/
import Derived.Test.YtiklblbjnblkfaaWX
set_option linter.unusedSimpArgs false
set_option linter.unusedVariables false
namespace Go.Proofs.Ytiklblbjnblkfaa
open Go Go.RowKit Go.Shelf

def fewestF (D : SeaD) (rs : List Rep) : Int := rowMin (fromF D rs 0)
/-- Whether a report can be true of a best track. -/
def trueF (D : SeaD) (rs : List Rep) (r : Rep) : Bool := (opens D.land (D.wide * D.high).toNat).any (cbtP (seaOf D) (ownF D rs) (upF D rs) (fromF D rs) r r.hour.toNat (fewestF D rs))
def liarIs (D : SeaD) (rs : List Rep) (i : Nat) : Bool := !trueF D rs (rs.getD i ⟨0, 0, 0, false⟩)
def liarsTo (D : SeaD) (rs : List Rep) (k : Nat) : List Nat := (List.range k).filter (liarIs D rs)
theorem liarsTo_succ (D : SeaD) (rs : List Rep) (k : Nat) : liarsTo D rs (k + 1) = liarsTo D rs k ++ (if liarIs D rs k then [k] else []) := by
  unfold liarsTo
  rw [List.range_succ, List.filter_append]
  congr 1
  cases h : liarIs D rs k <;> simp [h]
def leastErr (D : SeaD) (rs : List Rep) : Int := if seaB D = false then 10 else if repsB D.hours (D.wide * D.high) rs = false then 11 else if fewestF D rs = 25 then 4 else 0
def liarsList (D : SeaD) (rs : List Rep) : List Nat := if leastErr D rs ≠ 0 then [] else liarsTo D rs rs.length
theorem cbtP_of {S : SeaV} {D : SeaD} (h : S.wide = D.wide) (own up from_ : Nat → Nat → Int) (r : Rep) (k : Nat) (n : Int) : cbtP S own up from_ r k n = cbtP (seaOf D) own up from_ r k n := by
  funext c; unfold cbtP; rw [col_of h, row_of h, col_of h, row_of h]

set_option maxRecDepth 100000 in
set_option maxHeartbeats 1000000 in
theorem Liars_any (D : SeaD) (lv dv rv : Value) (rs : List Rep) (w : World) (hl : IntsAt w lv D.land) (hd : StepsAt w dv D.drift) (hr : RepsAt w rv rs) :
    Cal 26 #[seaVal D lv dv, rv] w fun e w' => ∃ v, e = .returned (.tuple #[v, .int .i64 (leastErr D rs)]) ∧ Ext w w' ∧ Hid (Row w' 3 1 v (liarsList D rs).length (natVals (liarsList D rs))) := by
  unfold seaVal
  gi_enter Try.func26, Try.ntmps26
  have hx := (Ext.refl w).alloc (.cells #[.int .i64 D.wide, .int .i64 D.high, lv, .int .i64 D.hours, dv, .int .i64 D.speed] 25)
  cases hb : seaB D with
  | false =>
    have HN := hid (newSea_bad D lv dv rv _ (hl.mono hx) (hd.mono hx) hb)
    rw [seaVal] at HN
    have HG : Hid (leastErr D rs = 10) := if_pos hb
    have HL : Hid (liarsList D rs = []) := if_pos (by rw [HG.out]; decide)
    clear hl hd hr hx hb
    gi_wp2_with (gi_at_call 47; ((with_reducible refine HN.out.mono ?_); rintro e w1 ⟨rfl, hx1⟩))
    exact bodyPost_ret (v := .tuple #[.slice none 0 0, .int .i64 10]) (results_tmp2 (fn := Try.f26) (t := 4) (u := 5) rfl _ _ _) rfl ⟨_, by rw [HG.out], Ext.after hx1, by rw [HL.out]; exact Row.nil _ _ _⟩
  | true =>
    have HN := hid (newSea_any D lv dv rv rs _ (hl.mono hx) (hd.mono hx) (hr.mono hx) hb)
    rw [seaVal] at HN
    have HB := hid hb
    have HR := hid hr
    clear hl hd hr hx hb
    have hlen : rs.length ≤ 1000000000000000 := by obtain ⟨_, _, _, h, _⟩ := HR.out; exact h
    obtain ⟨ra, rcap, hrv, _, hrc⟩ := HR.out
    subst hrv
    have HRC := hid hrc
    clear hrc
    have HHB : Hid (0 < D.hours.toNat ∧ D.hours.toNat ≤ 12) := by
      have h1 := HB.out
      unfold seaB at h1
      simp only [Bool.and_eq_true] at h1
      have := inB_spec h1.1.1.2
      exact ⟨by omega, by omega⟩
    cases hc : decide (fewestF D rs = 25) with
    | true =>
      have hf1 : (fewestF D rs == 25) = true := by simpa using hc
      have HFC := hid (of_decide_eq_true hc)
      clear hc
      gi_wp2_with (first | (gi_at_call 47; ((with_reducible refine HN.out.mono ?_); rintro e w1 ⟨hx1, hN⟩; clear HN; rcases hN.split with ⟨hrb, rfl⟩ | ⟨hrb, b, S, rfl, HF⟩; rotate_left; have HRO := hid (reps_ok HB.out hrb); have HRB := hid hrb; clear hrb; have HCH := hid (chart_any b D.hours.toNat D S rs w1 HF.out HB.out (hours_nat HB.out) (fun r hr => (HRO.out.2 r hr).1) HRO.out.1))) | (gi_at_call 56; ((with_reducible refine HCH.out.mono ?_); rintro e w2 ⟨g1, g2, g3, rfl, hx2, hrows⟩; clear HCH; unfold chartVal; have HFE := hid (fewest_any b g1 g2 g3 D.hours.toNat (fromF D rs) (w2.alloc (.cells #[.pointer (some ⟨b, 0, none⟩), .slice (some ⟨g1, 0, none⟩) D.hours.toNat D.hours.toNat, .slice (some ⟨g2, 0, none⟩) D.hours.toNat D.hours.toNat, .slice (some ⟨g3, 0, none⟩) D.hours.toNat D.hours.toNat] 90)) (hrows.out.2.2.mono ((Ext.refl w2).alloc _)) HHB.out.1 (Nat.le_trans HHB.out.2 (by decide))); unfold chartVal at HFE; rw [show rowMin (fromF D rs 0) = fewestF D rs from rfl] at HFE)) | (gi_at_call 57; ((with_reducible refine HFE.out.mono ?_); rintro e w3 ⟨rfl, hx3⟩; clear HFE)))
      · have HG : Hid (leastErr D rs = 4) := (if_neg (by rw [HB.out]; simp)).trans ((if_neg (by rw [HRB.out]; simp)).trans (if_pos HFC.out))
        have HL : Hid (liarsList D rs = []) := if_pos (by rw [HG.out]; decide)
        exact bodyPost_ret (v := .tuple #[.slice none 0 0, .int .i64 4]) (results_tmp2 (fn := Try.f26) (t := 4) (u := 5) rfl _ _ _) rfl ⟨_, by rw [HG.out], (Ext.after hx1).trans (hx2.trans (Ext.after hx3)), by rw [HL.out]; exact Row.nil _ _ _⟩
      · have HG : Hid (leastErr D rs = 11) := (if_neg (by rw [HB.out]; simp)).trans (if_pos hrb)
        have HL : Hid (liarsList D rs = []) := if_pos (by rw [HG.out]; decide)
        exact bodyPost_ret (v := .tuple #[.slice none 0 0, .int .i64 11]) (results_tmp2 (fn := Try.f26) (t := 4) (u := 5) rfl _ _ _) rfl ⟨_, by rw [HG.out], Ext.after hx1, by rw [HL.out]; exact Row.nil _ _ _⟩
    | false =>
      have hf1 : (fewestF D rs == 25) = false := by simpa using hc
      have HFC := hid (of_decide_eq_false hc)
      clear hc
      gi_wp2_with (first | (gi_at_call 47; ((with_reducible refine HN.out.mono ?_); rintro e w1 ⟨hx1, hN⟩; clear HN; rcases hN.split with ⟨hrb, rfl⟩ | ⟨hrb, b, S, rfl, HF⟩; rotate_left; have HRO := hid (reps_ok HB.out hrb); have HRB := hid hrb; clear hrb; have HCH := hid (chart_any b D.hours.toNat D S rs w1 HF.out HB.out (hours_nat HB.out) (fun r hr => (HRO.out.2 r hr).1) HRO.out.1))) | (gi_at_call 56; ((with_reducible refine HCH.out.mono ?_); rintro e w2 ⟨g1, g2, g3, rfl, hx2, hrows⟩; clear HCH; unfold chartVal; have HFE := hid (fewest_any b g1 g2 g3 D.hours.toNat (fromF D rs) (w2.alloc (.cells #[.pointer (some ⟨b, 0, none⟩), .slice (some ⟨g1, 0, none⟩) D.hours.toNat D.hours.toNat, .slice (some ⟨g2, 0, none⟩) D.hours.toNat D.hours.toNat, .slice (some ⟨g3, 0, none⟩) D.hours.toNat D.hours.toNat] 90)) (hrows.out.2.2.mono ((Ext.refl w2).alloc _)) HHB.out.1 (Nat.le_trans HHB.out.2 (by decide))); unfold chartVal at HFE; rw [show rowMin (fromF D rs 0) = fewestF D rs from rfl] at HFE)) | (gi_at_call 57; ((with_reducible refine HFE.out.mono ?_); rintro e w3 ⟨rfl, hx3⟩; clear HFE)))
      rotate_left
      · have HG : Hid (leastErr D rs = 11) := (if_neg (by rw [HB.out]; simp)).trans (if_pos hrb)
        have HL : Hid (liarsList D rs = []) := if_pos (by rw [HG.out]; decide)
        exact bodyPost_ret (v := .tuple #[.slice none 0 0, .int .i64 11]) (results_tmp2 (fn := Try.f26) (t := 4) (u := 5) rfl _ _ _) rfl ⟨_, by rw [HG.out], Ext.after hx1, by rw [HL.out]; exact Row.nil _ _ _⟩
      have HG : Hid (leastErr D rs = 0) := (if_neg (by rw [HB.out]; simp)).trans ((if_neg (by rw [HRB.out]; simp)).trans (if_neg HFC.out))
      have HL : Hid (liarsList D rs = liarsTo D rs rs.length) := if_neg (by rw [HG.out]; decide)
      have HX := hid ((Ext.after hx1).trans (hx2.trans (Ext.after hx3)))
      have HXF := hid (hx2.trans (Ext.after hx3))
      have HRW := hid (And.intro (hrows.out.1.mono (Ext.after hx3)) (And.intro (hrows.out.2.1.mono (Ext.after hx3)) (hrows.out.2.2.mono (Ext.after hx3))))
      have HCB := hid (Ext.new hx3)
      clear hx1 hx2 hx3 hrows hN HR
      gi_loopw [10, 30] (fun v i wr => ∃ k : Nat, k ≤ rs.length ∧ i = .int .i64 k ∧ Hid (Ext w3 wr ∧ Row wr 3 1 v (liarsTo D rs k).length (natVals (liarsTo D rs k)) ∧ ∀ g, v.ownBlock = some g → w3.heap.size ≤ g)) (fun _ i _ => rs.length - (intOf i).toNat)
      case atStart => exact ⟨0, Nat.zero_le _, rfl, Ext.refl _, Row.nil _ _ _, fun g hg => by simp [Value.ownBlock] at hg⟩
      case round =>
        obtain ⟨k, hk, rfl, hI⟩ := hrel
        by_cases hlt : k < rs.length
        · obtain ⟨rb, off, rfl, hrl, hc0, hc1, hc2, hc3⟩ := HRC.out k hlt
          have hxw := HX.out.trans hI.out.1
          rw [← hxw.cell (p := ⟨rb, _, none⟩) hrl] at hc0 hc1 hc2 hc3
          have hro := HRO.out.2 rs[k] (List.getElem_mem _)
          have hli : liarIs D rs k = !trueF D rs rs[k] := by unfold liarIs; rw [getD_of hlt]
          have hrb52 := rs[k]
          generalize rs[k] = p at *
          obtain ⟨ph, pc, pf, pt⟩ := p
          simp only at hc0 hc1 hc2 hc3 hro hli
          obtain ⟨hn, rfl⟩ : ∃ hn : Nat, ph = hn := ⟨ph.toNat, by omega⟩
          have hxa : Ext wr (wr.alloc (.cells #[.int .i64 hn, .int .i64 pc, .int .i64 pf, .bool pt] 52)) := (Ext.refl wr).alloc _
          have hcb := cell_of ((hI.out.1.trans hxa).block HCB.out)
          have HCT := hid (canBeTrue_any b g1 g2 g3 D.hours.toNat D S rs (ownF D rs) (upF D rs) (fromF D rs) hn pc pf pt (fewestF D rs) (wr.alloc (.cells #[.int .i64 hn, .int .i64 pc, .int .i64 pf, .bool pt] 52)) (HF.out.mono (HXF.out.trans (hI.out.1.trans hxa)))
            (HRW.out.1.mono (hI.out.1.trans hxa)) (HRW.out.2.1.mono (hI.out.1.trans hxa)) (HRW.out.2.2.mono (hI.out.1.trans hxa)) (by omega) (by have := HHB.out.2; omega) hro.1.1 hro.1.2 (fun h c => ⟨ownF_bounds D HRO.out.1 h c, upF_bounds D HRO.out.1 h c, fromF_bounds D HRO.out.1 h c⟩))
          unfold chartVal at HCT
          rw [cbtP_of HF.out.wide, show (opens D.land (D.wide * D.high).toNat).any (cbtP (seaOf D) (ownF D rs) (upF D rs) (fromF D rs) ⟨hn, pc, pf, pt⟩ hn (fewestF D rs)) = trueF D rs ⟨hn, pc, pf, pt⟩ from rfl] at HCT
          have hll : (liarsTo D rs k).length ≤ k := Nat.le_trans (List.length_filter_le _ _) (by simp)
          have h24 := HRO.out.1
          have HTO := hid (liarsTo_succ D rs k)
          rw [hli] at HTO
          have HI := hid hI.out
          clear hli hro hI hxw hrb52
          generalize trueF D rs ⟨hn, pc, pf, pt⟩ = bb at *
          cases bb with
          | true =>
            gi_wp2_with (gi_at_call 64; ((with_reducible refine HCT.out.mono ?_); rintro e w5 ⟨rfl, hx5⟩))
            have hx := Ext.trans HI.out.1 (Ext.after hx5)
            go_roundw
            case rel => exact ⟨k + 1, by omega, by go_num, hx, by rw [HTO.out]; simpa using HI.out.2.1.mono (Ext.after hx5), HI.out.2.2⟩
            case measure => simp [intOf]; omega
          | false =>
            obtain ⟨i0, hi0, hz0, hz1, hz2⟩ := info_parts info3
            have HZ := hid (And.intro hi0 (And.intro hz0 (And.intro hz1 hz2)))
            clear hi0 hz0 hz1 hz2
            have hmax : (liarsTo D rs k).length + 1 ≤ 1000000000 := by omega
            gi_wp2_with (first | (gi_at_call 64; ((with_reducible refine HCT.out.mono ?_); rintro e w5 ⟨rfl, hx5⟩; have HRWW := hid ((HI.out.2.1.mono (Ext.after hx5)).mono ((Ext.refl w5).alloc (.cells #[.int .i64 k] 3))); have HNW : Hid (∀ j u, [Value.int .i64 k][j]? = some u → (w5.alloc (.cells #[.int .i64 k] 3)).cell? ((⟨w5.heap.size, 0, none⟩ : Addr).add j) = some u) := (fun j u hj => by rw [Addr.add_mid, Nat.zero_add, new_cell _ _ rfl]; simpa using hj))) | (refine wpIn_append_row (fun _ => trivial) rfl (.tmp 40) (.tmp 42) rfl Try.underlying22 HZ.out.1 HZ.out.2.1 HZ.out.2.2.1 HZ.out.2.2.2 (by simp [Value.cells]) (by omega) (v := u10) rfl HRWW.out ⟨w5.heap.size, 0, none⟩ 1 rfl [.int .i64 k] rfl HNW.out (fun u hu => by simp at hu; subst hu; rfl) hmax (by omega) ?_; intro v' w' hrow' hgr' how'))
            have hxb : Ext wr (w5.alloc (.cells #[.int .i64 k] 3)) := Ext.alloc (Ext.after hx5) _
            have hbel : Ext w3 w' := Below.trans (Ext.trans HI.out.1 hxb) ⟨hgr'.os, hgr'.tape, hgr'.output, hgr'.size, fun j hj => hgr'.block j (by have := (Ext.trans HI.out.1 hxb).size; omega) (fun e => by have := HI.out.2.2 j e.symm; omega)⟩
            have hsz := (Ext.trans HI.out.1 hxb).size
            go_roundw
            case rel =>
              refine ⟨k + 1, by omega, by go_num, hbel, ?_, fun g hg => ?_⟩
              · rw [HTO.out]
                show Row w' 3 1 v' (liarsTo D rs k ++ [k]).length (natVals (liarsTo D rs k ++ [k]))
                rw [natVals_append, List.length_append]
                exact hrow'
              · rcases how' with e | e
                · exact HI.out.2.2 g (by rw [← e]; exact hg)
                · rw [hg] at e; cases e; exact hsz
            case measure => simp [intOf]; omega
        · obtain rfl : k = rs.length := by omega
          have HI := hid hI.out
          clear hI
          gi_wp2
          exact bodyPost_ret (v := .tuple #[u10, .int .i64 0]) (results_tmp2 (fn := Try.f26) (t := 4) (u := 5) rfl _ _ _) rfl ⟨_, by rw [HG.out], HX.out.trans HI.out.1, by rw [HL.out]; exact HI.out.2.1⟩
end Go.Proofs.Ytiklblbjnblkfaa
