/- The reference: how many reports before an hour are false at least. -/
import Derived.Test.YtlgcnjcbmihefaaZI
import Derived.Test.YtlgcnjcbmihefaaXJ
import Derived.Test.YtlgcnjcbmihefaaXK
set_option linter.unusedSimpArgs false
set_option linter.unusedVariables false
namespace Go.Proofs.Ytlgcnjcbmihefaa
open Go Go.RowKit Go.Shelf

def foldA (D : SeaD) (rs : List Rep) (h c : Nat) (prev : Nat → Int) : Nat → Int
  | 0 => 1000
  | k + 1 => if prev k < 1000 ∧ stepB D h k c = true then min (foldA D rs h c prev k) (prev k + lieI D rs h k) else foldA D rs h c prev k
def aheR (D : SeaD) (rs : List Rep) : Nat → Nat → Int
  | 0, c => if waterB D c then 0 else 1000
  | h + 1, c => if waterB D c then foldA D rs h c (aheR D rs h) (D.wide * D.high).toNat else 1000
theorem foldA_bounds {D : SeaD} {rs : List Rep} (h24 : rs.length ≤ 24) {h c : Nat} {prev : Nat → Int} (hp : ∀ d, 0 ≤ prev d ∧ prev d ≤ 1000) : ∀ k, 0 ≤ foldA D rs h c prev k ∧ foldA D rs h c prev k ≤ 1000
  | 0 => by unfold foldA; omega
  | k + 1 => by
    have ih := foldA_bounds h24 (D := D) (h := h) (c := c) hp k
    have hl := lieI_bounds D h24 h k
    have := hp k
    unfold foldA
    split <;> omega
theorem aheR_bounds {D : SeaD} {rs : List Rep} (h24 : rs.length ≤ 24) : ∀ h c, 0 ≤ aheR D rs h c ∧ aheR D rs h c ≤ 1000
  | 0, c => by unfold aheR; split <;> omega
  | h + 1, c => by
    have := foldA_bounds h24 (D := D) (rs := rs) (h := h) (c := c) (prev := aheR D rs h) (aheR_bounds (D := D) h24 h) (D.wide * D.high).toNat
    unfold aheR; split <;> omega

set_option maxRecDepth 100000 in
set_option maxHeartbeats 16000000 in
theorem ahead_ref (D : SeaD) (lv dv rv : Value) (rs : List Rep) (w : World) (hsb : seaB D = true) (hrb : repsB D.hours (D.wide * D.high) rs = true) (hl : IntsAt w lv D.land) (hd : StepsAt w dv D.drift) (hr : RepsAt w rv rs) :
    Cal 62 #[seaVal D lv dv, rv] w fun e w' => ∃ g, e = .returned (.slice (some ⟨g, 0, none⟩) D.hours.toNat D.hours.toNat) ∧ Ext w w' ∧ Hid (GridAt w' g D.hours.toNat (fun i => (List.range (D.wide * D.high).toNat).map (aheR D rs i))) := by
  have hb1 : (w.alloc (.cells #[.int .i64 D.wide, .int .i64 D.high, lv, .int .i64 D.hours, dv, .int .i64 D.speed] 25)).heap[w.heap.size]? = some (.cells #[.int .i64 D.wide, .int .i64 D.high, lv, .int .i64 D.hours, dv, .int .i64 D.speed] 25 (0, 0)) := Ext.new (Ext.refl _)
  have hx : Ext w (w.alloc (.cells #[.int .i64 D.wide, .int .i64 D.high, lv, .int .i64 D.hours, dv, .int .i64 D.speed] 25)) := (Ext.refl w).alloc _
  have HL := hid (hl.mono hx)
  have HD := hid (hd.mono hx)
  have HR := hid (hr.mono hx)
  have hbd := sea_bounds hsb
  have hh := inB_spec hbd.2.2.1
  have hw := inB_spec hbd.1
  have hsp := inB_spec hbd.2.2.2.1
  have hmb := mul_bounds (inB_spec hbd.1) (inB_spec hbd.2.1)
  have hww : IntKind.i64.wrap (D.wide * D.high) = D.wide * D.high := by rw [IntKind.wrap_i64]; omega
  have hro := reps_ok hsb hrb
  have hst := steps_ok hsb
  have HST := hid hst.2
  have HDL := hid hst.1
  have h24 := hro.1
  have HRO := hid fun r (h : r ∈ rs) => (hro.2 r h).1
  have HBB := hid (aheR_bounds (D := D) h24)
  obtain ⟨H, hH⟩ : ∃ H : Nat, D.hours.toNat = H := ⟨_, rfl⟩
  obtain ⟨N, hN⟩ : ∃ N : Nat, (D.wide * D.high).toNat = N := ⟨_, rfl⟩
  have HB0 : Hid (∀ c, aheR D rs 0 c = if waterB D c then 0 else 1000) := fun c => rfl
  have HBS : Hid (∀ h c, aheR D rs (h + 1) c = if waterB D c then foldA D rs h c (aheR D rs h) N else 1000) := fun h c => by rw [← hN]; rfl
  rw [hH, hN]
  have hHI : D.hours = (H : Int) := by omega
  have HHI := hid hHI
  have hNI : D.wide * D.high = (N : Int) := by omega
  have HNI := hid hNI
  have hH12 : 1 ≤ H ∧ H ≤ 12 := by omega
  have hN80 : 1 ≤ N ∧ N ≤ 80 := by omega
  unfold seaVal
  clear hl hd hr hsb hrb hbd hro hst hHI hNI hH hN
  gi_enter Try.func62, Try.ntmps62
  have hmk := make_grid (w.alloc (.cells #[.int .i64 D.wide, .int .i64 D.high, lv, .int .i64 D.hours, dv, .int .i64 D.speed] 25)) D.hours H HHI.out (by omega)
  have hcb := cell_of hb1
  have hcbM := cell_of (Ext.block ((Ext.refl (w.alloc (.cells #[.int .i64 D.wide, .int .i64 D.high, lv, .int .i64 D.hours, dv, .int .i64 D.speed] 25))).alloc (.cells (madeCells #[.slice none 0 0] H) 22)) hb1)
  gi_wp2_with fail
  have HGM := hid (GridAt.made (w.alloc (.cells #[.int .i64 D.wide, .int .i64 D.high, lv, .int .i64 D.hours, dv, .int .i64 D.speed] 25)) H)
  have HXM : Hid (Ext (w.alloc (.cells #[.int .i64 D.wide, .int .i64 D.high, lv, .int .i64 D.hours, dv, .int .i64 D.speed] 25)) ((w.alloc (.cells #[.int .i64 D.wide, .int .i64 D.high, lv, .int .i64 D.hours, dv, .int .i64 D.speed] 25)).alloc (.cells (madeCells #[.slice none 0 0] H) 22))) := (Ext.refl (w.alloc (.cells #[.int .i64 D.wide, .int .i64 D.high, lv, .int .i64 D.hours, dv, .int .i64 D.speed] 25))).alloc _
  have hsz1 : (w.alloc (.cells #[.int .i64 D.wide, .int .i64 D.high, lv, .int .i64 D.hours, dv, .int .i64 D.speed] 25)).heap.size = w.heap.size + 1 := by simp
  rw [hsz1] at HGM
  have HSZ := hid hsz1
  clear hsz1
  generalize hw1 : w.alloc (.cells #[.int .i64 D.wide, .int .i64 D.high, lv, .int .i64 D.hours, dv, .int .i64 D.speed] 25) = w1 at *
  have HCB := hid fun (e : World) (hx : Ext w1 e) => cell_of (hx.block hb1)
  have HX := hid hx
  clear hb1 hx hw1
  gi_loopw [6] (fun i wr => ∃ h : Nat, h ≤ H ∧ i = .int .i64 h ∧ Hid (Ext w1 wr ∧ GridAt wr (w.heap.size + 1) H (fun i => if i < h then (List.range N).map (aheR D rs i) else []))) (fun i _ => H - (intOf i).toNat)
  case atStart => exact ⟨0, Nat.zero_le _, rfl, HXM.out, HGM.out.congr fun i hi => by rw [if_neg (by omega)]⟩
  case round =>
    obtain ⟨h, hhH', rfl, hJ⟩ := hrel
    have hcbo := HCB.out wr hJ.out.1
    by_cases hhH : h < H
    · have dh : decide ((h : Int) < D.hours) = true := by rw [decide_eq_true_eq]; have := HHI.out; omega
      have HJ := hid hJ.out
      have hh12 : h ≤ 12 := by omega
      clear hJ hcb hmk HGM HXM hcbM
      gi_wp2_with fail
      gi_loopw [7] (fun i wr => ∃ c : Nat, c ≤ N ∧ i = .int .i64 c ∧ Hid (Ext w1 wr ∧ GridAt wr (w.heap.size + 1) H (fun i => if i = h then (List.range c).map (aheR D rs h) else if i < h then (List.range N).map (aheR D rs i) else []))) (fun i _ => N - (intOf i).toNat)
      case atStart => exact ⟨0, Nat.zero_le _, rfl, HJ.out.1, HJ.out.2.congr fun i hi => by
                        by_cases e : i = h
                        · rw [if_pos e, if_neg (by omega)]; rfl
                        · rw [if_neg e]⟩
      case round =>
        obtain ⟨c, hc, rfl, hK⟩ := hrel
        have hcbr := HCB.out wr hK.out.1
        by_cases hlt : c < N
        · have dlt : decide ((c : Int) < D.wide * D.high) = true := by rw [decide_eq_true_eq]; have := HNI.out; omega
          have HK := hid hK.out
          have HWA := hid fun (e : World) (hx : Ext w1 e) => water_ref D lv dv (c : Int) e hmb (HL.out.mono hx)
          rw [seaVal] at HWA
          have HWR := hid (HWA.out wr HK.out.1)
          have HPL := hid fun (e : World) (a : Option Addr) (cc : Nat) (V : Int) (hi : IntsAt e (.slice a c cc) ((List.range c).map (aheR D rs h))) => plus_ref _ _ V e hi (by rw [List.length_map, List.length_range]; omega)
          have HGET : Hid (∀ e, Ext wr e → ∃ a cc, e.cell? ⟨w.heap.size + 1, h, none⟩ = some (.slice a c cc) ∧ IntsAt e (.slice a c cc) ((List.range c).map (aheR D rs h)) ∧ ∃ vs : List Value, h < vs.length ∧ e.heap[(w.heap.size + 1)]? = some (.cells vs.toArray 22 (0, 0))) := fun e he => by
            have hg := HK.out.2.mono he
            obtain ⟨a, cc, h1, h2, _⟩ := hg.get h hhH (by simp only [if_pos]; rw [List.length_map, List.length_range]; omega)
            simp only [if_pos] at h1 h2
            rw [show ((List.range c).map (aheR D rs h)).length = c by rw [List.length_map, List.length_range]] at h1 h2
            obtain ⟨vs, hv1, hv2, _⟩ := hg
            exact ⟨a, cc, h1, h2, vs, by omega, hv2⟩
          have HFIN : Hid (∀ (e u : World) (v : Value) , Ext wr e → Ext e u → Row u 3 1 v ((List.range c).map (aheR D rs h) ++ [aheR D rs h c]).length (intVals ((List.range c).map (aheR D rs h) ++ [aheR D rs h c])) → (∀ k, v.ownBlock = some k → e.heap.size ≤ k) → Ext w1 (u.setCell ⟨w.heap.size + 1, h, none⟩ v) ∧ GridAt (u.setCell ⟨w.heap.size + 1, h, none⟩ v) (w.heap.size + 1) H (fun i => if i = h then (List.range (c + 1)).map (aheR D rs h) else if i < h then (List.range N).map (aheR D rs i) else [])) := fun e u v h1 h2 h3 h4 => by
            have hg := HK.out.2.mono (h1.trans h2)
            have hsz : (w.heap.size + 1) < e.heap.size := by
              obtain ⟨vs, _, hv2, _⟩ := HK.out.2.mono h1
              exact lt_of_block hv2
            refine ⟨(HK.out.1.trans (h1.trans h2)).set (by rw [HSZ.out]; exact Nat.le_refl _) h _, (hg.put h hhH h3 (fun k hk => by have := h4 k hk; omega)).congr fun i hi => ?_⟩
            by_cases e : i = h
            · rw [if_pos e, if_pos e, range_map_succ]
            · rw [if_neg e, if_neg e, if_neg e]
          have hb0 := HBB.out h c
          have HBB2 := hid HBB.out
          clear hK
          cases hwb : waterB D c with
          | false =>
            rw [hwb] at HWR HWA
            have HV : Hid ((1000 : Int) = aheR D rs h c) := by
              show _ = _
              cases h with
              | zero => rw [HB0.out, hwb]; rfl
              | succ m => rw [HBS.out, hwb]; rfl
            clear hwb
            gi_wp2_with (gi_at_call 49; ((with_reducible refine HWR.out.mono ?_); rintro e w2 ⟨rfl, hx2⟩; have hcb2 := HCB.out w2 (HK.out.1.trans hx2)))
            all_goals try exact (undefNo (by assumption)).elim
            obtain ⟨wm, rfl⟩ : ∃ wm, wm = wr := ⟨wr, rfl⟩
            gi_loopw [8, 9] (fun n i u => n = .int .i64 1000 ∧ Ext wm u) (fun _ _ _ => 0)
            case atStart => exact ⟨rfl, hx2⟩
            case round =>
              obtain ⟨rfl, hxu⟩ := hrel
              have hcbi := HCB.out wr (HK.out.1.trans hxu)
              have HWI := hid (HWA.out wr (HK.out.1.trans hxu))
              gi_wp2_with (first | (gi_at_call 49; ((with_reducible refine HWI.out.mono ?_); rintro e w3 ⟨rfl, hx3⟩; have hcb3 := HCB.out w3 (HK.out.1.trans (hxu.trans hx3)); obtain ⟨ga, gc, hgc, hgi, vs, hvl, hvb⟩ := HGET.out w3 (hxu.trans hx3); have HPU := hid (HPL.out w3 ga gc 1000 hgi))) | (gi_at_call 57; ((with_reducible refine HPU.out.mono ?_); rintro e wp ⟨vp, rfl, hxp, hrp, hop⟩; have hgp := cell_of (hxp.block hvb); have hfp := free_of (hxp.block hvb); obtain ⟨pa, pn, pc, rfl⟩ := hrp.out.isSlice)))
              all_goals try exact (undefNo (by assumption)).elim
              rw [HV.out] at hrp
              have HF := hid (HFIN.out w3 wp _ (hxu.trans hx3) hxp hrp.out hop.out)
              go_roundw
              case rel => exact ⟨c + 1, by omega, by go_num, HF.out⟩
              case measure => simp [intOf]; omega
          | true =>
            rw [hwb] at HWR HWA
            by_cases hz : h = 0
            · have t1 : ((h : Int) == 0) = true := by rw [beq_iff_eq]; omega
              have t2 : decide ((0 : Int) < (h : Int)) = false := by rw [decide_eq_false_iff_not]; omega
              have t3 : decide (0 < h) = false := by rw [decide_eq_false_iff_not]; omega
              have HV : Hid ((0 : Int) = aheR D rs h c) := by
                show _ = _
                rw [hz, HB0.out, hwb]; rfl
              clear hwb hz
              gi_wp2_with (gi_at_call 49; ((with_reducible refine HWR.out.mono ?_); rintro e w2 ⟨rfl, hx2⟩; have hcb2 := HCB.out w2 (HK.out.1.trans hx2)))
              all_goals try exact (undefNo (by assumption)).elim
              obtain ⟨wm, rfl⟩ : ∃ wm, wm = wr := ⟨wr, rfl⟩
              gi_loopw [8, 9] (fun n i u => n = .int .i64 0 ∧ Ext wm u) (fun _ _ _ => 0)
              case atStart => exact ⟨rfl, hx2⟩
              case round =>
                obtain ⟨rfl, hxu⟩ := hrel
                have hcbi := HCB.out wr (HK.out.1.trans hxu)
                have HWI := hid (HWA.out wr (HK.out.1.trans hxu))
                gi_wp2_with (first | (gi_at_call 49; ((with_reducible refine HWI.out.mono ?_); rintro e w3 ⟨rfl, hx3⟩; have hcb3 := HCB.out w3 (HK.out.1.trans (hxu.trans hx3)); obtain ⟨ga, gc, hgc, hgi, vs, hvl, hvb⟩ := HGET.out w3 (hxu.trans hx3); have HPU := hid (HPL.out w3 ga gc 0 hgi))) | (gi_at_call 57; ((with_reducible refine HPU.out.mono ?_); rintro e wp ⟨vp, rfl, hxp, hrp, hop⟩; have hgp := cell_of (hxp.block hvb); have hfp := free_of (hxp.block hvb); obtain ⟨pa, pn, pc, rfl⟩ := hrp.out.isSlice)))
                all_goals try exact (undefNo (by assumption)).elim
                have hrp2 : Hid (Row wp 3 1 (.slice pa pn pc) ((List.range c).map (aheR D rs h) ++ [aheR D rs h c]).length (intVals ((List.range c).map (aheR D rs h) ++ [aheR D rs h c]))) := by rw [← HV.out]; exact hrp.out
                have HF := hid (HFIN.out w3 wp _ (hxu.trans hx3) hxp hrp2.out hop.out)
                go_roundw
                case rel => exact ⟨c + 1, by omega, by go_num, HF.out⟩
                case measure => simp [intOf]; omega
            · obtain ⟨m, hm⟩ : ∃ m, h = m + 1 := ⟨h - 1, by omega⟩
              have t1 : ((h : Int) == 0) = false := by rw [beq_eq_false_iff_ne]; omega
              have t2 : decide ((0 : Int) < (h : Int)) = true := by rw [decide_eq_true_eq]; omega
              have t3 : decide (0 < h) = true := by rw [decide_eq_true_eq]; omega
              have hkm : (h : Int) - 1 = (m : Int) := by omega
              have hhd : m < D.drift.length := by have := HDL.out; have := HHI.out; omega
              have hmH : m < H := by omega
              have hd12 : D.drift.length ≤ 1000 := by have := HDL.out; omega
              have HV : Hid (foldA D rs m c (aheR D rs m) N = aheR D rs h c) := by
                show _ = _
                rw [hm, HBS.out, hwb]; rfl
              have HFB := hid fun k => foldA_bounds h24 (D := D) (rs := rs) (h := m) (c := c) (prev := aheR D rs m) (fun d => HBB2.out m d) k
              have HLI := hid fun (e : World) (hx : Ext w1 e) (k : Nat) (hk : k ≤ 1000) => lies_int D lv dv rv rs m k e hw (HR.out.mono hx) hk h24 HRO.out (by omega)
              have HLB := hid fun k => lieI_bounds D h24 m k
              have HSTP := hid fun (e : World) (hx : Ext w1 e) (k : Nat) (hk : k ≤ 1000) => step_ref D lv dv m (k : Int) (c : Int) e hw hsp (HD.out.mono hx) hhd (HST.out m hhd) (by omega) (by omega) hd12
              rw [seaVal] at HSTP
              have HNEXT : Hid (∀ k, k < N → ∃ b off cc, wr.cell? ⟨w.heap.size + 1, m, none⟩ = some (.slice (some ⟨b, off, none⟩) N cc) ∧ w.heap.size + 1 < wr.heap.size ∧ b < wr.heap.size ∧ wr.cell? ⟨b, off + k, none⟩ = some (.int .i64 (aheR D rs m k))) := fun k hk => by
                have hg := HK.out.2
                have hf : (if m = h then (List.range c).map (aheR D rs h) else if m < h then (List.range N).map (aheR D rs m) else []) = (List.range N).map (aheR D rs m) := by
                  rw [if_neg (by omega), if_pos (by omega)]
                obtain ⟨a, cc, h1, h2, h3⟩ := hg.get m (by omega) (by rw [hf, List.length_map, List.length_range]; omega)
                rw [hf, show ((List.range N).map (aheR D rs m)).length = N by rw [List.length_map, List.length_range]] at h1 h2
                obtain ⟨a2, cap2, he, _, hcs⟩ := h2
                obtain ⟨b, off, e3, hb, hcell⟩ := hcs k (by rw [List.length_map, List.length_range]; exact hk)
                injection he with e1 _ _
                rw [e1, e3] at h1
                refine ⟨b, off, cc, h1, h3, hb, ?_⟩
                rw [hcell]
                simp
              have HM := hid hm
              clear hwb hm hz
              gi_wp2_with (gi_at_call 49; ((with_reducible refine HWR.out.mono ?_); rintro e w2 ⟨rfl, hx2⟩; have hcb2 := HCB.out w2 (HK.out.1.trans hx2)))
              all_goals try exact (undefNo (by assumption)).elim
              obtain ⟨wm, rfl⟩ : ∃ wm, wm = wr := ⟨wr, rfl⟩
              gi_loopw [8, 9] (fun n i u => ∃ k : Nat, k ≤ N ∧ n = .int .i64 (foldA D rs m c (aheR D rs m) k) ∧ i = .int .i64 k ∧ Ext wm u) (fun _ i _ => N - (intOf i).toNat)
              case atStart => exact ⟨0, Nat.zero_le _, rfl, rfl, hx2⟩
              case round =>
                obtain ⟨k, hk, rfl, rfl, hxu⟩ := hrel
                by_cases hlk : k < N
                · have dk : decide ((k : Int) < D.wide * D.high) = true := by rw [decide_eq_true_eq]; have := HNI.out; omega
                  obtain ⟨nb, noff, ncc, hn1, hng, hnb, hn2⟩ := HNEXT.out k hlk
                  have HQ := hid fun (e : World) (he : Ext wm e) => And.intro ((he.cell (p := ⟨w.heap.size + 1, _, none⟩) hng).trans hn1) ((he.cell (p := ⟨nb, _, none⟩) hnb).trans hn2)
                  have hpb := HBB2.out m k
                  have hcur := HFB.out k
                  have HFS : Hid (foldA D rs m c (aheR D rs m) (k + 1) = if aheR D rs m k < 1000 ∧ stepB D m k c = true then min (foldA D rs m c (aheR D rs m) k) (aheR D rs m k + lieI D rs m k) else foldA D rs m c (aheR D rs m) k) := rfl
                  have HSK := hid fun (e : World) (hx : Ext w1 e) => HSTP.out e hx k (by omega)
                  have hcbi := HCB.out wr (HK.out.1.trans hxu)
                  have HWI := hid (HWA.out wr (HK.out.1.trans hxu))
                  clear hn1 hng hnb hn2
                  generalize foldA D rs m c (aheR D rs m) k = cur at *
                  generalize aheR D rs m k = p at *
                  have hlb := HLB.out k
                  have HLK := hid fun (e : World) (hx : Ext w1 e) => HLI.out e hx k (by omega)
                  generalize lieI D rs m k = li at *
                  generalize stepB D m k c = sb at *
                  by_cases hp : p < 1000
                  · have dp : decide (p < 1000) = true := by rw [decide_eq_true_eq]; exact hp
                    cases sb with
                    | false =>
                      rw [if_neg (by simp)] at HFS
                      gi_wp2_with (first | (gi_at_call 49; ((with_reducible refine HWI.out.mono ?_); rintro e w3 ⟨rfl, hx3⟩; have hcb3 := HCB.out w3 (HK.out.1.trans (hxu.trans hx3)); have hq3 := HQ.out w3 (hxu.trans hx3); have HS3 := hid (HSK.out w3 (HK.out.1.trans (hxu.trans hx3))))) | (gi_at_call 50; ((with_reducible refine HS3.out.mono ?_); rintro e w4 ⟨rfl, hx4⟩)))
                      all_goals first | exact (undefNo (by assumption)).elim | exact ⟨⟨k + 1, by omega, by rw [HFS.out], by go_num, hxu.trans (hx3.trans hx4)⟩, by simp [intOf]; omega⟩
                    | true =>
                      rw [if_pos ⟨hp, rfl⟩] at HFS
                      gi_wp2_with (first | (gi_at_call 49; ((with_reducible refine HWI.out.mono ?_); rintro e w3 ⟨rfl, hx3⟩; have hcb3 := HCB.out w3 (HK.out.1.trans (hxu.trans hx3)); have hq3 := HQ.out w3 (hxu.trans hx3); have HS3 := hid (HSK.out w3 (HK.out.1.trans (hxu.trans hx3))))) | (gi_at_call 50; ((with_reducible refine HS3.out.mono ?_); rintro e w4 ⟨rfl, hx4⟩)))
                      all_goals try exact (undefNo (by assumption)).elim
                      have HX4 := hid (hxu.trans (hx3.trans hx4))
                      have HLQ := hid fun e : Later w4 => HLK.out e.val (HK.out.1.trans (HX4.out.trans e.grown))
                      have HC := hid fun e : Later w4 => And.intro (HCB.out e.val (HK.out.1.trans (HX4.out.trans e.grown))) (HQ.out e.val (HX4.out.trans e.grown))
                      by_cases hmn : p + li < cur
                      · rw [Int.min_eq_right (by omega)] at HFS
                        refine quiet_wide 17 (by kernel_rfl) (by kernel_rfl) ?_
                        simp only [List.take_succ_cons, List.take_zero, List.drop_succ_cons, List.drop_zero]
                        have q1 := HC.out
                        repeat (any_goals (first | go_big_quiet_step ((go_at_call 51; with_reducible exact Cal.quiet (HLQ.out _))) | quiet_step ((go_at_call 51; with_reducible exact Cal.quiet (HLQ.out _)))))
                        refine wpQuiet_nil ?_
                        rintro w5 ⟨⟨_, hx5⟩, rfl⟩
                        clear q1
                        clear HC HLQ
                        gi_wp2
                        all_goals exact ⟨⟨k + 1, by omega, by rw [HFS.out], by go_num, HX4.out.trans hx5⟩, by simp [intOf]; omega⟩
                      · rw [Int.min_eq_left (by omega)] at HFS
                        refine quiet_wide 17 (by kernel_rfl) (by kernel_rfl) ?_
                        simp only [List.take_succ_cons, List.take_zero, List.drop_succ_cons, List.drop_zero]
                        have q1 := HC.out
                        repeat (any_goals (first | go_big_quiet_step ((go_at_call 51; with_reducible exact Cal.quiet (HLQ.out _))) | quiet_step ((go_at_call 51; with_reducible exact Cal.quiet (HLQ.out _)))))
                        refine wpQuiet_nil ?_
                        rintro w5 ⟨⟨_, hx5⟩, rfl⟩
                        clear q1
                        clear HC HLQ
                        gi_wp2
                        all_goals exact ⟨⟨k + 1, by omega, by rw [HFS.out], by go_num, HX4.out.trans hx5⟩, by simp [intOf]; omega⟩
                  · have dp : decide (p < 1000) = false := by rw [decide_eq_false_iff_not]; exact hp
                    rw [if_neg (fun h => hp h.1)] at HFS
                    gi_wp2_with (gi_at_call 49; ((with_reducible refine HWI.out.mono ?_); rintro e w3 ⟨rfl, hx3⟩; have hcb3 := HCB.out w3 (HK.out.1.trans (hxu.trans hx3)); have hq3 := HQ.out w3 (hxu.trans hx3)))
                    all_goals first | exact (undefNo (by assumption)).elim | exact ⟨⟨k + 1, by omega, by rw [HFS.out], by go_num, hxu.trans hx3⟩, by simp [intOf]; omega⟩
                · obtain rfl : k = N := by omega
                  have dk : decide ((k : Int) < D.wide * D.high) = false := by rw [decide_eq_false_iff_not]; have := HNI.out; omega
                  have hfb := HFB.out k
                  generalize hfe : foldA D rs m c (aheR D rs m) k = fb at *
                  clear hfe
                  have hcbi := HCB.out wr (HK.out.1.trans hxu)
                  have HWI := hid (HWA.out wr (HK.out.1.trans hxu))
                  gi_wp2_with (first | (gi_at_call 49; ((with_reducible refine HWI.out.mono ?_); rintro e w3 ⟨rfl, hx3⟩; have hcb3 := HCB.out w3 (HK.out.1.trans (hxu.trans hx3)); obtain ⟨ga, gc, hgc, hgi, vs, hvl, hvb⟩ := HGET.out w3 (hxu.trans hx3); have HPU := hid (HPL.out w3 ga gc fb hgi))) | (gi_at_call 57; ((with_reducible refine HPU.out.mono ?_); rintro e wp ⟨vp, rfl, hxp, hrp, hop⟩; have hgp := cell_of (hxp.block hvb); have hfp := free_of (hxp.block hvb); obtain ⟨pa, pn, pc, rfl⟩ := hrp.out.isSlice)))
                  all_goals try exact (undefNo (by assumption)).elim
                  rw [HV.out] at hrp
                  have HF := hid (HFIN.out w3 wp _ (hxu.trans hx3) hxp hrp.out hop.out)
                  go_roundw
                  case rel => exact ⟨c + 1, by omega, by go_num, HF.out⟩
                  case measure => simp [intOf]; omega
        · obtain rfl : c = N := by omega
          have dlt : decide ((c : Int) < D.wide * D.high) = false := by rw [decide_eq_false_iff_not]; have := HNI.out; omega
          have HK := hid hK.out
          clear hK
          gi_wp2
          go_roundw
          case rel => exact ⟨h + 1, by omega, by go_num, HK.out.1, HK.out.2.congr fun i hi => by
                            by_cases e : i = h
                            · rw [if_pos e, if_pos (by omega), e]
                            · rw [if_neg e]
                              by_cases e2 : i < h
                              · rw [if_pos e2, if_pos (by omega)]
                              · rw [if_neg e2, if_neg (by omega)]⟩
          case measure => simp [intOf] <;> omega
    · obtain rfl : H = h := by omega
      have dh : decide ((H : Int) < D.hours) = false := by rw [decide_eq_false_iff_not]; have := HHI.out; omega
      have HJ := hid hJ.out
      clear hJ
      gi_wp2
      go_ret
      exact ⟨w.heap.size + 1, rfl, HX.out.trans HJ.out.1, HJ.out.2.congr fun i hi => by rw [if_pos (by omega)]⟩


theorem foldA_le {D : SeaD} {rs : List Rep} {h c : Nat} {prev : Nat → Int} {n : Int} (hn : n < 1000) : ∀ k, foldA D rs h c prev k ≤ n ↔ ∃ d, d < k ∧ prev d < 1000 ∧ stepB D h d c = true ∧ prev d + lieI D rs h d ≤ n
  | 0 => by
    unfold foldA
    constructor
    · intro h; omega
    · rintro ⟨d, hd, _⟩; omega
  | k + 1 => by
    have ih := foldA_le (D := D) (rs := rs) (h := h) (c := c) (prev := prev) hn k
    unfold foldA
    constructor
    · intro hle
      split at hle
      · rename_i hp
        by_cases h2 : foldA D rs h c prev k ≤ n
        · obtain ⟨d, h1, h3⟩ := ih.mp h2
          exact ⟨d, by omega, h3⟩
        · exact ⟨k, by omega, hp.1, hp.2, by omega⟩
      · obtain ⟨d, h1, h3⟩ := ih.mp hle
        exact ⟨d, by omega, h3⟩
    · rintro ⟨d, hd, h1, h2, h3⟩
      by_cases e : d = k
      · subst e
        rw [if_pos ⟨h1, h2⟩]
        omega
      · have := ih.mpr ⟨d, by omega, h1, h2, h3⟩
        split <;> omega
theorem aheR_facts {D : SeaD} {rs : List Rep} (hS : soundB D rs = true) : ∀ h, h < D.hours.toNat → ∀ c, c < (D.wide * D.high).toNat →
    (¬ openC D c → aheR D rs h c = 1000) ∧ (openC D c → ∀ n : Int, n < 25 → (aheR D rs h c + lieI D rs h c ≤ n ↔ upF D rs h c ≤ n)) := by
  unfold soundB at hS
  rw [Bool.and_eq_true] at hS
  have h24 := (reps_ok hS.1 hS.2).1
  have hsp := inB_spec (sea_bounds hS.1).2.2.2.1
  intro h
  induction h with
  | zero =>
    intro hj c hc
    refine ⟨fun ho => ?_, fun ho n hn => ?_⟩
    · unfold aheR; rw [if_neg (fun h => ho (water_open.mp h))]
    · unfold aheR
      rw [if_pos (water_open.mpr ho), Int.zero_add]
      have e : upF D rs 0 c = ownF D rs 0 c := rfl
      rw [e, own_of ho]
      rfl
  | succ h ih =>
    intro hj c hc
    have ih := ih (by omega)
    refine ⟨fun ho => ?_, fun ho n hn => ?_⟩
    · unfold aheR; rw [if_neg (fun h => ho (water_open.mp h))]
    · have hl := lieI_bounds D h24 (h + 1) c
      have hle : lieI D rs (h + 1) c = ownF D rs (h + 1) c := by rw [own_of ho]; rfl
      unfold aheR
      rw [if_pos (water_open.mpr ho), up_next h24 h c n ho hn, ← hle]
      have e : foldA D rs h c (aheR D rs h) (D.wide * D.high).toNat + lieI D rs (h + 1) c ≤ n ↔ foldA D rs h c (aheR D rs h) (D.wide * D.high).toNat ≤ n - lieI D rs (h + 1) c := by omega
      rw [e, foldA_le (by omega)]
      constructor
      · rintro ⟨d, hd, h1, h2, h3⟩
        have hod : openC D d := Classical.byContradiction fun hx => by have := (ih d hd).1 hx; omega
        have := ((ih d hd).2 hod (n - lieI D rs (h + 1) c) (by omega)).mp h3
        exact ⟨d, hod, (step_link hsp.1).mp h2, by omega⟩
      · rintro ⟨d, hod, h2, h3⟩
        have hd := opens_lt hod
        have h4 := ((ih d hd).2 hod (n - lieI D rs (h + 1) c) (by omega)).mpr (by omega)
        have hld := lieI_bounds D h24 h d
        exact ⟨d, hd, by omega, (step_link hsp.1).mpr h2, h4⟩
def canP (D : SeaD) (rs : List Rep) (n : Int) (h c : Nat) : Bool := canIs D rs n h c && isOpen D.land c
def canTo (D : SeaD) (rs : List Rep) (n : Int) (h k : Nat) : List Nat := (List.range k).filter (canP D rs n h)
theorem canTo_all (D : SeaD) (rs : List Rep) (n : Int) (h : Nat) : canTo D rs n h (D.wide * D.high).toNat = canF D rs n h := by
  unfold canTo canF opens canP
  rw [List.filter_filter]
theorem canTo_succ (D : SeaD) (rs : List Rep) (n : Int) (h k : Nat) : canTo D rs n h (k + 1) = canTo D rs n h k ++ (if canP D rs n h k then [k] else []) := by
  unfold canTo
  rw [List.range_succ, List.filter_append]
  congr 1
  simp only [List.filter_cons, List.filter_nil]
theorem canR_iff {D : SeaD} {rs : List Rep} (hS : soundB D rs = true) {h c : Nat} {n : Int} (hh : h < D.hours.toNat) (hc : c < (D.wide * D.high).toNat) (hn : n < 25) : aheR D rs h c + behR D rs (D.hours.toNat - 1 - h) c ≤ n ↔ canP D rs n h c = true := by
  have ha := aheR_facts hS h hh c hc
  have hb := behR_facts hS (D.hours.toNat - 1 - h) (by omega) c hc
  rw [show D.hours.toNat - 1 - (D.hours.toNat - 1 - h) = h by omega] at hb
  have hS2 := hS
  unfold soundB at hS2
  rw [Bool.and_eq_true] at hS2
  have h24 := (reps_ok hS2.1 hS2.2).1
  have hA := aheR_bounds (D := D) h24 h c
  have hB := behR_bounds (D := D) h24 (D.hours.toNat - 1 - h) c
  have hoo : isOpen D.land c = true ↔ openC D c := by
    unfold openC opens
    rw [List.mem_filter, List.mem_range]
    exact ⟨fun h => ⟨hc, h⟩, fun h => h.2⟩
  unfold canP
  rw [Bool.and_eq_true, hoo]
  by_cases ho : openC D c
  · have hl : lieI D rs h c = ownF D rs h c := by rw [own_of ho]; rfl
    have hu := ha.2 ho
    have hf := hb.2.1 ho
    have ho1 : ownF D rs h c ≤ upF D rs h c := own_walk h24 (fun i => i) (forthS D) h c ho
    have ho2 : ownF D rs h c ≤ fromF D rs h c := own_from h24 h c hh ho
    have hlb := lieI_bounds D h24 h c
    unfold canIs throughOf
    rw [minL_one, decide_eq_true_eq, hl] at *
    constructor
    · intro hab
      refine ⟨?_, ho⟩
      have h1 := (hf (behR D rs (D.hours.toNat - 1 - h) c) (by omega)).mp (Int.le_refl _)
      have h2 := (hu (aheR D rs h c + ownF D rs h c) (by omega)).mp (Int.le_refl _)
      split <;> omega
    · rintro ⟨hle, _⟩
      have hle2 : upF D rs h c + fromF D rs h c - ownF D rs h c ≤ n := by split at hle <;> omega
      have h1 := (hf (fromF D rs h c) (by omega)).mpr (Int.le_refl _)
      have h2 := (hu (upF D rs h c) (by omega)).mpr (Int.le_refl _)
      omega
  · have := ha.1 ho
    constructor
    · intro h; omega
    · rintro ⟨_, h⟩; exact absurd h ho


def gridP (H N : Nat) (f : Nat → Nat → Int) (v : Value) (u : World) : Prop := ∃ g, v = .slice (some ⟨g, 0, none⟩) H H ∧ GridAt u g H (fun i => (List.range N).map (f i))
theorem gridP.mono {H N : Nat} {f : Nat → Nat → Int} {v : Value} {u u' : World} (h : gridP H N f v u) (hx : Ext u u') : gridP H N f v u' := by
  obtain ⟨g, e, hg⟩ := h
  exact ⟨g, e, hg.mono hx⟩
theorem gridP.row {H N : Nat} {f : Nat → Nat → Int} {v : Value} {u : World} (h : gridP H N f v u) (i : Nat) (hi : i < H) (h1 : 1 ≤ N) (hN : N ≤ 1000) :
    ∃ g b off cc, v = .slice (some ⟨g, 0, none⟩) H H ∧ u.cell? ⟨g, i, none⟩ = some (.slice (some ⟨b, off, none⟩) N cc) ∧ g < u.heap.size ∧ b < u.heap.size ∧ ∀ k, k < N → u.cell? ⟨b, off + k, none⟩ = some (.int .i64 (f i k)) := by
  obtain ⟨g, e, hg⟩ := h
  obtain ⟨b, off, cc, h1, h2, h3, h4⟩ := hg.row i hi (N := N) (by rw [List.length_map, List.length_range]) h1 hN
  refine ⟨g, b, off, cc, e, h1, h2, h3, fun k hk => ?_⟩
  rw [h4 k hk]
  simp [List.getD, hk]

set_option maxRecDepth 100000 in
set_option maxHeartbeats 16000000 in
theorem can_ref (D : SeaD) (lv dv rv : Value) (rs : List Rep) (wrong hour : Int) (w : World) (hl : IntsAt w lv D.land) (hd : StepsAt w dv D.drift) (hr : RepsAt w rv rs) :
    Cal 24 #[seaVal D lv dv, rv, .int .i64 wrong, .int .i64 hour] w fun e w' => ∃ v, e = .returned (.tuple #[v, .int .i64 (canErr D rs wrong hour)]) ∧ Ext w w' ∧ Hid (Row w' 3 1 v (canList D rs wrong hour).length (natVals (canList D rs wrong hour))) := by
  have hb1 : (w.alloc (.cells #[.int .i64 D.wide, .int .i64 D.high, lv, .int .i64 D.hours, dv, .int .i64 D.speed] 25)).heap[w.heap.size]? = some (.cells #[.int .i64 D.wide, .int .i64 D.high, lv, .int .i64 D.hours, dv, .int .i64 D.speed] 25 (0, 0)) := Ext.new (Ext.refl _)
  have hx : Ext w (w.alloc (.cells #[.int .i64 D.wide, .int .i64 D.high, lv, .int .i64 D.hours, dv, .int .i64 D.speed] 25)) := (Ext.refl w).alloc _
  have HAS := hid (asked_ref D lv dv rv rs _ (hl.mono hx) (hd.mono hx) (hr.mono hx))
  have HL := hid (hl.mono hx)
  have HD := hid (hd.mono hx)
  have HR := hid (hr.mono hx)
  unfold seaVal at HAS ⊢
  clear hl hd hr
  gi_enter Try.func24, Try.ntmps24
  gi_wp2_with fail
  generalize w.alloc (.cells #[.int .i64 D.wide, .int .i64 D.high, lv, .int .i64 D.hours, dv, .int .i64 D.speed] 25) = w1 at *
  have hcb := cell_of hb1
  have HCB := hid fun (e : World) (hx : Ext w1 e) => cell_of (hx.block hb1)
  have HX := hid hx
  clear hb1 hx
  have HCE : Hid (∀ E, askErr D rs wrong hour = E → E ≠ 0 → canErr D rs wrong hour = E ∧ canList D rs wrong hour = []) := fun E h1 h2 => by
    subst h1
    exact ⟨if_pos h2, if_pos h2⟩
  cases hsb : seaB D with
  | false =>
    have HG := hid (HCE.out 10 (if_pos hsb) (by decide))
    rw [askedN_s hsb] at HAS
    gi_wp2_with (gi_at_call 48; ((with_reducible refine HAS.out.mono ?_); rintro e w2 ⟨rfl, hx2⟩))
    exact bodyPost_ret (v := .tuple #[.slice none 0 0, .int .i64 10]) (results_tmp2 (fn := Try.f24) (t := 8) (u := 9) rfl _ _ _) rfl ⟨_, by rw [HG.out.1], HX.out.trans hx2, by rw [HG.out.2]; exact Row.nil _ _ _⟩
  | true =>
    cases hrb : repsB D.hours (D.wide * D.high) rs with
    | false =>
      have HG := hid (HCE.out 11 (by unfold askErr; rw [if_neg (by rw [hsb]; simp), if_pos hrb]) (by decide))
      rw [askedN_r hsb hrb] at HAS
      gi_wp2_with (gi_at_call 48; ((with_reducible refine HAS.out.mono ?_); rintro e w2 ⟨rfl, hx2⟩))
      exact bodyPost_ret (v := .tuple #[.slice none 0 0, .int .i64 11]) (results_tmp2 (fn := Try.f24) (t := 8) (u := 9) rfl _ _ _) rfl ⟨_, by rw [HG.out.1], HX.out.trans hx2, by rw [HG.out.2]; exact Row.nil _ _ _⟩
    | true =>
      rw [askedN_t hsb hrb] at HAS
      have hbd := sea_bounds hsb
      have hh := inB_spec hbd.2.2.1
      have HE7 : Hid ((inB wrong 0 24 && inB hour 0 (D.hours - 1)) = false → askErr D rs wrong hour = 7) := fun h => by unfold askErr; rw [if_neg (by rw [hsb]; simp), if_neg (by rw [hrb]; simp), if_pos h]
      have HE0 : Hid ((inB wrong 0 24 && inB hour 0 (D.hours - 1)) = true → askErr D rs wrong hour = 0) := fun h => by unfold askErr; rw [if_neg (by rw [hsb]; simp), if_neg (by rw [hrb]; simp), if_neg (by rw [h]; simp)]
      cases b1 : inB wrong 0 24 with
      | false =>
        have HG := hid (HCE.out 7 (HE7.out (by rw [b1]; rfl)) (by decide))
        have HI1 := hid fun (e : World) => in_b wrong 0 24 false e b1
        gi_wp2_with (first | (gi_at_call 48; ((with_reducible refine HAS.out.mono ?_); rintro e w2 ⟨rfl, hx2⟩; have hcb2 := HCB.out w2 hx2)) | (gi_at_call 39; ((with_reducible refine (HI1.out _).mono ?_); rintro e wq ⟨rfl, rfl⟩)))
        all_goals first | exact (undefNo (by assumption)).elim | exact bodyPost_ret (v := .tuple #[.slice none 0 0, .int .i64 7]) (results_tmp2 (fn := Try.f24) (t := 8) (u := 9) rfl _ _ _) rfl ⟨_, by rw [HG.out.1], HX.out.trans hx2, by rw [HG.out.2]; exact Row.nil _ _ _⟩
      | true =>
        have HI1 := hid fun (e : World) => in_b wrong 0 24 true e b1
        cases b2 : inB hour 0 (D.hours - 1) with
        | false =>
          have HG := hid (HCE.out 7 (HE7.out (by rw [b1, b2]; rfl)) (by decide))
          have HI2 := hid fun (e : World) => in_b hour 0 (D.hours - 1) false e b2
          gi_wp2_with (first | (gi_at_call 48; ((with_reducible refine HAS.out.mono ?_); rintro e w2 ⟨rfl, hx2⟩; have hcb2 := HCB.out w2 hx2)) | (gi_at_call 39; ((with_reducible refine (HI1.out _).mono ?_); rintro e wq ⟨rfl, rfl⟩)) | (gi_at_call 39; ((with_reducible refine (HI2.out _).mono ?_); rintro e wq ⟨rfl, rfl⟩)))
          all_goals first | exact (undefNo (by assumption)).elim | exact bodyPost_ret (v := .tuple #[.slice none 0 0, .int .i64 7]) (results_tmp2 (fn := Try.f24) (t := 8) (u := 9) rfl _ _ _) rfl ⟨_, by rw [HG.out.1], HX.out.trans hx2, by rw [HG.out.2]; exact Row.nil _ _ _⟩
        | true =>
          have HI2 := hid fun (e : World) => in_b hour 0 (D.hours - 1) true e b2
          have hS : soundB D rs = true := by unfold soundB; rw [hsb, hrb]; rfl
          have ha0 := HE0.out (by rw [b1, b2]; rfl)
          have hb1' := inB_spec b1
          have hb2' := inB_spec b2
          have hmb := mul_bounds (inB_spec hbd.1) (inB_spec hbd.2.1)
          have hww : IntKind.i64.wrap (D.wide * D.high) = D.wide * D.high := by rw [IntKind.wrap_i64]; omega
          have h24 := (reps_ok hsb hrb).1
          have HAH := hid fun (e : World) (hx : Ext w1 e) => ahead_ref D lv dv rv rs e hsb hrb (HL.out.mono hx) (HD.out.mono hx) (HR.out.mono hx)
          have HBH := hid fun (e : World) (hx : Ext w1 e) => behind_ref D lv dv rv rs e hsb hrb (HL.out.mono hx) (HD.out.mono hx) (HR.out.mono hx)
          obtain ⟨hn, rfl⟩ : ∃ hn : Nat, hour = hn := ⟨hour.toNat, by omega⟩
          have HFIN : Hid (canList D rs wrong hn = canTo D rs wrong hn (D.wide * D.high).toNat ∧ canErr D rs wrong hn = if (canTo D rs wrong hn (D.wide * D.high).toNat).length = 0 then 12 else 0) := by
            refine ⟨?_, ?_⟩
            · unfold canList; rw [if_neg (by rw [ha0]; simp), canTo_all]; rfl
            · unfold canErr; rw [if_neg (by rw [ha0]; simp), canTo_all]; rfl
          have HIFF := hid fun c (hc : c < (D.wide * D.high).toNat) => canR_iff hS (h := hn) (n := wrong) (by omega) hc (by omega)
          have HAB := hid fun c => aheR_bounds (D := D) h24 hn c
          have HBB := hid fun c => behR_bounds (D := D) h24 (D.hours.toNat - 1 - hn) c
          obtain ⟨H, hH⟩ : ∃ H : Nat, D.hours.toNat = H := ⟨_, rfl⟩
          obtain ⟨N, hN⟩ : ∃ N : Nat, (D.wide * D.high).toNat = N := ⟨_, rfl⟩
          have hH12 : 1 ≤ H ∧ H ≤ 12 := by omega
          have hN80 : 1 ≤ N ∧ N ≤ 80 := by omega
          have hhH : hn < H := by omega
          have HNI : Hid (D.wide * D.high = (N : Int)) := by show _ = _; omega
          rw [hH, hN] at HIFF
          rw [hN] at HFIN
          rw [hH] at HBB
          rw [hH, hN] at HAH HBH
          unfold seaVal at HAH HBH
          clear hsb hrb hS ha0 b1 b2 hbd HCE HE7 HE0 hH hN
          gi_wp2_with (first | (gi_at_call 48; ((with_reducible refine HAS.out.mono ?_); rintro e w2 ⟨rfl, hx2⟩; have hcb2 := HCB.out w2 hx2)) | (gi_at_call 39; ((with_reducible refine (HI1.out _).mono ?_); rintro e wq ⟨rfl, rfl⟩)) | (gi_at_call 39; ((with_reducible refine (HI2.out _).mono ?_); rintro e wq ⟨rfl, rfl⟩)))
          all_goals try exact (undefNo (by assumption)).elim
          refine lex_wide 5 [(2, gridP H N (aheR D rs))] (by kernel_rfl) (by kernel_rfl) (fun i p hp v u u' hv hx => ?_) ?_
          · unfold psAt at hp
            split at hp
            · cases hp; exact gridP.mono hv hx
            · cases hp
          · simp only [List.take_succ_cons, List.take_zero, List.drop_succ_cons, List.drop_zero]
            apply lex_fun (rfl : psAt _ _ = none)
            · intro x u hR hf
              have c1 := HCB.out u (hx2.trans hR)
              clear hR hf
              go_simp
              exact ⟨rfl, Ext.refl _⟩
            simp only [Act.put, List.setIfInBounds_toArray, List.set_cons_succ, List.set_cons_zero]
            apply lex_fun (rfl : psAt _ _ = none)
            · intro x u hR hf
              clear hR hf
              go_simp
              exact ⟨rfl, Ext.refl _⟩
            simp only [Act.put, List.setIfInBounds_toArray, List.set_cons_succ, List.set_cons_zero]
            refine lex_pred (p := gridP H N (aheR D rs)) rfl ?_ ?_
            · intro x u hR hf
              have hcal := hid (HAH.out u (hx2.trans hR))
              clear hR hf
              go_simp
              exact hcal.out.mono fun e w'' ⟨g, he, hx', hg⟩ => ⟨_, he, ⟨g, rfl, hg.out⟩, hx'⟩
            simp only [Act.put, List.setIfInBounds_toArray, List.set_cons_succ, List.set_cons_zero]
            apply lex_fun (rfl : psAt _ _ = none)
            · intro x u hR hf
              have c1 := HCB.out u (hx2.trans hR)
              clear hR hf
              go_simp
              exact ⟨rfl, Ext.refl _⟩
            simp only [Act.put, List.setIfInBounds_toArray, List.set_cons_succ, List.set_cons_zero]
            apply lex_fun (rfl : psAt _ _ = none)
            · intro x u hR hf
              clear hR hf
              go_simp
              exact ⟨rfl, Ext.refl _⟩
            simp only [Act.put, List.setIfInBounds_toArray, List.set_cons_succ, List.set_cons_zero]
            refine lex_nil fun x w3 hE hfacts => ?_
            have h2 : gridP H N (aheR D rs) (x 2) w3 := hfacts 2 _ (by omega) rfl
            clear hfacts
            generalize x 2 = va at *
            have HX3 := hid (hx2.trans hE)
            have HBQ := hid (HBH.out w3 HX3.out)
            have hcb3 := HCB.out w3 HX3.out
            have HGA := hid h2
            obtain ⟨ga0, hva, _⟩ := h2
            subst hva
            clear hx2 hE hcb2 HAH HBH
            gi_wp2_with (gi_at_call 56; ((with_reducible refine HBQ.out.mono ?_); rintro e w4 ⟨gb0, rfl, hx4, hgb⟩))
            have HGB : Hid (gridP H N (fun i => behR D rs (H - 1 - i)) (.slice (some ⟨gb0, 0, none⟩) H H) w4) := ⟨gb0, rfl, hgb.out⟩
            have HX4 := hid (HX3.out.trans hx4)
            obtain ⟨ga, ab, aoff, acc, ea, ha1, ha2, ha3, ha4⟩ := (HGA.out.mono hx4).row hn hhH hN80.1 (by omega)
            obtain ⟨gb, bb, boff, bcc, eb, hb1, hb2, hb3, hb4⟩ := HGB.out.row hn hhH hN80.1 (by omega)
            cases ea
            cases eb
            have HRA := hid (And.intro ha1 (And.intro ha2 (And.intro ha3 ha4)))
            have HRB := hid (And.intro hb1 (And.intro hb2 (And.intro hb3 hb4)))
            clear ha1 ha2 ha3 ha4 hb1 hb2 hb3 hb4 HGA HGB hgb hx4 hcb3 HBQ HAS
            gi_loopw [13, 14] (fun v i wr => ∃ c : Nat, c ≤ N ∧ i = .int .i64 c ∧ Hid (Ext w4 wr ∧ Row wr 3 1 v (canTo D rs wrong hn c).length (natVals (canTo D rs wrong hn c)) ∧ ∀ g, v.ownBlock = some g → w4.heap.size ≤ g)) (fun _ i _ => N - (intOf i).toNat)
            case atStart => exact ⟨0, Nat.zero_le _, rfl, Ext.refl _, Row.nil _ _ _, fun g hg => by simp [Value.ownBlock] at hg⟩
            case round =>
              obtain ⟨c, hc, rfl, hJ⟩ := hrel
              have HJ := hid hJ.out
              clear hJ
              have hcbr := HCB.out wr (HX4.out.trans HJ.out.1)
              by_cases hlt : c < N
              · have dlt : decide ((c : Int) < D.wide * D.high) = true := by rw [decide_eq_true_eq]; have := HNI.out; omega
                have HC := hid fun e : Later wr => And.intro (((Ext.trans HJ.out.1 e.grown).cell (p := ⟨ga0, _, none⟩) HRA.out.2.1).trans HRA.out.1) (And.intro (((Ext.trans HJ.out.1 e.grown).cell (p := ⟨ab, _, none⟩) HRA.out.2.2.1).trans (HRA.out.2.2.2 c hlt)) (And.intro (((Ext.trans HJ.out.1 e.grown).cell (p := ⟨gb0, _, none⟩) HRB.out.2.1).trans HRB.out.1) (((Ext.trans HJ.out.1 e.grown).cell (p := ⟨bb, _, none⟩) HRB.out.2.2.1).trans (HRB.out.2.2.2 c hlt))))
                have hab := HAB.out c
                have hbb := HBB.out c
                have hiff := HIFF.out c hlt
                have HCS := hid (canTo_succ D rs wrong hn c)
                have hcl : (canTo D rs wrong hn c).length ≤ c := by unfold canTo; exact Nat.le_trans (List.length_filter_le _ _) (by simp)
                generalize aheR D rs hn c = av at *
                generalize behR D rs (H - 1 - hn) c = bv at *
                gi_wp2_with fail
                refine quiet_wide 17 (by kernel_rfl) (by kernel_rfl) ?_
                simp only [List.take_succ_cons, List.take_zero, List.drop_succ_cons, List.drop_zero]
                have q1 := HC.out
                repeat (any_goals (first | go_big_quiet_step ((fail)) | quiet_step ((fail))))
                refine wpQuiet_nil ?_
                rintro w5 ⟨⟨_, hx5⟩, rfl⟩
                clear q1
                clear HC
                cases hcp : canP D rs wrong hn c with
                | true =>
                  rw [hcp] at HCS
                  have dle : decide (av + bv ≤ wrong) = true := by rw [decide_eq_true_eq]; exact hiff.mpr hcp
                  obtain ⟨i0, hi0, hz0, hz1, hz2⟩ := info_parts info3
                  have HZ := hid (And.intro hi0 (And.intro hz0 (And.intro hz1 hz2)))
                  clear hi0 hz0 hz1 hz2 hiff hcp
                  have hmax : (canTo D rs wrong hn c).length + 1 ≤ 1000000000 := by omega
                  have hxa : Ext wr (w5.alloc (.cells #[.int .i64 c] 3)) := Ext.alloc hx5 _
                  have HRWW := hid (HJ.out.2.1.mono hxa)
                  have HNW : Hid (∀ j u, [Value.int .i64 c][j]? = some u → (w5.alloc (.cells #[.int .i64 c] 3)).cell? ((⟨w5.heap.size, 0, none⟩ : Addr).add j) = some u) := (fun j u hj => by rw [Addr.add_mid, Nat.zero_add, new_cell _ _ rfl]; simpa using hj)
                  gi_wp2_with (refine wpIn_append_row (fun _ => trivial) rfl (.tmp 64) (.tmp 66) rfl Try.underlying22 HZ.out.1 HZ.out.2.1 HZ.out.2.2.1 HZ.out.2.2.2 (by simp [Value.cells]) (by omega) (v := u13) rfl HRWW.out ⟨w5.heap.size, 0, none⟩ 1 rfl [.int .i64 c] rfl HNW.out (fun u hu => by simp at hu; subst hu; rfl) hmax (by omega) ?_; intro v' w' hrow' hgr' how')
                  have hbel : Ext w4 w' := Below.trans (Ext.trans HJ.out.1 hxa) ⟨hgr'.os, hgr'.tape, hgr'.output, hgr'.size, fun j hj => hgr'.block j (by have := (Ext.trans HJ.out.1 hxa).size; omega) (fun e => by have := HJ.out.2.2 j e.symm; omega)⟩
                  have hsz := (Ext.trans HJ.out.1 hxa).size
                  go_roundw
                  case rel =>
                    refine ⟨c + 1, by omega, by go_num, hbel, ?_, fun g hg => ?_⟩
                    · rw [HCS.out, if_pos rfl, natVals_append, List.length_append]
                      exact hrow'
                    · rcases how' with e | e
                      · exact HJ.out.2.2 g (by rw [← e]; exact hg)
                      · rw [hg] at e; cases e; exact hsz
                  case measure => simp [intOf] <;> omega
                | false =>
                  rw [hcp] at HCS
                  have dle : decide (av + bv ≤ wrong) = false := by rw [decide_eq_false_iff_not]; exact fun h => by rw [hiff.mp h] at hcp; cases hcp
                  clear hiff hcp
                  gi_wp2
                  all_goals exact ⟨⟨c + 1, by omega, by go_num, HJ.out.1.trans hx5, by rw [HCS.out, if_neg (by simp), List.append_nil]; exact HJ.out.2.1.mono hx5, HJ.out.2.2⟩, by simp [intOf] <;> omega⟩
              · obtain rfl : N = c := by omega
                have dlt : decide ((N : Int) < D.wide * D.high) = false := by rw [decide_eq_false_iff_not]; have := HNI.out; omega
                obtain ⟨va, vc, rfl⟩ := HJ.out.2.1.isSliceN
                by_cases hz : (canTo D rs wrong hn N).length = 0
                · have HG : Hid (canErr D rs wrong hn = 12) := by show _ = _; rw [HFIN.out.2, if_pos hz]
                  have HGL : Hid (canList D rs wrong hn = []) := by show _ = _; rw [HFIN.out.1]; exact List.eq_nil_of_length_eq_zero hz
                  have dz : (((canTo D rs wrong hn N).length : Int) == 0) = true := by rw [beq_iff_eq]; omega
                  clear hz
                  gi_wp2
                  all_goals exact bodyPost_ret (v := .tuple #[.slice none 0 0, .int .i64 12]) (results_tmp2 (fn := Try.f24) (t := 8) (u := 9) rfl _ _ _) rfl ⟨_, by rw [HG.out], HX.out.trans (HX4.out.trans HJ.out.1), by rw [HGL.out]; exact Row.nil _ _ _⟩
                · have HG : Hid (canErr D rs wrong hn = 0) := by show _ = _; rw [HFIN.out.2, if_neg hz]
                  have dz : (((canTo D rs wrong hn N).length : Int) == 0) = false := by rw [beq_eq_false_iff_ne]; omega
                  clear hz
                  gi_wp2
                  all_goals exact bodyPost_ret (v := .tuple #[.slice va (canTo D rs wrong hn N).length vc, .int .i64 0]) (results_tmp2 (fn := Try.f24) (t := 8) (u := 9) rfl _ _ _) rfl ⟨_, by rw [HG.out], HX.out.trans (HX4.out.trans HJ.out.1), by rw [HFIN.out.1]; exact HJ.out.2.1⟩

set_option maxRecDepth 100000 in
set_option maxHeartbeats 8000000 in
theorem ShoalCans_any (D : SeaD) (rs : List Rep) (n0 n1 : Int) (v0 : Value) (w : World) (h0 : SearchAt w v0 D rs) :
    Cal 4 #[v0, .agg #[.int .i64 n0, .int .i64 n1]] w fun e w' => e = .returned (.bool true) ∧ Ext w w' := by
  obtain ⟨lv, dv, rv, rfl, hl, hd, hr⟩ := h0
  have hx : Ext w ((w.alloc (.cells #[.int .i64 D.wide, .int .i64 D.high, lv, .int .i64 D.hours, dv, .int .i64 D.speed, rv] 28)).alloc (.cells #[.int .i64 n0, .int .i64 n1] 38)) := ((Ext.refl w).alloc _).alloc _
  have hb1 : ((w.alloc (.cells #[.int .i64 D.wide, .int .i64 D.high, lv, .int .i64 D.hours, dv, .int .i64 D.speed, rv] 28)).alloc (.cells #[.int .i64 n0, .int .i64 n1] 38)).heap[w.heap.size]? = some (.cells #[.int .i64 D.wide, .int .i64 D.high, lv, .int .i64 D.hours, dv, .int .i64 D.speed, rv] 28 (0, 0)) := two_new
  have hb2 : ((w.alloc (.cells #[.int .i64 D.wide, .int .i64 D.high, lv, .int .i64 D.hours, dv, .int .i64 D.speed, rv] 28)).alloc (.cells #[.int .i64 n0, .int .i64 n1] 38)).heap[w.heap.size + 1]? = some (.cells #[.int .i64 n0, .int .i64 n1] 38 (0, 0)) := by
    have := Ext.new (w := w.alloc (.cells #[.int .i64 D.wide, .int .i64 D.high, lv, .int .i64 D.hours, dv, .int .i64 D.speed, rv] 28)) (o := .cells #[.int .i64 n0, .int .i64 n1] 38) (Ext.refl _)
    simpa using this
  have HL := hid (hl.mono hx)
  have HD := hid (hd.mono hx)
  have HR := hid (hr.mono hx)
  have HX := hid hx
  have HB1 := hid hb1
  have HB2 := hid hb2
  clear hl hd hr hx hb1 hb2
  gi_enter Try.func4, Try.ntmps4
  gi_wp2_with fail
  generalize (w.alloc (.cells #[.int .i64 D.wide, .int .i64 D.high, lv, .int .i64 D.hours, dv, .int .i64 D.speed, rv] 28)).alloc (.cells #[.int .i64 n0, .int .i64 n1] 38) = w0 at *
  have HC1 := hid (Can_any D lv dv rv rs n0 n1 w0 HL.out HD.out HR.out)
  have HC2 := hid fun (e : World) (hx : Ext w0 e) => can_ref D lv dv rv rs n0 n1 e (HL.out.mono hx) (HD.out.mono hx) (HR.out.mono hx)
  have HCB := hid fun (e : World) (hx : Ext w0 e) => And.intro (cell_of (hx.block HB1.out)) (cell_of (hx.block HB2.out))
  rw [seaVal] at HC1 HC2
  have hlen : (canList D rs n0 n1).length ≤ 1000 := by
    unfold canList
    split
    · simp
    · rename_i ha
      have hsb : seaB D = true := by
        cases h : seaB D with
        | true => rfl
        | false => unfold askErr at ha; rw [if_pos h] at ha; exact absurd (by decide) ha
      have := canF_len D hsb rs n0 n1.toNat
      omega
  generalize canList D rs n0 n1 = lc at *
  generalize canErr D rs n0 n1 = ec at *
  gi_wp2_with (first | (gi_at_call 23; ((with_reducible refine HC1.out.mono ?_); rintro e w1 ⟨v1, rfl, hx1, hv1⟩; obtain ⟨a1, c1, rfl⟩ := hv1.out.isSliceN; have hcb1 := HCB.out w1 hx1; have HC22 := hid (HC2.out w1 hx1))) | (gi_at_call 24; ((with_reducible refine HC22.out.mono ?_); rintro e w2 ⟨v2, rfl, hx2, hv2⟩; obtain ⟨a2, c2, rfl⟩ := hv2.out.isSliceN; have HSM := hid (same_ref (.slice a1 lc.length c1) (.slice a2 lc.length c2) (intsOf lc) w2 ((hv1.out.mono hx2).ints (by omega)) (hv2.out.ints (by omega))))) | (gi_at_call 21; ((with_reducible refine HSM.out.mono ?_); rintro e w3 ⟨rfl, hx3⟩)) | (gi_at_call 22; ((with_reducible refine (works_any _).mono ?_); rintro e wz ⟨rfl, hxz⟩)))
  all_goals first | exact (undefNo (by assumption)).elim | (go_ret; exact ⟨rfl, HX.out.trans (hx1.trans (hx2.trans (hx3.trans hxz)))⟩)
end Go.Proofs.Ytlgcnjcbmihefaa
