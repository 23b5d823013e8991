/- ShoalHolds: its walk. -/
import Derived.Test.YtlgcnjcbmihefaaXY
set_option linter.unusedSimpArgs false
set_option linter.unusedVariables false
namespace Go.Proofs.Ytlgcnjcbmihefaa
open Go Go.RowKit Go.Shelf

/-- Whether a report is false of a track. -/
def falseP (D : SeaD) (tr : List Int) (r : Rep) : Bool := !repTrue r (col (seaOf D) r.cell) (row (seaOf D) r.cell) (col (seaOf D) (tr.getD r.hour.toNat 0)) (row (seaOf D) (tr.getD r.hour.toNat 0))
/-- All that is true of the chosen track, if it is whole. -/
theorem holds_facts {D : SeaD} {rs : List Rep} (hs : soundB D rs = true) {t : List Nat} (hl : (t.length : Int) = D.hours) (hlt : ∀ c ∈ t, c < (D.wide * D.high).toNat) (hg : ∀ k, k < t.length → isOpen D.land (t.getD k 0) = true ∧ (k ≠ 0 → linkP D (k - 1) (t.getD (k - 1) 0) (t.getD k 0))) :
    isTrackRes D rs (intsOf t) = .tuple #[.int .i64 (rs.countP (falseP D (intsOf t)) : Nat), .bool true, .int .i64 0] ∧ leastErr D rs = 0 ∧ leastN D rs ≤ (rs.countP (falseP D (intsOf t)) : Nat) ∧
    ∀ k (h : k < t.length), canErr D rs (rs.countP (falseP D (intsOf t)) : Nat) k = 0 ∧ canList D rs (rs.countP (falseP D (intsOf t)) : Nat) k = canF D rs (rs.countP (falseP D (intsOf t)) : Nat) k ∧ t[k] ∈ canF D rs (rs.countP (falseP D (intsOf t)) : Nat) k := by
  unfold soundB at hs
  rw [Bool.and_eq_true] at hs
  have hbd := sea_bounds hs.1
  have hh := inB_spec hbd.2.2.1
  have h80 := seaB_80 hs.1
  have hro := reps_ok hs.1 hs.2
  have hlH : t.length = D.hours.toNat := by omega
  have htr := track_of hl hlt hg
  have hway := way_of hlH hlt hg
  have hall := untrueTo_all (D := D) (intsOf t) D.hours.toNat rs (fun r hr => ⟨(hro.2 r hr).2.1, by have := (hro.2 r hr).2.2; omega⟩)
  have hcost : costW D rs (fun i => t.getD i 0) = (rs.countP (falseP D (intsOf t)) : Nat) := by
    unfold costW
    have := cost_of (rs := rs) (t := t) (fun k hk => hway.1 k (Nat.zero_le _) (by omega)) t.length (Nat.le_refl _)
    rw [← hlH, this, hlH, hall]
    rfl
  have hn24 : rs.countP (falseP D (intsOf t)) ≤ 24 := Nat.le_trans List.countP_le_length hro.1
  generalize hN : rs.countP (falseP D (intsOf t)) = n at *
  have hfe := fewest_le hro.1 h80 (by omega) hway (n := (n : Int)) (by omega) (by omega)
  have hle0 : leastErr D rs = 0 := by unfold leastErr; rw [if_neg (by rw [hs.1]; simp), if_neg (by rw [hs.2]; simp), if_neg (by omega)]
  refine ⟨?_, hle0, ?_, fun k hk => ?_⟩
  · unfold isTrackRes
    rw [if_neg (by rw [hs.1]; simp), if_neg (by rw [hs.2]; simp), if_neg (by rw [htr]; simp), intsOf_length, hlH, hall, ← hN]
    rfl
  · unfold leastN; rw [if_neg (by rw [hle0]; simp)]; exact hfe
  · have hask : askErr D rs n k = 0 := by
      have i1 : inB (n : Int) 0 24 = true := by unfold inB; rw [Bool.and_eq_true, decide_eq_true_eq, decide_eq_true_eq]; omega
      have i2 : inB (k : Int) 0 (D.hours - 1) = true := by unfold inB; rw [Bool.and_eq_true, decide_eq_true_eq, decide_eq_true_eq]; omega
      unfold askErr; rw [if_neg (by rw [hs.1]; simp), if_neg (by rw [hs.2]; simp), if_neg (by rw [i1, i2]; simp)]
    have ho := hway.1 k (Nat.zero_le _) (by omega)
    simp only at ho
    rw [getD_of hk] at ho
    have hmem : t[k] ∈ canF D rs n k := List.mem_filter.mpr ⟨ho, (can_way hro.1 (by omega) ho (by omega)).mpr ⟨_, hway, getD_of hk, by omega⟩⟩
    refine ⟨?_, ?_, hmem⟩
    · unfold canErr
      rw [if_neg (by rw [hask]; simp), Int.toNat_natCast, if_neg (fun e => by rw [List.eq_nil_of_length_eq_zero e] at hmem; cases hmem)]
    · unfold canList
      rw [if_neg (by rw [hask]; simp), Int.toNat_natCast]

set_option maxRecDepth 100000 in
set_option maxHeartbeats 4000000 in
theorem ShoalHolds_any (D : SeaD) (rs : List Rep) (bits : List Int) (v0 v1 : Value) (w : World) (h0 : SearchAt w v0 D rs) (h1 : IntsAt w v1 bits) :
    Cal 7 #[v0, v1] w fun e w' => e = .returned (.bool true) ∧ Ext w w' := by
  obtain ⟨lv, dv, rv, rfl, hl, hd, hr⟩ := h0
  have hx : Ext w (w.alloc (.cells #[.int .i64 D.wide, .int .i64 D.high, lv, .int .i64 D.hours, dv, .int .i64 D.speed, rv] 28)) := (Ext.refl w).alloc _
  have hb1 : (w.alloc (.cells #[.int .i64 D.wide, .int .i64 D.high, lv, .int .i64 D.hours, dv, .int .i64 D.speed, rv] 28)).heap[w.heap.size]? = some (.cells #[.int .i64 D.wide, .int .i64 D.high, lv, .int .i64 D.hours, dv, .int .i64 D.speed, rv] 28 (0, 0)) := Ext.new (Ext.refl _)
  have HSND := hid (sound_any D rs _ _ ⟨lv, dv, rv, rfl, hl.mono hx, hd.mono hx, hr.mono hx⟩)
  have HL := hid (hl.mono hx)
  have HD := hid (hd.mono hx)
  have HR := hid (hr.mono hx)
  have HBT := hid (h1.mono hx)
  have HX := hid hx
  have HB1 := hid hb1
  clear hl hd hr hx hb1 h1
  gi_enter Try.func7, Try.ntmps7
  gi_wp2_with fail
  generalize w.alloc (.cells #[.int .i64 D.wide, .int .i64 D.high, lv, .int .i64 D.hours, dv, .int .i64 D.speed, rv] 28) = w0 at *
  cases hsb : soundB D rs with
  | false =>
    rw [hsb] at HSND
    gi_wp2_with (first | (gi_at_call 31; ((with_reducible refine HSND.out.mono ?_); rintro e w1 ⟨rfl, hx1⟩)) | (gi_at_call 22; ((with_reducible refine (works_any _).mono ?_); rintro e w2 ⟨rfl, hx2⟩)))
    go_ret
    exact ⟨rfl, HX.out.trans (hx1.trans hx2)⟩
  | true =>
    rw [hsb] at HSND
    have hsb2 := hsb
    unfold soundB at hsb2
    rw [Bool.and_eq_true] at hsb2
    have hbd := sea_bounds hsb2.1
    have hww := inB_spec hbd.1
    have hwh := inB_spec hbd.2.1
    have hhh := inB_spec hbd.2.2.1
    have hspd := inB_spec hbd.2.2.2.1
    have h80 := seaB_80 hsb2.1
    have hmul : 1 ≤ D.wide * D.high := Int.mul_pos (by omega) (by omega)
    have HRO := hid (reps_ok hsb2.1 hsb2.2)
    obtain ⟨N, hN⟩ : ∃ N : Nat, D.wide * D.high = N := ⟨(D.wide * D.high).toNat, by omega⟩
    have HSB := hid hsb2
    have hln := swumTo_len D bits D.hours.toNat
    have HTLT := hid (swumTo_lt D bits D.hours.toNat)
    have HG := hid (swumTo_good (D := D) (by omega) bits D.hours.toNat)
    have HSW := hid fun (e : World) (hx : Ext w0 e) => swum_any D bits lv dv v1 e hsb2.1 (HL.out.mono hx) (HD.out.mono hx) (HBT.out.mono hx)
    rw [seaVal] at HSW
    have HS := hid hsb
    clear hsb hsb2 hbd
    generalize swumTo D bits D.hours.toNat = t at *
    have A31 := hid fun (e : World) (hx : Ext w0 e) => cell_of (hx.block HB1.out)
    by_cases hlen : (t.length : Int) < D.hours
    · have HTR : Hid (isTrackRes D rs (intsOf t) = .tuple #[.int .i64 0, .bool false, .int .i64 0]) := by
        show _ = _
        have htb : trackB (seaOf D) D.land D.speed.toNat D.drift (intsOf t) = false := by
          unfold trackB
          rw [decide_eq_false (by rw [intsOf_length]; show ¬ (t.length : Int) = D.hours; omega), Bool.false_and]
        unfold isTrackRes
        rw [if_neg (by rw [HSB.out.1]; simp), if_neg (by rw [HSB.out.2]; simp), if_pos htb]
      have hdl : decide ((t.length : Int) < D.hours) = true := decide_eq_true hlen
      gi_wp2_with (first | (gi_at_call 31; ((with_reducible refine HSND.out.mono ?_); rintro e w1 ⟨rfl, hx1⟩; have hcb1 := A31.out w1 hx1)) | (gi_at_call 32; ((with_reducible refine (HSW.out w1 hx1).mono ?_); rintro e w2 ⟨v2, rfl, hx2, hv2⟩; obtain ⟨a2, c2, rfl⟩ := hv2.out.isSliceN; have hcb2 := A31.out w2 (hx1.trans hx2); have HIT := hid (IsTrack_any D lv dv rv _ rs (intsOf t) w2 (HL.out.mono (hx1.trans hx2)) (HD.out.mono (hx1.trans hx2)) (HR.out.mono (hx1.trans hx2)) (hv2.out.ints (by omega))); rw [seaVal, HTR.out] at HIT)) | (gi_at_call 15; ((with_reducible refine HIT.out.mono ?_); rintro e w3 ⟨rfl, hx3⟩)) | (gi_at_call 22; ((with_reducible refine (works_any _).mono ?_); rintro e w4 ⟨rfl, hx4⟩)))
      go_ret
      exact ⟨rfl, HX.out.trans (hx1.trans (hx2.trans (hx3.trans hx4)))⟩
    · have hlH : (t.length : Int) = D.hours := by omega
      have hdl : decide ((t.length : Int) < D.hours) = false := decide_eq_false hlen
      have HF := hid (holds_facts HS.out hlH HTLT.out HG.out)
      have hn24 : rs.countP (falseP D (intsOf t)) ≤ 24 := Nat.le_trans List.countP_le_length HRO.out.1
      have hr24 := HRO.out.1
      have hlHH := hid hlH
      clear hlH hlen hln
      gi_wp2_with (first | (gi_at_call 31; ((with_reducible refine HSND.out.mono ?_); rintro e w1 ⟨rfl, hx1⟩; have hcb1 := A31.out w1 hx1)) | (gi_at_call 32; ((with_reducible refine (HSW.out w1 hx1).mono ?_); rintro e w2 ⟨v2, rfl, hx2, hv2⟩; obtain ⟨a2, c2, rfl⟩ := hv2.out.isSliceN; have hcb2 := A31.out w2 (hx1.trans hx2))))
      have HX2 := hid (hx1.trans hx2)
      have HV2 := hid hv2.out
      clear hx1 hx2 hv2 hcb1 hcb2 HSW HSND
      obtain ⟨ra, rcap, rfl, hrl, hrc⟩ := HR.out
      have HRC := hid hrc
      clear hrc
      have hti : t.length ≤ 1000 := by have := hlHH.out; omega
      gi_loopw [9, 10] (fun m i wr => ∃ k : Nat, k ≤ rs.length ∧ m = .int .i64 ((rs.take k).countP (falseP D (intsOf t)) : Nat) ∧ i = .int .i64 k ∧ Ext w2 wr) (fun _ i _ => rs.length - (intOf i).toNat)
      case atStart => exact ⟨0, Nat.zero_le _, rfl, rfl, Ext.refl _⟩
      case round =>
        obtain ⟨k, hk, rfl, rfl, hxk⟩ := hrel
        have hcb := A31.out wr (HX2.out.trans hxk)
        by_cases hlt : k < rs.length
        · obtain ⟨rb, off, rfl, hrb, hc0, hc1, hc2, hc3⟩ := HRC.out k hlt
          have hct := countP_take (falseP D (intsOf t)) rs k hlt
          have hro := HRO.out.2 rs[k] (List.getElem_mem _)
          have hcl : (rs.take k).countP (falseP D (intsOf t)) ≤ 24 := Nat.le_trans List.countP_le_length (Nat.le_trans (List.length_take_le' _ _) hr24)
          have HTOLD := hid fun e : Later wr => told_any D lv dv (.slice a2 t.length c2) rs[k] (intsOf t) e.val hww ((HV2.out.mono (hxk.trans e.grown)).ints (by omega)) hro.2.1 (by rw [intsOf_length]; have := hro.2.2; have := hlHH.out; omega) hro.1 (fun c hc => by obtain ⟨d, hd, rfl⟩ := List.mem_map.mp hc; have := HTLT.out d hd; omega)
          rw [seaVal] at HTOLD
          have hxe := fun e : Later wr => HX2.out.trans (hxk.trans e.grown)
          have HC := hid fun e : Later wr => And.intro (A31.out e.val (hxe e)) (And.intro (((hxe e).cell (p := ⟨rb, _, none⟩) hrb).trans hc0) (And.intro (((hxe e).cell (p := ⟨rb, _, none⟩) hrb).trans hc1) (And.intro (((hxe e).cell (p := ⟨rb, _, none⟩) hrb).trans hc2) (((hxe e).cell (p := ⟨rb, _, none⟩) hrb).trans hc3))))
          have HXK := hid hxk
          have hfp : falseP D (intsOf t) rs[k] = !repTrue rs[k] (col (seaOf D) rs[k].cell) (row (seaOf D) rs[k].cell) (col (seaOf D) ((intsOf t).getD rs[k].hour.toNat 0)) (row (seaOf D) ((intsOf t).getD rs[k].hour.toNat 0)) := rfl
          rw [hfp] at hct
          have HCT := hid hct
          clear hfp hct hxe hxk hc0 hc1 hc2 hc3 hrb hro
          generalize repTrue rs[k] (col (seaOf D) rs[k].cell) (row (seaOf D) rs[k].cell) (col (seaOf D) ((intsOf t).getD rs[k].hour.toNat 0)) (row (seaOf D) ((intsOf t).getD rs[k].hour.toNat 0)) = bb at *
          cases bb with
          | true =>
            have HCT2 : Hid ((rs.take (k + 1)).countP (falseP D (intsOf t)) = (rs.take k).countP (falseP D (intsOf t))) := by
              show _ = _
              rw [HCT.out]; simp
            clear HCT
            generalize (rs.take k).countP (falseP D (intsOf t)) = cnt at *
            gi_wp2_with fail
            refine quiet_wide 10 (by kernel_rfl) (by kernel_rfl) ?_
            simp only [List.take_succ_cons, List.take_zero, List.drop_succ_cons, List.drop_zero]
            have q1 := HC.out
            repeat (any_goals (first | go_big_quiet_step ((go_at_call 33; with_reducible exact Cal.quiet (HTOLD.out _))) | quiet_step ((go_at_call 33; with_reducible exact Cal.quiet (HTOLD.out _)))))
            refine wpQuiet_nil ?_
            rintro w5 ⟨⟨_, hx5⟩, rfl⟩
            clear q1 HC HTOLD
            gi_wp2
            go_roundw
            case rel => exact ⟨k + 1, by omega, by first | (rw [HCT2.out]; done) | (rw [HCT2.out]; go_num), by go_num, HXK.out.trans hx5⟩
            case measure => simp [intOf]; omega
          | false =>
            have HCT2 : Hid ((rs.take (k + 1)).countP (falseP D (intsOf t)) = (rs.take k).countP (falseP D (intsOf t)) + 1) := by
              show _ = _
              rw [HCT.out]; simp
            clear HCT
            generalize (rs.take k).countP (falseP D (intsOf t)) = cnt at *
            gi_wp2_with fail
            refine quiet_wide 10 (by kernel_rfl) (by kernel_rfl) ?_
            simp only [List.take_succ_cons, List.take_zero, List.drop_succ_cons, List.drop_zero]
            have q1 := HC.out
            repeat (any_goals (first | go_big_quiet_step ((go_at_call 33; with_reducible exact Cal.quiet (HTOLD.out _))) | quiet_step ((go_at_call 33; with_reducible exact Cal.quiet (HTOLD.out _)))))
            refine wpQuiet_nil ?_
            rintro w5 ⟨⟨_, hx5⟩, rfl⟩
            clear q1 HC HTOLD
            gi_wp2
            go_roundw
            case rel => exact ⟨k + 1, by omega, by first | (rw [HCT2.out]; done) | (rw [HCT2.out]; go_num), by go_num, HXK.out.trans hx5⟩
            case measure => simp [intOf]; omega
        · obtain rfl : k = rs.length := by omega
          rw [List.take_length]
          have HF1 := hid HF.out.1
          have HF2 := hid HF.out.2.1
          have hF3 := HF.out.2.2.1
          have HF4 := hid HF.out.2.2.2
          clear HF HRC
          generalize rs.countP (falseP D (intsOf t)) = n at *
          have hgt : decide ((n : Int) < leastN D rs) = false := by rw [decide_eq_false_iff_not]; omega
          have hnn : ((n : Int) != (n : Int)) = false := by simp
          have HIT := hid (IsTrack_any D lv dv _ _ rs (intsOf t) wr (HL.out.mono (HX2.out.trans hxk)) (HD.out.mono (HX2.out.trans hxk)) (HR.out.mono (HX2.out.trans hxk)) ((HV2.out.mono hxk).ints (by omega)))
          rw [seaVal, HF1.out] at HIT
          have HLS := hid fun (e : World) (hx : Ext wr e) => Least_any D lv dv _ rs e (HL.out.mono (HX2.out.trans (hxk.trans hx))) (HD.out.mono (HX2.out.trans (hxk.trans hx))) (HR.out.mono (HX2.out.trans (hxk.trans hx)))
          rw [seaVal, HF2.out] at HLS
          have HXK := hid hxk
          clear hxk
          gi_wp2_with (first | (gi_at_call 15; ((with_reducible refine HIT.out.mono ?_); rintro e w3 ⟨rfl, hx3⟩; have hcb3 := A31.out w3 (HX2.out.trans (HXK.out.trans hx3)))) | (gi_at_call 19; ((with_reducible refine (HLS.out w3 hx3).mono ?_); rintro e w4 ⟨v4, rfl, hx4, hv4⟩)))
          have HX4 := hid (HX2.out.trans (HXK.out.trans (hx3.trans hx4)))
          have HXV := hid (HXK.out.trans (hx3.trans hx4))
          clear hx3 hx4 hcb3 hv4 hcb
          obtain ⟨a2', c2', he2, hn2⟩ := HV2.out.nats
          cases he2
          have HN2 := hid hn2
          clear hn2
          gi_loopw [17] (fun i u => ∃ k : Nat, k ≤ t.length ∧ i = .int .i64 k ∧ Ext w4 u) (fun i _ => t.length - (intOf i).toNat)
          case atStart => exact ⟨0, Nat.zero_le _, rfl, Ext.refl _⟩
          case round =>
            obtain ⟨k, hk, rfl, hxk⟩ := hrel
            have hcb := A31.out wr (HX4.out.trans hxk)
            by_cases hlt : k < t.length
            · obtain ⟨g, rfl, hgl, hgc⟩ := HN2.out k hlt
              have hkk := HF4.out k hlt
              have HCN := hid (Can_any D lv dv _ rs n k wr (HL.out.mono (HX4.out.trans hxk)) (HD.out.mono (HX4.out.trans hxk)) (HR.out.mono (HX4.out.trans hxk)))
              rw [seaVal, hkk.1, hkk.2.1] at HCN
              have hris := canF_rises D rs n k
              have hmem := hkk.2.2
              have hlen80 := canF_len D HSB.out.1 rs n k
              have HCT := hid fun (e : World) (hx : Ext wr e) => ((HXV.out.trans (hxk.trans hx)).cell (p := ⟨g, k, none⟩) hgl).trans hgc
              rw [hN, Int.toNat_natCast] at hris
              have HRIS := hid hris
              have hpl0 : 0 ≤ placeI (intsOf (canF D rs n k)) (t[k] : Nat) := placeI_mem.mpr (List.mem_map.mpr ⟨_, hmem, rfl⟩)
              have hpl : decide (placeI (intsOf (canF D rs n k)) (t[k] : Nat) < 0) = false := by rw [decide_eq_false_iff_not]; omega
              have HXK2 := hid hxk
              clear hkk hmem hris hgl hgc hxk hpl0
              generalize canF D rs n k = l at *
              generalize t[k] = x at *
              have HPL := hid fun (v : Value) (e : World) (h : IntsAt e v (intsOf l)) => Place_any v (intsOf l) (x : Nat) e h
              generalize placeI (intsOf l) (x : Nat) = r at *
              gi_wp2_with (first | (gi_at_call 23; ((with_reducible refine HCN.out.mono ?_); rintro e w5 ⟨v5, rfl, hx5, hv5⟩; have hct5 := HCT.out w5 hx5; have hiv := hid (hv5.out.ints (by omega)))) | (gi_at_call 34; ((with_reducible refine (HPL.out _ _ hiv.out).mono ?_); rintro e w6 ⟨rfl, hx6⟩; have hcb6 := A31.out w6 (HX4.out.trans (HXK2.out.trans (hx5.trans hx6))); have HRI := hid (Rising_any v5 l N w6 (hv5.out.nats.mono hx6) HRIS.out (by omega)))) | (gi_at_call 35; ((with_reducible refine HRI.out.mono ?_); rintro e w7 ⟨rfl, hx7⟩)))
              go_roundw
              case rel => exact ⟨k + 1, by omega, by go_num, HXK2.out.trans (hx5.trans (hx6.trans hx7))⟩
              case measure => simp [intOf]; omega
            · obtain rfl : k = t.length := by omega
              gi_wp2_with (gi_at_call 22; ((with_reducible refine (works_any _).mono ?_); rintro e w8 ⟨rfl, hx8⟩))
              go_ret
              exact ⟨rfl, HX.out.trans (HX4.out.trans (hxk.trans hx8))⟩
end Go.Proofs.Ytlgcnjcbmihefaa
