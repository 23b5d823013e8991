/- ShoalFirst: its walk. -/
import Derived.Test.YtlgcnjcbmihefaaYB
import Derived.Test.YtlgcnjcbmihefaaXS
set_option linter.unusedSimpArgs false
set_option linter.unusedVariables false
namespace Go.Proofs.Ytlgcnjcbmihefaa
open Go Go.RowKit Go.Shelf

theorem minL_top : ∀ (xs : List Int) (x : Int), minL x xs ≤ x
  | [], x => Int.le_refl _
  | z :: zs, x => by
    have := minL_top zs (if z < x then z else x)
    show minL (if z < x then z else x) zs ≤ x
    split at this <;> split <;> omega
theorem cost_count {D : SeaD} {rs : List Rep} (hr : ∀ r ∈ rs, 0 ≤ r.hour ∧ r.hour < D.hours) {t : List Nat} (hlH : t.length = D.hours.toNat) (ho : ∀ k, k < t.length → openC D (t.getD k 0)) : costW D rs (fun i => t.getD i 0) = (rs.countP (falseP D (intsOf t)) : Nat) ∧ untrueTo D rs (intsOf t) D.hours.toNat = rs.countP (falseP D (intsOf t)) := by
  have hall := untrueTo_all (D := D) (intsOf t) D.hours.toNat rs (fun r h => ⟨(hr r h).1, by have := (hr r h).2; omega⟩)
  refine ⟨?_, hall⟩
  have := cost_of (rs := rs) (t := t) ho t.length (Nat.le_refl _)
  unfold costW
  rw [← hlH, this, hlH, hall]
  rfl
/-- All that is true of the first track. -/
theorem first_facts {D : SeaD} {rs : List Rep} (he : leastErr D rs = 0) : soundB D rs = true ∧ ((leastTr D rs).length : Int) = D.hours ∧ isTrackRes D rs (intsOf (leastTr D rs)) = .tuple #[.int .i64 (leastN D rs), .bool true, .int .i64 0] ∧
    ∀ t : List Nat, (t.length : Int) = D.hours → (∀ c ∈ t, c < (D.wide * D.high).toNat) → (∀ k, k < t.length → isOpen D.land (t.getD k 0) = true ∧ (k ≠ 0 → linkP D (k - 1) (t.getD (k - 1) 0) (t.getD k 0))) →
      isTrackRes D rs (intsOf t) = .tuple #[.int .i64 (rs.countP (falseP D (intsOf t)) : Nat), .bool true, .int .i64 0] ∧ leastN D rs ≤ (rs.countP (falseP D (intsOf t)) : Nat) ∧ ((rs.countP (falseP D (intsOf t)) : Nat) = leastN D rs → befL t (leastTr D rs) = false) := by
  have hsb : seaB D = true := by
    cases h : seaB D with
    | true => rfl
    | false => unfold leastErr at he; rw [if_pos h] at he; cases he
  have hrb : repsB D.hours (D.wide * D.high) rs = true := by
    cases h : repsB D.hours (D.wide * D.high) rs with
    | true => rfl
    | false => unfold leastErr at he; rw [if_neg (by rw [hsb]; simp), if_pos h] at he; cases he
  have hne : fewestF D rs ≠ 25 := fun h => by
    unfold leastErr at he; rw [if_neg (by rw [hsb]; simp), if_neg (by rw [hrb]; simp), if_pos h] at he; cases he
  have hS : soundB D rs = true := by unfold soundB; rw [hsb, hrb]; rfl
  have hbd := sea_bounds hsb
  have hh := inB_spec hbd.2.2.1
  have h80 := seaB_80 hsb
  have hro := reps_ok hsb hrb
  have htop : fewestF D rs ≤ 25 := minL_top _ _
  have hF : fewestF D rs < 25 := by omega
  have hN : leastN D rs = fewestF D rs := by unfold leastN; rw [if_neg (by rw [he]; simp)]
  have hTr : leastTr D rs = (firstTo D rs (fewestF D rs) D.hours.toNat).1 := by unfold leastTr; rw [if_neg (by rw [he]; simp)]
  have ok := first_ok hro.1 h80 (by omega) hF D.hours.toNat (Nat.le_refl _)
  rw [hTr, hN]
  generalize (firstTo D rs (fewestF D rs) D.hours.toNat) = s at *
  obtain ⟨T, hT, hTe, hTc⟩ := ok.way
  have hl := ok.len
  have hlI : (s.1.length : Int) = D.hours := by omega
  have hopen : ∀ k, k < s.1.length → openC D (s.1.getD k 0) := fun k hk => by rw [← hTe k (by omega)]; exact hT.1 k (Nat.zero_le _) (by omega)
  have hlt : ∀ c ∈ s.1, c < (D.wide * D.high).toNat := fun c hc => by
    obtain ⟨j, hj, rfl⟩ := List.getElem_of_mem hc
    have := hopen j hj
    rw [getD_of hj] at this
    exact opens_lt this
  have hg : ∀ k, k < s.1.length → isOpen D.land (s.1.getD k 0) = true ∧ (k ≠ 0 → linkP D (k - 1) (s.1.getD (k - 1) 0) (s.1.getD k 0)) := fun k hk => by
    refine ⟨(List.mem_filter.1 (hopen k hk)).2, fun h0 => ?_⟩
    have := hT.2 (k - 1) (Nat.zero_le _) (by omega)
    rw [show k - 1 + 1 = k by omega, hTe (k - 1) (by omega), hTe k (by omega)] at this
    exact this
  have htr := track_of hlI hlt hg
  have hway := way_of hl hlt hg
  have hcc := cost_count (rs := rs) (fun r hr => (hro.2 r hr).2) hl hopen
  have hceq : costW D rs (fun i => s.1.getD i 0) = costW D rs T := sumTo_congr _ (fun i hi => by rw [hTe i hi])
  have hmin := fewest_le hro.1 h80 (by omega) hway (n := costW D rs (fun i => s.1.getD i 0)) (by omega) (Int.le_refl _)
  refine ⟨hS, hlI, ?_, fun t htl htlt htg => ?_⟩
  · unfold isTrackRes
    rw [if_neg (by rw [hsb]; simp), if_neg (by rw [hrb]; simp), if_neg (by rw [htr]; simp), intsOf_length, hl, hcc.2]
    have : ((rs.countP (falseP D (intsOf s.1)) : Nat) : Int) = fewestF D rs := by omega
    rw [this]
  · have hf := holds_facts hS htl htlt htg
    have hw2 := way_of (by omega) htlt htg
    have hc2 := cost_count (rs := rs) (fun r hr => (hro.2 r hr).2) (show t.length = D.hours.toNat by omega) (fun k hk => hw2.1 k (Nat.zero_le _) (by omega))
    have hf3 := hf.2.2.1
    rw [hN] at hf3
    refine ⟨hf.1, hf3, fun e => ?_⟩
    have := ok.first _ hw2 (by rw [hc2.1]; omega)
    have hlist : (List.range D.hours.toNat).map (fun i => t.getD i 0) = t := by
      refine List.ext_getElem (by rw [List.length_map, List.length_range]; omega) (fun i h1 h2 => ?_)
      rw [List.getElem_map, List.getElem_range, getD_of h2]
    rw [hlist] at this
    exact this

set_option maxRecDepth 100000 in
set_option maxHeartbeats 4000000 in
theorem ShoalFirst_any (D : SeaD) (rs : List Rep) (bits : List Int) (v0 v1 : Value) (w : World) (h0 : SearchAt w v0 D rs) (h1 : IntsAt w v1 bits) :
    Cal 8 #[v0, v1] w fun e w' => e = .returned (.bool true) ∧ Ext w w' := by
  obtain ⟨lv, dv, rv, rfl, hl, hd, hr⟩ := h0
  have hx : Ext w (w.alloc (.cells #[.int .i64 D.wide, .int .i64 D.high, lv, .int .i64 D.hours, dv, .int .i64 D.speed, rv] 28)) := (Ext.refl w).alloc _
  have hb1 : (w.alloc (.cells #[.int .i64 D.wide, .int .i64 D.high, lv, .int .i64 D.hours, dv, .int .i64 D.speed, rv] 28)).heap[w.heap.size]? = some (.cells #[.int .i64 D.wide, .int .i64 D.high, lv, .int .i64 D.hours, dv, .int .i64 D.speed, rv] 28 (0, 0)) := Ext.new (Ext.refl _)
  have HL := hid (hl.mono hx)
  have HD := hid (hd.mono hx)
  have HR := hid (hr.mono hx)
  have HBT := hid (h1.mono hx)
  have HX := hid hx
  have HB1 := hid hb1
  clear hl hd hr hx hb1 h1
  gi_enter Try.func8, Try.ntmps8
  gi_wp2_with fail
  generalize w.alloc (.cells #[.int .i64 D.wide, .int .i64 D.high, lv, .int .i64 D.hours, dv, .int .i64 D.speed, rv] 28) = w0 at *
  have HLS := hid (Least_any D lv dv rv rs w0 HL.out HD.out HR.out)
  rw [seaVal] at HLS
  have A31 := hid fun (e : World) (hx : Ext w0 e) => cell_of (hx.block HB1.out)
  by_cases hE : leastErr D rs = 0
  rotate_left
  · have e1 : leastN D rs = 0 := by unfold leastN; rw [if_pos hE]
    have e2 : leastTr D rs = [] := by unfold leastTr; rw [if_pos hE]
    have hEb : (leastErr D rs != 0) = true := by simpa using hE
    rw [e1, e2] at HLS
    dsimp only [List.length_nil] at HLS
    clear e1 e2 hE
    generalize leastErr D rs = E at *
    gi_wp2_with (first | (gi_at_call 19; ((with_reducible refine HLS.out.mono ?_); rintro e w1 ⟨v1, rfl, hx1, hv1⟩; obtain ⟨a1, c1, rfl⟩ := hv1.out.isSliceN)) | (gi_at_call 22; ((with_reducible refine (works_any _).mono ?_); rintro e wz ⟨rfl, hxz⟩)))
    all_goals first | exact (undef_no (by assumption)).elim | (go_ret; exact ⟨rfl, HX.out.trans (hx1.trans hxz)⟩)
  · have HFF := hid (first_facts hE)
    have hS := HFF.out.1
    have hS2 := hS
    unfold soundB at hS2
    rw [Bool.and_eq_true] at hS2
    have HSB := hid hS2
    have hbd := sea_bounds hS2.1
    have hhh := inB_spec hbd.2.2.1
    have hspd := inB_spec hbd.2.2.2.1
    have HSND := hid fun (e : World) (hx : Ext w0 e) => sound_any D rs _ e ⟨lv, dv, rv, rfl, HL.out.mono hx, HD.out.mono hx, HR.out.mono hx⟩
    rw [hS] at HSND
    have HIT0 := hid fun (e : World) (hx : Ext w0 e) (v : Value) (h : IntsAt e v (intsOf (leastTr D rs))) => IsTrack_any D lv dv rv v rs _ e (HL.out.mono hx) (HD.out.mono hx) (HR.out.mono hx) h
    rw [seaVal, HFF.out.2.2.1] at HIT0
    have hln := swumTo_len D bits D.hours.toNat
    have HTLT := hid (swumTo_lt D bits D.hours.toNat)
    have HG := hid (swumTo_good (D := D) (by omega) bits D.hours.toNat)
    have HSW := hid fun (e : World) (hx : Ext w0 e) => swum_any D bits lv dv v1 e HSB.out.1 (HL.out.mono hx) (HD.out.mono hx) (HBT.out.mono hx)
    rw [seaVal] at HSW
    rw [hE] at HLS
    have hl0 := HFF.out.2.1
    have HFT := hid (HFF.out.2.2.2 (swumTo D bits D.hours.toNat))
    generalize swumTo D bits D.hours.toNat = t at *
    have HIT1 := hid fun (e : World) (hx : Ext w0 e) (v : Value) (h : IntsAt e v (intsOf t)) => IsTrack_any D lv dv rv v rs _ e (HL.out.mono hx) (HD.out.mono hx) (HR.out.mono hx) h
    rw [seaVal] at HIT1
    have hlb : (((leastTr D rs).length : Int) != D.hours) = false := by rw [bne_eq_false_iff_eq]; exact hl0
    clear hS hS2 hbd hE HFF
    generalize leastTr D rs = t0 at *
    generalize leastN D rs = n at *
    have hnn : (n != n) = false := by simp
    by_cases hlen : (t.length : Int) = D.hours
    · have hF := HFT.out hlen HTLT.out HG.out
      rw [hF.1] at HIT1
      have hle := hF.2.1
      have HBF := hid hF.2.2
      have hq : ((t.length : Int) == D.hours) = true := by rw [beq_iff_eq]; exact hlen
      have HLEN : Hid (t.length = t0.length) := by show t.length = t0.length; omega
      have ht0 : t0.length ≤ 1000 := by omega
      clear hF HFT
      generalize rs.countP (falseP D (intsOf t)) = m at *
      by_cases hmn : (m : Int) = n
      · have HBB := hid (HBF.out hmn)
        have d1 : decide (n < (m : Int)) = false := by rw [decide_eq_false_iff_not]; omega
        have d2 : ((m : Int) == n) = true := by rw [beq_iff_eq]; exact hmn
        have ht1 : t.length ≤ 1000 := by omega
        clear hmn HBF hlen hl0 hle
        gi_wp2_with (first | (gi_at_call 19; ((with_reducible refine HLS.out.mono ?_); rintro e w1 ⟨v1, rfl, hx1, hv1⟩; obtain ⟨a1, c1, rfl⟩ := hv1.out.isSliceN; have hcb1 := A31.out w1 hx1; have HSD := hid (HSND.out w1 hx1))) | (gi_at_call 31; ((with_reducible refine HSD.out.mono ?_); rintro e w2 ⟨rfl, hx2⟩; have hcb2 := A31.out w2 (hx1.trans hx2); have HI1 := hid (HIT0.out w2 (hx1.trans hx2) _ ((hv1.out.mono hx2).ints (by omega))))) | (gi_at_call 15; ((with_reducible refine HI1.out.mono ?_); rintro e w3 ⟨rfl, hx3⟩; have hcb3 := A31.out w3 (hx1.trans (hx2.trans hx3)); have HSU := hid (HSW.out w3 (hx1.trans (hx2.trans hx3))))) | (gi_at_call 32; ((with_reducible refine HSU.out.mono ?_); rintro e w4 ⟨v4, rfl, hx4, hv4⟩; obtain ⟨a4, c4, rfl⟩ := hv4.out.isSliceN; have hcb4 := A31.out w4 (hx1.trans (hx2.trans (hx3.trans hx4))); have HI2 := hid (HIT1.out w4 (hx1.trans (hx2.trans (hx3.trans hx4))) _ (hv4.out.ints (by omega))))) | (gi_at_call 15; ((with_reducible refine HI2.out.mono ?_); rintro e w5 ⟨rfl, hx5⟩; have hcb5 := A31.out w5 (hx1.trans (hx2.trans (hx3.trans (hx4.trans hx5)))); have HBE := hid (Before_any _ _ t t0 w5 (hv4.out.nats.mono hx5) (hv1.out.nats.mono (hx2.trans (hx3.trans (hx4.trans hx5)))) HLEN.out (by omega)); rw [HBB.out] at HBE)) | (gi_at_call 36; ((with_reducible refine HBE.out.mono ?_); rintro e w6 ⟨rfl, hx6⟩)) | (gi_at_call 22; ((with_reducible refine (works_any _).mono ?_); rintro e wz ⟨rfl, hxz⟩)))
        all_goals first | exact (undef_no (by assumption)).elim | (go_ret; exact ⟨rfl, HX.out.trans (hx1.trans (hx2.trans (hx3.trans (hx4.trans (hx5.trans (hx6.trans hxz))))))⟩)
      · have d1 : decide (n < (m : Int)) = true := by rw [decide_eq_true_eq]; omega
        have ht1 : t.length ≤ 1000 := by omega
        clear hmn HBF hlen hl0 hle
        gi_wp2_with (first | (gi_at_call 19; ((with_reducible refine HLS.out.mono ?_); rintro e w1 ⟨v1, rfl, hx1, hv1⟩; obtain ⟨a1, c1, rfl⟩ := hv1.out.isSliceN; have hcb1 := A31.out w1 hx1; have HSD := hid (HSND.out w1 hx1))) | (gi_at_call 31; ((with_reducible refine HSD.out.mono ?_); rintro e w2 ⟨rfl, hx2⟩; have hcb2 := A31.out w2 (hx1.trans hx2); have HI1 := hid (HIT0.out w2 (hx1.trans hx2) _ ((hv1.out.mono hx2).ints (by omega))))) | (gi_at_call 15; ((with_reducible refine HI1.out.mono ?_); rintro e w3 ⟨rfl, hx3⟩; have hcb3 := A31.out w3 (hx1.trans (hx2.trans hx3)); have HSU := hid (HSW.out w3 (hx1.trans (hx2.trans hx3))))) | (gi_at_call 32; ((with_reducible refine HSU.out.mono ?_); rintro e w4 ⟨v4, rfl, hx4, hv4⟩; obtain ⟨a4, c4, rfl⟩ := hv4.out.isSliceN; have hcb4 := A31.out w4 (hx1.trans (hx2.trans (hx3.trans hx4))); have HI2 := hid (HIT1.out w4 (hx1.trans (hx2.trans (hx3.trans hx4))) _ (hv4.out.ints (by omega))))) | (gi_at_call 15; ((with_reducible refine HI2.out.mono ?_); rintro e w5 ⟨rfl, hx5⟩; have hcb5 := A31.out w5 (hx1.trans (hx2.trans (hx3.trans (hx4.trans hx5)))))) | (gi_at_call 22; ((with_reducible refine (works_any _).mono ?_); rintro e wz ⟨rfl, hxz⟩)))
        all_goals first | exact (undef_no (by assumption)).elim | (go_ret; exact ⟨rfl, HX.out.trans (hx1.trans (hx2.trans (hx3.trans (hx4.trans (hx5.trans hxz)))))⟩)
    · have hres : isTrackRes D rs (intsOf t) = .tuple #[.int .i64 0, .bool false, .int .i64 0] := by
        have htb : trackB (seaOf D) D.land D.speed.toNat D.drift (intsOf t) = false := by
          unfold trackB
          rw [decide_eq_false (by rw [intsOf_length]; exact hlen), Bool.false_and]
        unfold isTrackRes
        rw [if_neg (by rw [HSB.out.1]; simp), if_neg (by rw [HSB.out.2]; simp), if_pos htb]
      rw [hres] at HIT1
      have hq : ((t.length : Int) == D.hours) = false := by rw [beq_eq_false_iff_ne]; exact hlen
      have ht0 : t0.length ≤ 1000 := by omega
      have ht1 : t.length ≤ 1000 := by omega
      clear hres HFT hlen hl0
      gi_wp2_with (first | (gi_at_call 19; ((with_reducible refine HLS.out.mono ?_); rintro e w1 ⟨v1, rfl, hx1, hv1⟩; obtain ⟨a1, c1, rfl⟩ := hv1.out.isSliceN; have hcb1 := A31.out w1 hx1; have HSD := hid (HSND.out w1 hx1))) | (gi_at_call 31; ((with_reducible refine HSD.out.mono ?_); rintro e w2 ⟨rfl, hx2⟩; have hcb2 := A31.out w2 (hx1.trans hx2); have HI1 := hid (HIT0.out w2 (hx1.trans hx2) _ ((hv1.out.mono hx2).ints (by omega))))) | (gi_at_call 15; ((with_reducible refine HI1.out.mono ?_); rintro e w3 ⟨rfl, hx3⟩; have hcb3 := A31.out w3 (hx1.trans (hx2.trans hx3)); have HSU := hid (HSW.out w3 (hx1.trans (hx2.trans hx3))))) | (gi_at_call 32; ((with_reducible refine HSU.out.mono ?_); rintro e w4 ⟨v4, rfl, hx4, hv4⟩; obtain ⟨a4, c4, rfl⟩ := hv4.out.isSliceN; have hcb4 := A31.out w4 (hx1.trans (hx2.trans (hx3.trans hx4))); have HI2 := hid (HIT1.out w4 (hx1.trans (hx2.trans (hx3.trans hx4))) _ (hv4.out.ints (by omega))))) | (gi_at_call 15; ((with_reducible refine HI2.out.mono ?_); rintro e w5 ⟨rfl, hx5⟩; have hcb5 := A31.out w5 (hx1.trans (hx2.trans (hx3.trans (hx4.trans hx5)))))) | (gi_at_call 22; ((with_reducible refine (works_any _).mono ?_); rintro e wz ⟨rfl, hxz⟩)))
      all_goals first | exact (undef_no (by assumption)).elim | (go_ret; exact ⟨rfl, HX.out.trans (hx1.trans (hx2.trans (hx3.trans (hx4.trans (hx5.trans hxz)))))⟩)
end Go.Proofs.Ytlgcnjcbmihefaa
