/- ShoalReached: its walk. -/
import Derived.Test.YtlgcnjcbmihefaaYH
import Derived.Test.YtlgcnjcbmihefaaYI
import Derived.Test.YtlgcnjcbmihefaaXS
set_option linter.unusedSimpArgs false
set_option linter.unusedVariables false
namespace Go.Proofs.Ytlgcnjcbmihefaa
open Go Go.RowKit Go.Shelf

set_option maxRecDepth 100000 in
set_option maxHeartbeats 4000000 in
theorem ShoalReached_any (D : SeaD) (rs : List Rep) (n0 n1 n2 : Int) (v0 : Value) (w : World) (h0 : SearchAt w v0 D rs) :
    Cal 9 #[v0, .agg #[.int .i64 n0, .int .i64 n1, .int .i64 n2]] w fun e w' => e = .returned (.bool true) ∧ Ext w w' := by
  obtain ⟨lv, dv, rv, rfl, hl, hd, hr⟩ := h0
  have hx : Ext w ((w.alloc (.cells #[.int .i64 D.wide, .int .i64 D.high, lv, .int .i64 D.hours, dv, .int .i64 D.speed, rv] 28)).alloc (.cells #[.int .i64 n0, .int .i64 n1, .int .i64 n2] 55)) := ((Ext.refl w).alloc _).alloc _
  have hb1 : ((w.alloc (.cells #[.int .i64 D.wide, .int .i64 D.high, lv, .int .i64 D.hours, dv, .int .i64 D.speed, rv] 28)).alloc (.cells #[.int .i64 n0, .int .i64 n1, .int .i64 n2] 55)).heap[w.heap.size]? = some (.cells #[.int .i64 D.wide, .int .i64 D.high, lv, .int .i64 D.hours, dv, .int .i64 D.speed, rv] 28 (0, 0)) := two_new
  have hb2 : ((w.alloc (.cells #[.int .i64 D.wide, .int .i64 D.high, lv, .int .i64 D.hours, dv, .int .i64 D.speed, rv] 28)).alloc (.cells #[.int .i64 n0, .int .i64 n1, .int .i64 n2] 55)).heap[w.heap.size + 1]? = some (.cells #[.int .i64 n0, .int .i64 n1, .int .i64 n2] 55 (0, 0)) := by
    have := Ext.new (w := w.alloc (.cells #[.int .i64 D.wide, .int .i64 D.high, lv, .int .i64 D.hours, dv, .int .i64 D.speed, rv] 28)) (o := .cells #[.int .i64 n0, .int .i64 n1, .int .i64 n2] 55) (Ext.refl _)
    simpa using this
  have HSND := hid (sound_any D rs _ _ ⟨lv, dv, rv, rfl, hl.mono hx, hd.mono hx, hr.mono hx⟩)
  have HL := hid (hl.mono hx)
  have HD := hid (hd.mono hx)
  have HR := hid (hr.mono hx)
  obtain ⟨ra, rcap, rfl, _, _⟩ := hr
  have HX := hid hx
  have HB1 := hid hb1
  have HB2 := hid hb2
  clear hl hd hx hb1 hb2
  gi_enter Try.func9, Try.ntmps9
  cases hsb : soundB D rs with
  | false =>
    rw [hsb] at HSND
    gi_wp2_with (first | (gi_at_call 31; ((with_reducible refine HSND.out.mono ?_); rintro e w1 ⟨rfl, hx1⟩)) | (gi_at_call 22; ((with_reducible refine (works_any _).mono ?_); rintro e w2 ⟨rfl, hx2⟩)))
    go_ret
    exact ⟨rfl, HX.out.trans (hx1.trans hx2)⟩
  | true =>
    rw [hsb] at HSND
    have hsb2 := hsb
    unfold soundB at hsb2
    rw [Bool.and_eq_true] at hsb2
    have hbd := sea_bounds hsb2.1
    have hm0 := modI_ok n0 (m := 6) (by omega)
    have hh := inB_spec hbd.2.2.1
    have hm1 := modI_ok n1 (m := D.hours) hh.1
    have hmb := mul_bounds (inB_spec hbd.1) (inB_spec hbd.2.1)
    have hm2 := modI_ok n2 (m := D.wide * D.high) hmb.1
    have hww : IntKind.i64.wrap (D.wide * D.high) = D.wide * D.high := by rw [IntKind.wrap_i64]; omega
    have hro := (reps_ok hsb2.1 hsb2.2).1
    have HSB := hid hsb
    clear hsb hsb2 hbd
    gi_wp2_with (gi_at_call 31; ((with_reducible refine HSND.out.mono ?_); rintro e w1 ⟨rfl, hx1⟩))
    have HC1 := hid fun e : Later w1 => And.intro (cell_of ((hx1.trans e.grown).block HB1.out)) (cell_of ((hx1.trans e.grown).block HB2.out))
    have HM0 := hid fun e : Later w1 => mod_any n0 6 e.val (by omega)
    have HM1 := hid fun e : Later w1 => mod_any n1 D.hours e.val (by omega)
    have HM2 := hid fun e : Later w1 => mod_any n2 (D.wide * D.high) e.val (by omega)
    refine quiet_wide 19 (by kernel_rfl) (by kernel_rfl) ?_
    simp only [List.take_succ_cons, List.take_zero, List.drop_succ_cons, List.drop_zero]
    have q1 := HC1.out
    repeat (any_goals (first | go_big_quiet_step ((first | (go_at_call 37; with_reducible exact Cal.quiet_same (HM0.out _)) | (go_at_call 37; with_reducible exact Cal.quiet_same (HM1.out _)) | (go_at_call 37; with_reducible exact Cal.quiet_same (HM2.out _)))) | quiet_step ((first | (go_at_call 37; with_reducible exact Cal.quiet_same (HM0.out _)) | (go_at_call 37; with_reducible exact Cal.quiet_same (HM1.out _)) | (go_at_call 37; with_reducible exact Cal.quiet_same (HM2.out _))))))
    refine wpQuiet_nil ?_
    rintro w2 ⟨⟨_, hx2⟩, rfl⟩
    clear q1 HC1 HM0 HM1 HM2 HSND
    generalize modI n0 6 = mW at *
    generalize modI n1 D.hours = mH at *
    generalize modI n2 (D.wide * D.high) = mC at *
    obtain ⟨n, rfl⟩ : ∃ n : Nat, mW = n := ⟨mW.toNat, by omega⟩
    have HX2 := hid (hx1.trans hx2)
    have hcb := cell_of (HX2.out.block HB1.out)
    clear hx1 hx2
    by_cases hbig : 24 < rs.length + n + 1
    · have d1 : decide ((24 : Int) < (rs.length : Int) + n + 1) = true := by rw [decide_eq_true_eq]; omega
      gi_wp2_with (gi_at_call 22; ((with_reducible refine (works_any _).mono ?_); rintro e w3 ⟨rfl, hx3⟩))
      go_ret
      exact ⟨rfl, HX.out.trans (HX2.out.trans hx3)⟩
    · have d1 : decide ((24 : Int) < (rs.length : Int) + n + 1) = false := by rw [decide_eq_false_iff_not]; omega
      have HF := hid (reach_facts HSB.out (n := n) (h := mH) (cell := mC) (by omega) hm1 hm2 (by omega))
      have HCN := hid (Can_any D lv dv (.slice ra rs.length rcap) rs n mH w2 (HL.out.mono HX2.out) (HD.out.mono HX2.out) (HR.out.mono HX2.out))
      have HLS := hid fun (e : World) (hx : Ext w2 e) => Least_any D lv dv (.slice ra rs.length rcap) rs e (HL.out.mono (HX2.out.trans hx)) (HD.out.mono (HX2.out.trans hx)) (HR.out.mono (HX2.out.trans hx))
      have HCB := hid fun (e : World) (hx : Ext w2 e) => cell_of ((HX2.out.trans hx).block HB1.out)
      rw [seaVal] at HCN HLS
      have h2 := HF.out.2
      rw [Int.toNat_natCast] at h2
      have HF2 := hid h2
      have hf1 := HF.out.1
      have hn6 : n < 6 := by omega
      clear HF h2 hm0 hbig
      have hcl := canF_len D (by have := HSB.out; unfold soundB at this; rw [Bool.and_eq_true] at this; exact this.1) rs n mH.toNat
      have hlen : (canList D rs n mH).length ≤ 80 := by
        unfold canList
        split
        · simp
        · exact hcl
      clear hcl
      generalize canList D rs n mH = l at *
      generalize canErr D rs n mH = ec at *
      generalize leastErr D rs = ef at *
      generalize leastN D rs = ln at *
      have HRS := hid fun (e : World) (hx : Ext w2 e) => HR.out.mono (HX2.out.trans hx)
      have hrest := hf1
      clear hf1
      rcases hrest with ⟨rfl, rfl, hle⟩ | ⟨rfl, hl0, rfl | ⟨rfl, hle⟩⟩
      all_goals
        try (have d3 : decide (0 < l.length) = false := by rw [hl0]; rfl)
        first | (have d2 : decide (ln ≤ (n : Int)) = true := by rw [decide_eq_true_eq]; exact hle) | (have d2 : decide (ln ≤ (n : Int)) = false := by rw [decide_eq_false_iff_not]; omega) | skip
        try clear hle
        try clear hl0
        gi_wp2_with (first | (gi_at_call 23; ((with_reducible refine HCN.out.mono ?_); rintro e w3 ⟨v3, rfl, hx3, hv3⟩; obtain ⟨a3, c3, rfl⟩ := hv3.out.isSliceN; have hcb3 := HCB.out w3 hx3; have HLS2 := hid (HLS.out w3 hx3))) | (gi_at_call 19; ((with_reducible refine HLS2.out.mono ?_); rintro e w4 ⟨v4, rfl, hx4, hv4⟩; obtain ⟨a4, c4, rfl⟩ := hv4.out.isSliceN; have hcb4 := HCB.out w4 (hx3.trans hx4); have hcb5 := HCB.out (w4.alloc (.cells #[] 52)) ((hx3.trans hx4).alloc _); clear HLS2)) | (refine wpIn_copy (fun _ => trivial) rfl (.tmp 95) (.tmp 97) rfl (b := w4.heap.size) rfl rfl (HRS.out _ ((hx3.trans hx4).alloc _)) (Ext.new (Ext.refl _)) (by omega) ?_; intro v5 w5 hrow5 hgr5 how5))
      all_goals try exact (undef_no (by assumption)).elim
      all_goals
        have HX4 := hid (hx3.trans hx4)
        have HV3 := hid (hv3.out.mono hx4)
        have hx5 : Ext w4 w5 := ((Ext.refl w4).alloc _).trans (grown_none hgr5)
        have hown5 : ∀ g, v5.ownBlock = some g → w4.heap.size ≤ g := fun g hg => by
          rcases how5 g hg with e | h
          · omega
          · exact Nat.le_trans ((Ext.refl w4).alloc (.cells #[] 52)).size h
        have HROW5 := hid (And.intro hx5 (And.intro hrow5 hown5))
        clear hx3 hx4 hv3 hv4 hcb3 hcb4 hcb5 hx5 hown5 hrow5 hgr5 how5 HCN HLS
        gi_loopw [13, 14] (fun v i wr => ∃ k : Nat, k ≤ n + 1 ∧ i = .int .i64 k ∧ Hid (Ext w4 wr ∧ Row wr 52 4 v (rs.length + k) (flatR (rs ++ List.replicate k ⟨mH, mC, 0, true⟩)) ∧ ∀ g, v.ownBlock = some g → w4.heap.size ≤ g)) (fun _ i _ => n + 1 - (intOf i).toNat)
        case atStart => exact ⟨0, Nat.zero_le _, rfl, HROW5.out.1, by simpa using HROW5.out.2.1, HROW5.out.2.2⟩
        case round =>
          obtain ⟨k, hk, rfl, hI⟩ := hrel
          have HI := hid hI.out
          clear hI
          by_cases hlt : k ≤ n
          · have dk : decide ((k : Int) ≤ (n : Int)) = true := by rw [decide_eq_true_eq]; omega
            obtain ⟨i0, hi0, hz0, hz1, hz2⟩ := info_parts info52
            have HZ := hid (And.intro hi0 (And.intro hz0 (And.intro hz1 hz2)))
            clear hi0 hz0 hz1 hz2
            have hmax : rs.length + k + 1 ≤ 1000000000 := by omega
            have HRWW := hid (HI.out.2.1.mono ((Ext.refl wr).alloc (.cells #[.int .i64 mH, .int .i64 mC, .int .i64 0, .bool true] 52)))
            have HNW : Hid (∀ j u, [Value.int .i64 mH, .int .i64 mC, .int .i64 0, .bool true][j]? = some u → (wr.alloc (.cells #[.int .i64 mH, .int .i64 mC, .int .i64 0, .bool true] 52)).cell? ((⟨wr.heap.size, 0, none⟩ : Addr).add j) = some u) := (fun j u hj => by rw [Addr.add_mid, Nat.zero_add, new_cell _ _ rfl]; simpa using hj)
            gi_wp2_with (refine wpIn_append_row (fun _ => trivial) rfl (.tmp 104) (.tmp 108) rfl Try.underlying26 HZ.out.1 HZ.out.2.1 HZ.out.2.2.1 HZ.out.2.2.2 (by simp [Value.cells]) (by omega) (v := u13) rfl HRWW.out ⟨wr.heap.size, 0, none⟩ 1 rfl [.int .i64 mH, .int .i64 mC, .int .i64 0, .bool true] rfl HNW.out (fun u hu => by simp at hu; rcases hu with rfl | rfl | rfl | rfl <;> rfl) hmax (by omega) ?_; intro v' w' hrow' hgr' how')
            have hxb : Ext wr (wr.alloc (.cells #[.int .i64 mH, .int .i64 mC, .int .i64 0, .bool true] 52)) := (Ext.refl wr).alloc _
            have hbel : Ext w4 w' := Below.trans (Ext.trans HI.out.1 hxb) ⟨hgr'.os, hgr'.tape, hgr'.output, hgr'.size, fun j hj => hgr'.block j (by have := (Ext.trans HI.out.1 hxb).size; omega) (fun e => by have := HI.out.2.2 j e.symm; omega)⟩
            have hsz := (Ext.trans HI.out.1 hxb).size
            go_roundw
            case rel =>
              refine ⟨k + 1, by omega, by go_num, hbel, ?_, fun g hg => ?_⟩
              · rw [List.replicate_succ', ← List.append_assoc, flatR_app]
                exact hrow'
              · rcases how' with e | e
                · exact HI.out.2.2 g (by rw [← e]; exact hg)
                · rw [hg] at e; cases e; exact hsz
            case measure => simp [intOf]; omega
          · obtain rfl : k = n + 1 := by omega
            have dk : decide (((n + 1 : Nat) : Int) ≤ (n : Int)) = false := by rw [decide_eq_false_iff_not]; omega
            have hlen2 : (rs ++ List.replicate (n + 1) (⟨mH, mC, 0, true⟩ : Rep)).length = rs.length + (n + 1) := by rw [List.length_append, List.length_replicate]
            have hrp : RepsAt wr u13 (rs ++ List.replicate (n + 1) ⟨mH, mC, 0, true⟩) := Row.reps (by rw [hlen2]; exact HI.out.2.1) (by omega)
            have hxr := HX4.out.trans HI.out.1
            have HLS3 := hid (Least_any D lv dv u13 _ wr (HL.out.mono (HX2.out.trans hxr)) (HD.out.mono (HX2.out.trans hxr)) hrp)
            rw [seaVal] at HLS3
            have hcbr := HCB.out wr hxr
            have HXR := hid hxr
            have HVR := hid (HV3.out.mono HI.out.1)
            clear hxr hrp hlen2 HI HV3 HROW5
            generalize leastErr D (rs ++ List.replicate (n + 1) ⟨mH, mC, 0, true⟩) = eg at *
            generalize leastN D (rs ++ List.replicate (n + 1) ⟨mH, mC, 0, true⟩) = m at *
            have hpl : 0 ≤ placeI (intsOf l) mC ↔ mC.toNat ∈ l := by
              rw [placeI_mem]
              unfold intsOf
              rw [List.mem_map]
              constructor
              · rintro ⟨c, hc, rfl⟩; simpa using hc
              · intro h; exact ⟨_, h, by omega⟩
            by_cases hmem : mC.toNat ∈ l
            · have dp : decide (0 ≤ placeI (intsOf l) mC) = true := by rw [decide_eq_true_eq]; exact hpl.mpr hmem
              have he := HF2.out.mp hmem
              obtain ⟨rfl, hm⟩ := he
              have dm : decide (m ≤ (n : Int)) = true := by rw [decide_eq_true_eq]; exact hm
              clear hpl hmem hm HF2
              gi_wp2_with (first | (gi_at_call 19; ((with_reducible refine HLS3.out.mono ?_); rintro e w6 ⟨v6, rfl, hx6, hv6⟩; have HPL := hid (Place_any (.slice a3 l.length c3) (intsOf l) mC w6 ((HVR.out.mono hx6).ints (by omega))))) | (gi_at_call 34; ((with_reducible refine HPL.out.mono ?_); rintro e w7 ⟨rfl, hx7⟩)) | (gi_at_call 22; ((with_reducible refine (works_any _).mono ?_); rintro e wz ⟨rfl, hxz⟩)))
              all_goals first | exact (undef_no (by assumption)).elim | (go_ret; exact ⟨rfl, HX.out.trans (HX2.out.trans (HXR.out.trans (hx6.trans (hx7.trans hxz))))⟩)
            · have dp : decide (0 ≤ placeI (intsOf l) mC) = false := by rw [decide_eq_false_iff_not]; exact fun h => hmem (hpl.mp h)
              have hno : ¬ (eg = 0 ∧ m ≤ (n : Int)) := fun h => hmem (HF2.out.mpr h)
              clear hpl hmem HF2
              by_cases heg : eg = 0
              · subst heg
                have dm : decide (m ≤ (n : Int)) = false := by rw [decide_eq_false_iff_not]; exact fun h => hno ⟨rfl, h⟩
                clear hno
                gi_wp2_with (first | (gi_at_call 19; ((with_reducible refine HLS3.out.mono ?_); rintro e w6 ⟨v6, rfl, hx6, hv6⟩; have HPL := hid (Place_any (.slice a3 l.length c3) (intsOf l) mC w6 ((HVR.out.mono hx6).ints (by omega))))) | (gi_at_call 34; ((with_reducible refine HPL.out.mono ?_); rintro e w7 ⟨rfl, hx7⟩)) | (gi_at_call 22; ((with_reducible refine (works_any _).mono ?_); rintro e wz ⟨rfl, hxz⟩)))
                all_goals first | exact (undef_no (by assumption)).elim | (go_ret; exact ⟨rfl, HX.out.trans (HX2.out.trans (HXR.out.trans (hx6.trans (hx7.trans hxz))))⟩)
              · have de : (eg == 0) = false := by simpa using heg
                clear hno heg
                gi_wp2_with (first | (gi_at_call 19; ((with_reducible refine HLS3.out.mono ?_); rintro e w6 ⟨v6, rfl, hx6, hv6⟩; have HPL := hid (Place_any (.slice a3 l.length c3) (intsOf l) mC w6 ((HVR.out.mono hx6).ints (by omega))))) | (gi_at_call 34; ((with_reducible refine HPL.out.mono ?_); rintro e w7 ⟨rfl, hx7⟩)) | (gi_at_call 22; ((with_reducible refine (works_any _).mono ?_); rintro e wz ⟨rfl, hxz⟩)))
                all_goals first | exact (undef_no (by assumption)).elim | (go_ret; exact ⟨rfl, HX.out.trans (HX2.out.trans (HXR.out.trans (hx6.trans (hx7.trans hxz))))⟩)
end Go.Proofs.Ytlgcnjcbmihefaa
