/- ShoalAccused: its walk. -/
import Derived.Test.YtlgcnjcbmihefaaYR
import Derived.Test.YtlgcnjcbmihefaaYF
set_option linter.unusedSimpArgs false
set_option linter.unusedVariables false
namespace Go.Proofs.Ytlgcnjcbmihefaa
open Go Go.RowKit Go.Shelf

set_option maxRecDepth 100000 in
set_option maxHeartbeats 8000000 in
theorem ShoalAccused_any (D : SeaD) (rs : List Rep) (bits : List Int) (kk : Int) (v0 v1 : Value) (w : World) (h0 : SearchAt w v0 D rs) (h1 : IntsAt w v1 bits) :
    Cal 11 #[v0, v1, .int .i64 kk] w fun e w' => e = .returned (.bool true) ∧ Ext w w' := by
  obtain ⟨lv, dv, rv, rfl, hl, hd, hr⟩ := h0
  have hx : Ext w (w.alloc (.cells #[.int .i64 D.wide, .int .i64 D.high, lv, .int .i64 D.hours, dv, .int .i64 D.speed, rv] 28)) := (Ext.refl w).alloc _
  have hb1 : (w.alloc (.cells #[.int .i64 D.wide, .int .i64 D.high, lv, .int .i64 D.hours, dv, .int .i64 D.speed, rv] 28)).heap[w.heap.size]? = some (.cells #[.int .i64 D.wide, .int .i64 D.high, lv, .int .i64 D.hours, dv, .int .i64 D.speed, rv] 28 (0, 0)) := Ext.new (Ext.refl _)
  have HL := hid (hl.mono hx)
  have HD := hid (hd.mono hx)
  have HR := hid (hr.mono hx)
  have HBT := hid (h1.mono hx)
  obtain ⟨ra, rcap, rfl, _, hrc⟩ := hr.mono hx
  have HRC := hid hrc
  have HX := hid hx
  have HB1 := hid hb1
  clear hl hd hr hx hb1 h1 hrc
  gi_enter Try.func11, Try.ntmps11
  gi_wp2_with fail
  generalize w.alloc (.cells #[.int .i64 D.wide, .int .i64 D.high, lv, .int .i64 D.hours, dv, .int .i64 D.speed, .slice ra rs.length rcap] 28) = w0 at *
  have HLI := hid (Liars_any D lv dv (.slice ra rs.length rcap) rs w0 HL.out HD.out HR.out)
  have HLS := hid fun (e : World) (hx : Ext w0 e) => Least_any D lv dv (.slice ra rs.length rcap) rs e (HL.out.mono hx) (HD.out.mono hx) (HR.out.mono hx)
  rw [seaVal] at HLI HLS
  have HCB := hid fun (e : World) (hx : Ext w0 e) => cell_of (hx.block HB1.out)
  by_cases hE : leastErr D rs = 0
  rotate_left
  · have e1 : leastN D rs = 0 := by unfold leastN; rw [if_pos hE]
    have e2 : leastTr D rs = [] := by unfold leastTr; rw [if_pos hE]
    have e3 : liarsList D rs = [] := by unfold liarsList; rw [if_pos hE]
    have hEb : (leastErr D rs != 0) = true := by simpa using hE
    rw [e1, e2] at HLS
    rw [e3] at HLI
    dsimp only [List.length_nil] at HLS HLI
    clear e1 e2 e3 hE
    generalize leastErr D rs = E at *
    gi_wp2_with (first | (gi_at_call 25; ((with_reducible refine HLI.out.mono ?_); rintro e w1 ⟨v1, rfl, hx1, hv1⟩; obtain ⟨a1, c1, rfl⟩ := hv1.out.isSliceN; have hcb1 := HCB.out w1 hx1; have HLS2 := hid (HLS.out w1 hx1))) | (gi_at_call 19; ((with_reducible refine HLS2.out.mono ?_); rintro e w2 ⟨v2, rfl, hx2, hv2⟩; obtain ⟨a2, c2, rfl⟩ := hv2.out.isSliceN; have hcb2 := HCB.out w2 (hx1.trans hx2))) | (gi_at_call 22; ((with_reducible refine (works_any _).mono ?_); rintro e wz ⟨rfl, hxz⟩)))
    all_goals first | exact (undef_no (by assumption)).elim | (go_ret; exact ⟨rfl, HX.out.trans (hx1.trans (hx2.trans hxz))⟩)
  · have hAF := accused_facts hE
    have hS := hAF.1
    have hS2 := hS
    unfold soundB at hS2
    rw [Bool.and_eq_true] at hS2
    have HSB := hid hS2
    have hbd := sea_bounds hS2.1
    have hhh := inB_spec hbd.2.2.1
    have hww := inB_spec hbd.1
    have h80 := seaB_80 hS2.1
    have hRO := reps_ok hS2.1 hS2.2
    have hro := hRO.1
    have HRO := hid hRO.2
    have HSND := hid fun (e : World) (hx : Ext w0 e) => sound_any D rs _ e ⟨lv, dv, _, rfl, HL.out.mono hx, HD.out.mono hx, HR.out.mono hx⟩
    rw [hS] at HSND
    have HSW := hid fun (e : World) (hx : Ext w0 e) => swum_any D bits lv dv v1 e HSB.out.1 (HL.out.mono hx) (HD.out.mono hx) (HBT.out.mono hx)
    rw [seaVal] at HSW
    have hTO := tracks_ok hE bits
    have hln := swumTo_len D bits D.hours.toNat
    have HTL := hid (swumTo_lt D bits D.hours.toNat)
    have hff := first_facts hE
    have HIT := hid fun (e : World) (hx : Ext w0 e) (v : Value) (t : List Nat) (h : IntsAt e v (intsOf t)) => IsTrack_any D lv dv (.slice ra rs.length rcap) v rs (intsOf t) e (HL.out.mono hx) (HD.out.mono hx) (HR.out.mono hx) h
    rw [seaVal] at HIT
    rw [hE] at HLI HLS
    have HRI := hid hAF.2.1
    have HRIK := hid hAF.2.1
    have hle := hAF.2.2.1
    have hn0 := hAF.2.2.2.1
    have hn24 := hAF.2.2.2.2.1
    have HAP := hid hAF.2.2.2.2.2.2
    have HT0 := hid hTO.1
    have HT1 := hid hTO.2
    have hl0 := hff.2.1
    unfold trackOk at HT0 HT1
    have hll := rises_len hAF.2.1
    clear hff hTO hAF hS hS2 hbd hRO
    generalize leastTr D rs = t0 at *
    generalize swumTo D bits D.hours.toNat = t1 at *
    generalize leastN D rs = lN at *
    obtain ⟨n, rfl⟩ : ∃ n : Nat, lN = n := ⟨lN.toNat, by omega⟩
    generalize liarsList D rs = ll at *
    have d1 : decide ((n : Int) < (ll.length : Int)) = false := by rw [decide_eq_false_iff_not]; omega
    gi_wp2_with (first | (gi_at_call 25; ((with_reducible refine HLI.out.mono ?_); rintro e w1 ⟨v2, rfl, hx1, hv2⟩; obtain ⟨a1, c1, rfl⟩ := hv2.out.isSliceN; have hcb1 := HCB.out w1 hx1; have HLS2 := hid (HLS.out w1 hx1))) | (gi_at_call 19; ((with_reducible refine HLS2.out.mono ?_); rintro e w2 ⟨v3, rfl, hx2, hv3⟩; obtain ⟨a2, c2, rfl⟩ := hv3.out.isSliceN; have hcb2 := HCB.out w2 (hx1.trans hx2); have HSD := hid (HSND.out w2 (hx1.trans hx2)))) | (gi_at_call 31; ((with_reducible refine HSD.out.mono ?_); rintro e w3 ⟨rfl, hx3⟩; have hcb3 := HCB.out w3 (hx1.trans (hx2.trans hx3)); have HRS := hid (Rising_any (.slice a1 ll.length c1) ll rs.length w3 (hv2.out.nats.mono (hx2.trans hx3)) HRI.out (by omega)))) | (gi_at_call 35; ((with_reducible refine HRS.out.mono ?_); rintro e w4 ⟨rfl, hx4⟩; have hcb4 := HCB.out w4 (hx1.trans (hx2.trans (hx3.trans hx4))); have HSU := hid (HSW.out w4 (hx1.trans (hx2.trans (hx3.trans hx4)))))) | (gi_at_call 32; ((with_reducible refine HSU.out.mono ?_); rintro e w5 ⟨v5, rfl, hx5, hv5⟩; obtain ⟨a5, c5, rfl⟩ := hv5.out.isSliceN)))
    all_goals try exact (undef_no (by assumption)).elim
    have hblk : (w5.alloc (.cells #[.slice a2 t0.length c2, .slice a5 t1.length c5] 22)).heap[w5.heap.size]? = some (.cells #[.slice a2 t0.length c2, .slice a5 t1.length c5] 22 (0, 0)) := Ext.new (Ext.refl _)
    have hx6 : Ext w5 (w5.alloc (.cells #[.slice a2 t0.length c2, .slice a5 t1.length c5] 22)) := (Ext.refl w5).alloc _
    generalize w5.alloc (.cells #[.slice a2 t0.length c2, .slice a5 t1.length c5] 22) = w6 at *
    generalize w5.heap.size = B at *
    have HX6 := hid (hx1.trans (hx2.trans (hx3.trans (hx4.trans (hx5.trans hx6)))))
    have HVL := hid (hv2.out.mono (hx2.trans (hx3.trans (hx4.trans (hx5.trans hx6)))))
    have HV0 := hid (hv3.out.mono (hx3.trans (hx4.trans (hx5.trans hx6))))
    have HV1 := hid (hv5.out.mono hx6)
    have HKEY : Hid (∀ i, i < 2 → ∃ ta tc t N IS, w6.cell? ⟨B, i, none⟩ = some (.slice ta t.length tc) ∧ Row w6 3 1 (.slice ta t.length tc) t.length (natVals t) ∧ t.length ≤ 12 ∧ isTrackRes D rs (intsOf t) = .tuple #[.int .i64 N, .bool IS, .int .i64 0] ∧
        (IS = true → N = (n : Int) → (t.length : Int) = D.hours ∧ ∀ k (h : k < rs.length), k ∈ ll → trueAt D rs[k] (t.getD rs[k].hour.toNat 0) = false) ∧ (∀ c ∈ t, c ≤ 1000)) := by
      intro i hi
      have hc := cell_of hblk
      obtain ⟨N0, I0, r0, p0, b0⟩ := HT0.out
      obtain ⟨N1, I1, r1, p1, b1⟩ := HT1.out
      rcases (show i = 0 ∨ i = 1 by omega) with rfl | rfl
      · exact ⟨a2, c2, t0, N0, I0, hc 0, HV0.out, by omega, r0, p0, b0⟩
      · exact ⟨a5, c5, t1, N1, I1, hc 1, HV1.out, by omega, r1, p1, b1⟩
    have hbl := lt_of_block hblk
    clear hblk hx1 hx2 hx3 hx4 hx5 hx6 hv2 hv3 hv5 hcb1 hcb2 hcb3 hcb4 HT0 HT1 HV0 HV1 HSW HTL hl0 hln HLI HSND HRI HBT
    obtain ⟨la, lcap, elc, hlc⟩ := HVL.out.shape
    cases elc
    have HLC : Hid (∀ k (hk : k < ll.length), ∃ g, a1 = some ⟨g, 0, none⟩ ∧ g < w6.heap.size ∧ w6.cell? ⟨g, k, none⟩ = some (.int .i64 (ll[k] : Nat))) := fun k hk => by
      obtain ⟨g, e, h, hc⟩ := hlc k (by unfold natVals; rw [List.length_map]; exact hk)
      exact ⟨g, e, h, by rw [hc]; simp [natVals]⟩
    clear hlc
    have HLLT := hid (fun k (h : k ∈ ll) => rises_lt (show rises rs.length 0 ll from HRIK.out) k h)
    gi_loopw [13] (fun i wr => ∃ i' : Nat, i' ≤ 2 ∧ i = .int .i64 i' ∧ Ext w6 wr) (fun i _ => 2 - (intOf i).toNat)
    case atStart => exact ⟨0, by omega, rfl, Ext.refl _⟩
    case round =>
      obtain ⟨i, hi, rfl, hxi⟩ := hrel
      by_cases hi2 : i < 2
      · obtain ⟨ta, tc, t, N, IS, hcell, hrow, htl, hres, hP, htb⟩ := HKEY.out i hi2
        have HITi := hid fun e : Later wr => HIT.out e.val (HX6.out.trans (hxi.trans e.grown)) (.slice ta t.length tc) t ((hrow.mono (hxi.trans e.grown)).ints (by omega))
        rw [hres] at HITi
        have HCI := hid fun (e : World) (hx : Ext w6 e) => And.intro (HCB.out e (HX6.out.trans hx)) ((hx.cell (p := ⟨B, _, none⟩) hbl).trans hcell)
        have HC := hid fun e : Later wr => HCI.out e.val (hxi.trans e.grown)
        have HP := hid hP
        have HTB := hid htb
        have HTR := hid hrow
        clear hcell hrow hres hP htb
        gi_wp2_with fail
        refine quiet_wide 15 (by kernel_rfl) (by kernel_rfl) ?_
        simp only [List.take_succ_cons, List.take_zero, List.drop_succ_cons, List.drop_zero]
        have q1 := HC.out
        repeat (any_goals (first | go_big_quiet_step ((go_at_call 15; with_reducible exact Cal.quiet (HITi.out _))) | quiet_step ((go_at_call 15; with_reducible exact Cal.quiet (HITi.out _)))))
        refine wpQuiet_nil ?_
        rintro w7 ⟨⟨_, hx7⟩, rfl⟩
        clear q1 HC HITi
        have HX7 := hid (hxi.trans hx7)
        clear hxi hx7
        gi_wp2_with fail
        by_cases hb : IS = true ∧ N = (n : Int)
        · obtain ⟨rfl, rfl⟩ := hb
          have HPP := hid (HP.out rfl rfl)
          have hnn : ((n : Int) == (n : Int)) = true := by simp
          clear HP
          gi_loopw [17] (fun m u => ∃ m' : Nat, m' ≤ ll.length ∧ m = .int .i64 m' ∧ Ext w6 u) (fun m _ => ll.length - (intOf m).toNat)
          case atStart => exact ⟨0, Nat.zero_le _, rfl, HX7.out⟩
          case round =>
            obtain ⟨m, hm, rfl, hxm⟩ := hrel
            by_cases hlt : m < ll.length
            · have hkl := HLLT.out ll[m] (List.getElem_mem _)
              obtain ⟨lg, hla, hlg, hlcell⟩ := HLC.out m hlt
              obtain ⟨rb, off, hra, hrl, c0, c1', c2', c3⟩ := HRC.out ll[m] hkl
              subst hla; subst hra
              have hrob := HRO.out rs[ll[m]] (List.getElem_mem _)
              have hfalse := HPP.out.2 ll[m] hkl (List.getElem_mem _)
              have htl2 := HPP.out.1
              have hxe := fun e : Later wr => HX6.out.trans (Ext.trans hxm e.grown)
              have HC := hid fun e : Later wr => And.intro (HCI.out e.val (Ext.trans hxm e.grown)) (And.intro (((Ext.trans hxm e.grown).cell (p := ⟨lg, _, none⟩) hlg).trans hlcell) (And.intro (((hxe e).cell (p := ⟨rb, _, none⟩) hrl).trans c0) (And.intro (((hxe e).cell (p := ⟨rb, _, none⟩) hrl).trans c1') (And.intro (((hxe e).cell (p := ⟨rb, _, none⟩) hrl).trans c2') (((hxe e).cell (p := ⟨rb, _, none⟩) hrl).trans c3)))))
              have HT := hid fun e : Later wr => told_any D lv dv (.slice ta t.length tc) rs[ll[m]] (intsOf t) e.val hww ((HTR.out.mono (Ext.trans hxm e.grown)).ints (by omega)) hrob.2.1 (by rw [intsOf_length]; have := hrob.2.2; omega) hrob.1 (fun c hc => by
                unfold intsOf at hc
                obtain ⟨d, hd, rfl⟩ := List.mem_map.mp hc
                have := HTB.out d hd
                omega)
              have hrt : repTrue rs[ll[m]] (col (seaOf D) rs[ll[m]].cell) (row (seaOf D) rs[ll[m]].cell) (col (seaOf D) ((intsOf t).getD rs[ll[m]].hour.toNat 0)) (row (seaOf D) ((intsOf t).getD rs[ll[m]].hour.toNat 0)) = false := by
                unfold trueAt at hfalse
                rw [intsOf_getD]
                exact hfalse
              rw [hrt, seaVal] at HT
              have hq : ((t.length : Int) != D.hours) = false := by rw [bne_eq_false_iff_eq]; exact htl2
              have HXM := hid hxm
              clear hrob hfalse htl2 hxe hlg hlcell hrl c0 c1' c2' c3 hrt hxm
              generalize rs[ll[m]] = rp at *
              generalize ll[m] = lm at *
              gi_wp2_with fail
              refine quiet_wide 26 (by kernel_rfl) (by kernel_rfl) ?_
              simp only [List.take_succ_cons, List.take_zero, List.drop_succ_cons, List.drop_zero]
              have q1 := HC.out
              repeat (any_goals (first | go_big_quiet_step ((go_at_call 33; with_reducible exact Cal.quiet (HT.out _))) | quiet_step ((go_at_call 33; with_reducible exact Cal.quiet (HT.out _)))))
              refine wpQuiet_nil ?_
              rintro w8 ⟨⟨_, hx8⟩, rfl⟩
              clear q1 HC HT
              gi_wp2
              all_goals exact ⟨⟨m + 1, by omega, by go_num, HXM.out.trans hx8⟩, by simp [intOf]; omega⟩
            · obtain rfl : m = ll.length := by omega
              gi_wp2
              all_goals exact ⟨⟨i + 1, by omega, by go_num, hxm⟩, by simp [intOf]; omega⟩
        · have hno : IS = false ∨ (N == (n : Int)) = false := by
            cases IS with
            | false => exact .inl rfl
            | true => exact .inr (by rw [beq_eq_false_iff_ne]; exact fun e => hb ⟨rfl, e⟩)
          clear hb HP HTR HTB HCI
          gi_loopw [17] (fun m u => ∃ m' : Nat, m' ≤ ll.length ∧ m = .int .i64 m' ∧ Ext w6 u) (fun m _ => ll.length - (intOf m).toNat)
          case atStart => exact ⟨0, Nat.zero_le _, rfl, HX7.out⟩
          case round =>
            obtain ⟨m, hm, rfl, hxm⟩ := hrel
            by_cases hlt : m < ll.length
            · rcases hno with rfl | hne
              · gi_wp2
                all_goals first | exact (undef_no (by assumption)).elim | exact ⟨⟨i + 1, by omega, by go_num, hxm⟩, by simp [intOf]; omega⟩
              · cases IS
                · gi_wp2
                  all_goals first | exact (undef_no (by assumption)).elim | exact ⟨⟨i + 1, by omega, by go_num, hxm⟩, by simp [intOf]; omega⟩
                · gi_wp2
                  all_goals first | exact (undef_no (by assumption)).elim | exact ⟨⟨i + 1, by omega, by go_num, hxm⟩, by simp [intOf]; omega⟩
            · obtain rfl : m = ll.length := by omega
              gi_wp2
              all_goals first | exact (undef_no (by assumption)).elim | exact ⟨⟨i + 1, by omega, by go_num, hxm⟩, by simp [intOf]; omega⟩
      · obtain rfl : i = 2 := by omega
        have hcbr := HCB.out wr (HX6.out.trans hxi)
        by_cases hz : rs.length = 0
        · gi_wp2_with (gi_at_call 22; ((with_reducible refine (works_any _).mono ?_); rintro e wz ⟨rfl, hxz⟩))
          all_goals first | exact (undef_no (by assumption)).elim | (go_ret; exact ⟨rfl, HX.out.trans (HX6.out.trans (hxi.trans hxz))⟩)
        · have dz : ((rs.length : Int) == 0) = false := by rw [beq_eq_false_iff_ne]; omega
          by_cases hbig : 24 < rs.length + n + 1
          · have db : decide ((24 : Int) < (rs.length : Int) + n + 1) = true := by rw [decide_eq_true_eq]; omega
            gi_wp2_with (gi_at_call 22; ((with_reducible refine (works_any _).mono ?_); rintro e wz ⟨rfl, hxz⟩))
            all_goals first | exact (undef_no (by assumption)).elim | (go_ret; exact ⟨rfl, HX.out.trans (HX6.out.trans (hxi.trans hxz))⟩)
          · have db : decide ((24 : Int) < (rs.length : Int) + n + 1) = false := by rw [decide_eq_false_iff_not]; omega
            have HMK := hid (mod_any kk (rs.length : Int) wr (by omega))
            have hmk := modI_ok kk (m := (rs.length : Int)) (by omega)
            generalize modI kk (rs.length : Int) = kI at *
            obtain ⟨k, rfl⟩ : ∃ k : Nat, kI = k := ⟨kI.toNat, by omega⟩
            have hkl : k < rs.length := by omega
            have HA := hid (HAP.out k hkl n rfl (by omega))
            have HRS := hid fun (e : World) (hx : Ext w6 e) => HR.out.mono (HX6.out.trans hx)
            have HXI := hid hxi
            have hcbr2 := HCB.out (wr.alloc (.cells #[] 52)) (HX6.out.trans (hxi.alloc _))
            gi_wp2_with (first | (gi_at_call 37; ((with_reducible refine HMK.out.mono ?_); rintro e wm ⟨rfl, rfl⟩)) | (refine wpIn_copy (fun _ => trivial) rfl (.tmp 164) (.tmp 166) rfl (b := wr.heap.size) rfl rfl (HRS.out _ (HXI.out.alloc _)) (Ext.new (Ext.refl _)) (by omega) ?_; intro v9 w9 hrow9 hgr9 how9))
            have hx9 : Ext wr w9 := ((Ext.refl wr).alloc _).trans (grown_none hgr9)
            have hown9 : ∀ g, v9.ownBlock = some g → wr.heap.size ≤ g := fun g hg => by
              rcases how9 g hg with e | h
              · omega
              · exact Nat.le_trans ((Ext.refl wr).alloc (.cells #[] 52)).size h
            have HROW9 := hid (And.intro hx9 (And.intro hrow9 hown9))
            obtain ⟨rb, off, hra, hrl, c0, c1', c2', c3⟩ := HRC.out k hkl
            subst hra
            have HC4 := hid (And.intro hrl (And.intro c0 (And.intro c1' (And.intro c2' c3))))
            clear hx9 hown9 hrow9 hgr9 how9 hcbr hcbr2 hxi hrl c0 c1' c2' c3 HMK HRS HKEY
            obtain ⟨wo, rfl⟩ : ∃ wo, wo = wr := ⟨wr, rfl⟩
            gi_loopw [18, 19] (fun v i wr => ∃ j : Nat, j ≤ n + 1 ∧ i = .int .i64 j ∧ Hid (Ext wo wr ∧ Row wr 52 4 v (rs.length + j) (flatR (rs ++ List.replicate j rs[k])) ∧ ∀ g, v.ownBlock = some g → wo.heap.size ≤ g)) (fun _ i _ => n + 1 - (intOf i).toNat)
            case atStart => exact ⟨0, Nat.zero_le _, rfl, HROW9.out.1, by simpa using HROW9.out.2.1, HROW9.out.2.2⟩
            case round =>
              obtain ⟨j, hj, rfl, hI⟩ := hrel
              have HI := hid hI.out
              clear hI
              by_cases hlt : j ≤ n
              · have dk : decide ((j : Int) ≤ (n : Int)) = true := by rw [decide_eq_true_eq]; omega
                obtain ⟨i0, hi0, hz0, hz1, hz2⟩ := info_parts info52
                have HZ := hid (And.intro hi0 (And.intro hz0 (And.intro hz1 hz2)))
                clear hi0 hz0 hz1 hz2
                have hmax : rs.length + j + 1 ≤ 1000000000 := by omega
                have hxw := HX6.out.trans (HXI.out.trans HI.out.1)
                have hcbw := HCB.out wr hxw
                have c0 := (hxw.cell (p := ⟨rb, _, none⟩) HC4.out.1).trans HC4.out.2.1
                have c1' := (hxw.cell (p := ⟨rb, _, none⟩) HC4.out.1).trans HC4.out.2.2.1
                have c2' := (hxw.cell (p := ⟨rb, _, none⟩) HC4.out.1).trans HC4.out.2.2.2.1
                have c3 := (hxw.cell (p := ⟨rb, _, none⟩) HC4.out.1).trans HC4.out.2.2.2.2
                have hrep : flatR (rs ++ List.replicate (j + 1) rs[k]) = flatR (rs ++ List.replicate j rs[k]) ++ [.int .i64 rs[k].hour, .int .i64 rs[k].cell, .int .i64 rs[k].far, .bool rs[k].there] := by
                  rw [List.replicate_succ', ← List.append_assoc, flatR_app]; rfl
                have HREP := hid hrep
                clear hrep hxw
                generalize rs[k] = rp at *
                have HRWW := hid (HI.out.2.1.mono ((Ext.refl wr).alloc (.cells #[.int .i64 rp.hour, .int .i64 rp.cell, .int .i64 rp.far, .bool rp.there] 52)))
                have HNW : Hid (∀ z u, [Value.int .i64 rp.hour, .int .i64 rp.cell, .int .i64 rp.far, .bool rp.there][z]? = some u → (wr.alloc (.cells #[.int .i64 rp.hour, .int .i64 rp.cell, .int .i64 rp.far, .bool rp.there] 52)).cell? ((⟨wr.heap.size, 0, none⟩ : Addr).add z) = some u) := (fun z u hj => by rw [Addr.add_mid, Nat.zero_add, new_cell _ _ rfl]; simpa using hj)
                gi_wp2_with (refine wpIn_append_row (fun _ => trivial) rfl (.tmp 173) (.tmp 179) rfl Try.underlying26 HZ.out.1 HZ.out.2.1 HZ.out.2.2.1 HZ.out.2.2.2 (by simp [Value.cells]) (by omega) (v := u18) rfl HRWW.out ⟨wr.heap.size, 0, none⟩ 1 rfl [.int .i64 rp.hour, .int .i64 rp.cell, .int .i64 rp.far, .bool rp.there] rfl HNW.out (fun u hu => by simp at hu; rcases hu with rfl | rfl | rfl | rfl <;> rfl) hmax (by omega) ?_; intro v' w' hrow' hgr' how')
                have hxb : Ext wr (wr.alloc (.cells #[.int .i64 rp.hour, .int .i64 rp.cell, .int .i64 rp.far, .bool rp.there] 52)) := (Ext.refl wr).alloc _
                have hbel : Ext wo w' := Below.trans (Ext.trans HI.out.1 hxb) ⟨hgr'.os, hgr'.tape, hgr'.output, hgr'.size, fun j hj => hgr'.block j (by have := (Ext.trans HI.out.1 hxb).size; omega) (fun e => by have := HI.out.2.2 j e.symm; omega)⟩
                have hsz := (Ext.trans HI.out.1 hxb).size
                go_roundw
                case rel =>
                  refine ⟨j + 1, by omega, by go_num, hbel, ?_, fun g hg => ?_⟩
                  · rw [HREP.out]
                    exact hrow'
                  · rcases how' with e | e
                    · exact HI.out.2.2 g (by rw [← e]; exact hg)
                    · rw [hg] at e; cases e; exact hsz
                case measure => simp [intOf]; omega
              · obtain rfl : j = n + 1 := by omega
                have dk : decide (((n + 1 : Nat) : Int) ≤ (n : Int)) = false := by rw [decide_eq_false_iff_not]; omega
                have hlen2 : (rs ++ List.replicate (n + 1) rs[k]).length = rs.length + (n + 1) := by rw [List.length_append, List.length_replicate]
                have hrp : RepsAt wr u18 (rs ++ List.replicate (n + 1) rs[k]) := Row.reps (by rw [hlen2]; exact HI.out.2.1) (by omega)
                have hxr := HX6.out.trans (HXI.out.trans HI.out.1)
                have HLS3 := hid (Least_any D lv dv u18 _ wr (HL.out.mono hxr) (HD.out.mono hxr) hrp)
                rw [seaVal, HA.out.1] at HLS3
                have hcbr := HCB.out wr hxr
                have HXR := hid hxr
                have HVR := hid (HVL.out.mono (HXI.out.trans HI.out.1))
                have hiff := HA.out.2
                clear hxr hrp hlen2 HI HROW9 HA HAP
                generalize leastN D (rs ++ List.replicate (n + 1) rs[k]) = m at *
                have hpl : 0 ≤ placeI (intsOf ll) (k : Int) ↔ k ∈ ll := by
                  rw [placeI_mem]
                  unfold intsOf
                  rw [List.mem_map]
                  constructor
                  · rintro ⟨c, hc, e⟩
                    obtain rfl : c = k := by omega
                    exact hc
                  · intro h; exact ⟨_, h, rfl⟩
                by_cases hmem : k ∈ ll
                · have dp : decide (placeI (intsOf ll) (k : Int) < 0) = false := by rw [decide_eq_false_iff_not]; have := hpl.mpr hmem; omega
                  have dm : (m == (n : Int)) = false := by rw [beq_eq_false_iff_ne]; exact fun e => hiff.mp e hmem
                  clear hpl hmem hiff
                  gi_wp2_with (first | (gi_at_call 19; ((with_reducible refine HLS3.out.mono ?_); rintro e wa ⟨va, rfl, hxa, hva⟩; have HPL := hid (Place_any (.slice a1 ll.length c1) (intsOf ll) k wa ((HVR.out.mono hxa).ints (by omega))))) | (gi_at_call 34; ((with_reducible refine HPL.out.mono ?_); rintro e wb ⟨rfl, hxb⟩)) | (gi_at_call 22; ((with_reducible refine (works_any _).mono ?_); rintro e wz ⟨rfl, hxz⟩)))
                  all_goals first | exact (undef_no (by assumption)).elim | (go_ret; exact ⟨rfl, HX.out.trans (HXR.out.trans (hxa.trans (hxb.trans hxz)))⟩)
                · have dp : decide (placeI (intsOf ll) (k : Int) < 0) = true := by rw [decide_eq_true_eq]; have := mt hpl.mp hmem; omega
                  have dm : (m == (n : Int)) = true := by rw [beq_iff_eq]; exact hiff.mpr hmem
                  clear hpl hmem hiff
                  gi_wp2_with (first | (gi_at_call 19; ((with_reducible refine HLS3.out.mono ?_); rintro e wa ⟨va, rfl, hxa, hva⟩; have HPL := hid (Place_any (.slice a1 ll.length c1) (intsOf ll) k wa ((HVR.out.mono hxa).ints (by omega))))) | (gi_at_call 34; ((with_reducible refine HPL.out.mono ?_); rintro e wb ⟨rfl, hxb⟩)) | (gi_at_call 22; ((with_reducible refine (works_any _).mono ?_); rintro e wz ⟨rfl, hxz⟩)))
                  all_goals first | exact (undef_no (by assumption)).elim | (go_ret; exact ⟨rfl, HX.out.trans (HXR.out.trans (hxa.trans (hxb.trans hxz)))⟩)
end Go.Proofs.Ytlgcnjcbmihefaa
