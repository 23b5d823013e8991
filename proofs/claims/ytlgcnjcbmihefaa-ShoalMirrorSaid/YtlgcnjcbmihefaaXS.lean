/- ShoalFound: its walk. -/
import Derived.Test.YtlgcnjcbmihefaaXR
set_option linter.unusedSimpArgs false
set_option linter.unusedVariables false
namespace Go.Proofs.Ytlgcnjcbmihefaa
open Go Go.RowKit Go.Shelf

theorem undef_no {b : Bool} (h : some undef = some (Value.bool b)) : False := by
  unfold undef at h
  cases h

/-- What no casts, or the fewest, cover. -/
theorem found_none {D : SeaD} {cs : List Cst} {l : List Nat} (h : fcF D cs (placesOf D l) = none) (hl : l.length ≠ 0) (t : List Nat) (hr : rises cs.length 0 t) : meetsB D cs t l = false := by
  rw [fcF_G] at h
  cases hm : meetsB D cs t l with
  | false => rfl
  | true => exact absurd (meetsB_cover.mp hm) (fcG_none _ _ h (fun e => hl (by unfold placesOf at e; simpa using e)) t hr)
theorem found_some {D : SeaD} {cs : List Cst} {l f : List Nat} (h : fcF D cs (placesOf D l) = some f) (hl : l.length ≠ 0) : rises cs.length 0 f ∧ meetsB D cs f l = true ∧ ∀ t, rises cs.length 0 t → meetsB D cs t l = true → f.length ≤ t.length ∧ (t.length = f.length → befL t f = false) := by
  rw [fcF_G] at h
  obtain ⟨h1, h2, h3⟩ := fcG_some _ _ h (fun e => hl (by unfold placesOf at e; simpa using e))
  exact ⟨h1, meetsB_cover.mpr h2, fun t ht hm => h3 t ht (meetsB_cover.mp hm)⟩

set_option maxRecDepth 100000 in
set_option maxHeartbeats 4000000 in
theorem ShoalFound_any (D : SeaD) (rs : List Rep) (cs : List Cst) (n0 n1 n2 : Int) (v0 v2 : Value) (w : World) (h0 : SearchAt w v0 D rs) (h2 : CastsAt w v2 cs) :
    Cal 13 #[v0, .agg #[.int .i64 n0, .int .i64 n1, .int .i64 n2], v2] w fun e w' => e = .returned (.bool true) ∧ Ext w w' := by
  obtain ⟨lv, dv, rv, rfl, hl, hd, hr⟩ := h0
  have hx : Ext w ((w.alloc (.cells #[.int .i64 D.wide, .int .i64 D.high, lv, .int .i64 D.hours, dv, .int .i64 D.speed, rv] 28)).alloc (.cells #[.int .i64 n0, .int .i64 n1, .int .i64 n2] 55)) := ((Ext.refl w).alloc _).alloc _
  have hb1 : ((w.alloc (.cells #[.int .i64 D.wide, .int .i64 D.high, lv, .int .i64 D.hours, dv, .int .i64 D.speed, rv] 28)).alloc (.cells #[.int .i64 n0, .int .i64 n1, .int .i64 n2] 55)).heap[w.heap.size]? = some (.cells #[.int .i64 D.wide, .int .i64 D.high, lv, .int .i64 D.hours, dv, .int .i64 D.speed, rv] 28 (0, 0)) := two_new
  have hb2 : ((w.alloc (.cells #[.int .i64 D.wide, .int .i64 D.high, lv, .int .i64 D.hours, dv, .int .i64 D.speed, rv] 28)).alloc (.cells #[.int .i64 n0, .int .i64 n1, .int .i64 n2] 55)).heap[w.heap.size + 1]? = some (.cells #[.int .i64 n0, .int .i64 n1, .int .i64 n2] 55 (0, 0)) := by
    have := Ext.new (w := w.alloc (.cells #[.int .i64 D.wide, .int .i64 D.high, lv, .int .i64 D.hours, dv, .int .i64 D.speed, rv] 28)) (o := .cells #[.int .i64 n0, .int .i64 n1, .int .i64 n2] 55) (Ext.refl _)
    simpa using this
  have HSND := hid (sound_any D rs _ _ ⟨lv, dv, rv, rfl, hl.mono hx, hd.mono hx, hr.mono hx⟩)
  have HL := hid (hl.mono hx)
  have HD := hid (hd.mono hx)
  have HR := hid (hr.mono hx)
  have HCS := hid (h2.mono hx)
  obtain ⟨ca, ccap, rfl, hcl, hcc⟩ := h2
  have HCC := hid hcc
  have HX := hid hx
  have HB1 := hid hb1
  have HB2 := hid hb2
  clear hl hd hr hx hb1 hb2 hcc
  gi_enter Try.func13, Try.ntmps13
  cases hsb : soundB D rs with
  | false =>
    rw [hsb] at HSND
    gi_wp2_with (first | (gi_at_call 31; ((with_reducible refine HSND.out.mono ?_); rintro e w1 ⟨rfl, hx1⟩)) | (gi_at_call 22; ((with_reducible refine (works_any _).mono ?_); rintro e w2 ⟨rfl, hx2⟩)))
    go_ret
    exact ⟨rfl, HX.out.trans (hx1.trans hx2)⟩
  | true =>
    rw [hsb] at HSND
    have hsb2 := hsb
    unfold soundB at hsb2
    rw [Bool.and_eq_true] at hsb2
    have hbd := sea_bounds hsb2.1
    have hm0 := modI_ok n0 (m := 25) (by omega)
    have hh := inB_spec hbd.2.2.1
    have hm1 := modI_ok n1 (m := D.hours) hh.1
    have HASK := hid (ask_ok hsb n0 n1)
    have HSB := hid hsb2.1
    have hww := inB_spec hbd.1
    clear hsb hsb2 hbd
    gi_wp2_with (gi_at_call 31; ((with_reducible refine HSND.out.mono ?_); rintro e w1 ⟨rfl, hx1⟩))
    have HC1 := hid fun e : Later w1 => And.intro (cell_of ((hx1.trans e.grown).block HB1.out)) (cell_of ((hx1.trans e.grown).block HB2.out))
    have HM0 := hid fun e : Later w1 => mod_any n0 25 e.val (by omega)
    have HM1 := hid fun e : Later w1 => mod_any n1 D.hours e.val (by omega)
    refine quiet_wide 9 (by kernel_rfl) (by kernel_rfl) ?_
    simp only [List.take_succ_cons, List.take_zero, List.drop_succ_cons, List.drop_zero]
    have q1 := HC1.out
    repeat (any_goals (first | go_big_quiet_step ((first | (go_at_call 37; with_reducible exact Cal.quiet_same (HM0.out _)) | (go_at_call 37; with_reducible exact Cal.quiet_same (HM1.out _)))) | quiet_step ((first | (go_at_call 37; with_reducible exact Cal.quiet_same (HM0.out _)) | (go_at_call 37; with_reducible exact Cal.quiet_same (HM1.out _))))))
    refine wpQuiet_nil ?_
    rintro w2 ⟨⟨_, hx2⟩, rfl⟩
    clear q1 HC1 HM0 HM1 HSND
    generalize modI n0 25 = mW at *
    generalize modI n1 D.hours = mH at *
    have HX2 := hid (hx1.trans hx2)
    have hcb := cell_of (HX2.out.block HB1.out)
    have HSU := hid (Sure_any D lv dv rv (.slice ca cs.length ccap) rs mW mH cs w2 (HL.out.mono HX2.out) (HD.out.mono HX2.out) (HR.out.mono HX2.out) (HCS.out.mono HX2.out))
    rw [seaVal] at HSU
    clear hx1 hx2
    cases hcs : castsB (D.wide * D.high) cs with
    | false =>
      have e1 : searchErr D rs mW mH cs = 13 := by unfold searchErr; rw [if_neg (by rw [HASK.out]; simp), if_pos hcs]
      have e2 : sureErr D rs mW mH cs = 13 := by unfold sureErr; rw [if_pos (by rw [e1]; decide), e1]
      have e3 : sureList D rs mW mH cs = [] := by unfold sureList; rw [if_pos (by rw [e1]; decide)]
      rw [e2, e3] at HSU
      dsimp only [List.length_nil] at HSU
      clear e1 e2 e3 hcs
      gi_wp2_with (gi_at_call 29; ((with_reducible refine HSU.out.mono ?_); rintro e w3 ⟨v3, rfl, hx3, hv3⟩; obtain ⟨a3, c3, rfl⟩ := hv3.out.isSliceN; have hcb3 := cell_of ((HX2.out.trans hx3).block HB1.out); have HCN := hid (Can_any D lv dv rv rs mW mH w3 (HL.out.mono (HX2.out.trans hx3)) (HD.out.mono (HX2.out.trans hx3)) (HR.out.mono (HX2.out.trans hx3))); rw [seaVal] at HCN))
      generalize canErr D rs mW mH = ec at *
      gi_wp2_with (first | (gi_at_call 23; ((with_reducible refine HCN.out.mono ?_); rintro e w4 ⟨v4, rfl, hx4, hv4⟩)) | (gi_at_call 22; ((with_reducible refine (works_any _).mono ?_); rintro e wz ⟨rfl, hxz⟩)))
      go_ret
      exact ⟨rfl, HX.out.trans (HX2.out.trans (hx3.trans (hx4.trans hxz)))⟩
    | true =>
      have HCO := hid (casts_ok HSB.out hcs)
      cases hlz : decide ((canF D rs mW mH.toNat).length = 0) with
      | true =>
        have hz := of_decide_eq_true hlz
        have e1 : searchErr D rs mW mH cs = 12 := by unfold searchErr; rw [if_neg (by rw [HASK.out]; simp), if_neg (by rw [hcs]; simp), if_pos hz]
        have e2 : sureErr D rs mW mH cs = 12 := by unfold sureErr; rw [if_pos (by rw [e1]; decide), e1]
        have e3 : sureList D rs mW mH cs = [] := by unfold sureList; rw [if_pos (by rw [e1]; decide)]
        have HE3 : Hid (canErr D rs mW mH = 12) := by
          show canErr D rs mW mH = 12
          unfold canErr; rw [if_neg (by rw [HASK.out]; simp), if_pos hz]
        rw [e2, e3] at HSU
        dsimp only [List.length_nil] at HSU
        clear e1 e2 e3 hcs hz hlz
        gi_wp2_with (gi_at_call 29; ((with_reducible refine HSU.out.mono ?_); rintro e w3 ⟨v3, rfl, hx3, hv3⟩; obtain ⟨a3, c3, rfl⟩ := hv3.out.isSliceN; have hcb3 := cell_of ((HX2.out.trans hx3).block HB1.out); have HCN := hid (Can_any D lv dv rv rs mW mH w3 (HL.out.mono (HX2.out.trans hx3)) (HD.out.mono (HX2.out.trans hx3)) (HR.out.mono (HX2.out.trans hx3))); rw [seaVal] at HCN))
        rw [HE3.out] at HCN
        gi_wp2_with (first | (gi_at_call 23; ((with_reducible refine HCN.out.mono ?_); rintro e w4 ⟨v4, rfl, hx4, hv4⟩)) | (gi_at_call 22; ((with_reducible refine (works_any _).mono ?_); rintro e wz ⟨rfl, hxz⟩)))
        go_ret
        exact ⟨rfl, HX.out.trans (HX2.out.trans (hx3.trans (hx4.trans hxz)))⟩
      | false =>
        have hz := of_decide_eq_false hlz
        have e1 : searchErr D rs mW mH cs = 0 := by unfold searchErr; rw [if_neg (by rw [HASK.out]; simp), if_neg (by rw [hcs]; simp), if_neg hz]
        have HE3 : Hid (canErr D rs mW mH = 0 ∧ canList D rs mW mH = canF D rs mW mH.toNat) := by
          refine ⟨?_, ?_⟩
          · unfold canErr; rw [if_neg (by rw [HASK.out]; simp), if_neg hz]
          · unfold canList; rw [if_neg (by rw [HASK.out]; simp)]
        have HLT := hid (fun c (h : c ∈ canF D rs mW mH.toNat) => canF_lt h)
        have h80 := seaB_80 HSB.out
        have hl80 := canF_len D HSB.out rs mW mH.toNat
        have hc8 := HCO.out.1
        have hc1 := HCO.out.2.1
        have HCSB : Hid (∀ c ∈ cs, 0 ≤ c.cell ∧ c.cell ≤ 1000) := fun c hc => (HCO.out.2.2 c hc).1
        have hin : inB (cs.length : Int) 1 8 = true := by unfold inB; simp; omega
        have hp1 : (1 : Int) ≤ 2 ^ cs.length := Int.pow_pos (by decide)
        have hp2 : (2 : Int) ^ cs.length ≤ 256 := by
          have : (2 : Int) ^ cs.length ≤ 2 ^ 8 := by
            have := Nat.pow_le_pow_right (n := 2) (by decide) hc8
            exact_mod_cast this
          exact this
        generalize hcl : canF D rs mW mH.toNat = l at *
        cases hfc : fcF D cs (placesOf D l) with
        | none =>
          have e2 : sureErr D rs mW mH cs = 4 := by unfold sureErr; rw [if_neg (by rw [e1]; decide), hcl, if_pos hfc]
          have e3 : sureList D rs mW mH cs = [] := by unfold sureList; rw [if_neg (by rw [e1]; decide), hcl, hfc]; rfl
          have HNO := hid (found_none hfc hz (membersF (2 ^ cs.length - 1) cs.length) (membersF_rises _ _))
          rw [e2, e3] at HSU
          dsimp only [List.length_nil] at HSU
          clear e1 e2 e3 hcs hz hlz hcl hfc
          gi_wp2_with (gi_at_call 29; ((with_reducible refine HSU.out.mono ?_); rintro e w3 ⟨v3, rfl, hx3, hv3⟩; obtain ⟨a3, c3, rfl⟩ := hv3.out.isSliceN; have hcb3 := cell_of ((HX2.out.trans hx3).block HB1.out); have HCN := hid (Can_any D lv dv rv rs mW mH w3 (HL.out.mono (HX2.out.trans hx3)) (HD.out.mono (HX2.out.trans hx3)) (HR.out.mono (HX2.out.trans hx3))); rw [seaVal] at HCN))
          rw [HE3.out.1, HE3.out.2] at HCN
          clear HE3
          gi_wp2_with (first | (gi_at_call 23; ((with_reducible refine HCN.out.mono ?_); rintro e w4 ⟨v4, rfl, hx4, hv4⟩)) | (gi_at_call 39; ((with_reducible refine (in_b _ _ _ true _ hin).mono ?_); rintro e w9 ⟨rfl, rfl⟩)) | (gi_at_call 41; ((with_reducible refine (Members_any _ cs.length _ ⟨by omega, by omega⟩ hc8).mono ?_); rintro e w5 ⟨v5, rfl, hx5, hv5⟩; have hcb5 := cell_of ((HX2.out.trans (hx3.trans (hx4.trans hx5))).block HB1.out))))
          have HME := hid (meets_any D cs lv dv (.slice ca cs.length ccap) v5 v4 _ l w5 (HCS.out.mono (HX2.out.trans (hx3.trans (hx4.trans hx5)))) hv5.out (hv4.out.nats.mono hx5) hww HCSB.out (fun i hi => rises_lt (membersF_rises _ _) i hi) (fun c hc => by have := HLT.out c hc; omega) (by have := rises_len (membersF_rises (2 ^ cs.length - 1) cs.length); omega) (by omega))
          rw [seaVal, HNO.out] at HME
          gi_wp2_with (first | (gi_at_call 42; ((with_reducible refine HME.out.mono ?_); rintro e w6 ⟨rfl, hx6⟩)) | (gi_at_call 22; ((with_reducible refine (works_any _).mono ?_); rintro e wz ⟨rfl, hxz⟩)))
          go_ret
          exact ⟨rfl, HX.out.trans (HX2.out.trans (hx3.trans (hx4.trans (hx5.trans (hx6.trans hxz)))))⟩
        | some f =>
          have e2 : sureErr D rs mW mH cs = 0 := by unfold sureErr; rw [if_neg (by rw [e1]; decide), hcl, if_neg (by rw [hfc]; simp)]
          have e3 : sureList D rs mW mH cs = f := by unfold sureList; rw [if_neg (by rw [e1]; decide), hcl, hfc]; rfl
          have HYES := hid (found_some hfc hz)
          rw [e2, e3] at HSU
          clear e1 e2 e3 hcs hz hlz hcl hfc
          gi_wp2_with (gi_at_call 29; ((with_reducible refine HSU.out.mono ?_); rintro e w3 ⟨v3, rfl, hx3, hv3⟩; obtain ⟨a3, c3, rfl⟩ := hv3.out.isSliceN; have hcb3 := cell_of ((HX2.out.trans hx3).block HB1.out); have HCN := hid (Can_any D lv dv rv rs mW mH w3 (HL.out.mono (HX2.out.trans hx3)) (HD.out.mono (HX2.out.trans hx3)) (HR.out.mono (HX2.out.trans hx3))); rw [seaVal] at HCN))
          rw [HE3.out.1, HE3.out.2] at HCN
          clear HE3
          gi_wp2_with (first | (gi_at_call 23; ((with_reducible refine HCN.out.mono ?_); rintro e w4 ⟨v4, rfl, hx4, hv4⟩)) | (gi_at_call 39; ((with_reducible refine (in_b _ _ _ true _ hin).mono ?_); rintro e w9 ⟨rfl, rfl⟩)) | (gi_at_call 41; ((with_reducible refine (Members_any _ cs.length _ ⟨by omega, by omega⟩ hc8).mono ?_); rintro e w5 ⟨v5, rfl, hx5, hv5⟩; have hcb5 := cell_of ((HX2.out.trans (hx3.trans (hx4.trans hx5))).block HB1.out))))
          have hfl := rises_len HYES.out.1
          have HX5 := hid (HX2.out.trans (hx3.trans (hx4.trans hx5)))
          have HCC := hid fun e : Later w5 => And.intro (cell_of ((HX5.out.trans e.grown).block HB1.out)) (cell_of ((HX5.out.trans e.grown).block HB2.out))
          have HM2 := hid fun e : Later w5 => mod_any n2 (2 ^ cs.length) e.val ⟨hp1, by omega⟩
          have hmb := modI_ok n2 hp1
          have hxl := hid (And.intro hx3 (And.intro hx4 hx5))
          clear hx3 hx4 hx5 hv5 hcb5
          refine quiet_wide 8 (by kernel_rfl) (by kernel_rfl) ?_
          simp only [List.take_succ_cons, List.take_zero, List.drop_succ_cons, List.drop_zero]
          have q1 := HCC.out
          repeat (any_goals (first | go_big_quiet_step ((go_at_call 37; with_reducible exact Cal.quiet_same (HM2.out _))) | quiet_step ((go_at_call 37; with_reducible exact Cal.quiet_same (HM2.out _)))))
          refine wpQuiet_nil ?_
          rintro w6 ⟨⟨_, hx6⟩, rfl⟩
          clear q1 HCC HM2
          generalize modI n2 (2 ^ cs.length) = bI at *
          have hol := rises_len (membersF_rises bI cs.length)
          gi_wp2_with (gi_at_call 41; ((with_reducible refine (Members_any _ cs.length _ ⟨hmb.1, by omega⟩ hc8).mono ?_); rintro e w7 ⟨v7, rfl, hx7, hv7⟩))
          have HX7 := hid (HX5.out.trans (Ext.trans hx6 hx7))
          have HV4 := hid (hv4.out.nats.mono (hxl.out.2.2.trans (Ext.trans hx6 hx7)))
          have HV3 := hid (hv3.out.nats.mono (hxl.out.2.1.trans (hxl.out.2.2.trans (Ext.trans hx6 hx7))))
          have HV7 := hid hv7.out
          obtain ⟨a7, c7, rfl, _⟩ := hv7.out
          clear hv7 hv4 hv3 hx6 hx7 hxl
          have HRI := hid (Rising_any _ f cs.length w7 HV3.out HYES.out.1 (by omega))
          gi_wp2_with (gi_at_call 35; ((with_reducible refine HRI.out.mono ?_); rintro e w8 ⟨rfl, hx8⟩; have hcb8 := cell_of ((HX7.out.trans hx8).block HB1.out)))
          have HME := hid (meets_any D cs lv dv (.slice ca cs.length ccap) _ v4 f l w8 (HCS.out.mono (HX7.out.trans hx8)) (HV3.out.mono hx8) (HV4.out.mono hx8) hww HCSB.out (fun i hi => rises_lt HYES.out.1 i hi) (fun c hc => by have := HLT.out c hc; omega) (by omega) (by omega))
          rw [seaVal, HYES.out.2.1] at HME
          gi_wp2_with (gi_at_call 42; ((with_reducible refine HME.out.mono ?_); rintro e w9 ⟨rfl, hx9⟩; have hcb9 := cell_of ((HX7.out.trans (hx8.trans hx9)).block HB1.out)))
          have HMO := hid (meets_any D cs lv dv (.slice ca cs.length ccap) _ v4 (membersF bI cs.length) l w9 (HCS.out.mono (HX7.out.trans (hx8.trans hx9))) (HV7.out.mono (hx8.trans hx9)) (HV4.out.mono (hx8.trans hx9)) hww HCSB.out (fun i hi => rises_lt (membersF_rises _ _) i hi) (fun c hc => by have := HLT.out c hc; omega) (by omega) (by omega))
          rw [seaVal] at HMO
          have HX9 := hid (HX.out.trans (HX7.out.trans (hx8.trans hx9)))
          have HLE := hid (HYES.out.2.2 (membersF bI cs.length) (membersF_rises _ _))
          cases hmo : meetsB D cs (membersF bI cs.length) l with
          | false =>
            rw [hmo] at HMO
            clear hmo HLE
            gi_wp2_with (first | (gi_at_call 42; ((with_reducible refine HMO.out.mono ?_); rintro e wb ⟨rfl, hxb⟩)) | (gi_at_call 22; ((with_reducible refine (works_any _).mono ?_); rintro e wz ⟨rfl, hxz⟩)))
            all_goals first | exact (undef_no (by assumption)).elim | (go_ret; exact ⟨rfl, HX9.out.trans (hxb.trans hxz)⟩)
          | true =>
            have hle := (HLE.out hmo).1
            have HBF := hid (HLE.out hmo).2
            rw [hmo] at HMO
            clear hmo HLE
            by_cases hlen : (membersF bI cs.length).length = f.length
            · have g1 : decide ((f.length : Int) < ((membersF bI cs.length).length : Int)) = false := by rw [decide_eq_false_iff_not]; omega
              have g3 : decide (f.length < (membersF bI cs.length).length) = false := by rw [decide_eq_false_iff_not]; omega
              have g2 : (((membersF bI cs.length).length : Int) == (f.length : Int)) = true := by simp; omega
              have HB3 := hid (HBF.out hlen)
              have HBE := hid fun (wx : World) (hx : Ext w9 wx) => Before_any _ _ (membersF bI cs.length) f wx (HV7.out.mono (hx8.trans (hx9.trans hx))) (HV3.out.mono (hx8.trans (hx9.trans hx))) hlen (by omega)
              rw [HB3.out] at HBE
              clear hlen HBF HB3
              gi_wp2_with (first | (gi_at_call 42; ((with_reducible refine HMO.out.mono ?_); rintro e wb ⟨rfl, hxb⟩)) | (gi_at_call 36; ((with_reducible refine (HBE.out _ hxb).mono ?_); rintro e wc ⟨rfl, hxc⟩)) | (gi_at_call 22; ((with_reducible refine (works_any _).mono ?_); rintro e wz ⟨rfl, hxz⟩)))
              all_goals first | exact (undef_no (by assumption)).elim | (go_ret; exact ⟨rfl, HX9.out.trans (hxb.trans (hxc.trans hxz))⟩)
            · have g1 : decide ((f.length : Int) < ((membersF bI cs.length).length : Int)) = true := by rw [decide_eq_true_eq]; omega
              have g3 : decide (f.length < (membersF bI cs.length).length) = true := by rw [decide_eq_true_eq]; omega
              clear HBF
              gi_wp2_with (first | (gi_at_call 42; ((with_reducible refine HMO.out.mono ?_); rintro e wb ⟨rfl, hxb⟩)) | (gi_at_call 22; ((with_reducible refine (works_any _).mono ?_); rintro e wz ⟨rfl, hxz⟩)))
              all_goals first | exact (undef_no (by assumption)).elim | (go_ret; exact ⟨rfl, HX9.out.trans (hxb.trans hxz)⟩)
end Go.Proofs.Ytlgcnjcbmihefaa
