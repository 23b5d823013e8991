/- ShoalLeft: its walk. -/
import Derived.Test.YtlgcnjcbmihefaaXM
set_option linter.unusedSimpArgs false
set_option linter.unusedVariables false
namespace Go.Proofs.Ytlgcnjcbmihefaa
open Go Go.RowKit Go.Shelf

set_option maxRecDepth 100000 in
set_option maxHeartbeats 4000000 in
theorem ShoalLeft_any (D : SeaD) (rs : List Rep) (cs : List Cst) (n0 n1 : Int) (v0 v2 : Value) (w : World) (h0 : SearchAt w v0 D rs) (h2 : CastsAt w v2 cs) :
    Cal 12 #[v0, .agg #[.int .i64 n0, .int .i64 n1], v2] w fun e w' => e = .returned (.bool true) ∧ Ext w w' := by
  obtain ⟨lv, dv, rv, rfl, hl, hd, hr⟩ := h0
  have hx : Ext w ((w.alloc (.cells #[.int .i64 D.wide, .int .i64 D.high, lv, .int .i64 D.hours, dv, .int .i64 D.speed, rv] 28)).alloc (.cells #[.int .i64 n0, .int .i64 n1] 38)) := ((Ext.refl w).alloc _).alloc _
  have hb1 : ((w.alloc (.cells #[.int .i64 D.wide, .int .i64 D.high, lv, .int .i64 D.hours, dv, .int .i64 D.speed, rv] 28)).alloc (.cells #[.int .i64 n0, .int .i64 n1] 38)).heap[w.heap.size]? = some (.cells #[.int .i64 D.wide, .int .i64 D.high, lv, .int .i64 D.hours, dv, .int .i64 D.speed, rv] 28 (0, 0)) := two_new
  have hb2 : ((w.alloc (.cells #[.int .i64 D.wide, .int .i64 D.high, lv, .int .i64 D.hours, dv, .int .i64 D.speed, rv] 28)).alloc (.cells #[.int .i64 n0, .int .i64 n1] 38)).heap[w.heap.size + 1]? = some (.cells #[.int .i64 n0, .int .i64 n1] 38 (0, 0)) := by
    have := Ext.new (w := w.alloc (.cells #[.int .i64 D.wide, .int .i64 D.high, lv, .int .i64 D.hours, dv, .int .i64 D.speed, rv] 28)) (o := .cells #[.int .i64 n0, .int .i64 n1] 38) (Ext.refl _)
    simpa using this
  have HSND := hid (sound_any D rs _ _ ⟨lv, dv, rv, rfl, hl.mono hx, hd.mono hx, hr.mono hx⟩)
  have HL := hid (hl.mono hx)
  have HD := hid (hd.mono hx)
  have HR := hid (hr.mono hx)
  have HCS := hid (h2.mono hx)
  obtain ⟨ca, ccap, rfl, hcl, hcc⟩ := h2
  have HCC := hid hcc
  have HX := hid hx
  have HB1 := hid hb1
  have HB2 := hid hb2
  clear hl hd hr hx hb1 hb2 hcc
  gi_enter Try.func12, Try.ntmps12
  cases hsb : soundB D rs with
  | false =>
    rw [hsb] at HSND
    gi_wp2_with (first | (gi_at_call 31; ((with_reducible refine HSND.out.mono ?_); rintro e w1 ⟨rfl, hx1⟩)) | (gi_at_call 22; ((with_reducible refine (works_any _).mono ?_); rintro e w2 ⟨rfl, hx2⟩)))
    go_ret
    exact ⟨rfl, HX.out.trans (hx1.trans hx2)⟩
  | true =>
    rw [hsb] at HSND
    have hsb2 := hsb
    unfold soundB at hsb2
    rw [Bool.and_eq_true] at hsb2
    have hbd := sea_bounds hsb2.1
    have hm0 := modI_ok n0 (m := 25) (by omega)
    have hh := inB_spec hbd.2.2.1
    have hm1 := modI_ok n1 (m := D.hours) hh.1
    have HASK := hid (ask_ok hsb n0 n1)
    have HSB := hid hsb2.1
    have hww := inB_spec hbd.1
    clear hsb hsb2 hbd
    gi_wp2_with (gi_at_call 31; ((with_reducible refine HSND.out.mono ?_); rintro e w1 ⟨rfl, hx1⟩))
    have HC1 := hid fun e : Later w1 => And.intro (cell_of ((hx1.trans e.grown).block HB1.out)) (cell_of ((hx1.trans e.grown).block HB2.out))
    have HM0 := hid fun e : Later w1 => mod_any n0 25 e.val (by omega)
    have HM1 := hid fun e : Later w1 => mod_any n1 D.hours e.val (by omega)
    refine quiet_wide 9 (by kernel_rfl) (by kernel_rfl) ?_
    simp only [List.take_succ_cons, List.take_zero, List.drop_succ_cons, List.drop_zero]
    have q1 := HC1.out
    repeat (any_goals (first | go_big_quiet_step ((first | (go_at_call 37; with_reducible exact Cal.quiet_same (HM0.out _)) | (go_at_call 37; with_reducible exact Cal.quiet_same (HM1.out _)))) | quiet_step ((first | (go_at_call 37; with_reducible exact Cal.quiet_same (HM0.out _)) | (go_at_call 37; with_reducible exact Cal.quiet_same (HM1.out _))))))
    refine wpQuiet_nil ?_
    rintro w2 ⟨⟨_, hx2⟩, rfl⟩
    clear q1 HC1 HM0 HM1 HSND
    generalize modI n0 25 = mW at *
    generalize modI n1 D.hours = mH at *
    have HX2 := hid (hx1.trans hx2)
    have hcb := cell_of (HX2.out.block HB1.out)
    have HNX := hid (Next_any D lv dv rv (.slice ca cs.length ccap) rs mW mH cs w2 (HL.out.mono HX2.out) (HD.out.mono HX2.out) (HR.out.mono HX2.out) (HCS.out.mono HX2.out))
    rw [seaVal] at HNX
    clear hx1 hx2
    cases hcs : castsB (D.wide * D.high) cs with
    | false =>
      have e1 : searchErr D rs mW mH cs = 13 := by unfold searchErr; rw [if_neg (by rw [HASK.out]; simp), if_pos hcs]
      have e2 : nextRes D rs mW mH cs = (0, 0) := by unfold nextRes; rw [if_pos (by rw [e1]; decide)]
      rw [e1, e2] at HNX
      dsimp only at HNX
      clear e1 e2 hcs
      gi_wp2_with (gi_at_call 27; ((with_reducible refine HNX.out.mono ?_); rintro e w3 ⟨rfl, hx3⟩; have hcb3 := cell_of ((HX2.out.trans hx3).block HB1.out); have HCN := hid (Can_any D lv dv rv rs mW mH w3 (HL.out.mono (HX2.out.trans hx3)) (HD.out.mono (HX2.out.trans hx3)) (HR.out.mono (HX2.out.trans hx3))); rw [seaVal] at HCN))
      generalize canErr D rs mW mH = ec at *
      gi_wp2_with (first | (gi_at_call 23; ((with_reducible refine HCN.out.mono ?_); rintro e w4 ⟨v4, rfl, hx4, hv4⟩)) | (gi_at_call 22; ((with_reducible refine (works_any _).mono ?_); rintro e w5 ⟨rfl, hx5⟩)))
      go_ret
      exact ⟨rfl, HX.out.trans (HX2.out.trans (hx3.trans (hx4.trans hx5)))⟩
    | true =>
      have HCO := hid (casts_ok HSB.out hcs)
      cases hlz : decide ((canF D rs mW mH.toNat).length = 0) with
      | true =>
        have hz := of_decide_eq_true hlz
        have e1 : searchErr D rs mW mH cs = 12 := by unfold searchErr; rw [if_neg (by rw [HASK.out]; simp), if_neg (by rw [hcs]; simp), if_pos hz]
        have e2 : nextRes D rs mW mH cs = (0, 0) := by unfold nextRes; rw [if_pos (by rw [e1]; decide)]
        have HE3 : Hid (canErr D rs mW mH = 12) := by
          show canErr D rs mW mH = 12
          unfold canErr; rw [if_neg (by rw [HASK.out]; simp), if_pos hz]
        rw [e1, e2] at HNX
        dsimp only at HNX
        clear e1 e2 hcs hz hlz
        gi_wp2_with (gi_at_call 27; ((with_reducible refine HNX.out.mono ?_); rintro e w3 ⟨rfl, hx3⟩; have hcb3 := cell_of ((HX2.out.trans hx3).block HB1.out); have HCN := hid (Can_any D lv dv rv rs mW mH w3 (HL.out.mono (HX2.out.trans hx3)) (HD.out.mono (HX2.out.trans hx3)) (HR.out.mono (HX2.out.trans hx3))); rw [seaVal] at HCN))
        rw [HE3.out] at HCN
        gi_wp2_with (first | (gi_at_call 23; ((with_reducible refine HCN.out.mono ?_); rintro e w4 ⟨v4, rfl, hx4, hv4⟩)) | (gi_at_call 22; ((with_reducible refine (works_any _).mono ?_); rintro e w5 ⟨rfl, hx5⟩)))
        go_ret
        exact ⟨rfl, HX.out.trans (HX2.out.trans (hx3.trans (hx4.trans hx5)))⟩
      | false =>
        have hz := of_decide_eq_false hlz
        have e1 : searchErr D rs mW mH cs = 0 := by unfold searchErr; rw [if_neg (by rw [HASK.out]; simp), if_neg (by rw [hcs]; simp), if_neg hz]
        have e2 : nextRes D rs mW mH cs = nextTo D (placesOf D (canF D rs mW mH.toNat)) cs cs.length := by unfold nextRes; rw [if_neg (by rw [e1]; decide)]
        have HE3 : Hid (canErr D rs mW mH = 0 ∧ canList D rs mW mH = canF D rs mW mH.toNat) := by
          refine ⟨?_, ?_⟩
          · unfold canErr; rw [if_neg (by rw [HASK.out]; simp), if_neg hz]
          · unfold canList; rw [if_neg (by rw [HASK.out]; simp)]
        have HLT := hid (fun c (h : c ∈ canF D rs mW mH.toNat) => canF_lt h)
        have h80 := seaB_80 HSB.out
        have hl80 := canF_len D HSB.out rs mW mH.toNat
        have HNT := hid (nextTo_ok D (placesOf D (canF D rs mW mH.toNat)) cs cs.length (by have := HCO.out.2.1; omega))
        rw [e1, e2] at HNX
        clear e1 e2 hcs hz hlz
        gi_wp2_with (gi_at_call 27; ((with_reducible refine HNX.out.mono ?_); rintro e w3 ⟨rfl, hx3⟩; have hcb3 := cell_of ((HX2.out.trans hx3).block HB1.out); have HCN := hid (Can_any D lv dv rv rs mW mH w3 (HL.out.mono (HX2.out.trans hx3)) (HD.out.mono (HX2.out.trans hx3)) (HR.out.mono (HX2.out.trans hx3))); rw [seaVal] at HCN))
        rw [HE3.out.1, HE3.out.2] at HCN
        clear HE3
        generalize hcl : canF D rs mW mH.toNat = l at *
        clear hcl
        generalize hnt : nextTo D (placesOf D l) cs cs.length = nt at *
        clear hnt
        obtain ⟨wI, nI⟩ := nt
        dsimp only at HNX HNT
        have hc8 := HCO.out.1
        have hin : inB (wI : Int) 0 ((cs.length : Int) - 1) = true := by have := HNT.out.1; unfold inB; simp; omega
        have hgt : decide ((8 : Int) < (cs.length : Int)) = false := by rw [decide_eq_false_iff_not]; omega
        gi_wp2_with (first | (gi_at_call 23; ((with_reducible refine HCN.out.mono ?_); rintro e w4 ⟨v4, rfl, hx4, hv4⟩)) | (gi_at_call 39; ((with_reducible refine (in_b _ _ _ true _ hin).mono ?_); rintro e w9 ⟨rfl, rfl⟩)))
        obtain ⟨la, lcap, rfl, hlc⟩ := hv4.out.shape
        have HLC : Hid (∀ k (hk : k < l.length), ∃ g, la = some ⟨g, 0, none⟩ ∧ g < w4.heap.size ∧ w4.cell? ⟨g, k, none⟩ = some (.int .i64 (l[k] : Nat))) := fun k hk => by
          obtain ⟨g, e, h, hc⟩ := hlc k (by unfold natVals; rw [List.length_map]; exact hk)
          exact ⟨g, e, h, by rw [hc]; simp [natVals]⟩
        have HXW := hid (HX2.out.trans (hx3.trans hx4))
        clear hlc hv4 hx3 hx4 hcb hcb3 HNX HCN hin hgt HCS HL HD HR
        gi_loopw [14] (fun i u => ∃ i' : Nat, i' ≤ cs.length ∧ i = .int .i64 i' ∧ Ext w4 u) (fun i _ => cs.length - (intOf i).toNat)
        case atStart => exact ⟨0, Nat.zero_le _, rfl, Ext.refl _⟩
        case round =>
          obtain ⟨i, hi, rfl, hxu⟩ := hrel
          by_cases hlt : i < cs.length
          · obtain ⟨cb, coff, rfl, hcbl, hc0, hc1⟩ := HCC.out i hlt
            have hci := (HCO.out.2.2 cs[i] (List.getElem_mem _)).1
            have HCI := hid (And.intro hcbl (And.intro hc0 hc1))
            clear hcbl hc0 hc1
            gi_wp2_with fail
            gi_loopw [15, 16] (fun a k' u' => ∃ k : Nat, k ≤ l.length ∧ a = .int .i64 ((l.take k).countP (covB D cs[i]) : Nat) ∧ k' = .int .i64 k ∧ Ext w4 u') (fun _ k' _ => l.length - (intOf k').toNat)
            case atStart => exact ⟨0, Nat.zero_le _, rfl, rfl, hxu⟩
            case round =>
              obtain ⟨k, hk, rfl, rfl, hxk⟩ := hrel
              have hcle : (l.take k).countP (covB D cs[i]) ≤ l.length := Nat.le_trans List.countP_le_length (List.length_take_le' _ _)
              by_cases hlk : k < l.length
              · obtain ⟨lg, rfl, hlg, hlc⟩ := HLC.out k hlk
                have hct := countP_take (covB D cs[i]) l k hlk
                have hdl := HLT.out l[k] (List.getElem_mem _)
                have HAP := hid fun e : Later wr => apart_any D lv dv cs[i].cell (l[k] : Nat) e.val hww hci (by omega)
                rw [seaVal] at HAP
                have hcv : covB D cs[i] l[k] = decide (dist (col (seaOf D) cs[i].cell) (row (seaOf D) cs[i].cell) (col (seaOf D) (l[k] : Nat)) (row (seaOf D) (l[k] : Nat)) ≤ cs[i].far) := rfl
                have hxe := fun e : Later wr => HX.out.trans (HXW.out.trans (hxk.trans e.grown))
                have HC := hid fun e : Later wr => And.intro (cell_of ((HXW.out.trans (hxk.trans e.grown)).block HB1.out)) (And.intro (((hxe e).cell (p := ⟨cb, _, none⟩) HCI.out.1).trans HCI.out.2.1) (And.intro (((hxe e).cell (p := ⟨cb, _, none⟩) HCI.out.1).trans HCI.out.2.2) ((Ext.trans hxk e.grown).cell (p := ⟨lg, _, none⟩) hlg |>.trans hlc)))
                have HCV := hid hcv
                have HCT := hid hct
                clear hlc hlg hct hcv hxe
                cases hcb : decide (dist (col (seaOf D) cs[i].cell) (row (seaOf D) cs[i].cell) (col (seaOf D) (l[k] : Nat)) (row (seaOf D) (l[k] : Nat)) ≤ cs[i].far) with
                | true =>
                  have HCT2 : Hid ((l.take (k + 1)).countP (covB D cs[i]) = (l.take k).countP (covB D cs[i]) + 1) := by
                    show _ = _
                    rw [HCT.out, HCV.out, hcb]
                    try simp
                  generalize dist (col (seaOf D) cs[i].cell) (row (seaOf D) cs[i].cell) (col (seaOf D) (l[k] : Nat)) (row (seaOf D) (l[k] : Nat)) = dd at *
                  generalize (l.take k).countP (covB D cs[i]) = cnt at *
                  gi_wp2_with fail
                  refine quiet_wide 18 (by kernel_rfl) (by kernel_rfl) ?_
                  simp only [List.take_succ_cons, List.take_zero, List.drop_succ_cons, List.drop_zero]
                  have q1 := HC.out
                  repeat (any_goals (first | go_big_quiet_step ((go_at_call 40; with_reducible exact Cal.quiet (HAP.out _))) | quiet_step ((go_at_call 40; with_reducible exact Cal.quiet (HAP.out _)))))
                  refine wpQuiet_nil ?_
                  rintro w5 ⟨⟨_, hx5⟩, rfl⟩
                  clear q1 HC HAP
                  gi_wp2
                  all_goals exact ⟨⟨k + 1, by omega, by rw [HCT2.out]; go_num, by go_num, hxk.trans hx5⟩, by simp [intOf]; omega⟩
                | false =>
                  have HCT2 : Hid ((l.take (k + 1)).countP (covB D cs[i]) = (l.take k).countP (covB D cs[i])) := by
                    show _ = _
                    rw [HCT.out, HCV.out, hcb]
                    try simp
                  generalize dist (col (seaOf D) cs[i].cell) (row (seaOf D) cs[i].cell) (col (seaOf D) (l[k] : Nat)) (row (seaOf D) (l[k] : Nat)) = dd at *
                  generalize (l.take k).countP (covB D cs[i]) = cnt at *
                  gi_wp2_with fail
                  refine quiet_wide 18 (by kernel_rfl) (by kernel_rfl) ?_
                  simp only [List.take_succ_cons, List.take_zero, List.drop_succ_cons, List.drop_zero]
                  have q1 := HC.out
                  repeat (any_goals (first | go_big_quiet_step ((go_at_call 40; with_reducible exact Cal.quiet (HAP.out _))) | quiet_step ((go_at_call 40; with_reducible exact Cal.quiet (HAP.out _)))))
                  refine wpQuiet_nil ?_
                  rintro w5 ⟨⟨_, hx5⟩, rfl⟩
                  clear q1 HC HAP
                  gi_wp2
                  all_goals exact ⟨⟨k + 1, by omega, by rw [HCT2.out], by go_num, hxk.trans hx5⟩, by simp [intOf]; omega⟩
              · obtain rfl : k = l.length := by omega
                rw [List.take_length]
                rw [List.take_length] at hcle
                have hwo := wOf_eq D cs[i] l
                have HNI := hid (And.intro (HNT.out.2.2.1 i hlt) HNT.out.2.1)
                have HN2 : Hid (i < wI → nI < wOf D (placesOf D l) cs[i]) := fun h => by have := HNT.out.2.2.2 i h; rwa [getD_of hlt] at this
                have HN3 : Hid (i = wI → nI = wOf D (placesOf D l) cs[i]) := fun h => by have := HNT.out.2.1; rw [← h, getD_of hlt] at this; exact this
                rw [getD_of hlt] at HNI
                generalize l.countP (covB D cs[i]) = cnt at *
                rw [hwo] at HNI HN2 HN3
                clear hwo
                by_cases hpq : (cnt : Int) < (l.length : Int) - cnt
                · rw [if_pos hpq] at HNI HN2 HN3
                  have f1 : decide (((l.length : Int) - (cnt : Int)) < nI) = false := by rw [decide_eq_false_iff_not]; have := HNI.out.1; omega
                  clear HNI
                  rcases Nat.lt_trichotomy i wI with hiw | hiw | hiw
                  · have fI : ((i : Int) == (wI : Int)) = false := by simp; omega
                    have fL : decide ((i : Int) < (wI : Int)) = true := by rw [decide_eq_true_eq]; omega
                    have fE : (((l.length : Int) - (cnt : Int)) == nI) = false := by have := HN2.out hiw; simp; omega
                    clear hiw HN2 HN3
                    gi_wp2
                    all_goals exact ⟨⟨i + 1, by omega, by go_num, hxk⟩, by simp [intOf]; omega⟩
                  · have fI : ((i : Int) == (wI : Int)) = true := by simp; omega
                    have fL : decide ((i : Int) < (wI : Int)) = false := by rw [decide_eq_false_iff_not]; omega
                    have fN : (((l.length : Int) - (cnt : Int)) != nI) = false := by have := HN3.out hiw; simp; omega
                    clear hiw HN2 HN3
                    gi_wp2
                    all_goals exact ⟨⟨i + 1, by omega, by go_num, hxk⟩, by simp [intOf]; omega⟩
                  · have fI : ((i : Int) == (wI : Int)) = false := by simp; omega
                    have fL : decide ((i : Int) < (wI : Int)) = false := by rw [decide_eq_false_iff_not]; omega
                    clear HN2 HN3
                    cases fE : (((l.length : Int) - (cnt : Int)) == nI) with
                    | false =>
                      gi_wp2
                      all_goals exact ⟨⟨i + 1, by omega, by go_num, hxk⟩, by simp [intOf]; omega⟩
                    | true =>
                      gi_wp2
                      all_goals first | exact ⟨⟨i + 1, by omega, by go_num, hxk⟩, by simp [intOf]; omega⟩ | (exfalso; omega)
                · rw [if_neg hpq] at HNI HN2 HN3
                  have f1 : decide ((cnt : Int) < nI) = false := by rw [decide_eq_false_iff_not]; have := HNI.out.1; omega
                  clear HNI
                  rcases Nat.lt_trichotomy i wI with hiw | hiw | hiw
                  · have fI : ((i : Int) == (wI : Int)) = false := by simp; omega
                    have fL : decide ((i : Int) < (wI : Int)) = true := by rw [decide_eq_true_eq]; omega
                    have fE : ((cnt : Int) == nI) = false := by have := HN2.out hiw; simp; omega
                    clear hiw HN2 HN3
                    gi_wp2
                    all_goals exact ⟨⟨i + 1, by omega, by go_num, hxk⟩, by simp [intOf]; omega⟩
                  · have fI : ((i : Int) == (wI : Int)) = true := by simp; omega
                    have fL : decide ((i : Int) < (wI : Int)) = false := by rw [decide_eq_false_iff_not]; omega
                    have fN : ((cnt : Int) != nI) = false := by have := HN3.out hiw; simp; omega
                    clear hiw HN2 HN3
                    gi_wp2
                    all_goals exact ⟨⟨i + 1, by omega, by go_num, hxk⟩, by simp [intOf]; omega⟩
                  · have fI : ((i : Int) == (wI : Int)) = false := by simp; omega
                    have fL : decide ((i : Int) < (wI : Int)) = false := by rw [decide_eq_false_iff_not]; omega
                    clear HN2 HN3
                    cases fE : ((cnt : Int) == nI) with
                    | false =>
                      gi_wp2
                      all_goals exact ⟨⟨i + 1, by omega, by go_num, hxk⟩, by simp [intOf]; omega⟩
                    | true =>
                      gi_wp2
                      all_goals first | exact ⟨⟨i + 1, by omega, by go_num, hxk⟩, by simp [intOf]; omega⟩ | (exfalso; omega)
          · obtain rfl : i = cs.length := by omega
            gi_wp2_with (gi_at_call 22; ((with_reducible refine (works_any _).mono ?_); rintro e w5 ⟨rfl, hx5⟩))
            go_ret
            exact ⟨rfl, HX.out.trans (HXW.out.trans (hxu.trans hx5))⟩
end Go.Proofs.Ytlgcnjcbmihefaa
