/- The reference: Can; whether a net fouls none. -/
import Derived.Test.YtmjelgonhpgmbaaGreatSL
import Derived.Test.YtmjelgonhpgmbaaGreatMX
set_option linter.unusedSimpArgs false
set_option linter.unusedVariables false
namespace Go.Proofs.YtmjelgonhpgmbaaGreat
open Go Go.RowKit Go.Shelf

theorem filter_outTo (g : Nat → Nat → Nat → Bool) (q : Nat × Nat × Nat → Bool) (N K : Nat) : (outTo g N K).filter q = outTo (fun h i k => g h i k && q (h, i, k)) N K := by
  unfold outTo midTo inTo
  rw [List.filter_flatMap]
  congr 1; funext h
  rw [List.filter_flatMap]
  congr 1; funext i
  rw [List.filter_flatMap]
  congr 1; funext m
  cases q1 : g h i (i + 1 + m) <;> cases q2 : q (h, i, i + 1 + m) <;> simp [q1, q2]
theorem flat_congr {α : Type} {f f' : Nat → List α} {n : Nat} (h : ∀ i, i < n → f i = f' i) : (List.range n).flatMap f = (List.range n).flatMap f' := by
  rw [List.flatMap_def, List.flatMap_def]
  congr 1
  exact List.map_congr_left fun i hi => h i (List.mem_range.1 hi)
theorem outTo_congr {g g' : Nat → Nat → Nat → Bool} {N K : Nat} (h : ∀ t i k, t < K → i < k → k < N → g t i k = g' t i k) : outTo g N K = outTo g' N K := by
  unfold outTo midTo inTo
  refine flat_congr fun t ht => flat_congr fun i hi => flat_congr fun m hm => ?_
  rw [h t i (i + 1 + m) ht (by omega) (by omega)]
theorem find_head {α : Type} (p : α → Bool) : ∀ l : List α, l.find? p = (l.filter p).head?
  | [] => rfl
  | a :: l => by
    rw [List.find?_cons, List.filter_cons]
    cases p a
    · exact find_head p l
    · rfl
theorem canB_eq {F : FleetD} (hF : FleetOk F) {i k h : Nat} (hi : i < F.nets.length) (hk : k < F.nets.length) (hh : h ≤ F.east.length) : canB F i k h = (lieG F h i k && foulCt F (h, i, k)) := by
  unfold canB lieG foulCt foulsC
  simp only
  cases q1 : lieB (F.nets.getD i netZ) h
  · rfl
  cases q2 : lieB (F.nets.getD k netZ) h
  · rfl
  rw [getD_of hi] at q1 ⊢
  rw [getD_of hk] at q2 ⊢
  have o1 := hF.nets _ (List.getElem_mem hi)
  have o2 := hF.nets _ (List.getElem_mem hk)
  have l1 := inB_spec q1
  have l2 := inB_spec q2
  have m1 : mx F.nets[i].shot F.nets[k].shot ≤ (h : Int) := by unfold mx; split <;> omega
  rw [apRe_eq o1.shot.1 o2.shot.1 l1.1 l2.1 hh, apRn_eq hF.same o1.shot.1 o2.shot.1 l1.1 l2.1 hh]
  rw [meet_near long_eF (long_e_ok o1.long).1 (long_e_ok o2.long).1 hF.gap.1 (by rw [apart_eG]; exact apart_ord hF.easto _ _ o1.shot.1 o2.shot.1 m1 o1.seo o2.seo)]
  rw [meet_near long_nF (long_n_ok o1.long).1 (long_n_ok o2.long).1 hF.gap.1 (by rw [apart_nG]; exact apart_ord hF.northo _ _ o1.shot.1 o2.shot.1 m1 o1.sno o2.sno)]
  rfl
theorem can_head {F : FleetD} (hF : FleetOk F) : (trips F).find? (foulCt F) = (outTo (fun h i k => canB F i k h) F.nets.length (F.east.length + 1)).head? := by
  rw [find_head]
  unfold trips
  rw [filter_outTo]
  congr 1
  exact outTo_congr fun t i k ht hik hk => (canB_eq hF (by omega) hk (by omega)).symm
theorem head_of {P : Nat → Nat → Nat → Bool} {N K h i m : Nat} (hh : h < K) (hi : i < N) (hm : m < N - (i + 1)) (hg : P h i (i + 1 + m) = true) (h0 : (posTo P N h i m).length = 0) : (outTo P N K).head? = some (h, i, i + 1 + m) := by
  have := pos_get (g := P) (N := N) hh hi hm hg
  rw [h0] at this
  rw [List.head?_eq_getElem?]
  first | exact this | (obtain ⟨h1, h2⟩ := this; rw [List.getElem?_eq_getElem h1, h2])
theorem put3 {w W : World} {g : Nat} {T : TypeId} {a b c : Value} (hb : W.heap[g]? = some (.cells #[a, b, c] T (0, 0))) (hx : Ext w W) (hg : w.heap.size ≤ g) (x y z : Value) :
    Ext w (((W.setCell ⟨g, 0, none⟩ x).setCell ⟨g, 1, none⟩ y).setCell ⟨g, 2, none⟩ z) ∧ (((W.setCell ⟨g, 0, none⟩ x).setCell ⟨g, 1, none⟩ y).setCell ⟨g, 2, none⟩ z).heap[g]? = some (.cells #[x, y, z] T (0, 0)) ∧
    ∀ j o, j ≠ g → W.heap[j]? = some o → (((W.setCell ⟨g, 0, none⟩ x).setCell ⟨g, 1, none⟩ y).setCell ⟨g, 2, none⟩ z).heap[j]? = some o := by
  have h1 := set_same hb 0 x
  have h2 := set_same h1 1 y
  have h3 := set_same h2 2 z
  exact ⟨Ext.set (Ext.set (Ext.set hx hg 0 x) hg 1 y) hg 2 z, h3, fun j o hj ho => by rw [set_other hj, set_other hj, set_other hj]; exact ho⟩

set_option maxRecDepth 100000 in
set_option maxHeartbeats 8000000 in
theorem Can_z (F : FleetD) (ev nv sv : Value) (w : World) (he : SpansAt w ev F.east) (hn : SpansAt w nv F.north) (hs : ShotsAt w sv F.nets) :
    Cal 16 #[.agg #[ev, nv, .int .i64 F.gap, sv]] w fun e w' => e = .returned (.tuple #[.agg (canV F), .int .i64 (canE F)]) ∧ Ext w w' := by
  have HCK := hid (fun (u : World) (hu : Ext w u) => Check_z F _ _ _ u (he.mono hu) (hn.mono hu) (hs.mono hu))
  have HCA := hid (fun (hF : FleetW F) (i k h : Nat) (hi : i < F.nets.length) (hk : k < F.nets.length) (hh : h ≤ F.east.length) (u : World) (hu : Ext w u) => can_z F hF _ _ _ i k h hi hk hh u (he.mono hu) (hn.mono hu) (hs.mono hu))
  obtain ⟨ea, ec, rfl, ⟨hec, hel⟩, _⟩ := he
  obtain ⟨na, nc, rfl, ⟨hnc, hnl⟩, _⟩ := hn
  obtain ⟨sa, sc, rfl, ⟨hsc, hsl⟩, hcs⟩ := hs
  clear hcs
  gi_enter Tryz.func16, Tryz.ntmps16
  gi_upto_region 1 with fail
  have hW : Ext w ((w.alloc (.cells #[.slice ea F.east.length ec, .slice na F.north.length nc, .int .i64 F.gap, .slice sa F.nets.length sc] 25)).alloc (.cells #[.int .i64 0, .int .i64 0, .int .i64 0] 37)) := ((Ext.refl _).alloc _).alloc _
  have hB0 : ((w.alloc (.cells #[.slice ea F.east.length ec, .slice na F.north.length nc, .int .i64 F.gap, .slice sa F.nets.length sc] 25)).alloc (.cells #[.int .i64 0, .int .i64 0, .int .i64 0] 37)).heap[w.heap.size]? = some (.cells #[.slice ea F.east.length ec, .slice na F.north.length nc, .int .i64 F.gap, .slice sa F.nets.length sc] 25 (0, 0)) := by
    have h := Ext.new (w := w) (o := .cells #[.slice ea F.east.length ec, .slice na F.north.length nc, .int .i64 F.gap, .slice sa F.nets.length sc] 25) (Ext.refl _)
    try simp only [World.size_alloc] at h
    exact ((Ext.refl _).alloc _).block h
  have hB1 : ((w.alloc (.cells #[.slice ea F.east.length ec, .slice na F.north.length nc, .int .i64 F.gap, .slice sa F.nets.length sc] 25)).alloc (.cells #[.int .i64 0, .int .i64 0, .int .i64 0] 37)).heap[w.heap.size + 1]? = some (.cells #[.int .i64 0, .int .i64 0, .int .i64 0] 37 (0, 0)) := by
    have h := Ext.new (w := (w.alloc (.cells #[.slice ea F.east.length ec, .slice na F.north.length nc, .int .i64 F.gap, .slice sa F.nets.length sc] 25))) (o := .cells #[.int .i64 0, .int .i64 0, .int .i64 0] 37) (Ext.refl _)
    try simp only [World.size_alloc] at h
    exact (Ext.refl _).block h
  have hZ : ((w.alloc (.cells #[.slice ea F.east.length ec, .slice na F.north.length nc, .int .i64 F.gap, .slice sa F.nets.length sc] 25)).alloc (.cells #[.int .i64 0, .int .i64 0, .int .i64 0] 37)).heap.size = w.heap.size + 2 := by simp only [World.size_alloc]
  generalize ((w.alloc (.cells #[.slice ea F.east.length ec, .slice na F.north.length nc, .int .i64 F.gap, .slice sa F.nets.length sc] 25)).alloc (.cells #[.int .i64 0, .int .i64 0, .int .i64 0] 37)) = W at *
  have HX := hid hW
  have HZ := hid hZ
  have HB0 := hid hB0
  have HB1 := hid hB1
  have c0 := cell_of hB0
  have c1 := cell_of hB1
  clear hW hZ hB0 hB1
  have f1 := free_of HB1.out
  cases hF : fleetB F
  case false =>
    have HV : Hid (canV F = #[.int .i64 0, .int .i64 0, .int .i64 0] ∧ canE F = 20) := ⟨(can_bad hF).1, (can_bad hF).2.1⟩
    rw [chk_20 hF] at HCK
    gi_wp2_with (gi_at_call 9; ((with_reducible refine (HCK.out _ HX.out).mono ?_); rintro e w9 ⟨rfl, hx9⟩; clear c0 c1 f1; have HX := hid (HX.out.trans hx9); have HB0 := hid (hx9.block HB0.out); have HB1 := hid (hx9.block HB1.out); have c0 := cell_of HB0.out; have c1 := cell_of HB1.out; have f1 := free_of HB1.out; clear hx9))
    clear c0 c1 f1
    have P := hid (put3 HB1.out HX.out (by omega) (.int .i64 0) (.int .i64 0) (.int .i64 0))
    have cB := cell_of P.out.2.1
    refine bodyPost_ret (v := .tuple #[.agg #[.int .i64 0, .int .i64 0, .int .i64 0], .int .i64 20]) (by simp [results, Tryz.results16, go_sem, cB]) rfl ⟨by rw [HV.out.1, HV.out.2], P.out.1⟩
  case true =>
  have hFo := fleetB_ok hF
  have HCA := hid (HCA.out (FleetW.of hFo))
  have HHD := hid (can_head hFo)
  have HFB := hid hF
  have hh24 := hFo.hours
  have hn6 := hFo.count
  rw [chk_0 hF] at HCK
  clear hF hFo
  obtain ⟨P, hP⟩ : ∃ P : Nat → Nat → Nat → Bool, P = fun h i k => canB F i k h := ⟨_, rfl⟩
  have HP := hid (fun h i k => (show P h i k = canB F i k h by rw [hP]))
  rw [← hP] at HHD
  clear hP
  gi_upto_region 4 with (gi_at_call 9; ((with_reducible refine (HCK.out _ HX.out).mono ?_); rintro e w9 ⟨rfl, hx9⟩; clear c0 c1 f1; have HX := hid (HX.out.trans hx9); have HB0 := hid (hx9.block HB0.out); have HB1 := hid (hx9.block HB1.out); have c0 := cell_of HB0.out; have c1 := cell_of HB1.out; have f1 := free_of HB1.out; clear hx9))
  gi_wp2_with fail
  clear c0 c1 f1
  gi_loopw [5] (fun a wr => ∃ h : Nat, h ≤ F.east.length + 1 ∧ a = .int .i64 h ∧ Hid ((posTo P F.nets.length h 0 0).length = 0 ∧ Ext w9 wr)) (fun a _ => F.east.length + 1 - (intOf a).toNat)
  case atStart => exact ⟨0, Nat.zero_le _, rfl, pos_zero, Ext.refl _⟩
  case round =>
    obtain ⟨h, hh, rfl, HH⟩ := hrel
    have c0 := cell_of (HH.out.2.block HB0.out)
    by_cases hlt : h ≤ F.east.length
    · have hki : (h : Int) ≤ F.east.length := by omega
      gi_wp2_with fail
      have HPO := hid (show (posTo P F.nets.length (h + 1) 0 0).length = (posTo P F.nets.length h F.nets.length 0).length from pos_out)
      clear c0
      gi_loopw [6] (fun a wr => ∃ i : Nat, i ≤ F.nets.length ∧ a = .int .i64 i ∧ Hid ((posTo P F.nets.length h i 0).length = 0 ∧ Ext w9 wr)) (fun a _ => F.nets.length - (intOf a).toNat)
      case atStart => exact ⟨0, Nat.zero_le _, rfl, HH.out⟩
      case round =>
        obtain ⟨i, hi, rfl, HI⟩ := hrel
        have c0 := cell_of (HI.out.2.block HB0.out)
        by_cases hlti : i < F.nets.length
        · have hkj : (i : Int) < F.nets.length := by omega
          gi_upto_region 10 with fail
          gi_wp2_with fail
          have HPM := hid (show (posTo P F.nets.length h (i + 1) 0).length = (posTo P F.nets.length h i (F.nets.length - (i + 1))).length from pos_mid)
          clear c0
          gi_loopw [7] (fun a wr => ∃ m : Nat, m ≤ F.nets.length - (i + 1) ∧ a = .int .i64 ((i + 1 + m : Nat) : Int) ∧ Hid ((posTo P F.nets.length h i m).length = 0 ∧ Ext w9 wr)) (fun a _ => F.nets.length - (intOf a).toNat)
          case atStart => exact ⟨0, Nat.zero_le _, by go_num, HI.out⟩
          case round =>
            obtain ⟨m, hm, rfl, HM⟩ := hrel
            have c0 := cell_of (HM.out.2.block HB0.out)
            obtain ⟨k, hk⟩ : ∃ k, i + 1 + m = k := ⟨_, rfl⟩
            rw [hk]
            by_cases hltm : k < F.nets.length
            · have hkk : (k : Int) < F.nets.length := by omega
              have HCC := hid (fun (u : World) (hu : Ext w u) => HCA.out i k h hlti hltm hlt u hu)
              have HPK := hid (HP.out h i k)
              have c1 := cell_of (HM.out.2.block HB1.out)
              have f1 := free_of (HM.out.2.block HB1.out)
              cases hc : canB F i k h
              case true =>
                rw [hc] at HCC HPK
                have HHE := hid (HHD.out.trans (head_of (by omega) hlti (by omega) (by rw [hk]; exact HPK.out) HM.out.1))
                have HV : Hid (canV F = #[.int .i64 h, .int .i64 i, .int .i64 k] ∧ canE F = 0) := by
                  have := can_some HFB.out HHE.out
                  rw [hk] at this
                  exact this
                clear hc
                have HX := hid (HX.out.trans HM.out.2)
                have HB0 := hid (HM.out.2.block HB0.out)
                have HB1 := hid (HM.out.2.block HB1.out)
                gi_wp2_with (gi_at_call 45; ((with_reducible refine (HCC.out _ HX.out).mono ?_); rintro e w9 ⟨rfl, hx9⟩; clear c0 c1 f1; have HX := hid (HX.out.trans hx9); have HB0 := hid (hx9.block HB0.out); have HB1 := hid (hx9.block HB1.out); have c0 := cell_of HB0.out; have c1 := cell_of HB1.out; have f1 := free_of HB1.out; clear hx9))
                clear c0 c1 f1
                have P := hid (put3 HB1.out HX.out (by omega) (.int .i64 h) (.int .i64 i) (.int .i64 k))
                have cB := cell_of P.out.2.1
                refine bodyPost_ret (v := .tuple #[.agg #[.int .i64 h, .int .i64 i, .int .i64 k], .int .i64 0]) (by simp [results, Tryz.results16, go_sem, cB]) rfl ⟨by rw [HV.out.1, HV.out.2], P.out.1⟩
              case false =>
                rw [hc] at HCC HPK
                have HNO : Hid ((posTo P F.nets.length h i (m + 1)).length = 0) := by show _ = _; rw [pos_no (by rw [hk]; exact HPK.out)]; exact HM.out.1
                clear hc
                gi_wp2_with (gi_at_call 45; ((with_reducible refine (HCC.out _ (HX.out.trans HM.out.2)).mono ?_); rintro e w8 ⟨rfl, hx8⟩))
                go_roundw
                case rel => exact ⟨m + 1, by omega, by rw [← hk]; go_num, HNO.out, HM.out.2.trans hx8⟩
                case measure => simp [intOf]; omega
            · have hkk : ¬ (k : Int) < F.nets.length := by omega
              obtain rfl : m = F.nets.length - (i + 1) := by omega
              have HNX : Hid ((posTo P F.nets.length h (i + 1) 0).length = 0) := by show _ = _; rw [HPM.out]; exact HM.out.1
              gi_wp2_with fail
              go_roundw
              case rel => exact ⟨i + 1, by omega, by go_num, HNX.out, HM.out.2⟩
              case measure => simp [intOf]; omega
        · obtain rfl : i = F.nets.length := by omega
          have hkj : ¬ (F.nets.length : Int) < F.nets.length := by omega
          have HNX : Hid ((posTo P F.nets.length (h + 1) 0 0).length = 0) := by show _ = _; rw [HPO.out]; exact HI.out.1
          gi_wp2_with fail
          go_roundw
          case rel => exact ⟨h + 1, by omega, by go_num, HNX.out, HI.out.2⟩
          case measure => simp [intOf]; omega
    · obtain rfl : h = F.east.length + 1 := by omega
      have hki : ¬ ((F.east.length + 1 : Nat) : Int) ≤ F.east.length := by omega
      have HV : Hid (canV F = #[.int .i64 0, .int .i64 0, .int .i64 0] ∧ canE F = 4) := by
        refine can_none HFB.out ?_
        rw [HHD.out]
        have := HH.out.1
        rw [pos_end] at this
        rw [List.eq_nil_of_length_eq_zero this]; rfl
      have c1 := cell_of (HH.out.2.block HB1.out)
      have f1 := free_of (HH.out.2.block HB1.out)
      have HX := hid (HX.out.trans HH.out.2)
      have HB1 := hid (HH.out.2.block HB1.out)
      gi_wp2_with fail
      clear c0 c1 f1
      have P := hid (put3 HB1.out HX.out (by omega) (.int .i64 0) (.int .i64 0) (.int .i64 0))
      have cB := cell_of P.out.2.1
      refine bodyPost_ret (v := .tuple #[.agg #[.int .i64 0, .int .i64 0, .int .i64 0], .int .i64 4]) (by simp [results, Tryz.results16, go_sem, cB]) rfl ⟨by rw [HV.out.1, HV.out.2], P.out.1⟩

end Go.Proofs.YtmjelgonhpgmbaaGreat
