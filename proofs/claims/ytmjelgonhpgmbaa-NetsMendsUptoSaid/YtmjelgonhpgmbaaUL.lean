/- The reference of torn nets: IsMend. -/
import Derived.Test.YtmjelgonhpgmbaaUJ
import Derived.Test.YtmjelgonhpgmbaaUK
set_option linter.unusedSimpArgs false
set_option linter.unusedVariables false
namespace Go.Proofs.Ytmjelgonhpgmbaa
open Go Go.RowKit Go.Shelf

theorem torn_bad' {T : TornD} (h : tornB T = false) (ps : List (List Int)) : isTw T ps = 0 ∧ isV T ps = false ∧ tornE T = 23 := by
  have h1 : isV T ps = false := by unfold isV; rw [h]; rfl
  exact ⟨by unfold isTw; rw [if_neg (by rw [h1]; exact Bool.false_ne_true)], h1, by unfold tornE; rw [h]; rfl⟩
set_option maxRecDepth 100000 in
set_option maxHeartbeats 8000000 in
theorem rismend_any (T : TornD) (tv pv : Value) (ps : List (List Int)) (hsum : (ps.map List.length).sum ≤ 1048576) (hnum : ps.length ≤ 1048576) (w : World) (ht : TnAt w tv T) (hp : PiecesAt w pv ps) : Cal 13 #[tv, pv] w fun e w' => e = .returned (.tuple #[.int .i64 (isTw T ps), .bool (isV T ps), .int .i64 (tornE T)]) ∧ Ext w w' := by
  have HF := hid (fun (u : World) (hu : Ext w u) => ht.mono hu)
  obtain ⟨sv, rfl, hs⟩ := ht
  obtain ⟨sa, sc, rfl, hsl, _⟩ := hs
  have H15 := hid (fun (u : World) (hu : Ext w u) => rcheck_any T _ u (HF.out u hu))
  cases hT : tornB T with
  | false =>
    have hv := torn_bad' hT ps
    have HV := hid hv
    rw [hv.2.2] at H15
    clear hv hT
    gi_enter Try.func13, Try.ntmps13
    gi_upto_region 1 with fail
    have hW : Ext w (w.alloc (.cells #[.int .i64 T.wide, .int .i64 T.high, .slice sa T.bars.length sc, .int .i64 T.mesh, .int .i64 T.knot] 24)) := ((Ext.refl _).alloc _)
    have hB0 : (w.alloc (.cells #[.int .i64 T.wide, .int .i64 T.high, .slice sa T.bars.length sc, .int .i64 T.mesh, .int .i64 T.knot] 24)).heap[w.heap.size]? = some (.cells #[.int .i64 T.wide, .int .i64 T.high, .slice sa T.bars.length sc, .int .i64 T.mesh, .int .i64 T.knot] 24 (0, 0)) := by simp only [alloc_at, World.size_alloc]; (repeat rw [if_neg (by omega)]); first | rfl | rw [if_pos (by omega)] | rw [if_pos trivial]
    generalize (w.alloc (.cells #[.int .i64 T.wide, .int .i64 T.high, .slice sa T.bars.length sc, .int .i64 T.mesh, .int .i64 T.knot] 24)) = W at *
    have HX := hid hW
    have HB0 := hid hB0
    have c0 := cell_of hB0
    clear hW hB0
    gi_wp2_with (gi_at_call 15; ((with_reducible refine (H15.out _ HX.out).mono ?_); rintro e w1 ⟨rfl, hx1⟩))
    refine bodyPost_ret (v := .tuple #[.int .i64 0, .bool false, .int .i64 23]) (by simp [results, Try.results13, go_sem]) rfl ⟨by rw [HV.out.1, HV.out.2.1, HV.out.2.2], HX.out.trans hx1⟩
  | true =>
    have he : tornE T = 0 := by unfold tornE; rw [hT]; rfl
    rw [he] at H15
    have HE := hid he
    have H47 := hid (fun (u : World) (hu : Ext w u) => run_any T hT _ pv ps hsum hnum u (HF.out u hu) (hp.mono hu))
    have hfew := fun (h : isV T ps = true) => mend_few hT (ps := ps) (by unfold isV at h; rw [hT, Bool.true_and] at h; exact h)
    have HFEW := hid hfew
    have HNG := hid (fun h => no_goes hT (ps := ps) h)
    have HMG := hid (fun qs h => mends_goes hT (ps := ps) (qs := qs) h)
    have hlen := (torn_ok hT).2.2.2.2.1
    obtain ⟨pa, pc, rfl, hpl, _⟩ := hp
    clear he hfew
    gi_enter Try.func13, Try.ntmps13
    gi_upto_region 1 with fail
    have hW : Ext w (w.alloc (.cells #[.int .i64 T.wide, .int .i64 T.high, .slice sa T.bars.length sc, .int .i64 T.mesh, .int .i64 T.knot] 24)) := ((Ext.refl _).alloc _)
    have hB0 : (w.alloc (.cells #[.int .i64 T.wide, .int .i64 T.high, .slice sa T.bars.length sc, .int .i64 T.mesh, .int .i64 T.knot] 24)).heap[w.heap.size]? = some (.cells #[.int .i64 T.wide, .int .i64 T.high, .slice sa T.bars.length sc, .int .i64 T.mesh, .int .i64 T.knot] 24 (0, 0)) := by simp only [alloc_at, World.size_alloc]; (repeat rw [if_neg (by omega)]); first | rfl | rw [if_pos (by omega)] | rw [if_pos trivial]
    generalize (w.alloc (.cells #[.int .i64 T.wide, .int .i64 T.high, .slice sa T.bars.length sc, .int .i64 T.mesh, .int .i64 T.knot] 24)) = W at *
    have HX := hid hW
    have HB0 := hid hB0
    have c0 := cell_of hB0
    clear hW hB0
    gi_upto_region 2 with (gi_at_call 15; ((with_reducible refine (H15.out _ HX.out).mono ?_); rintro e w1 ⟨rfl, hx1⟩))
    have c0 := cell_of (hx1.block HB0.out)
    have HB1 := hid (hx1.block HB0.out)
    have HX1 := hid (HX.out.trans hx1)
    clear hx1
    by_cases hgo : ∃ qs, Goes T.bars ps qs
    case neg =>
      have hno := hgo
      have H47n := hid (fun (u : World) (hu : Ext w u) => (H47.out u hu).mono (R' := fun e w' => e = .returned (.tuple #[.slice none 0 0, .bool false]) ∧ Ext u w') fun e w' h => by
        rcases h with ⟨qs, g, hg, _⟩ | ⟨_, he, hx⟩
        · exact absurd ⟨qs, hg⟩ hgo
        · exact ⟨he, hx⟩)
      clear hgo H47
      gi_upto_region 5 with (gi_at_call 47; ((with_reducible refine (H47n.out _ HX1.out).mono ?_); rintro e w2 ⟨rfl, hx2⟩))
      have hv := HNG.out hno
      have HV : Hid (isTw T ps = 0 ∧ isV T ps = false ∧ tornE T = 0) := ⟨by unfold isTw; rw [if_neg (by rw [hv]; exact Bool.false_ne_true)], hv, HE.out⟩
      clear hno hv c0
      gi_wp2_with fail
      gi_loopw [9, 10] (fun a iv wr => a = .bool false ∧ iv = .int .i64 0 ∧ Ext w2 wr) (fun _ _ _ => 0)
      case atStart => exact ⟨rfl, rfl, Ext.refl _⟩
      case round =>
        obtain ⟨rfl, rfl, hx3⟩ := hrel
        gi_wp2
        all_goals first | exact (undef_no' ‹_›).elim | (refine bodyPost_ret (v := .tuple #[.int .i64 0, .bool false, .int .i64 0]) (by simp [results, Try.results13, go_sem]) rfl ⟨by rw [HV.out.1, HV.out.2.1, HV.out.2.2], (HX1.out.trans hx2).trans hx3⟩)
    case pos =>
      have H47y := hid (fun (u : World) (hu : Ext w u) => (H47.out u hu).mono (R' := fun e w' => ∃ qs g, Goes T.bars ps qs ∧ e = .returned (.tuple #[.slice (some ⟨g, 0, none⟩) T.bars.length T.bars.length, .bool true]) ∧ Ext u w' ∧ w'.heap[g]? = some (.cells (iArr (cntOf qs []) T.bars.length) 3 (0, 0))) fun e w' h => by
        rcases h with h | ⟨hno, _⟩
        · exact h
        · exact absurd hgo hno)
      clear hgo H47
      gi_upto_region 5 with (gi_at_call 47; ((with_reducible refine (H47y.out _ HX1.out).mono ?_); rintro e w2 ⟨qs, g, hg, rfl, hx2, hb⟩))
      have HG := hid hg
      have HB := hid hb
      have HB2 := hid (hx2.block HB1.out)
      clear hg hb c0
      gi_wp2_with fail
      gi_loopw [9, 10] (fun a iv wr => ∃ i : Nat, i ≤ T.bars.length ∧ a = .bool (allTo (fun j => cntOf qs [] j == 1) i) ∧ iv = .int .i64 i ∧ Hid (Ext w2 wr)) (fun _ iv _ => T.bars.length - (intOf iv).toNat)
      case atStart => exact ⟨0, Nat.zero_le _, rfl, rfl, Ext.refl _⟩
      case round =>
        obtain ⟨i, hi, rfl, rfl, HI⟩ := hrel
        have c0 := cell_of (HI.out.block HB2.out)
        cases hok : allTo (fun j => cntOf qs [] j == 1) i with
        | false =>
          have hv : isV T ps = false := by
            cases h : isV T ps
            · rfl
            · have h1 := (HMG.out qs HG.out).1 h
              have : allTo (fun j => cntOf qs [] j == 1) i = true := allTo_yes fun j hj => by simpa using h1 j (by omega)
              rw [this] at hok; cases hok
          have HV : Hid (isTw T ps = 0 ∧ isV T ps = false ∧ tornE T = 0) := ⟨by unfold isTw; rw [if_neg (by rw [hv]; exact Bool.false_ne_true)], hv, HE.out⟩
          clear hok hv
          gi_wp2
          all_goals first | exact (undef_no' ‹_›).elim | (refine bodyPost_ret (v := .tuple #[.int .i64 0, .bool false, .int .i64 0]) (by simp [results, Try.results13, go_sem]) rfl ⟨by rw [HV.out.1, HV.out.2.1, HV.out.2.2], (HX1.out.trans hx2).trans HI.out⟩)
        | true =>
          by_cases hlt : i < T.bars.length
          case neg =>
            obtain rfl : i = T.bars.length := by omega
            have hv : isV T ps = true := (HMG.out qs HG.out).2 fun j hj => by have := List.all_eq_true.1 hok j (List.mem_range.2 hj); simpa using this
            have hl := HFEW.out hv
            have HV : Hid (isTw T ps = T.mesh * T.bars.length + T.knot * 2 * ps.length ∧ isV T ps = true ∧ tornE T = 0) := ⟨by unfold isTw; rw [if_pos hv], hv, HE.out⟩
            have H48 := hid (fun (u : World) (hu : Ext w u) => rtwine_any T hT _ ps.length (by omega) u (HF.out u hu))
            clear hok hv
            gi_wp2_with (gi_at_call 48; ((with_reducible refine (H48.out _ ((HX1.out.trans hx2).trans HI.out)).mono ?_); rintro e w9 ⟨rfl, hx9⟩))
            all_goals first | exact (undef_no' ‹_›).elim | (refine bodyPost_ret (v := .tuple #[.int .i64 (T.mesh * T.bars.length + T.knot * 2 * ps.length), .bool true, .int .i64 0]) (by simp [results, Try.results13, go_sem]) rfl ⟨by rw [HV.out.1, HV.out.2.1, HV.out.2.2], ((HX1.out.trans hx2).trans HI.out).trans hx9⟩)
          case pos =>
            have hii : (i : Int) < T.bars.length := by omega
            have HNX : Hid (allTo (fun j => cntOf qs [] j == 1) (i + 1) = (cntOf qs [] i == 1)) := by show _ = _; rw [allTo_snoc, hok, Bool.true_and]
            have d0 : wr.cell? ⟨g, i, none⟩ = some (.int .i64 (cntOf qs [] i)) := by rw [cell_of (HI.out.block HB.out), iArr_get hlt]
            clear hok
            generalize cntOf qs [] i = x at *
            have HXX : Hid (((x : Int) == 1) = (x == 1)) := by show _ = _; rw [Bool.eq_iff_iff]; simp; omega
            gi_wp2_with fail
            clear c0 d0
            go_roundw
            case rel => exact ⟨i + 1, by omega, by rw [HNX.out, ← HXX.out], by go_num, HI.out⟩
            case measure => simp [intOf]; omega

end Go.Proofs.Ytmjelgonhpgmbaa
