/- The reference of torn nets: CheckTorn. -/
import Derived.Test.YtmjelgonhpgmbaaUI
set_option linter.unusedSimpArgs false
set_option linter.unusedVariables false
namespace Go.Proofs.Ytmjelgonhpgmbaa
open Go Go.RowKit Go.Shelf

theorem neq_bar (p q : Int × Int) (w : World) : (binOp .neq 86 (barV p) (barV q)).run Try.prog w = .ok (.bool (!(p.1 == q.1 && p.2 == q.2))) w := by
  unfold barV
  rw [run_neq_struct]
  have := eq_bar p q w
  unfold barV at this
  have h2 : (Op.equalIn 10000 86 (.agg #[.int .i64 p.1, .int .i64 p.2]) (.agg #[.int .i64 q.1, .int .i64 q.2])).run Try.prog w = .ok (p.1 == q.1 && p.2 == q.2) w := this
  rw [h2]; rfl
theorem allTo_stop' {g : Nat → Bool} {k n : Nat} (hk : k ≤ n) (h : allTo g k = false) : allTo g n = false := by
  induction n with
  | zero => obtain rfl : k = 0 := by omega
            exact h
  | succ n ih =>
    rcases Nat.lt_or_ge n k with h' | h'
    · obtain rfl : k = n + 1 := by omega
      exact h
    · rw [allTo_snoc, ih h']; rfl
set_option maxRecDepth 100000 in
set_option maxHeartbeats 8000000 in
theorem rcheck_any (T : TornD) (tv : Value) (w : World) (ht : TnAt w tv T) : Cal 15 #[tv] w fun e w' => e = .returned (.int .i64 (tornE T)) ∧ Ext w w' := by
  obtain ⟨sv, rfl, sa, sc, rfl, hsl, hcs⟩ := ht
  have HCS := hid hcs
  clear hcs
  have hW : Ext w (w.alloc (.cells #[.int .i64 T.wide, .int .i64 T.high, .slice sa T.bars.length sc, .int .i64 T.mesh, .int .i64 T.knot] 24)) := (Ext.refl _).alloc _
  have hB : (w.alloc (.cells #[.int .i64 T.wide, .int .i64 T.high, .slice sa T.bars.length sc, .int .i64 T.mesh, .int .i64 T.knot] 24)).heap[w.heap.size]? = some (.cells #[.int .i64 T.wide, .int .i64 T.high, .slice sa T.bars.length sc, .int .i64 T.mesh, .int .i64 T.knot] 24 (0, 0)) := Ext.new (Ext.refl _)
  have HX := hid hW
  have HB := hid hB
  clear hW hB
  cases h0 : inB T.wide 2 6 with
  | false =>
    have H0 := hid h0
    have he : tornE T = 23 := by unfold tornE tornB tornHeadB; rw [h0]; rfl
    rw [he]
    clear he h0
    gi_enter Try.func15, Try.ntmps15
    gi_wp2_with (gi_at_call 26; ((with_reducible refine (in_b _ _ _ false _ H0.out).mono ?_); rintro e w9 ⟨rfl, rfl⟩))
    gi_loopw [3, 4] (fun a i wr => a = .bool false ∧ i = .int .i64 0 ∧ Ext (w.alloc (.cells #[.int .i64 T.wide, .int .i64 T.high, .slice sa T.bars.length sc, .int .i64 T.mesh, .int .i64 T.knot] 24)) wr) (fun _ _ _ => 0)
    case atStart => exact ⟨rfl, rfl, Ext.refl _⟩
    case round =>
      obtain ⟨rfl, rfl, hx2⟩ := hrel
      gi_wp2
      all_goals first | exact (undef_no' ‹_›).elim | (go_ret; exact ⟨rfl, HX.out.trans hx2⟩)
  | true =>
    have H0 := hid h0
    cases h1 : inB T.high 2 6 with
    | false =>
      have H1 := hid h1
      have he : tornE T = 23 := by unfold tornE tornB tornHeadB; rw [h0, h1]; rfl
      rw [he]
      clear he h0 h1
      gi_enter Try.func15, Try.ntmps15
      gi_wp2_with (first | (gi_at_call 26; ((with_reducible refine (in_b _ _ _ true _ H0.out).mono ?_); rintro e w9 ⟨rfl, rfl⟩)) | (gi_at_call 26; ((with_reducible refine (in_b _ _ _ false _ H1.out).mono ?_); rintro e w9 ⟨rfl, rfl⟩)))
      gi_loopw [3, 4] (fun a i wr => a = .bool false ∧ i = .int .i64 0 ∧ Ext (w.alloc (.cells #[.int .i64 T.wide, .int .i64 T.high, .slice sa T.bars.length sc, .int .i64 T.mesh, .int .i64 T.knot] 24)) wr) (fun _ _ _ => 0)
      case atStart => exact ⟨rfl, rfl, Ext.refl _⟩
      case round =>
        obtain ⟨rfl, rfl, hx2⟩ := hrel
        gi_wp2
        all_goals first | exact (undef_no' ‹_›).elim | (go_ret; exact ⟨rfl, HX.out.trans hx2⟩)
    | true =>
      have H1 := hid h1
      cases h2 : inB T.mesh 1 100 with
      | false =>
        have H2 := hid h2
        have he : tornE T = 23 := by unfold tornE tornB tornHeadB; rw [h0, h1, h2]; rfl
        rw [he]
        clear he h0 h1 h2
        gi_enter Try.func15, Try.ntmps15
        gi_wp2_with (first | (gi_at_call 26; ((with_reducible refine (in_b _ _ _ true _ H0.out).mono ?_); rintro e w9 ⟨rfl, rfl⟩)) | (gi_at_call 26; ((with_reducible refine (in_b _ _ _ true _ H1.out).mono ?_); rintro e w9 ⟨rfl, rfl⟩)) | (gi_at_call 26; ((with_reducible refine (in_b _ _ _ false _ H2.out).mono ?_); rintro e w9 ⟨rfl, rfl⟩)))
        gi_loopw [3, 4] (fun a i wr => a = .bool false ∧ i = .int .i64 0 ∧ Ext (w.alloc (.cells #[.int .i64 T.wide, .int .i64 T.high, .slice sa T.bars.length sc, .int .i64 T.mesh, .int .i64 T.knot] 24)) wr) (fun _ _ _ => 0)
        case atStart => exact ⟨rfl, rfl, Ext.refl _⟩
        case round =>
          obtain ⟨rfl, rfl, hx2⟩ := hrel
          gi_wp2
          all_goals first | exact (undef_no' ‹_›).elim | (go_ret; exact ⟨rfl, HX.out.trans hx2⟩)
      | true =>
        have H2 := hid h2
        cases h3 : inB T.knot 0 100 with
        | false =>
          have H3 := hid h3
          have he : tornE T = 23 := by unfold tornE tornB tornHeadB; rw [h0, h1, h2, h3]; rfl
          rw [he]
          clear he h0 h1 h2 h3
          gi_enter Try.func15, Try.ntmps15
          gi_wp2_with (first | (gi_at_call 26; ((with_reducible refine (in_b _ _ _ true _ H0.out).mono ?_); rintro e w9 ⟨rfl, rfl⟩)) | (gi_at_call 26; ((with_reducible refine (in_b _ _ _ true _ H1.out).mono ?_); rintro e w9 ⟨rfl, rfl⟩)) | (gi_at_call 26; ((with_reducible refine (in_b _ _ _ true _ H2.out).mono ?_); rintro e w9 ⟨rfl, rfl⟩)) | (gi_at_call 26; ((with_reducible refine (in_b _ _ _ false _ H3.out).mono ?_); rintro e w9 ⟨rfl, rfl⟩)))
          gi_loopw [3, 4] (fun a i wr => a = .bool false ∧ i = .int .i64 0 ∧ Ext (w.alloc (.cells #[.int .i64 T.wide, .int .i64 T.high, .slice sa T.bars.length sc, .int .i64 T.mesh, .int .i64 T.knot] 24)) wr) (fun _ _ _ => 0)
          case atStart => exact ⟨rfl, rfl, Ext.refl _⟩
          case round =>
            obtain ⟨rfl, rfl, hx2⟩ := hrel
            gi_wp2
            all_goals first | exact (undef_no' ‹_›).elim | (go_ret; exact ⟨rfl, HX.out.trans hx2⟩)
        | true =>
          have H3 := hid h3
          have hd : tornHeadB T = true := by unfold tornHeadB; rw [h0, h1, h2, h3]; rfl
          have w1 := inB_spec h0
          have w2 := inB_spec h1
          have HHD := hid hd
          clear h0 h1 h2 h3 hd
          gi_enter Try.func15, Try.ntmps15
          gi_wp2_with (first | (gi_at_call 26; ((with_reducible refine (in_b _ _ _ true _ H0.out).mono ?_); rintro e w9 ⟨rfl, rfl⟩)) | (gi_at_call 26; ((with_reducible refine (in_b _ _ _ true _ H1.out).mono ?_); rintro e w9 ⟨rfl, rfl⟩)) | (gi_at_call 26; ((with_reducible refine (in_b _ _ _ true _ H2.out).mono ?_); rintro e w9 ⟨rfl, rfl⟩)) | (gi_at_call 26; ((with_reducible refine (in_b _ _ _ true _ H3.out).mono ?_); rintro e w9 ⟨rfl, rfl⟩)))
          generalize w.alloc (.cells #[.int .i64 T.wide, .int .i64 T.high, .slice sa T.bars.length sc, .int .i64 T.mesh, .int .i64 T.knot] 24) = W at *
          gi_loopw [3, 4] (fun a iv wr => ∃ i : Nat, i ≤ T.bars.length ∧ a = .bool (allTo (barGood T) i) ∧ iv = .int .i64 i ∧ Hid (Ext W wr)) (fun _ iv _ => T.bars.length - (intOf iv).toNat)
          case atStart => exact ⟨0, Nat.zero_le _, rfl, rfl, Ext.refl _⟩
          case round =>
            obtain ⟨i, hi, rfl, rfl, HI⟩ := hrel
            have c0 := cell_of (HI.out.block HB.out)
            cases hok : allTo (barGood T) i with
            | false =>
              have he : tornE T = 23 := by unfold tornE tornB; rw [allTo_stop' hi hok, Bool.and_false]; rfl
              have HE := hid he
              clear he hok
              gi_wp2
              all_goals first | exact (undef_no' ‹_›).elim | (go_ret; exact ⟨by rw [HE.out]; rfl, HX.out.trans HI.out⟩)
            | true =>
              by_cases hlt : i < T.bars.length
              case neg =>
                obtain rfl : i = T.bars.length := by omega
                have he : tornE T = 0 := by unfold tornE tornB; rw [HHD.out, hok]; rfl
                have HE := hid he
                clear he hok
                gi_wp2
                all_goals first | exact (undef_no' ‹_›).elim | (go_ret; exact ⟨by rw [HE.out]; rfl, HX.out.trans HI.out⟩)
              case pos =>
                have hii : (i : Int) < T.bars.length := by omega
                have HOK := hid hok
                have HGE := hid (good_eq hlt)
                obtain ⟨rb, off, rfl, hrb, hq0, hq1⟩ := HCS.out i hlt
                have HCI := hid (fun (u : World) (hu : Ext W u) => And.intro (((HX.out.trans hu).cell (p := ⟨rb, _, none⟩) hrb).trans hq0) (((HX.out.trans hu).cell (p := ⟨rb, _, none⟩) hrb).trans hq1))
                have HBA := hid (fun u => bar_any T.bars[i] T.wide T.high w1 w2 u)
                clear hrb hq0 hq1 hok
                generalize T.bars[i] = s at *
                obtain ⟨lo, hi'⟩ := s
                simp only at HCI HBA
                generalize hb0 : isBarB T.wide T.high ⟨lo, hi'⟩ = b0 at *
                gi_wp2_with fail
                clear c0
                have HQ := hid fun e : Later wr => And.intro (cell_of (Ext.block (HI.out.trans e.grown) HB.out)) (HCI.out _ (HI.out.trans e.grown))
                have q0 := HQ.out
                refine quiet_wide 11 (by kernel_rfl) (by kernel_rfl) ?_
                simp only [List.take_succ_cons, List.take_zero, List.drop_succ_cons, List.drop_zero]
                repeat (any_goals (first | go_big_quiet_step ((go_at_call 49; with_reducible exact Cal.quiet (HBA.out _))) | quiet_step ((go_at_call 49; with_reducible exact Cal.quiet (HBA.out _)))))
                refine wpQuiet_nil ?_
                rintro w5 ⟨⟨w5q, hx5⟩, hew⟩
                obtain rfl : w5 = w5q := hew
                have hx5 : Ext wr w5 := hx5
                have HI5 := hid (HI.out.trans hx5)
                clear q0 HQ hx5 HI HBA
                gi_wp2_with fail
                gi_loopw [3, 5] (fun a kv wr => ∃ k : Nat, k ≤ i ∧ a = .bool (b0 && allTo (fun k => !sameB (T.bars.getD k ⟨0, 0⟩) ⟨lo, hi'⟩) k) ∧ kv = .int .i64 k ∧ Hid (Ext W wr)) (fun _ kv _ => i - (intOf kv).toNat)
                case atStart => exact ⟨0, Nat.zero_le _, by simp [allTo], rfl, HI5.out⟩
                case round =>
                  obtain ⟨k, hk, rfl, rfl, HJ⟩ := hrel
                  by_cases hkt : k < i
                  case neg =>
                    obtain rfl : k = i := by omega
                    have HNX : Hid (allTo (barGood T) (k + 1) = (b0 && allTo (fun k => !sameB (T.bars.getD k ⟨0, 0⟩) ⟨lo, hi'⟩) k)) := by show _ = _; rw [allTo_snoc, HOK.out, HGE.out, Bool.true_and]
                    generalize (b0 && allTo (fun k => !sameB (T.bars.getD k ⟨0, 0⟩) ⟨lo, hi'⟩) k) = b1 at *
                    gi_wp2_with fail
                    go_roundw
                    case rel => exact ⟨k + 1, by omega, by rw [HNX.out], by go_num, HJ.out⟩
                    case measure => simp [intOf]; omega
                  case pos =>
                    have hkl : k < T.bars.length := by omega
                    have hki : (k : Int) < i := by omega
                    have hki2 : (k : Int) < T.bars.length := by omega
                    have HAS := hid (allTo_snoc (fun k => !sameB (T.bars.getD k ⟨0, 0⟩) ⟨lo, hi'⟩) k)
                    have HGD : Hid (T.bars.getD k ⟨0, 0⟩ = T.bars[k]) := getD_of hkl
                    cases hv : (b0 && allTo (fun k => !sameB (T.bars.getD k ⟨0, 0⟩) ⟨lo, hi'⟩) k) with
                    | false =>
                      have HN : Hid ((b0 && allTo (fun k => !sameB (T.bars.getD k ⟨0, 0⟩) ⟨lo, hi'⟩) (k + 1)) = false) := by show _ = _; rw [HAS.out, ← Bool.and_assoc, hv]; rfl
                      clear hv
                      gi_wp2_with fail
                      refine quiet_wide 14 (by kernel_rfl) (by kernel_rfl) ?_
                      simp only [List.take_succ_cons, List.take_zero, List.drop_succ_cons, List.drop_zero]
                      repeat (any_goals (first | go_big_quiet_step (fail) | quiet_step (fail)))
                      refine wpQuiet_nil ?_
                      rintro w7 ⟨⟨w7q, hx7⟩, hew⟩
                      obtain rfl : w7 = w7q := hew
                      have hx7 : Ext wr w7 := hx7
                      gi_wp2_with fail
                      go_roundw
                      case rel => exact ⟨k + 1, by omega, by rw [HN.out], by go_num, HJ.out.trans hx7⟩
                      case measure => simp [intOf]; omega
                    | true =>
                      obtain ⟨rb', off', he', hrb', hq0, hq1⟩ := HCS.out k hkl
                      cases he'
                      have HCK := hid (fun (u : World) (hu : Ext W u) => And.intro (((HX.out.trans hu).cell (p := ⟨rb, _, none⟩) hrb').trans hq0) (((HX.out.trans hu).cell (p := ⟨rb, _, none⟩) hrb').trans hq1))
                      clear hrb' hq0 hq1
                      have HSB : Hid ((b0 && allTo (fun k => !sameB (T.bars.getD k ⟨0, 0⟩) ⟨lo, hi'⟩) (k + 1)) = !sameB T.bars[k] ⟨lo, hi'⟩) := by show _ = _; rw [HAS.out, ← Bool.and_assoc, hv, Bool.true_and, HGD.out]
                      clear hv
                      generalize T.bars[k] = z at *
                      obtain ⟨zl, zh⟩ := z
                      have HBB : Hid (sameB ⟨zl, zh⟩ ⟨lo, hi'⟩ = (zl == lo && zh == hi')) := rfl
                      simp only at HCK
                      have heq := fun (u : World) => neq_bar (zl, zh) (lo, hi') u
                      unfold barV at heq
                      simp only at heq
                      obtain ⟨bb, hbb⟩ : ∃ bb, bb = (zl == lo && zh == hi') := ⟨_, rfl⟩
                      rw [← hbb] at heq HBB
                      clear hbb
                      gi_wp2_with fail
                      have HQ := hid fun e : Later wr => And.intro (cell_of (Ext.block (HJ.out.trans e.grown) HB.out)) (And.intro (HCI.out _ (HJ.out.trans e.grown)) (HCK.out _ (HJ.out.trans e.grown)))
                      have q0 := HQ.out
                      refine quiet_wide 14 (by kernel_rfl) (by kernel_rfl) ?_
                      simp only [List.take_succ_cons, List.take_zero, List.drop_succ_cons, List.drop_zero]
                      repeat (any_goals (first | go_big_quiet_step (fail) | quiet_step (fail)))
                      refine wpQuiet_nil ?_
                      rintro w7 ⟨⟨w7q, hx7⟩, hew⟩
                      obtain rfl : w7 = w7q := hew
                      have hx7 : Ext wr w7 := hx7
                      clear q0 HQ
                      gi_wp2_with fail
                      go_roundw
                      case rel => exact ⟨k + 1, by omega, by rw [HSB.out, HBB.out], by go_num, HJ.out.trans hx7⟩
                      case measure => simp [intOf]; omega

end Go.Proofs.Ytmjelgonhpgmbaa
