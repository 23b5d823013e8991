/- The reference: within, lying. -/
import Derived.Test.YtmjelgonhpgmbaaGreatSA
import Derived.Test.YtmjelgonhpgmbaaGreatMF
set_option linter.unusedSimpArgs false
set_option linter.unusedVariables false
namespace Go.Proofs.YtmjelgonhpgmbaaGreat
open Go Go.RowKit Go.Shelf

set_option maxHeartbeats 2000000 in
theorem within_any (l : List Int) (s : List Spn) (lv sv : Value) (w : World) (hl : IntsAt w lv l) (hs : SpansAt w sv s) : Cal 63 #[lv, sv] w fun e w' => e = .returned (.bool (withinB l s)) ∧ Ext w w' := by
  obtain ⟨la, lc, rfl, hln, hlc⟩ := hl
  obtain ⟨sa, sc, rfl, hsn, hsc⟩ := hs
  have HL := hid hlc
  have HS := hid hsc
  clear hlc hsc
  gi_enter Tryz.func63, Tryz.ntmps63
  cases hq : ((l.length : Int) == (s.length : Int))
  case false =>
    have hn : (l.length == s.length) = false := by rw [beq_eq_false_iff_ne] at hq ⊢; omega
    have HG : Hid (withinB l s = false) := by show withinB l s = _; unfold withinB; rw [hn]; rfl
    clear hn
    gi_wp2_with fail
    gi_loopw [5, 6] (fun o i wr => o = .bool false ∧ i = .int .i64 0 ∧ wr = w) (fun _ _ _ => 0)
    case atStart => exact ⟨rfl, rfl, rfl⟩
    case round =>
      obtain ⟨rfl, rfl, rfl⟩ := hrel
      gi_wp2_with fail
      go_ret
      exact ⟨by rw [HG.out]; rfl, Ext.refl _⟩
  case true =>
  have hls : l.length = s.length := by rw [beq_iff_eq] at hq; omega
  have HG : Hid (withinB l s = allTo (withinGood l s) s.length) := by show _ = _; unfold withinB; rw [hls]; simp
  have HLS := hid hls
  clear hls
  gi_wp2_with fail
  clear hq
  gi_loopw [5, 6] (fun o i wr => ∃ k : Nat, k ≤ s.length ∧ i = .int .i64 k ∧ o = .bool (allTo (withinGood l s) k) ∧ Ext w wr) (fun _ i _ => s.length - (intOf i).toNat)
  case atStart => exact ⟨0, Nat.zero_le _, rfl, rfl, Ext.refl _⟩
  case round =>
    obtain ⟨k, hk, rfl, rfl, hx⟩ := hrel
    have HX := hid hx
    clear hx
    cases hok : allTo (withinGood l s) k
    case false =>
      have HT := hid (allTo_stop hk hok)
      clear hok
      gi_wp2_with fail
      go_ret
      exact ⟨by rw [HG.out, HT.out]; first | done | rfl, HX.out⟩
    case true =>
      by_cases hlt : k < s.length
      · have hkl : k < l.length := by have := HLS.out; omega
        obtain ⟨b, off, rfl, hb, c0, c1⟩ := HS.out k hlt
        obtain ⟨b2, off2, rfl, hb2, d0⟩ := HL.out k hkl
        rw [← HX.out.cell (p := ⟨b, _, none⟩) hb] at c0 c1
        rw [← HX.out.cell (p := ⟨b2, _, none⟩) hb2] at d0
        have HC := hid (fun e : Later wr => And.intro ((e.grown.cell (p := ⟨b, off + k * 2, none⟩) (Nat.lt_of_lt_of_le hb HX.out.size)).trans c0) (And.intro ((e.grown.cell (p := ⟨b, off + k * 2 + 1, none⟩) (Nat.lt_of_lt_of_le hb HX.out.size)).trans c1) ((e.grown.cell (p := ⟨b2, off2 + k, none⟩) (Nat.lt_of_lt_of_le hb2 HX.out.size)).trans d0)))
        have hki : (k : Int) < s.length := by omega
        have hki2 : (k : Int) < l.length := by omega
        have HT : Hid (allTo (withinGood l s) (k + 1) = inB l[k] s[k].lo s[k].hi) := by show _ = _; rw [allTo_succ, hok, withinGood_eq hlt hkl]; rfl
        clear hok c0 c1 d0
        generalize l[k] = y at *
        generalize s[k] = m at *
        obtain ⟨m1, m2⟩ := m
        have HSP := hid (fun u => holds_z m1 m2 y u)
        simp only at HT HC
        generalize inB y m1 m2 = r at *
        gi_upto_region 5 with fail
        refine quiet_wide 10 (by kernel_rfl) (by kernel_rfl) ?_
        simp only [List.take_succ_cons, List.take_zero, List.drop_succ_cons, List.drop_zero]
        have q0 := fun e : Later wr => (HC.out e).1
        have q1 := fun e : Later wr => (HC.out e).2.1
        have q2 := fun e : Later wr => (HC.out e).2.2
        repeat (any_goals (first | go_big_quiet_step ((first | (go_at_call 85; with_reducible exact Cal.quiet (HSP.out _)))) | quiet_step ((first | (go_at_call 85; with_reducible exact Cal.quiet (HSP.out _))))))
        refine wpQuiet_nil ?_
        rintro w5 ⟨⟨w5q, hx5⟩, hew5⟩
        obtain rfl : w5 = w5q := hew5
        have hx5 : Ext wr w5 := hx5
        clear q0 q1 q2
        gi_wp2_with fail
        go_roundw
        case rel => exact ⟨k + 1, by omega, rfl, by rw [HT.out], HX.out.trans hx5⟩
        case measure => simp [intOf]; omega
      · obtain rfl : k = s.length := by omega
        have hki : ¬ (s.length : Int) < l.length := by have := HLS.out; omega
        gi_wp2_with fail

        go_ret
        exact ⟨by rw [HG.out, hok]; first | done | rfl, HX.out⟩

theorem lyG_in {F : FleetD} {n h : Int} (hb : hasB F n h = true) : inB n 0 ((F.nets.length : Int) - 1) = true := by
  unfold hasB at hb; simp only [Bool.and_eq_true] at hb; exact hb.1

end Go.Proofs.YtmjelgonhpgmbaaGreat
