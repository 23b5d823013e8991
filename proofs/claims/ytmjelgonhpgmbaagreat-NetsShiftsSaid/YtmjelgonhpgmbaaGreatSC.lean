/- The reference: lying, the check. -/
import Derived.Test.YtmjelgonhpgmbaaGreatSA
import Derived.Test.YtmjelgonhpgmbaaGreatMC
set_option linter.unusedSimpArgs false
set_option linter.unusedVariables false
namespace Go.Proofs.YtmjelgonhpgmbaaGreat
open Go Go.RowKit Go.Shelf

theorem in_len {n : Int} {m : Nat} (h : inB n 0 ((m : Int) - 1) = true) : ∃ k : Nat, n = k ∧ k < m := by
  have := inB_spec h
  exact ⟨n.toNat, by omega, by omega⟩
set_option maxRecDepth 100000 in
set_option maxHeartbeats 2000000 in
theorem lying_z (F : FleetD) (ev nv sv : Value) (n h : Int) (w : World) (he : SpansAt w ev F.east) (hn : SpansAt w nv F.north) (hs : ShotsAt w sv F.nets) : Cal 25 #[.agg #[ev, nv, .int .i64 F.gap, sv], .int .i64 n, .int .i64 h] w fun e w' => e = .returned (.bool (hasB F n h)) ∧ Ext w w' := by
  obtain ⟨ea, ec, rfl, ⟨hec, hel⟩, _⟩ := he
  obtain ⟨na, nc, rfl, ⟨hnc, hnl⟩, _⟩ := hn
  obtain ⟨sa, sc, rfl, ⟨hsc, hsl⟩, hcs⟩ := hs
  have HCS := hid hcs
  clear hcs
  have hwr : wrap64 ((F.nets.length : Int) - 1) = (F.nets.length : Int) - 1 := by unfold wrap64; omega
  gi_enter Tryz.func25, Tryz.ntmps25
  gi_upto_region 1 with fail
  have hW : Ext w (w.alloc (.cells #[.slice ea F.east.length ec, .slice na F.north.length nc, .int .i64 F.gap, .slice sa F.nets.length sc] 25)) := (Ext.refl _).alloc _
  have hB0 : (w.alloc (.cells #[.slice ea F.east.length ec, .slice na F.north.length nc, .int .i64 F.gap, .slice sa F.nets.length sc] 25)).heap[w.heap.size]? = some (.cells #[.slice ea F.east.length ec, .slice na F.north.length nc, .int .i64 F.gap, .slice sa F.nets.length sc] 25 (0, 0)) := Ext.new (Ext.refl _)
  generalize (w.alloc (.cells #[.slice ea F.east.length ec, .slice na F.north.length nc, .int .i64 F.gap, .slice sa F.nets.length sc] 25)) = W at *
  have HX := hid hW
  have HB0 := hid hB0
  have c0 := cell_of hB0
  clear hW hB0
  clear c0
  have HC := hid (fun e : Later W => cell_of (Ext.block e.grown HB0.out))
  cases hin : inB n 0 ((F.nets.length : Int) - 1)
  case false =>
    have HI := hid (fun u => rin_b hin u)
    have HG : Hid (hasB F n h = false) := by show hasB F n h = _; unfold hasB; rw [hin]; rfl
    clear hin
    refine quiet_wide 23 (by kernel_rfl) (by kernel_rfl) ?_
    simp only [List.take_succ_cons, List.take_zero, List.drop_succ_cons, List.drop_zero]
    have q0 := fun e : Later W => HC.out e
    repeat (any_goals (first | go_big_quiet_step ((first | (go_at_call 28; with_reducible exact Cal.quiet_same (HI.out _)))) | quiet_step ((first | (go_at_call 28; with_reducible exact Cal.quiet_same (HI.out _))))))
    refine wpQuiet_nil ?_
    rintro w5 ⟨⟨w5q, hx5⟩, hew5⟩
    obtain rfl : w5 = w5q := hew5
    have hx5 : Ext W w5 := hx5
    clear q0
    gi_wp2_with fail
    go_ret
    exact ⟨by rw [HG.out]; first | done | rfl, HX.out.trans hx5⟩
  case true =>
    have HI := hid (fun u => rin_b hin u)
    obtain ⟨k, rfl, hk⟩ := in_len hin
    have HG : Hid (hasB F k h = inB h F.nets[k].shot F.nets[k].haul) := by show hasB F k h = _; unfold hasB lieB; rw [hin, Int.toNat_natCast, getD_of hk]; rfl
    clear hin
    obtain ⟨b, off, rfl, hb, d0, d1, d2, d3, d4, d5, d6, d7, d8, d9⟩ := HCS.out k hk
    rw [← HX.out.cell (p := ⟨b, _, none⟩) hb] at d4 d5
    have HD := hid (fun e : Later W => And.intro ((e.grown.cell (p := ⟨b, off + k * 10 + 4, none⟩) (Nat.lt_of_lt_of_le hb HX.out.size)).trans d4) ((e.grown.cell (p := ⟨b, off + k * 10 + 5, none⟩) (Nat.lt_of_lt_of_le hb HX.out.size)).trans d5))
    have hki : (k : Int) < F.nets.length := by omega
    clear d0 d1 d2 d3 d4 d5 d6 d7 d8 d9
    generalize F.nets[k] = m at *
    obtain ⟨me, mn, ml, ma, ms, mh, mse, msn⟩ := m
    simp only at HG HD
    have HJ := hid (fun u => rin_any h ms mh u)
    generalize inB h ms mh = r at *
    refine quiet_wide 23 (by kernel_rfl) (by kernel_rfl) ?_
    simp only [List.take_succ_cons, List.take_zero, List.drop_succ_cons, List.drop_zero]
    have q0 := fun e : Later W => HC.out e
    have q1 := fun e : Later W => (HD.out e).1
    have q2 := fun e : Later W => (HD.out e).2
    repeat (any_goals (first | go_big_quiet_step ((first | (go_at_call 28; with_reducible exact Cal.quiet_same (HI.out _)) | (go_at_call 28; with_reducible exact Cal.quiet_same (HJ.out _)))) | quiet_step ((first | (go_at_call 28; with_reducible exact Cal.quiet_same (HI.out _)) | (go_at_call 28; with_reducible exact Cal.quiet_same (HJ.out _))))))
    refine wpQuiet_nil ?_
    rintro w5 ⟨⟨w5q, hx5⟩, hew5⟩
    obtain rfl : w5 = w5q := hew5
    have hx5 : Ext W w5 := hx5
    clear q0 q1 q2
    gi_wp2_with fail
    go_ret
    exact ⟨by rw [HG.out]; first | done | rfl, HX.out.trans hx5⟩

end Go.Proofs.YtmjelgonhpgmbaaGreat
