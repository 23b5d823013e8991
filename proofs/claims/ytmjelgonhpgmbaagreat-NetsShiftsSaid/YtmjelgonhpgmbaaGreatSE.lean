/- The reference: slips. -/
import Derived.Test.YtmjelgonhpgmbaaGreatSC
import Derived.Test.YtmjelgonhpgmbaaGreatMH
set_option linter.unusedSimpArgs false
set_option linter.unusedVariables false
namespace Go.Proofs.YtmjelgonhpgmbaaGreat
open Go Go.RowKit Go.Shelf

theorem size44 : (Tryz.prog.info? 44).map (·.size) = some 2 := by kernel_rfl

set_option maxRecDepth 100000 in
set_option maxHeartbeats 4000000 in
theorem slips_zse (F : FleetD) (hcount : F.nets.length ≤ 1000) (ev nv sv : Value) (w : World) (he : SpansAt w ev F.east) (hn : SpansAt w nv F.north) (hs : ShotsAt w sv F.nets) :
    Cal 64 #[.agg #[ev, nv, .int .i64 F.gap, sv], .bool false] w fun e w' => ∃ v, e = .returned v ∧ Ext w w' ∧ SpansAt w' v (F.nets.map (·.se)) := by
  obtain ⟨ea, ec, rfl, ⟨hec, hel⟩, _⟩ := he
  obtain ⟨na, nc, rfl, ⟨hnc, hnl⟩, _⟩ := hn
  obtain ⟨sa, sc, rfl, ⟨hsc, hsl⟩, hcs⟩ := hs
  have HC := hid hcs
  clear hcs
  gi_enter Tryz.func64, Tryz.ntmps64
  gi_upto_region 1 with fail
  have hW : Ext w (w.alloc (.cells #[.slice ea F.east.length ec, .slice na F.north.length nc, .int .i64 F.gap, .slice sa F.nets.length sc] 25)) := (Ext.refl _).alloc _
  have hB0 : (w.alloc (.cells #[.slice ea F.east.length ec, .slice na F.north.length nc, .int .i64 F.gap, .slice sa F.nets.length sc] 25)).heap[w.heap.size]? = some (.cells #[.slice ea F.east.length ec, .slice na F.north.length nc, .int .i64 F.gap, .slice sa F.nets.length sc] 25 (0, 0)) := Ext.new (Ext.refl _)
  generalize (w.alloc (.cells #[.slice ea F.east.length ec, .slice na F.north.length nc, .int .i64 F.gap, .slice sa F.nets.length sc] 25)) = W at *
  have HX := hid hW
  have HB0 := hid hB0
  have c0 := cell_of hB0
  clear hW hB0
  gi_wp2_with fail
  clear c0
  gi_loopw [5, 6] (fun v j wr => ∃ k : Nat, k ≤ F.nets.length ∧ j = .int .i64 k ∧ Hid (Ext W wr ∧ Row wr 44 2 v k (spTo (F.nets.map (·.se)) k) ∧ ∀ g, v.ownBlock = some g → W.heap.size ≤ g)) (fun _ j _ => F.nets.length - (intOf j).toNat)
  case atStart => exact ⟨0, Nat.zero_le _, rfl, Ext.refl _, Row.nil _ _ _, fun g hg => by simp [Value.ownBlock] at hg⟩
  case round =>
    obtain ⟨k, hk, rfl, HI⟩ := hrel
    have c0 := cell_of (HI.out.1.block HB0.out)
    by_cases hlt : k < F.nets.length
    · obtain ⟨b, off, rfl, hb, d0, d1, d2, d3, d4, d5, d6, d7, d8, d9⟩ := HC.out k hlt
      rw [← (HX.out.trans HI.out.1).cell (p := ⟨b, _, none⟩) hb] at d6 d7 d8 d9
      have hbw : b < wr.heap.size := Nat.lt_of_lt_of_le hb (HX.out.trans HI.out.1).size
      have hbw0 : w.heap.size < wr.heap.size := Nat.lt_of_lt_of_le (lt_of_block HB0.out) HI.out.1.size
      have HT : Hid (spTo (F.nets.map (·.se)) (k + 1) = spTo (F.nets.map (·.se)) k ++ spCells F.nets[k].se) := by show spTo _ _ = _; rw [spTo_succ _ (by simpa using hlt)]; simp
      have hki : (k : Int) < F.nets.length := by omega
      clear d0 d1 d2 d3 d4 d5
      generalize F.nets[k] = m at *
      obtain ⟨i0, hi0, hz0, hz1, hz2⟩ := info_parts info56
      have HZ := hid (And.intro hi0 (And.intro hz0 (And.intro hz1 hz2)))
      clear hi0 hz0 hz1 hz2
      have hmax : k + 1 ≤ 1000000000 := by omega
      have hxa : Ext wr (wr.alloc (.cells #[.int .i64 m.se.lo, .int .i64 m.se.hi] 44)) := (Ext.refl _).alloc _
      have HROW := hid ((HI.out.2.1.mono hxa).mono ((Ext.refl (wr.alloc (.cells #[.int .i64 m.se.lo, .int .i64 m.se.hi] 44))).alloc (.cells #[.int .i64 m.se.lo, .int .i64 m.se.hi] 44)))
      have HNW : Hid (∀ j u, (spCells m.se)[j]? = some u → ((wr.alloc (.cells #[.int .i64 m.se.lo, .int .i64 m.se.hi] 44)).alloc (.cells #[.int .i64 m.se.lo, .int .i64 m.se.hi] 44)).cell? ((⟨wr.heap.size + 1, 0, none⟩ : Addr).add j) = some u) := fun j u hj => by rw [Addr.add_mid, Nat.zero_add, new_cell _ _ (by simp)]; simpa [spCells] using hj
      have HXA := hid hxa
      clear hxa
      gi_wp2_with (first | (refine wpIn_store_fresh (fun _ => trivial) 44 (.tmp 7) (.tmp 20) rfl (W := wr) (c' := #[.int .i64 m.se.lo, .int .i64 m.se.hi]) rfl rfl rfl size44 rfl (by kernel_rfl) ?_) | (refine wpIn_store_fresh (fun _ => trivial) 44 (.tmp 7) (.tmp 27) rfl (W := wr) (c' := #[.int .i64 m.sn.lo, .int .i64 m.sn.hi]) rfl rfl rfl size44 rfl (by kernel_rfl) ?_) | (refine wpIn_append_row (fun _ => trivial) rfl (.tmp 28) (.tmp 30) rfl Tryz.underlying22 HZ.out.1 HZ.out.2.1 HZ.out.2.2.1 HZ.out.2.2.2 (by simp [Value.cells]) (by omega) (v := u5) rfl HROW.out ⟨wr.heap.size + 1, 0, none⟩ 1 rfl (spCells m.se) rfl HNW.out (fun u hu => by simp [spCells] at hu; rcases hu with rfl | rfl <;> rfl) hmax (by omega) ?_; intro v' w' hrow' hgr' how'))
      have hsz : W.heap.size ≤ wr.heap.size := HI.out.1.size
      have hbel : Ext W w' := Below.trans ((HI.out.1.trans HXA.out).alloc _) ⟨hgr'.os, hgr'.tape, hgr'.output, hgr'.size, fun j hj => hgr'.block j (by simp; omega) (fun e => by have := HI.out.2.2 j e.symm; omega)⟩
      go_roundw
      case rel =>
        refine ⟨k + 1, by omega, by go_num, hbel, by rw [HT.out]; exact hrow', fun g hg => ?_⟩
        rcases how' with e | e
        · exact HI.out.2.2 g (by rw [← e]; exact hg)
        · rw [hg] at e; cases e; simp; omega
      case measure => simp [intOf]; omega
    · obtain rfl : k = F.nets.length := by omega
      have hki : ¬ (F.nets.length : Int) < F.nets.length := by omega
      gi_wp2
      go_ret
      refine ⟨_, rfl, HX.out.trans HI.out.1, SpansAt.of_row (l := (F.nets.map (·.se))) (by rw [List.length_map]; exact HI.out.2.1) (by rw [List.length_map]; omega)⟩

set_option maxRecDepth 100000 in
set_option maxHeartbeats 4000000 in
theorem slips_zsn (F : FleetD) (hcount : F.nets.length ≤ 1000) (ev nv sv : Value) (w : World) (he : SpansAt w ev F.east) (hn : SpansAt w nv F.north) (hs : ShotsAt w sv F.nets) :
    Cal 64 #[.agg #[ev, nv, .int .i64 F.gap, sv], .bool true] w fun e w' => ∃ v, e = .returned v ∧ Ext w w' ∧ SpansAt w' v (F.nets.map (·.sn)) := by
  obtain ⟨ea, ec, rfl, ⟨hec, hel⟩, _⟩ := he
  obtain ⟨na, nc, rfl, ⟨hnc, hnl⟩, _⟩ := hn
  obtain ⟨sa, sc, rfl, ⟨hsc, hsl⟩, hcs⟩ := hs
  have HC := hid hcs
  clear hcs
  gi_enter Tryz.func64, Tryz.ntmps64
  gi_upto_region 1 with fail
  have hW : Ext w (w.alloc (.cells #[.slice ea F.east.length ec, .slice na F.north.length nc, .int .i64 F.gap, .slice sa F.nets.length sc] 25)) := (Ext.refl _).alloc _
  have hB0 : (w.alloc (.cells #[.slice ea F.east.length ec, .slice na F.north.length nc, .int .i64 F.gap, .slice sa F.nets.length sc] 25)).heap[w.heap.size]? = some (.cells #[.slice ea F.east.length ec, .slice na F.north.length nc, .int .i64 F.gap, .slice sa F.nets.length sc] 25 (0, 0)) := Ext.new (Ext.refl _)
  generalize (w.alloc (.cells #[.slice ea F.east.length ec, .slice na F.north.length nc, .int .i64 F.gap, .slice sa F.nets.length sc] 25)) = W at *
  have HX := hid hW
  have HB0 := hid hB0
  have c0 := cell_of hB0
  clear hW hB0
  gi_wp2_with fail
  clear c0
  gi_loopw [5, 6] (fun v j wr => ∃ k : Nat, k ≤ F.nets.length ∧ j = .int .i64 k ∧ Hid (Ext W wr ∧ Row wr 44 2 v k (spTo (F.nets.map (·.sn)) k) ∧ ∀ g, v.ownBlock = some g → W.heap.size ≤ g)) (fun _ j _ => F.nets.length - (intOf j).toNat)
  case atStart => exact ⟨0, Nat.zero_le _, rfl, Ext.refl _, Row.nil _ _ _, fun g hg => by simp [Value.ownBlock] at hg⟩
  case round =>
    obtain ⟨k, hk, rfl, HI⟩ := hrel
    have c0 := cell_of (HI.out.1.block HB0.out)
    by_cases hlt : k < F.nets.length
    · obtain ⟨b, off, rfl, hb, d0, d1, d2, d3, d4, d5, d6, d7, d8, d9⟩ := HC.out k hlt
      rw [← (HX.out.trans HI.out.1).cell (p := ⟨b, _, none⟩) hb] at d6 d7 d8 d9
      have hbw : b < wr.heap.size := Nat.lt_of_lt_of_le hb (HX.out.trans HI.out.1).size
      have hbw0 : w.heap.size < wr.heap.size := Nat.lt_of_lt_of_le (lt_of_block HB0.out) HI.out.1.size
      have HT : Hid (spTo (F.nets.map (·.sn)) (k + 1) = spTo (F.nets.map (·.sn)) k ++ spCells F.nets[k].sn) := by show spTo _ _ = _; rw [spTo_succ _ (by simpa using hlt)]; simp
      have hki : (k : Int) < F.nets.length := by omega
      clear d0 d1 d2 d3 d4 d5
      generalize F.nets[k] = m at *
      obtain ⟨i0, hi0, hz0, hz1, hz2⟩ := info_parts info56
      have HZ := hid (And.intro hi0 (And.intro hz0 (And.intro hz1 hz2)))
      clear hi0 hz0 hz1 hz2
      have hmax : k + 1 ≤ 1000000000 := by omega
      have hxa : Ext wr (wr.alloc (.cells #[.int .i64 m.sn.lo, .int .i64 m.sn.hi] 44)) := (Ext.refl _).alloc _
      have HROW := hid ((HI.out.2.1.mono hxa).mono ((Ext.refl (wr.alloc (.cells #[.int .i64 m.sn.lo, .int .i64 m.sn.hi] 44))).alloc (.cells #[.int .i64 m.sn.lo, .int .i64 m.sn.hi] 44)))
      have HNW : Hid (∀ j u, (spCells m.sn)[j]? = some u → ((wr.alloc (.cells #[.int .i64 m.sn.lo, .int .i64 m.sn.hi] 44)).alloc (.cells #[.int .i64 m.sn.lo, .int .i64 m.sn.hi] 44)).cell? ((⟨wr.heap.size + 1, 0, none⟩ : Addr).add j) = some u) := fun j u hj => by rw [Addr.add_mid, Nat.zero_add, new_cell _ _ (by simp)]; simpa [spCells] using hj
      have HXA := hid hxa
      clear hxa
      gi_wp2_with (first | (refine wpIn_store_fresh (fun _ => trivial) 44 (.tmp 7) (.tmp 20) rfl (W := wr) (c' := #[.int .i64 m.se.lo, .int .i64 m.se.hi]) rfl rfl rfl size44 rfl (by kernel_rfl) ?_) | (refine wpIn_store_fresh (fun _ => trivial) 44 (.tmp 7) (.tmp 27) rfl (W := wr) (c' := #[.int .i64 m.sn.lo, .int .i64 m.sn.hi]) rfl rfl rfl size44 rfl (by kernel_rfl) ?_) | (refine wpIn_append_row (fun _ => trivial) rfl (.tmp 28) (.tmp 30) rfl Tryz.underlying22 HZ.out.1 HZ.out.2.1 HZ.out.2.2.1 HZ.out.2.2.2 (by simp [Value.cells]) (by omega) (v := u5) rfl HROW.out ⟨wr.heap.size + 1, 0, none⟩ 1 rfl (spCells m.sn) rfl HNW.out (fun u hu => by simp [spCells] at hu; rcases hu with rfl | rfl <;> rfl) hmax (by omega) ?_; intro v' w' hrow' hgr' how'))
      have hsz : W.heap.size ≤ wr.heap.size := HI.out.1.size
      have hbel : Ext W w' := Below.trans ((HI.out.1.trans HXA.out).alloc _) ⟨hgr'.os, hgr'.tape, hgr'.output, hgr'.size, fun j hj => hgr'.block j (by simp; omega) (fun e => by have := HI.out.2.2 j e.symm; omega)⟩
      go_roundw
      case rel =>
        refine ⟨k + 1, by omega, by go_num, hbel, by rw [HT.out]; exact hrow', fun g hg => ?_⟩
        rcases how' with e | e
        · exact HI.out.2.2 g (by rw [← e]; exact hg)
        · rw [hg] at e; cases e; simp; omega
      case measure => simp [intOf]; omega
    · obtain rfl : k = F.nets.length := by omega
      have hki : ¬ (F.nets.length : Int) < F.nets.length := by omega
      gi_wp2
      go_ret
      refine ⟨_, rfl, HX.out.trans HI.out.1, SpansAt.of_row (l := (F.nets.map (·.sn))) (by rw [List.length_map]; exact HI.out.2.1) (by rw [List.length_map]; omega)⟩

end Go.Proofs.YtmjelgonhpgmbaaGreat
