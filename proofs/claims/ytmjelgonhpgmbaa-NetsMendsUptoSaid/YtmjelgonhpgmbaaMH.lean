/- A new night. -/
import Derived.Test.YtmjelgonhpgmbaaMG
set_option linter.unusedSimpArgs false
set_option linter.unusedVariables false
namespace Go.Proofs.Ytmjelgonhpgmbaa
open Go Go.RowKit Go.Shelf

def spCells (s : Spn) : List Value := [.int .i64 s.lo, .int .i64 s.hi]
def spTo (l : List Spn) (k : Nat) : List Value := (List.range k).flatMap fun i => spCells (l.getD i ⟨0, 0⟩)
theorem spTo_succ (l : List Spn) {k : Nat} (h : k < l.length) : spTo l (k + 1) = spTo l k ++ spCells l[k] := by
  unfold spTo
  rw [List.range_succ, List.flatMap_append]
  simp [h]
theorem SpansAt.of_row {w : World} {v : Value} {l : List Spn} (h : Row w 56 2 v l.length (spTo l l.length)) (hl : l.length ≤ 100000) : SpansAt w v l := by
  obtain ⟨_, h⟩ := h
  rcases h with ⟨rfl, h0⟩ | ⟨g, cap, cur, rfl, hg, h1, h2, h3, h4⟩
  · exact ⟨none, 0, by rw [h0], ⟨by omega, by omega⟩, fun i hi => by omega⟩
  · refine ⟨_, cap, rfl, ⟨h1, by omega⟩, fun i hi => ⟨g, 0, rfl, lt_of_block hg, ?_⟩⟩
    have key : ∀ j, j < 2 → w.cell? ⟨g, 0 + i * 2 + j, none⟩ = (spCells l[i])[j]? := fun j hj => by
      have := (flat_get (sz := 2) (fun i => spCells (l.getD i ⟨0, 0⟩)) (fun _ => rfl) l.length).2 i j hi hj
      rw [getD_of hi] at this
      rw [cell_of hg, Nat.zero_add, ← this, show (List.range l.length).flatMap (fun i => spCells (l.getD i ⟨0, 0⟩)) = spTo l l.length from rfl, ← h4, List.getElem?_take, if_pos (by omega), Array.getElem?_toList]
    exact ⟨key 0 (by omega), key 1 (by omega)⟩
theorem info56 : (Try.prog.info? 56).map (fun i => (i.zero, i.size, i.bytes)) = some (some (.agg #[.int .i64 0, .int .i64 0]), 2, 16) := by kernel_rfl
theorem info116 : (Try.prog.info? 116).map (·.size) = some 9 := by kernel_rfl

set_option maxRecDepth 100000 in
set_option maxHeartbeats 2000000 in
theorem slips_e (F : FleetD) (hF : FleetOk F) (ev nv sv : Value) (ma : Option Addr) (mc : Nat) (w : World) (hM : NetsAt w (.slice ma F.nets.length mc) F.nets) :
    Cal 81 #[.agg #[ev, nv, .int .i64 F.gap, sv, .slice ma F.nets.length mc], .agg #[.int .i64 0, .func (.func 84) #[] #[], .func (.func 85) #[] #[], .func (.func 86) #[] #[], .func (.func 87) #[] #[]]] w fun e w' => ∃ v, e = .returned v ∧ Ext w w' ∧ SpansAt w' v (F.nets.map (·.se)) := by
  have hcount := hF.count.2
  obtain ⟨_, _, hcs⟩ := hM.get
  have HC := hid hcs
  clear hcs hM hF
  gi_enter Try.func81, Try.ntmps81
  gi_upto_region 1 with fail
  have hW : Ext w ((w.alloc (.cells #[ev, nv, .int .i64 F.gap, sv, .slice ma F.nets.length mc] 108)).alloc (.cells #[.int .i64 0, .func (.func 84) #[] #[], .func (.func 85) #[] #[], .func (.func 86) #[] #[], .func (.func 87) #[] #[]] 133)) := ((Ext.refl _).alloc _).alloc _
  have hW0 : ((w.alloc (.cells #[ev, nv, .int .i64 F.gap, sv, .slice ma F.nets.length mc] 108)).alloc (.cells #[.int .i64 0, .func (.func 84) #[] #[], .func (.func 85) #[] #[], .func (.func 86) #[] #[], .func (.func 87) #[] #[]] 133)).heap[w.heap.size]? = some (.cells #[ev, nv, .int .i64 F.gap, sv, .slice ma F.nets.length mc] 108 (0, 0)) := by simp only [alloc_at, World.size_alloc]; (repeat rw [if_neg (by omega)]); first | rfl | rw [if_pos (by omega)] | rw [if_pos trivial]
  have hW1 : ((w.alloc (.cells #[ev, nv, .int .i64 F.gap, sv, .slice ma F.nets.length mc] 108)).alloc (.cells #[.int .i64 0, .func (.func 84) #[] #[], .func (.func 85) #[] #[], .func (.func 86) #[] #[], .func (.func 87) #[] #[]] 133)).heap[w.heap.size + 1]? = some (.cells #[.int .i64 0, .func (.func 84) #[] #[], .func (.func 85) #[] #[], .func (.func 86) #[] #[], .func (.func 87) #[] #[]] 133 (0, 0)) := by simp only [alloc_at, World.size_alloc]; (repeat rw [if_neg (by omega)]); first | rfl | rw [if_pos (by omega)] | rw [if_pos trivial]
  generalize (w.alloc (.cells #[ev, nv, .int .i64 F.gap, sv, .slice ma F.nets.length mc] 108)).alloc (.cells #[.int .i64 0, .func (.func 84) #[] #[], .func (.func 85) #[] #[], .func (.func 86) #[] #[], .func (.func 87) #[] #[]] 133) = W at *
  have HB1 := hid hW1
  have HX := hid hW
  have hc0 := cell_of hW0
  clear hW hW0 hW1
  gi_wp2_with fail
  clear hc0
  gi_loopw [5, 11] (fun v j wr => ∃ k : Nat, k ≤ F.nets.length ∧ j = .int .i64 k ∧ Hid (Ext W wr ∧ Row wr 56 2 v k (spTo (F.nets.map (·.se)) k) ∧ ∀ g, v.ownBlock = some g → W.heap.size ≤ g)) (fun _ j _ => F.nets.length - (intOf j).toNat)
  case atStart => exact ⟨0, Nat.zero_le _, rfl, Ext.refl _, Row.nil _ _ _, fun g hg => by simp [Value.ownBlock] at hg⟩
  case round =>
    obtain ⟨k, hk, rfl, HI⟩ := hrel
    by_cases hlt : k < F.nets.length
    · obtain ⟨b, off, rfl, hb, c0, c1, c2, c3, c4, c5, c6, c7, c8, c9, c10⟩ := HC.out k hlt
      rw [← (HX.out.trans HI.out.1).cell (p := ⟨b, _, none⟩) hb] at c0 c1 c2 c3 c4 c5 c6 c7 c8 c9 c10
      have HT : Hid (spTo (F.nets.map (·.se)) (k + 1) = spTo (F.nets.map (·.se)) k ++ spCells F.nets[k].se) := by show spTo _ _ = _; rw [spTo_succ _ (by simpa using hlt)]; simp
      have hki : (k : Int) < F.nets.length := by omega
      generalize F.nets[k] = m at *
      have hxa : Ext wr (wr.alloc (.cells #[.int .i64 m.east, .int .i64 m.north, .int .i64 m.long, .int .i64 m.along, .int .i64 m.shot, .int .i64 m.haul, .int .i64 m.se.lo, .int .i64 m.se.hi, .int .i64 m.sn.lo, .int .i64 m.sn.hi, .int .i64 (k : Int)] 125)) := (Ext.refl _).alloc _
      gi_upto_region 5 with fail
      have hba : (wr.alloc (.cells #[.int .i64 m.east, .int .i64 m.north, .int .i64 m.long, .int .i64 m.along, .int .i64 m.shot, .int .i64 m.haul, .int .i64 m.se.lo, .int .i64 m.se.hi, .int .i64 m.sn.lo, .int .i64 m.sn.hi, .int .i64 (k : Int)] 125)).heap[wr.heap.size]? = some (.cells #[.int .i64 m.east, .int .i64 m.north, .int .i64 m.long, .int .i64 m.along, .int .i64 m.shot, .int .i64 m.haul, .int .i64 m.se.lo, .int .i64 m.se.hi, .int .i64 m.sn.lo, .int .i64 m.sn.hi, .int .i64 (k : Int)] 125 (0, 0)) := Ext.new (Ext.refl _)
      have HI := hid (And.intro (HI.out.1.trans hxa) (And.intro (HI.out.2.1.mono hxa) HI.out.2.2))
      have hca := cell_of hba
      have hcb := cell_of ((HI.out.1).block HB1.out)
      clear c0 c1 c2 c3 c4 c5 c6 c7 c8 c9 c10 hba hxa
      generalize wr.alloc (.cells #[.int .i64 m.east, .int .i64 m.north, .int .i64 m.long, .int .i64 m.along, .int .i64 m.shot, .int .i64 m.haul, .int .i64 m.se.lo, .int .i64 m.se.hi, .int .i64 m.sn.lo, .int .i64 m.sn.hi, .int .i64 (k : Int)] 125) = W2 at *
      obtain ⟨i0, hi0, hz0, hz1, hz2⟩ := info_parts info56
      have HZ := hid (And.intro hi0 (And.intro hz0 (And.intro hz1 hz2)))
      clear hi0 hz0 hz1 hz2
      have hmax : k + 1 ≤ 1000000000 := by omega
      have HSL := hid (fun (u : World) => slip_e m k u)
      gi_wp2_with (first | (gi_at_call 86; ((with_reducible refine (HSL.out _).mono ?_); rintro e w3 ⟨rfl, hx3⟩; have HROW := hid ((HI.out.2.1.mono hx3).mono ((Ext.refl w3).alloc (.cells #[.int .i64 m.se.lo, .int .i64 m.se.hi] 56))); have HNW : Hid (∀ j u, (spCells m.se)[j]? = some u → (w3.alloc (.cells #[.int .i64 m.se.lo, .int .i64 m.se.hi] 56)).cell? ((⟨w3.heap.size, 0, none⟩ : Addr).add j) = some u) := (fun j u hj => by rw [Addr.add_mid, Nat.zero_add, new_cell _ _ rfl]; simpa [spCells] using hj))) | (refine wpIn_append_row (fun _ => trivial) rfl (.tmp 15) (.tmp 20) rfl Try.underlying37 HZ.out.1 HZ.out.2.1 HZ.out.2.2.1 HZ.out.2.2.2 (by simp [Value.cells]) (by omega) (v := u5) rfl HROW.out ⟨w3.heap.size, 0, none⟩ 1 rfl (spCells m.se) rfl HNW.out (fun u hu => by simp [spCells] at hu; rcases hu with rfl | rfl <;> rfl) hmax (by omega) ?_; intro v' w' hrow' hgr' how'))
      have hsz : W.heap.size ≤ w3.heap.size := (HI.out.1.trans hx3).size
      have hbel : Ext W w' := Below.trans ((HI.out.1.trans hx3).alloc _) ⟨hgr'.os, hgr'.tape, hgr'.output, hgr'.size, fun j hj => hgr'.block j (by simp; omega) (fun e => by have := HI.out.2.2 j e.symm; omega)⟩
      go_roundw
      case rel =>
        refine ⟨k + 1, by omega, by go_num, hbel, by rw [HT.out]; exact hrow', fun g hg => ?_⟩
        rcases how' with e | e
        · exact HI.out.2.2 g (by rw [← e]; exact hg)
        · rw [hg] at e; cases e; simp; omega
      case measure => simp [intOf]; omega
    · obtain rfl : k = F.nets.length := by omega
      gi_wp2
      go_ret
      refine ⟨_, rfl, HX.out.trans HI.out.1, SpansAt.of_row (l := (F.nets.map (·.se))) (by rw [List.length_map]; exact HI.out.2.1) (by rw [List.length_map]; omega)⟩

set_option maxRecDepth 100000 in
set_option maxHeartbeats 2000000 in
theorem slips_n (F : FleetD) (hF : FleetOk F) (ev nv sv : Value) (ma : Option Addr) (mc : Nat) (w : World) (hM : NetsAt w (.slice ma F.nets.length mc) F.nets) :
    Cal 81 #[.agg #[ev, nv, .int .i64 F.gap, sv, .slice ma F.nets.length mc], .agg #[.int .i64 1, .func (.func 88) #[] #[], .func (.func 89) #[] #[], .func (.func 90) #[] #[], .func (.func 91) #[] #[]]] w fun e w' => ∃ v, e = .returned v ∧ Ext w w' ∧ SpansAt w' v (F.nets.map (·.sn)) := by
  have hcount := hF.count.2
  obtain ⟨_, _, hcs⟩ := hM.get
  have HC := hid hcs
  clear hcs hM hF
  gi_enter Try.func81, Try.ntmps81
  gi_upto_region 1 with fail
  have hW : Ext w ((w.alloc (.cells #[ev, nv, .int .i64 F.gap, sv, .slice ma F.nets.length mc] 108)).alloc (.cells #[.int .i64 1, .func (.func 88) #[] #[], .func (.func 89) #[] #[], .func (.func 90) #[] #[], .func (.func 91) #[] #[]] 133)) := ((Ext.refl _).alloc _).alloc _
  have hW0 : ((w.alloc (.cells #[ev, nv, .int .i64 F.gap, sv, .slice ma F.nets.length mc] 108)).alloc (.cells #[.int .i64 1, .func (.func 88) #[] #[], .func (.func 89) #[] #[], .func (.func 90) #[] #[], .func (.func 91) #[] #[]] 133)).heap[w.heap.size]? = some (.cells #[ev, nv, .int .i64 F.gap, sv, .slice ma F.nets.length mc] 108 (0, 0)) := by simp only [alloc_at, World.size_alloc]; (repeat rw [if_neg (by omega)]); first | rfl | rw [if_pos (by omega)] | rw [if_pos trivial]
  have hW1 : ((w.alloc (.cells #[ev, nv, .int .i64 F.gap, sv, .slice ma F.nets.length mc] 108)).alloc (.cells #[.int .i64 1, .func (.func 88) #[] #[], .func (.func 89) #[] #[], .func (.func 90) #[] #[], .func (.func 91) #[] #[]] 133)).heap[w.heap.size + 1]? = some (.cells #[.int .i64 1, .func (.func 88) #[] #[], .func (.func 89) #[] #[], .func (.func 90) #[] #[], .func (.func 91) #[] #[]] 133 (0, 0)) := by simp only [alloc_at, World.size_alloc]; (repeat rw [if_neg (by omega)]); first | rfl | rw [if_pos (by omega)] | rw [if_pos trivial]
  generalize (w.alloc (.cells #[ev, nv, .int .i64 F.gap, sv, .slice ma F.nets.length mc] 108)).alloc (.cells #[.int .i64 1, .func (.func 88) #[] #[], .func (.func 89) #[] #[], .func (.func 90) #[] #[], .func (.func 91) #[] #[]] 133) = W at *
  have HB1 := hid hW1
  have HX := hid hW
  have hc0 := cell_of hW0
  clear hW hW0 hW1
  gi_wp2_with fail
  clear hc0
  gi_loopw [5, 11] (fun v j wr => ∃ k : Nat, k ≤ F.nets.length ∧ j = .int .i64 k ∧ Hid (Ext W wr ∧ Row wr 56 2 v k (spTo (F.nets.map (·.sn)) k) ∧ ∀ g, v.ownBlock = some g → W.heap.size ≤ g)) (fun _ j _ => F.nets.length - (intOf j).toNat)
  case atStart => exact ⟨0, Nat.zero_le _, rfl, Ext.refl _, Row.nil _ _ _, fun g hg => by simp [Value.ownBlock] at hg⟩
  case round =>
    obtain ⟨k, hk, rfl, HI⟩ := hrel
    by_cases hlt : k < F.nets.length
    · obtain ⟨b, off, rfl, hb, c0, c1, c2, c3, c4, c5, c6, c7, c8, c9, c10⟩ := HC.out k hlt
      rw [← (HX.out.trans HI.out.1).cell (p := ⟨b, _, none⟩) hb] at c0 c1 c2 c3 c4 c5 c6 c7 c8 c9 c10
      have HT : Hid (spTo (F.nets.map (·.sn)) (k + 1) = spTo (F.nets.map (·.sn)) k ++ spCells F.nets[k].sn) := by show spTo _ _ = _; rw [spTo_succ _ (by simpa using hlt)]; simp
      have hki : (k : Int) < F.nets.length := by omega
      generalize F.nets[k] = m at *
      have hxa : Ext wr (wr.alloc (.cells #[.int .i64 m.east, .int .i64 m.north, .int .i64 m.long, .int .i64 m.along, .int .i64 m.shot, .int .i64 m.haul, .int .i64 m.se.lo, .int .i64 m.se.hi, .int .i64 m.sn.lo, .int .i64 m.sn.hi, .int .i64 (k : Int)] 125)) := (Ext.refl _).alloc _
      gi_upto_region 5 with fail
      have hba : (wr.alloc (.cells #[.int .i64 m.east, .int .i64 m.north, .int .i64 m.long, .int .i64 m.along, .int .i64 m.shot, .int .i64 m.haul, .int .i64 m.se.lo, .int .i64 m.se.hi, .int .i64 m.sn.lo, .int .i64 m.sn.hi, .int .i64 (k : Int)] 125)).heap[wr.heap.size]? = some (.cells #[.int .i64 m.east, .int .i64 m.north, .int .i64 m.long, .int .i64 m.along, .int .i64 m.shot, .int .i64 m.haul, .int .i64 m.se.lo, .int .i64 m.se.hi, .int .i64 m.sn.lo, .int .i64 m.sn.hi, .int .i64 (k : Int)] 125 (0, 0)) := Ext.new (Ext.refl _)
      have HI := hid (And.intro (HI.out.1.trans hxa) (And.intro (HI.out.2.1.mono hxa) HI.out.2.2))
      have hca := cell_of hba
      have hcb := cell_of ((HI.out.1).block HB1.out)
      clear c0 c1 c2 c3 c4 c5 c6 c7 c8 c9 c10 hba hxa
      generalize wr.alloc (.cells #[.int .i64 m.east, .int .i64 m.north, .int .i64 m.long, .int .i64 m.along, .int .i64 m.shot, .int .i64 m.haul, .int .i64 m.se.lo, .int .i64 m.se.hi, .int .i64 m.sn.lo, .int .i64 m.sn.hi, .int .i64 (k : Int)] 125) = W2 at *
      obtain ⟨i0, hi0, hz0, hz1, hz2⟩ := info_parts info56
      have HZ := hid (And.intro hi0 (And.intro hz0 (And.intro hz1 hz2)))
      clear hi0 hz0 hz1 hz2
      have hmax : k + 1 ≤ 1000000000 := by omega
      have HSL := hid (fun (u : World) => slip_n m k u)
      gi_wp2_with (first | (gi_at_call 90; ((with_reducible refine (HSL.out _).mono ?_); rintro e w3 ⟨rfl, hx3⟩; have HROW := hid ((HI.out.2.1.mono hx3).mono ((Ext.refl w3).alloc (.cells #[.int .i64 m.sn.lo, .int .i64 m.sn.hi] 56))); have HNW : Hid (∀ j u, (spCells m.sn)[j]? = some u → (w3.alloc (.cells #[.int .i64 m.sn.lo, .int .i64 m.sn.hi] 56)).cell? ((⟨w3.heap.size, 0, none⟩ : Addr).add j) = some u) := (fun j u hj => by rw [Addr.add_mid, Nat.zero_add, new_cell _ _ rfl]; simpa [spCells] using hj))) | (refine wpIn_append_row (fun _ => trivial) rfl (.tmp 15) (.tmp 20) rfl Try.underlying37 HZ.out.1 HZ.out.2.1 HZ.out.2.2.1 HZ.out.2.2.2 (by simp [Value.cells]) (by omega) (v := u5) rfl HROW.out ⟨w3.heap.size, 0, none⟩ 1 rfl (spCells m.sn) rfl HNW.out (fun u hu => by simp [spCells] at hu; rcases hu with rfl | rfl <;> rfl) hmax (by omega) ?_; intro v' w' hrow' hgr' how'))
      have hsz : W.heap.size ≤ w3.heap.size := (HI.out.1.trans hx3).size
      have hbel : Ext W w' := Below.trans ((HI.out.1.trans hx3).alloc _) ⟨hgr'.os, hgr'.tape, hgr'.output, hgr'.size, fun j hj => hgr'.block j (by simp; omega) (fun e => by have := HI.out.2.2 j e.symm; omega)⟩
      go_roundw
      case rel =>
        refine ⟨k + 1, by omega, by go_num, hbel, by rw [HT.out]; exact hrow', fun g hg => ?_⟩
        rcases how' with e | e
        · exact HI.out.2.2 g (by rw [← e]; exact hg)
        · rw [hg] at e; cases e; simp; omega
      case measure => simp [intOf]; omega
    · obtain rfl : k = F.nets.length := by omega
      gi_wp2
      go_ret
      refine ⟨_, rfl, HX.out.trans HI.out.1, SpansAt.of_row (l := (F.nets.map (·.sn))) (by rw [List.length_map]; exact HI.out.2.1) (by rw [List.length_map]; omega)⟩

theorem lying_any (fv : Value) (h1 : fv.oneCell' = true) (w : World) : Cal 55 #[fv] w fun e w' => ∃ g, e = .returned (.func (.func 82) #[] #[.pointer (some ⟨g, 0, none⟩)]) ∧ Ext w w' ∧ w'.heap[g]? = some (.cells #[fv] 121 (0, 0)) := by
  gi_enter Try.func55, Try.ntmps55
  gi_wp2
  go_ret
  exact ⟨_, rfl, (Ext.refl _).alloc _, Ext.new (Ext.refl _)⟩


set_option maxRecDepth 100000 in
set_option maxHeartbeats 4000000 in
theorem newFleet_row (F : FleetD) (hF : fleetB F = true) (ev nv sv : Value) (w : World) (he : SpansAt w ev F.east) (hn : SpansAt w nv F.north) (hs : ShotsAt w sv F.nets) :
    Cal 51 #[.agg #[ev, nv, .int .i64 F.gap, sv]] w fun e w' => ∃ ma mc, e = .returned (.tuple #[.agg #[ev, nv, .int .i64 F.gap, sv, .slice ma F.nets.length mc], .int .i64 0]) ∧ Ext w w' ∧ Hid (Row w' 125 11 (.slice ma F.nets.length mc) F.nets.length (netTo F.nets F.nets.length) ∧ ∀ g, (Value.slice ma F.nets.length mc).ownBlock = some g → w.heap.size ≤ g) := by
  have HFL := hid (fun (u : World) (hu : Ext w u) => isFleet_any F ev nv sv u (he.mono hu) (hn.mono hu) (hs.mono hu))
  rw [hF] at HFL
  have hok := fleetB_ok hF
  obtain ⟨eb, eo, ec, rfl⟩ := he.slice hok.hours.1
  obtain ⟨nb, no, nc, rfl⟩ := hn.slice (by rw [hok.same]; exact hok.hours.1)
  have HE := hid he
  have HN := hid hn
  obtain ⟨sa, sc, rfl, hsl, hcs⟩ := hs
  have HC := hid hcs
  have hcount := hok.count.2
  clear hcs he hn hF hok
  gi_enter Try.func51, Try.ntmps51
  gi_upto_region 1 with fail
  have hW : Ext w ((w.alloc (.cells #[.slice (some ⟨eb, eo, none⟩) F.east.length ec, .slice (some ⟨nb, no, none⟩) F.north.length nc, .int .i64 F.gap, .slice sa F.nets.length sc] 40)).alloc (.cells #[.slice none 0 0, .slice none 0 0, .int .i64 0, .slice none 0 0, .slice none 0 0] 108)) := ((Ext.refl _).alloc _).alloc _
  have hW0 : ((w.alloc (.cells #[.slice (some ⟨eb, eo, none⟩) F.east.length ec, .slice (some ⟨nb, no, none⟩) F.north.length nc, .int .i64 F.gap, .slice sa F.nets.length sc] 40)).alloc (.cells #[.slice none 0 0, .slice none 0 0, .int .i64 0, .slice none 0 0, .slice none 0 0] 108)).heap[w.heap.size]? = some (.cells #[.slice (some ⟨eb, eo, none⟩) F.east.length ec, .slice (some ⟨nb, no, none⟩) F.north.length nc, .int .i64 F.gap, .slice sa F.nets.length sc] 40 (0, 0)) := by simp only [alloc_at, World.size_alloc]; (repeat rw [if_neg (by omega)]); first | rfl | rw [if_pos (by omega)] | rw [if_pos trivial]
  have hW1 : ((w.alloc (.cells #[.slice (some ⟨eb, eo, none⟩) F.east.length ec, .slice (some ⟨nb, no, none⟩) F.north.length nc, .int .i64 F.gap, .slice sa F.nets.length sc] 40)).alloc (.cells #[.slice none 0 0, .slice none 0 0, .int .i64 0, .slice none 0 0, .slice none 0 0] 108)).heap[w.heap.size + 1]? = some (.cells #[.slice none 0 0, .slice none 0 0, .int .i64 0, .slice none 0 0, .slice none 0 0] 108 (0, 0)) := by simp only [alloc_at, World.size_alloc]; (repeat rw [if_neg (by omega)]); first | rfl | rw [if_pos (by omega)] | rw [if_pos trivial]
  generalize (w.alloc (.cells #[.slice (some ⟨eb, eo, none⟩) F.east.length ec, .slice (some ⟨nb, no, none⟩) F.north.length nc, .int .i64 F.gap, .slice sa F.nets.length sc] 40)).alloc (.cells #[.slice none 0 0, .slice none 0 0, .int .i64 0, .slice none 0 0, .slice none 0 0] 108) = W at *
  have HW := hid hW
  have HB0 := hid hW0
  have HB1 := hid hW1
  have hc := cell_of hW0
  clear hW hW0 hW1
  gi_upto_region 3 with (gi_at_call 72; ((with_reducible refine (HFL.out _ HW.out).mono ?_); rintro e w1 ⟨rfl, hx1⟩; have hc := cell_of (hx1.block HB0.out)))
  have HX1 := hid (HW.out.trans hx1)
  have HB0 := hid (hx1.block HB0.out)
  have HB1 := hid (hx1.block HB1.out)
  clear HFL hx1 HW
  gi_upto_region 4 with fail
  have hxa : Ext w1 (w1.alloc (.cells #[.slice (some ⟨eb, eo, none⟩) F.east.length ec, .slice (some ⟨nb, no, none⟩) F.north.length nc, .int .i64 F.gap, .slice sa F.nets.length sc, .slice none 0 0] 108)) := (Ext.refl _).alloc _
  have hG : (w1.alloc (.cells #[.slice (some ⟨eb, eo, none⟩) F.east.length ec, .slice (some ⟨nb, no, none⟩) F.north.length nc, .int .i64 F.gap, .slice sa F.nets.length sc, .slice none 0 0] 108)).heap[w1.heap.size]? = some (.cells #[.slice (some ⟨eb, eo, none⟩) F.east.length ec, .slice (some ⟨nb, no, none⟩) F.north.length nc, .int .i64 F.gap, .slice sa F.nets.length sc, .slice none 0 0] 108 (0, 0)) := Ext.new (Ext.refl _)
  have hlt := lt_of_block HB1.out
  clear hc
  have hc := cell_of (hxa.block HB0.out)
  obtain ⟨G, hGe⟩ : ∃ G, G = w1.heap.size := ⟨_, rfl⟩
  rw [← hGe] at hG hlt ⊢
  have HJ : (fun (k : Nat) (wr : World) => Hid (Ext w wr ∧ wr.heap[w.heap.size + 1]? = some (.cells #[.slice none 0 0, .slice none 0 0, .int .i64 0, .slice none 0 0, .slice none 0 0] 108 (0, 0)) ∧ w.heap.size + 1 < G ∧ ∃ v, wr.heap[G]? = some (.cells #[.slice (some ⟨eb, eo, none⟩) F.east.length ec, .slice (some ⟨nb, no, none⟩) F.north.length nc, .int .i64 F.gap, .slice sa F.nets.length sc, v] 108 (0, 0)) ∧ Row wr 125 11 v k (netTo F.nets k) ∧ ∀ g, v.ownBlock = some g → G < g)) 0 (w1.alloc (.cells #[.slice (some ⟨eb, eo, none⟩) F.east.length ec, .slice (some ⟨nb, no, none⟩) F.north.length nc, .int .i64 F.gap, .slice sa F.nets.length sc, .slice none 0 0] 108)) := ⟨HX1.out.trans hxa, hxa.block HB1.out, hlt, _, hG, Row.nil _ _ _, fun g hg => by simp [Value.ownBlock] at hg⟩
  have HJ := hid HJ
  clear hG hlt HB0 HB1 HX1
  generalize w1.alloc (.cells #[.slice (some ⟨eb, eo, none⟩) F.east.length ec, .slice (some ⟨nb, no, none⟩) F.north.length nc, .int .i64 F.gap, .slice sa F.nets.length sc, .slice none 0 0] 108) = W1 at *
  clear hGe hxa
  gi_wp2_with fail
  gi_loopw [16] (fun i wr => ∃ k : Nat, k ≤ F.nets.length ∧ i = .int .i64 k ∧ Hid (Ext w wr ∧ wr.heap[w.heap.size + 1]? = some (.cells #[.slice none 0 0, .slice none 0 0, .int .i64 0, .slice none 0 0, .slice none 0 0] 108 (0, 0)) ∧ w.heap.size + 1 < G ∧ ∃ v, wr.heap[G]? = some (.cells #[.slice (some ⟨eb, eo, none⟩) F.east.length ec, .slice (some ⟨nb, no, none⟩) F.north.length nc, .int .i64 F.gap, .slice sa F.nets.length sc, v] 108 (0, 0)) ∧ Row wr 125 11 v k (netTo F.nets k) ∧ ∀ g, v.ownBlock = some g → G < g)) (fun i _ => F.nets.length - (intOf i).toNat)
  case atStart => exact ⟨0, Nat.zero_le _, rfl, HJ.out⟩
  case round =>
    obtain ⟨k, hk, rfl, hI⟩ := hrel
    clear HJ hc
    obtain ⟨hx, hb1, hlG, v, hbG, hrow, hown⟩ := hI.out
    clear hI
    by_cases hlt : k < F.nets.length
    · obtain ⟨b, off, rfl, hb, c0, c1, c2, c3, c4, c5, c6, c7, c8, c9⟩ := HC.out k hlt
      rw [← hx.cell (p := ⟨b, _, none⟩) hb] at c0 c1 c2 c3 c4 c5 c6 c7 c8 c9
      have hki : (k : Int) < F.nets.length := by omega
      have HT := hid (netTo_succ F.nets hlt)
      generalize F.nets[k] = m at *
      have HB1 := hid hb1
      have HBG := hid hbG
      have HROW := hid hrow
      have HOWN := hid hown
      clear hb1 hbG hrow hown
      gi_upto_region 7 with fail
      have hx2 : Ext wr (wr.alloc (.cells #[.int .i64 m.east, .int .i64 m.north, .int .i64 m.long, .int .i64 m.along, .int .i64 m.shot, .int .i64 m.haul, .int .i64 m.se.lo, .int .i64 m.se.hi, .int .i64 m.sn.lo, .int .i64 m.sn.hi] 58)) := (Ext.refl _).alloc _
      have hb2 : (wr.alloc (.cells #[.int .i64 m.east, .int .i64 m.north, .int .i64 m.long, .int .i64 m.along, .int .i64 m.shot, .int .i64 m.haul, .int .i64 m.se.lo, .int .i64 m.se.hi, .int .i64 m.sn.lo, .int .i64 m.sn.hi] 58)).heap[wr.heap.size]? = some (.cells #[.int .i64 m.east, .int .i64 m.north, .int .i64 m.long, .int .i64 m.along, .int .i64 m.shot, .int .i64 m.haul, .int .i64 m.se.lo, .int .i64 m.se.hi, .int .i64 m.sn.lo, .int .i64 m.sn.hi] 58 (0, 0)) := Ext.new (Ext.refl _)
      clear c0 c1 c2 c3 c4 c5 c6 c7 c8 c9
      have HX := hid (hx.trans hx2)
      have HB1 := hid (hx2.block HB1.out)
      have HBG := hid (hx2.block HBG.out)
      have HROW := hid (HROW.out.mono hx2)
      have hcb := cell_of hb2
      have hcg := cell_of HBG.out
      clear hb2 hx2 hx
      generalize wr.alloc (.cells #[.int .i64 m.east, .int .i64 m.north, .int .i64 m.long, .int .i64 m.along, .int .i64 m.shot, .int .i64 m.haul, .int .i64 m.se.lo, .int .i64 m.se.hi, .int .i64 m.sn.lo, .int .i64 m.sn.hi] 58) = W2 at *
      obtain ⟨i0, hi0, hz0, hz1, hz2⟩ := info_parts info125
      have HZ := hid (And.intro hi0 (And.intro hz0 (And.intro hz1 hz2)))
      clear hi0 hz0 hz1 hz2
      have HRW := hid (HROW.out.mono ((Ext.refl W2).alloc (.cells #[.int .i64 m.east, .int .i64 m.north, .int .i64 m.long, .int .i64 m.along, .int .i64 m.shot, .int .i64 m.haul, .int .i64 m.se.lo, .int .i64 m.se.hi, .int .i64 m.sn.lo, .int .i64 m.sn.hi, .int .i64 k] 125)))
      have HBG2 := hid (((Ext.refl W2).alloc (.cells #[.int .i64 m.east, .int .i64 m.north, .int .i64 m.long, .int .i64 m.along, .int .i64 m.shot, .int .i64 m.haul, .int .i64 m.se.lo, .int .i64 m.se.hi, .int .i64 m.sn.lo, .int .i64 m.sn.hi, .int .i64 k] 125)).block HBG.out)
      have HNW : Hid (∀ j u, (netCells m k)[j]? = some u → (W2.alloc (.cells #[.int .i64 m.east, .int .i64 m.north, .int .i64 m.long, .int .i64 m.along, .int .i64 m.shot, .int .i64 m.haul, .int .i64 m.se.lo, .int .i64 m.se.hi, .int .i64 m.sn.lo, .int .i64 m.sn.hi, .int .i64 k] 125)).cell? ((⟨W2.heap.size, 0, none⟩ : Addr).add j) = some u) := fun j u hj => by rw [Addr.add_mid, Nat.zero_add, new_cell _ _ rfl]; simpa [netCells] using hj
      have hmax : k + 1 ≤ 1000000000 := by omega
      gi_wp2_with (refine wpIn_append_row (fun _ => trivial) rfl (.tmp 22) (.tmp 26) rfl Try.underlying106 HZ.out.1 HZ.out.2.1 HZ.out.2.2.1 HZ.out.2.2.2 (by simp [Value.cells]) (by omega) (v := v) rfl HRW.out ⟨W2.heap.size, 0, none⟩ 1 rfl (netCells m k) rfl HNW.out (fun u hu => by simp [netCells] at hu; rcases hu with rfl | rfl | rfl | rfl | rfl | rfl | rfl | rfl | rfl | rfl | rfl <;> rfl) hmax (by omega) ?_; intro v' w' hrow' hgr' how'; obtain ⟨sa', sn', sc', rfl⟩ := hrow'.isSlice; have hbv' := grownBy_block hgr' HBG2.out (fun e => by have := HOWN.out _ e.symm; omega); have hcv' := cell_of hbv'; have hfv' := free_of hbv')
      have hlG2 := lt_of_block HBG.out
      have hsz : w.heap.size ≤ W2.heap.size := HX.out.size
      have hbel : Ext w w' := Below.trans (HX.out.alloc _) ⟨hgr'.os, hgr'.tape, hgr'.output, hgr'.size, fun j hj => hgr'.block j (by simp; omega) (fun e => by have := HOWN.out j e.symm; omega)⟩
      have hb1' := grownBy_block hgr' (((Ext.refl W2).alloc _).block HB1.out) (fun e => by have := HOWN.out _ e.symm; omega)
      have hown' : ∀ g, (Value.slice sa' sn' sc').ownBlock = some g → G < g := fun g hg => by
        rcases how' with e | e
        · exact HOWN.out g (by rw [← e]; exact hg)
        · rw [hg] at e; cases e; simp; omega
      go_roundw
      case rel =>
        refine ⟨k + 1, by omega, by go_num, hbel.set (by omega) _ _, by rw [set_other (by omega)]; exact hb1', hlG, _, set_same hbv' 4 _, ?_, hown'⟩
        rw [HT.out]
        exact hrow'.set (fun e => by have := hown' _ e; omega) _ _
      case measure => simp [intOf]; omega
    · obtain rfl : k = F.nets.length := by omega
      obtain ⟨ma, mc, rfl⟩ := hrow.isSliceN
      have HROW := hid hrow
      have HOWN := hid hown
      have HB1 := hid hb1
      have hcg := cell_of hbG
      have hcr := cell_of hb1
      have hfr := free_of hb1
      have HX := hid hx
      clear hrow hown hb1 hx
      gi_wp2_with fail
      have hbk := set_same (set_same (set_same (set_same (set_same HB1.out 0 (.slice (some ⟨eb, eo, none⟩) F.east.length ec)) 1 (.slice (some ⟨nb, no, none⟩) F.north.length nc)) 2 (.int .i64 F.gap)) 3 (.slice sa F.nets.length sc)) 4 (.slice ma F.nets.length mc)
      have hne : (Value.slice ma F.nets.length mc).ownBlock ≠ some (w.heap.size + 1) := fun e => by have := HOWN.out _ e; omega
      have hrow := ((((HROW.out.set hne 0 (.slice (some ⟨eb, eo, none⟩) F.east.length ec)).set hne 1 (.slice (some ⟨nb, no, none⟩) F.north.length nc)).set hne 2 (.int .i64 F.gap)).set hne 3 (.slice sa F.nets.length sc)).set hne 4 (.slice ma F.nets.length mc)
      have hEx := ((((HX.out.set (b := w.heap.size + 1) (by omega) 0 (.slice (some ⟨eb, eo, none⟩) F.east.length ec)).set (b := w.heap.size + 1) (by omega) 1 (.slice (some ⟨nb, no, none⟩) F.north.length nc)).set (b := w.heap.size + 1) (by omega) 2 (.int .i64 F.gap)).set (b := w.heap.size + 1) (by omega) 3 (.slice sa F.nets.length sc)).set (b := w.heap.size + 1) (by omega) 4 (.slice ma F.nets.length mc)
      simp only [List.setIfInBounds_toArray, List.set_cons_succ, List.set_cons_zero] at hbk
      clear hcg hcr hfr HX HROW HB1 hbG
      generalize (((((wr.setCell ⟨w.heap.size + 1, 0, none⟩ (.slice (some ⟨eb, eo, none⟩) F.east.length ec)).setCell ⟨w.heap.size + 1, 1, none⟩ (.slice (some ⟨nb, no, none⟩) F.north.length nc)).setCell ⟨w.heap.size + 1, 2, none⟩ (.int .i64 F.gap)).setCell ⟨w.heap.size + 1, 3, none⟩ (.slice sa F.nets.length sc)).setCell ⟨w.heap.size + 1, 4, none⟩ (.slice ma F.nets.length mc)) = WF at *
      have hc := cell_of hbk
      refine bodyPost_ret (v := .tuple #[.agg #[.slice (some ⟨eb, eo, none⟩) F.east.length ec, .slice (some ⟨nb, no, none⟩) F.north.length nc, .int .i64 F.gap, .slice sa F.nets.length sc, .slice ma F.nets.length mc], .int .i64 0]) (by simp [results, Try.results51, go_sem, hc]) rfl ⟨_, _, rfl, hEx, hrow, fun g hg => ?_⟩
      have := HOWN.out g hg
      omega

end Go.Proofs.Ytmjelgonhpgmbaa
