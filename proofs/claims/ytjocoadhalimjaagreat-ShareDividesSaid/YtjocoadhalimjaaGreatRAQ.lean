/- The eighths of the parts that somebody gets. -/
import Derived.Test.YtjocoadhalimjaaGreatRAO
import Derived.Test.YtjocoadhalimjaaGreatRAP
import Derived.Test.YtjocoadhalimjaaGreatRAC
import Derived.Laws.Externs
set_option linter.unusedSimpArgs false
set_option linter.unusedVariables false
namespace Go.Proofs.YtjocoadhalimjaaGreat
section
open Go Go.RowKit Go.Shelf

def back (b : Int) (l : List Stk) : Int := if sumW l = 0 then 0 else b
theorem StakesAt.capped {w : World} {a : Option Addr} {n c : Nat} {l : List Stk} (h : StakesAt w (.slice a n c) l) : n ≤ c ∧ n = l.length ∧ StakesAt w (.slice a n n) l := by
  obtain ⟨a', c', e, ⟨h1, h2⟩, h3⟩ := h
  cases e
  exact ⟨h1, rfl, a, l.length, rfl, ⟨Nat.le_refl _, h2⟩, h3⟩
def smallW (l : List Stk) : Prop := (∀ s ∈ l, -1000000000 ≤ s.weight ∧ s.weight ≤ 1000000000) ∧ l.length ≤ 1000
theorem size119 : (Tryz.prog.info? 119).map (·.size) = some 3 := by kernel_rfl
theorem index120_0 (w : World) : (Instr.index 120 (.agg partsC) (.int .i64 0)).run Tryz.prog w = .ok (.agg #[.string ⟨#[98, 111, 97, 116]⟩, fnV 96, fnV 96]) w := by
  simp [Instr.index, go_sem, partsC]
theorem index120_1 (w : World) : (Instr.index 120 (.agg partsC) (.int .i64 1)).run Tryz.prog w = .ok (.agg #[.string ⟨#[110, 101, 116, 115]⟩, fnV 97, fnV 55]) w := by
  simp [Instr.index, go_sem, partsC]
theorem index120_2 (w : World) : (Instr.index 120 (.agg partsC) (.int .i64 2)).run Tryz.prog w = .ok (.agg #[.string ⟨#[99, 114, 101, 119]⟩, fnV 98, fnV 98]) w := by
  simp [Instr.index, go_sem, partsC]
/-- The cells of the eighths, as far as they have been looked at. -/
def backC (bo ne cr : Int) (ol ll hl : List Stk) (k : Nat) : Array Value := #[.int .i64 (if 0 < k then back bo ol else bo), .int .i64 (if 1 < k then back ne ll else ne), .int .i64 (if 2 < k then back cr hl else cr)]
set_option maxRecDepth 100000 in
set_option maxHeartbeats 4000000 in
theorem backed_any (gr bo ne cr : Int) (cv lv mv : Value) (oa la ha : Option Addr) (on oc ln lc hn hc : Nat) (ol ll hl : List Stk) (w : World)
    (ho : StakesAt w (.slice oa on oc) ol) (hl' : StakesAt w (.slice la ln lc) ll) (hh : StakesAt w (.slice ha hn hc) hl) (so : smallW ol) (sl : smallW ll) (sh : smallW hl) :
    Cal 94 #[.agg #[.int .i64 gr, cv, .int .i64 bo, .int .i64 ne, .int .i64 cr, .slice oa on oc, .slice la ln lc, .slice ha hn hc, lv, mv]] w fun e w' => e = .returned (.agg #[.int .i64 (back bo ol), .int .i64 (back ne ll), .int .i64 (back cr hl)]) ∧ Ext w w' := by
  have o1 := ho.capped
  have l1 := hl'.capped
  have h1 := hh.capped
  have HO := hid (fun (u : World) (hu : Ext w u) => weights_any _ ol u (o1.2.2.mono hu) so.1 so.2)
  have HL := hid (fun (u : World) (hu : Ext w u) => weights_any _ ll u (l1.2.2.mono hu) sl.1 sl.2)
  have HH := hid (fun (u : World) (hu : Ext w u) => weights_any _ hl u (h1.2.2.mono hu) sh.1 sh.2)
  have HE7 := hid (fun (u : World) => eighths_any gr bo ne cr cv lv mv oa la ha on oc ln lc hn hc u)
  have HP := hid (fun (u : World) => parts_any u)
  have H6 := hid (fun (u : World) => owners_any gr bo ne cr cv lv mv oa la ha on oc ln lc hn hc u o1.1)
  have H7 := hid (fun (u : World) => lenders_any gr bo ne cr cv lv mv oa la ha on oc ln lc hn hc u l1.1)
  have H8 := hid (fun (u : World) => hands_any gr bo ne cr cv lv mv oa la ha on oc ln lc hn hc u h1.1)
  have HI0 := hid index120_0
  have HI1 := hid index120_1
  have HI2 := hid index120_2
  clear ho hl' hh so sl sh o1 l1 h1
  have hW : Ext w ((w.alloc (.cells #[.int .i64 gr, cv, .int .i64 bo, .int .i64 ne, .int .i64 cr, .slice oa on oc, .slice la ln lc, .slice ha hn hc, lv, mv] 83)).alloc (.cells #[.int .i64 0, .int .i64 0, .int .i64 0] 90)) := ((Ext.refl _).alloc _).alloc _
  have hB := two_new (w := w) (o1 := .cells #[.int .i64 gr, cv, .int .i64 bo, .int .i64 ne, .int .i64 cr, .slice oa on oc, .slice la ln lc, .slice ha hn hc, lv, mv] 83) (o2 := .cells #[.int .i64 0, .int .i64 0, .int .i64 0] 90)
  have hR : ((w.alloc (.cells #[.int .i64 gr, cv, .int .i64 bo, .int .i64 ne, .int .i64 cr, .slice oa on oc, .slice la ln lc, .slice ha hn hc, lv, mv] 83)).alloc (.cells #[.int .i64 0, .int .i64 0, .int .i64 0] 90)).heap[w.heap.size + 1]? = some (.cells #[.int .i64 0, .int .i64 0, .int .i64 0] 90 (0, 0)) := by
    have := Ext.new (w := w.alloc (.cells #[.int .i64 gr, cv, .int .i64 bo, .int .i64 ne, .int .i64 cr, .slice oa on oc, .slice la ln lc, .slice ha hn hc, lv, mv] 83)) (o := .cells #[.int .i64 0, .int .i64 0, .int .i64 0] 90) (Ext.refl _); rwa [World.size_alloc] at this
  gi_enter Tryz.func94, Tryz.ntmps94
  gi_upto_region 1 with fail
  generalize (w.alloc (.cells #[.int .i64 gr, cv, .int .i64 bo, .int .i64 ne, .int .i64 cr, .slice oa on oc, .slice la ln lc, .slice ha hn hc, lv, mv] 83)).alloc (.cells #[.int .i64 0, .int .i64 0, .int .i64 0] 90) = W at *
  have cB := cell_of hB
  have HX := hid hW
  have HB := hid hB
  have HR := hid hR
  clear hW hB hR
  gi_upto_region 2 with (gi_at_call 77; ((with_reducible refine (HE7.out _).mono ?_); rintro e w1 ⟨rfl, hx1⟩))
  have hxa : Ext W (w1.alloc (.cells #[.int .i64 bo, .int .i64 ne, .int .i64 cr] 90)) := hx1.alloc _
  have hg : (w1.alloc (.cells #[.int .i64 bo, .int .i64 ne, .int .i64 cr] 90)).heap[w1.heap.size]? = some (.cells #[.int .i64 bo, .int .i64 ne, .int .i64 cr] 90 (0, 0)) := Ext.new (Ext.refl _)
  have HXn := hid (HX.out.trans hxa)
  have HBn := hid (hxa.block HB.out)
  have HRn := hid (hxa.block HR.out)
  have HGE : Hid (w.heap.size + 1 < w1.heap.size) := hid (Nat.lt_of_lt_of_le (lt_of_block HR.out) hx1.size)
  have HG := hid hg
  clear hxa hg cB HX HB HR hx1
  generalize w1.alloc (.cells #[.int .i64 bo, .int .i64 ne, .int .i64 cr] 90) = W1 at *
  generalize w1.heap.size = g at *
  clear W w1
  gi_wp2_with (gi_at_call 78; ((with_reducible refine (HP.out _).mono ?_); rintro e w2 ⟨rfl, hx2⟩))
  have HJ : Hid (Ext w w2 ∧ w2.heap[w.heap.size]? = some (.cells #[.int .i64 gr, cv, .int .i64 bo, .int .i64 ne, .int .i64 cr, .slice oa on oc, .slice la ln lc, .slice ha hn hc, lv, mv] 83 (0, 0)) ∧ w2.heap[w.heap.size + 1]? = some (.cells #[.int .i64 0, .int .i64 0, .int .i64 0] 90 (0, 0)) ∧ w2.heap[g]? = some (.cells (backC bo ne cr ol ll hl 0) 90 (0, 0))) := hid ⟨HXn.out.trans hx2, hx2.block HBn.out, hx2.block HRn.out, hx2.block HG.out⟩
  clear HXn HBn HRn HG hx2
  gi_loopw [4, 5, 9] (fun u4 u5 i wr => ∃ k : Nat, k ≤ 3 ∧ i = .int .i64 k ∧ Hid (Ext w wr ∧ wr.heap[w.heap.size]? = some (.cells #[.int .i64 gr, cv, .int .i64 bo, .int .i64 ne, .int .i64 cr, .slice oa on oc, .slice la ln lc, .slice ha hn hc, lv, mv] 83 (0, 0)) ∧ wr.heap[w.heap.size + 1]? = some (.cells #[.int .i64 0, .int .i64 0, .int .i64 0] 90 (0, 0)) ∧ wr.heap[g]? = some (.cells (backC bo ne cr ol ll hl k) 90 (0, 0)))) (fun _ _ i _ => 3 - (intOf i).toNat)
  case atStart => exact ⟨0, by omega, rfl, HJ⟩
  case round =>
    obtain ⟨k, hk, rfl, HI⟩ := hrel
    clear HJ
    rcases (by omega : k = 0 ∨ k = 1 ∨ k = 2 ∨ k = 3) with rfl | rfl | rfl | rfl
    · have hix := HI0.out wr
      gi_wp2_with (refine wpIn_store_fresh (fun _ => trivial) 119 (.tmp 5) (.tmp 12) rfl (W := wr) (c' := #[.string ⟨#[98, 111, 97, 116]⟩, fnV 96, fnV 96]) rfl rfl rfl size119 rfl (by simp [Value.oneCell']) ?_; refine Hid.out ?_)
      have hxa : Ext wr (wr.alloc (.cells #[.string ⟨#[98, 111, 97, 116]⟩, fnV 96, fnV 96] 119)) := (Ext.refl _).alloc _
      have hn : (wr.alloc (.cells #[.string ⟨#[98, 111, 97, 116]⟩, fnV 96, fnV 96] 119)).heap[wr.heap.size]? = some (.cells #[.string ⟨#[98, 111, 97, 116]⟩, fnV 96, fnV 96] 119 (0, 0)) := Ext.new (Ext.refl _)
      have HXn := hid (HI.out.1.trans hxa)
      have hBn := hxa.block HI.out.2.1
      have HRn := hid (hxa.block HI.out.2.2.1)
      have HGn := hid (hxa.block HI.out.2.2.2)
      clear HI hxa hix
      refine hid ?_
      generalize wr.alloc (.cells #[.string ⟨#[98, 111, 97, 116]⟩, fnV 96, fnV 96] 119) = W3 at *
      generalize wr.heap.size = nb at *
      have cn := cell_of hn
      have cB := cell_of hBn
      have HBn := hid hBn
      clear hBn hn
      cases hz : (sumW ol == 0) with
      | true =>
        have HZ : Hid (sumW ol = 0) := hid (by simpa using hz)
        gi_wp2_with (first | (gi_at_call 96; ((with_reducible refine (H6.out _).mono ?_); rintro e w4 ⟨rfl, hx4⟩)) | (gi_at_call 48; ((with_reducible refine (HO.out _ (HXn.out.trans hx4)).mono ?_); rintro e w5 ⟨rfl, hx5⟩; have hgg := (hx4.trans hx5).block HGn.out; have cg := cell_of hgg; have fg := free_of hgg; have lg := lt_of_block hgg)))
        go_roundw
        case rel =>
          have h1 := HGE.out
          refine ⟨1, by omega, by go_num, hid ⟨((HXn.out.trans hx4).trans hx5).set (by omega) _ _, ?_, ?_, ?_⟩⟩
          · rw [set_other (by omega)]; exact (hx4.trans hx5).block HBn.out
          · rw [set_other (by omega)]; exact (hx4.trans hx5).block HRn.out
          · rw [set_same hgg]
            have hb : back bo ol = 0 := by unfold back; rw [if_pos HZ.out]
            simp [backC, hb]
        case measure => simp [intOf]
      | false =>
        have HZ : Hid (sumW ol ≠ 0) := hid (by simpa using hz)
        gi_wp2_with (first | (gi_at_call 96; ((with_reducible refine (H6.out _).mono ?_); rintro e w4 ⟨rfl, hx4⟩)) | (gi_at_call 48; ((with_reducible refine (HO.out _ (HXn.out.trans hx4)).mono ?_); rintro e w5 ⟨rfl, hx5⟩)))
        go_roundw
        case rel =>
          refine ⟨1, by omega, by go_num, hid ⟨(HXn.out.trans hx4).trans hx5, (hx4.trans hx5).block HBn.out, (hx4.trans hx5).block HRn.out, ?_⟩⟩
          rw [(hx4.trans hx5).block HGn.out]
          have hb : back bo ol = bo := by unfold back; rw [if_neg HZ.out]
          simp [backC, hb]
        case measure => simp [intOf]
    · have hix := HI1.out wr
      gi_wp2_with (refine wpIn_store_fresh (fun _ => trivial) 119 (.tmp 5) (.tmp 12) rfl (W := wr) (c' := #[.string ⟨#[110, 101, 116, 115]⟩, fnV 97, fnV 55]) rfl rfl rfl size119 rfl (by simp [Value.oneCell']) ?_; refine Hid.out ?_)
      have hxa : Ext wr (wr.alloc (.cells #[.string ⟨#[110, 101, 116, 115]⟩, fnV 97, fnV 55] 119)) := (Ext.refl _).alloc _
      have hn : (wr.alloc (.cells #[.string ⟨#[110, 101, 116, 115]⟩, fnV 97, fnV 55] 119)).heap[wr.heap.size]? = some (.cells #[.string ⟨#[110, 101, 116, 115]⟩, fnV 97, fnV 55] 119 (0, 0)) := Ext.new (Ext.refl _)
      have HXn := hid (HI.out.1.trans hxa)
      have hBn := hxa.block HI.out.2.1
      have HRn := hid (hxa.block HI.out.2.2.1)
      have HGn := hid (hxa.block HI.out.2.2.2)
      clear HI hxa hix
      refine hid ?_
      generalize wr.alloc (.cells #[.string ⟨#[110, 101, 116, 115]⟩, fnV 97, fnV 55] 119) = W3 at *
      generalize wr.heap.size = nb at *
      have cn := cell_of hn
      have cB := cell_of hBn
      have HBn := hid hBn
      clear hBn hn
      cases hz : (sumW ll == 0) with
      | true =>
        have HZ : Hid (sumW ll = 0) := hid (by simpa using hz)
        gi_wp2_with (first | (gi_at_call 97; ((with_reducible refine (H7.out _).mono ?_); rintro e w4 ⟨rfl, hx4⟩)) | (gi_at_call 48; ((with_reducible refine (HL.out _ (HXn.out.trans hx4)).mono ?_); rintro e w5 ⟨rfl, hx5⟩; have hgg := (hx4.trans hx5).block HGn.out; have cg := cell_of hgg; have fg := free_of hgg; have lg := lt_of_block hgg)))
        go_roundw
        case rel =>
          have h1 := HGE.out
          refine ⟨2, by omega, by go_num, hid ⟨((HXn.out.trans hx4).trans hx5).set (by omega) _ _, ?_, ?_, ?_⟩⟩
          · rw [set_other (by omega)]; exact (hx4.trans hx5).block HBn.out
          · rw [set_other (by omega)]; exact (hx4.trans hx5).block HRn.out
          · rw [set_same hgg]
            have hb : back ne ll = 0 := by unfold back; rw [if_pos HZ.out]
            simp [backC, hb]
        case measure => simp [intOf]
      | false =>
        have HZ : Hid (sumW ll ≠ 0) := hid (by simpa using hz)
        gi_wp2_with (first | (gi_at_call 97; ((with_reducible refine (H7.out _).mono ?_); rintro e w4 ⟨rfl, hx4⟩)) | (gi_at_call 48; ((with_reducible refine (HL.out _ (HXn.out.trans hx4)).mono ?_); rintro e w5 ⟨rfl, hx5⟩)))
        go_roundw
        case rel =>
          refine ⟨2, by omega, by go_num, hid ⟨(HXn.out.trans hx4).trans hx5, (hx4.trans hx5).block HBn.out, (hx4.trans hx5).block HRn.out, ?_⟩⟩
          rw [(hx4.trans hx5).block HGn.out]
          have hb : back ne ll = ne := by unfold back; rw [if_neg HZ.out]
          simp [backC, hb]
        case measure => simp [intOf]
    · have hix := HI2.out wr
      gi_wp2_with (refine wpIn_store_fresh (fun _ => trivial) 119 (.tmp 5) (.tmp 12) rfl (W := wr) (c' := #[.string ⟨#[99, 114, 101, 119]⟩, fnV 98, fnV 98]) rfl rfl rfl size119 rfl (by simp [Value.oneCell']) ?_; refine Hid.out ?_)
      have hxa : Ext wr (wr.alloc (.cells #[.string ⟨#[99, 114, 101, 119]⟩, fnV 98, fnV 98] 119)) := (Ext.refl _).alloc _
      have hn : (wr.alloc (.cells #[.string ⟨#[99, 114, 101, 119]⟩, fnV 98, fnV 98] 119)).heap[wr.heap.size]? = some (.cells #[.string ⟨#[99, 114, 101, 119]⟩, fnV 98, fnV 98] 119 (0, 0)) := Ext.new (Ext.refl _)
      have HXn := hid (HI.out.1.trans hxa)
      have hBn := hxa.block HI.out.2.1
      have HRn := hid (hxa.block HI.out.2.2.1)
      have HGn := hid (hxa.block HI.out.2.2.2)
      clear HI hxa hix
      refine hid ?_
      generalize wr.alloc (.cells #[.string ⟨#[99, 114, 101, 119]⟩, fnV 98, fnV 98] 119) = W3 at *
      generalize wr.heap.size = nb at *
      have cn := cell_of hn
      have cB := cell_of hBn
      have HBn := hid hBn
      clear hBn hn
      cases hz : (sumW hl == 0) with
      | true =>
        have HZ : Hid (sumW hl = 0) := hid (by simpa using hz)
        gi_wp2_with (first | (gi_at_call 98; ((with_reducible refine (H8.out _).mono ?_); rintro e w4 ⟨rfl, hx4⟩)) | (gi_at_call 48; ((with_reducible refine (HH.out _ (HXn.out.trans hx4)).mono ?_); rintro e w5 ⟨rfl, hx5⟩; have hgg := (hx4.trans hx5).block HGn.out; have cg := cell_of hgg; have fg := free_of hgg; have lg := lt_of_block hgg)))
        go_roundw
        case rel =>
          have h1 := HGE.out
          refine ⟨3, by omega, by go_num, hid ⟨((HXn.out.trans hx4).trans hx5).set (by omega) _ _, ?_, ?_, ?_⟩⟩
          · rw [set_other (by omega)]; exact (hx4.trans hx5).block HBn.out
          · rw [set_other (by omega)]; exact (hx4.trans hx5).block HRn.out
          · rw [set_same hgg]
            have hb : back cr hl = 0 := by unfold back; rw [if_pos HZ.out]
            simp [backC, hb]
        case measure => simp [intOf]
      | false =>
        have HZ : Hid (sumW hl ≠ 0) := hid (by simpa using hz)
        gi_wp2_with (first | (gi_at_call 98; ((with_reducible refine (H8.out _).mono ?_); rintro e w4 ⟨rfl, hx4⟩)) | (gi_at_call 48; ((with_reducible refine (HH.out _ (HXn.out.trans hx4)).mono ?_); rintro e w5 ⟨rfl, hx5⟩)))
        go_roundw
        case rel =>
          refine ⟨3, by omega, by go_num, hid ⟨(HXn.out.trans hx4).trans hx5, (hx4.trans hx5).block HBn.out, (hx4.trans hx5).block HRn.out, ?_⟩⟩
          rw [(hx4.trans hx5).block HGn.out]
          have hb : back cr hl = cr := by unfold back; rw [if_neg HZ.out]
          simp [backC, hb]
        case measure => simp [intOf]
    · have cg := cell_of HI.out.2.2.2
      have hb : backC bo ne cr ol ll hl 3 = #[.int .i64 (back bo ol), .int .i64 (back ne ll), .int .i64 (back cr hl)] := by simp [backC]
      rw [hb] at cg
      have fr := free_of HI.out.2.2.1
      have cr' := cell_of HI.out.2.2.1
      have HRR := hid HI.out.2.2.1
      have HX := hid HI.out.1
      clear HI hb
      obtain ⟨x, hx⟩ : ∃ x, back bo ol = x := ⟨_, rfl⟩
      rw [hx] at cg
      have HA := hid hx
      clear hx
      obtain ⟨y, hy⟩ : ∃ y, back ne ll = y := ⟨_, rfl⟩
      rw [hy] at cg
      have HBB := hid hy
      clear hy
      obtain ⟨z, hz⟩ : ∃ z, back cr hl = z := ⟨_, rfl⟩
      rw [hz] at cg
      have HCC := hid hz
      clear hz
      gi_wp2_with fail
      have hX2 : Ext w (((wr.setCell ⟨w.heap.size + 1, 0, none⟩ (.int .i64 x)).setCell ⟨w.heap.size + 1, 1, none⟩ (.int .i64 y)).setCell ⟨w.heap.size + 1, 2, none⟩ (.int .i64 z)) := ((HX.out.set (by omega) _ _).set (by omega) _ _).set (by omega) _ _
      have hs := set_same (set_same (set_same HRR.out 0 (.int .i64 x)) 1 (.int .i64 y)) 2 (.int .i64 z)
      clear fr cr' cg
      generalize ((wr.setCell ⟨w.heap.size + 1, 0, none⟩ (.int .i64 x)).setCell ⟨w.heap.size + 1, 1, none⟩ (.int .i64 y)).setCell ⟨w.heap.size + 1, 2, none⟩ (.int .i64 z) = W at *
      have hc := cell_of hs
      exact bodyPost_ret (v := .agg #[.int .i64 x, .int .i64 y, .int .i64 z]) (by simp [results, Tryz.results94, go_sem, hc]) rfl ⟨by rw [HA.out, HBB.out, HCC.out], hX2⟩
end
section
open Go Go.RowKit Go.Shelf

theorem add64_run (x y : Int) (hx : 0 ≤ x) (hy : 0 ≤ y) (w : World) : (callFunc 109 #[.int .u64 x, .int .u64 y, .int .u64 0]).run Tryz.prog w = .ok (.value (.tuple #[.int .u64 ((x + y) % 18446744073709551616), .int .u64 ((x + y) / 18446744073709551616)])) w := by
  rw [run_callFunc_extern Tryz.func109 (by kernel_rfl) (by kernel_rfl) (by kernel_rfl) (e := add64Entry) (by kernel_rfl), run_add64 x y 0 hx hy (by omega) (by omega)]
  simp only [Result.andThen, Int.add_zero]
/-- A number in two words. -/
def wideC (x : Int) : Array Value := #[.int .i64 (x / 18446744073709551616), .int .u64 (x % 18446744073709551616)]
set_option maxRecDepth 100000 in
set_option maxHeartbeats 1000000 in
theorem plus_any (x n : Int) (w : World) (hx : -1000000000000000000000000000000000000 ≤ x ∧ x ≤ 1000000000000000000000000000000000000) (hn : -9223372036854775808 ≤ n ∧ n ≤ 9223372036854775807) :
    Cal 90 #[.agg (wideC x), .int .i64 n] w fun e w' => e = .returned (.agg (wideC (x + n))) ∧ Ext w w' := by
  unfold wideC
  have hA := fun (u : World) => add64_run (x % 18446744073709551616) (n % 18446744073709551616) (by omega) (by omega) u
  have e1 : (x % 18446744073709551616 + n % 18446744073709551616) % 18446744073709551616 = (x + n) % 18446744073709551616 := by omega
  rw [e1] at hA
  have HS : Hid (∀ c, c = (x % 18446744073709551616 + n % 18446744073709551616) / 18446744073709551616 → IntKind.i64.wrap (IntKind.i64.wrap (x / 18446744073709551616 + n / 9223372036854775808) + IntKind.i64.wrap c) = (x + n) / 18446744073709551616) := hid fun c hc => by
    subst hc
    rw [IntKind.wrap_i64, IntKind.wrap_i64, IntKind.wrap_i64]
    omega
  have hwu : IntKind.u64.wrap n = n % 18446744073709551616 := by simp [IntKind.wrap, IntKind.signed, IntKind.bits]
  clear e1
  gi_enter Tryz.func90, Tryz.ntmps90
  gi_wp2_with fail
  have hs : x / 18446744073709551616 + n / 9223372036854775808 + (x % 18446744073709551616 + n % 18446744073709551616) / 18446744073709551616 = (x + n) / 18446744073709551616 := by omega
  rw [hs]
  clear hA HS hwu hs
  generalize (x + n) / 18446744073709551616 = a at *
  generalize (x + n) % 18446744073709551616 = b at *
  generalize x / 18446744073709551616 = c at *
  generalize x % 18446744073709551616 = d at *
  have HX : Ext w ((w.alloc (.cells #[.int .i64 c, .int .u64 d] 141)).alloc (.cells #[.int .i64 a, .int .u64 b] 141)) := ((Ext.refl _).alloc _).alloc _
  have hb : ((w.alloc (.cells #[.int .i64 c, .int .u64 d] 141)).alloc (.cells #[.int .i64 a, .int .u64 b] 141)).heap[w.heap.size + 1]? = some (.cells #[.int .i64 a, .int .u64 b] 141 (0, 0)) := by
    have := Ext.new (w := w.alloc (.cells #[.int .i64 c, .int .u64 d] 141)) (o := .cells #[.int .i64 a, .int .u64 b] 141) (Ext.refl _); rwa [World.size_alloc] at this
  generalize (w.alloc (.cells #[.int .i64 c, .int .u64 d] 141)).alloc (.cells #[.int .i64 a, .int .u64 b] 141) = W at *
  have hc := cell_of hb
  exact bodyPost_ret (v := .agg #[.int .i64 a, .int .u64 b]) (by simp [results, Tryz.results90, go_sem, hc]) rfl ⟨rfl, HX⟩
end
end Go.Proofs.YtjocoadhalimjaaGreat
