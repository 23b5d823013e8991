/- Several elements appended; a whole list of numbers. -/
import Derived.Test.YtjocoadhalimjaaGreatRAI
import Derived.Test.YtjocoadhalimjaaGreatRAC
import Derived.StringKeys
import Derived.Maps.RangeRun
set_option linter.unusedSimpArgs false
set_option linter.unusedVariables false
namespace Go.Proofs.YtjocoadhalimjaaGreat
section
open Go Go.RowKit Go.Shelf

/-- No element is appended. -/
theorem append_none {w : World} {t ty T : TypeId} {i : TypeInfo} (ht : Tryz.prog.underlying t = some (.slice T)) (hi : Tryz.prog.info? T = some i) {sa : Option Addr} {n c : Nat} (hc : n ≤ c) (xa : Option Addr) (xc : Nat) :
    (Builtin.append_ #[t, t] ty #[.slice sa n c, .slice xa 0 xc]).run Tryz.prog w = .ok (.slice sa n c) w := by
  cases sa <;> cases xa <;> simp [Builtin.append_, run_underlying ht, sizeOf, typeInfo, hi, Builtin.lenOf, hc, Builtin.firstCells, loadCells, loadCellsFrom, storeCells]
/-- Some elements are appended. -/
theorem append_rows {w : World} {t ty T : TypeId} {sz bytes m : Nat} {i : TypeInfo} {z : Value} (ht : Tryz.prog.underlying t = some (.slice T)) (hi : Tryz.prog.info? T = some i) (hz : i.zero = some z) (hs : i.size = sz) (hby : i.bytes = bytes) (hzs : z.cells.size = sz) (hsz : 0 < sz) (hm : 0 < m)
    {v : Value} {n : Nat} {xs : List Value} (h : Row w T sz v n xs) (a : Addr) (c : Nat) (news : List Value) (hl : news.length = m * sz) (hnews : ∀ j u, news[j]? = some u → w.cell? (a.add j) = some u) (h1 : ∀ u ∈ news, u.oneCell' = true)
    (h63 : n + m ≤ 1000000000) (hbytes : bytes ≤ 1000) :
    ∃ v' w', (Builtin.append_ #[t, t] ty #[v, .slice (some a) m c]).run Tryz.prog w = .ok v' w' ∧ Row w' T sz v' (n + m) (xs ++ news) ∧ w.grownBy w' v.ownBlock ∧ (v'.ownBlock = v.ownBlock ∨ v'.ownBlock = some w.heap.size) := by
  subst hs
  subst hby
  have hlen : (xs ++ news).length = (n + m) * i.size := by rw [List.length_append, h.1, hl, Nat.add_mul]
  have hb2 : (n + m) * i.bytes ≤ 1000000000 * 1000 := Nat.mul_le_mul h63 hbytes
  have hmax : n + m ≤ maxLen := by unfold maxLen; omega
  have grown : ∀ (old : Nat), ∃ w', w' = (w.drew.alloc (.cells (xs.toArray ++ news.toArray ++ Builtin.zeroCells z.cells (grownCap w (n + m) old T - (n + m))) T)) ∧
      Row w' T i.size (.slice (some ⟨w.heap.size, 0, none⟩) (n + m) (grownCap w (n + m) old T)) (n + m) (xs ++ news) ∧ ∀ row, w.grownBy w' row := by
    intro old
    have hge := grownCap_ge w (n + m) old T
    refine ⟨_, rfl, ⟨hlen, .inr ⟨w.heap.size, _, _, rfl, heap_alloc_new w.drew _, hge, grownCap_le_maxLen w (n + m) old T hmax, ?_, ?_⟩⟩, fun row => ⟨rfl, rfl, rfl, by simp, fun k hk _ => heap_alloc_old w.drew _ k hk⟩⟩
    · simp only [Array.size_append, List.size_toArray, size_zeroCells, hzs, h.1, hl, Nat.sub_mul]
      have h2 : (n + m) * i.size ≤ grownCap w (n + m) old T * i.size := Nat.mul_le_mul_right _ hge
      rw [Nat.add_mul] at h2 ⊢
      omega
    · simp only [Array.toList_append]
      rw [← hlen]
      exact List.take_left
  rcases h.2 with ⟨rfl, rfl⟩ | ⟨g, cap, cur, rfl, hg, hnc, hcm, hcs, htake⟩
  · have hx : xs = [] := List.eq_nil_of_length_eq_zero (by simpa using h.1)
    subst hx
    have hb3 : m * i.bytes ≤ 1000000000 * 1000 := by simpa using hb2
    have hr := run_append_nil (P := Tryz.prog) w t ty T i z ht hi hz a m c news hl hnews (by omega) (by omega) (by omega)
    obtain ⟨w', hw', hrow, hgr⟩ := grown 0
    simp only [Nat.zero_add, List.nil_append, Array.empty_append] at hrow hgr hw' ⊢
    rw [← hw'] at hr
    exact ⟨_, _, hr, hrow, hgr _, .inr rfl⟩
  · by_cases hroom : n + m ≤ cap
    · have hfit : n * i.size + news.length ≤ cur.size := by
        rw [hl, hcs]
        have := Nat.mul_le_mul_right i.size hroom
        rw [Nat.add_mul] at this; exact this
      have hr := run_append_room (P := Tryz.prog) w t ty T i ht hi g n cap cur hg a m c news hl hnews h1 hroom hfit
      refine ⟨_, _, hr, ⟨hlen, .inr ⟨g, cap, _, rfl, setRow_heap w g cur _ T _ hg, hroom, hcm, ?_, ?_⟩⟩, ⟨rfl, rfl, rfl, by simp, fun k _ hk => setRow_other w g k _ (fun e => hk (by simp [Value.ownBlock, e]))⟩, .inl rfl⟩
      · simp only [List.size_toArray, List.length_append, List.length_take, List.length_drop, Array.length_toList]
        omega
      · rw [htake, ← hlen]
        exact List.take_left
    · have holds : ∀ j u, xs[j]? = some u → w.cell? ((⟨g, 0, none⟩ : Addr).add j) = some u :=
        World.ownsRow.cells (base := 0) (e := T) (size := i.size) (n := n) (h.own 0 (fun _ _ => Nat.zero_le _)) (g := g) rfl
      have hr := run_append_grow (P := Tryz.prog) w t ty T i z ht hi hz ⟨g, 0, none⟩ n cap xs h.1 holds a m c news hl hnews (by omega) (by omega) (growslice_fits (by omega) (by omega))
      obtain ⟨w', hw', hrow, hgr⟩ := grown cap
      rw [← hw'] at hr
      exact ⟨_, _, hr, hrow, hgr _, .inr rfl⟩

theorem ext_grown {w0 w w' : World} {ob : Option Nat} (hx : Ext w0 w) (h : w.grownBy w' ob) (hob : ∀ g, ob = some g → w0.heap.size ≤ g) : Ext w0 w' :=
  Below.trans hx ⟨h.os, h.tape, h.output, h.size, fun j hj => h.block j (by have := hx.size; omega) (fun e => by have := hob j e.symm; omega)⟩
theorem row_empty (w : World) (T : TypeId) (sz : Nat) : Row (w.alloc (.cells #[] T)) T sz (.slice (some ⟨w.heap.size, 0, none⟩) 0 0) 0 [] :=
  ⟨by simp, .inr ⟨_, 0, #[], rfl, Ext.new (Ext.refl _), by omega, by unfold maxLen; omega, by simp, by simp⟩⟩
theorem row_addr {w : World} {T : TypeId} {sz n : Nat} {v : Value} {xs : List Value} (h : Row w T sz v n xs) (hn : 0 < n) : ∃ g cap, v = .slice (some ⟨g, 0, none⟩) n cap := by
  rcases h.2 with ⟨_, h0⟩ | ⟨g, cap, cur, rfl, _⟩
  · omega
  · exact ⟨g, cap, rfl⟩

def intsV (xs : List Int) : List Value := xs.map fun x => .int .i64 x
theorem intsV_intsF (n : Nat) (f : Nat → Int) : intsF n f = intsV ((List.range n).map f) := by unfold intsF intsV; rw [List.map_map]; rfl
theorem intsV_get {xs : List Int} {i : Nat} (h : i < xs.length) : (intsV xs)[i]? = some (.int .i64 xs[i]) := by unfold intsV; simp [h]
theorem intsV_one (xs : List Int) : ∀ u ∈ intsV xs, u.oneCell' = true := by
  intro u hu
  unfold intsV at hu
  obtain ⟨x, _, rfl⟩ := List.mem_map.1 hu
  rfl
theorem ints_cells {w : World} {p : Addr} {sc : Nat} {xs : List Int} (h : IntsAt w (.slice (some p) xs.length sc) xs) (j : Nat) (u : Value) (hj : (intsV xs)[j]? = some u) : w.cell? (p.add j) = some u := by
  obtain ⟨_, _, hc⟩ := h.get
  have hj2 : j < xs.length := by have := (List.getElem?_eq_some_iff.1 hj).1; simpa [intsV] using this
  rw [intsV_get hj2] at hj
  cases hj
  obtain ⟨b, o, e, _, c0⟩ := hc j hj2
  cases e
  rw [Addr.add_mid]
  exact c0
theorem IntsAt.of_row {w : World} {v : Value} {xs : List Int} (h : Row w 3 1 v xs.length (intsV xs)) (hl : xs.length ≤ 1000000000000000) : IntsAt w v xs := by
  obtain ⟨_, h⟩ := h
  rcases h with ⟨rfl, h0⟩ | ⟨g, cap, cur, rfl, hg, h1, h2, h3, h4⟩
  · exact ⟨none, 0, by rw [h0], ⟨by omega, by omega⟩, fun i hi => by omega⟩
  · refine ⟨_, cap, rfl, ⟨h1, hl⟩, fun i hi => ⟨g, 0, rfl, lt_of_block hg, ?_⟩⟩
    rw [cell_of hg, Nat.zero_add, ← intsV_get hi, ← h4, List.getElem?_take, if_pos (by omega), Array.getElem?_toList]
/-- A whole list of numbers, appended to an empty one. -/
theorem whole_ints {w0 w : World} {p : Addr} {sc : Nat} {xs : List Int} (hx : Ext w0 w) (h : IntsAt w0 (.slice (some p) xs.length sc) xs) (h0 : 0 < xs.length ∧ xs.length ≤ 1000) :
    ∃ g cap w', (Builtin.append_ #[23, 23] 23 #[.slice (some ⟨w.heap.size, 0, none⟩) 0 0, .slice (some p) xs.length sc]).run Tryz.prog (w.alloc (.cells #[] 3)) = .ok (.slice (some ⟨g, 0, none⟩) xs.length cap) w' ∧
      Row w' 3 1 (.slice (some ⟨g, 0, none⟩) xs.length cap) xs.length (intsV xs) ∧ w.heap.size ≤ g ∧ Ext w w' := by
  obtain ⟨i, hi, hz0, hz1, hz2⟩ := info_parts info3
  obtain ⟨v, w', hrun, hrow, hgr, how⟩ := append_rows (sz := 1) (bytes := 8) (t := 23) (ty := 23) Tryz.underlying23 hi hz0 hz1 hz2 (by simp [Value.cells]) (by omega) h0.1 (row_empty w 3 1) p sc (intsV xs) (by simp [intsV]) (fun j u hj => ints_cells (h.mono (hx.alloc _)) j u hj) (intsV_one xs) (by omega) (by omega)
  rw [Nat.zero_add, List.nil_append] at hrow
  obtain ⟨g, cap, rfl⟩ := row_addr hrow h0.1
  refine ⟨g, cap, w', hrun, hrow, ?_, ext_grown ((Ext.refl w).alloc _) hgr fun g' hg' => by cases hg'; exact Nat.le_refl _⟩
  rcases how with e | e <;> cases e <;> simp
end
section
open Go Go.RowKit Go.Shelf

def back (b : Int) (l : List Stk) : Int := if sumW l = 0 then 0 else b
theorem StakesAt.capped {w : World} {a : Option Addr} {n c : Nat} {l : List Stk} (h : StakesAt w (.slice a n c) l) : n ≤ c ∧ n = l.length ∧ StakesAt w (.slice a n n) l := by
  obtain ⟨a', c', e, ⟨h1, h2⟩, h3⟩ := h
  cases e
  exact ⟨h1, rfl, a, l.length, rfl, ⟨Nat.le_refl _, h2⟩, h3⟩
def smallW (l : List Stk) : Prop := (∀ s ∈ l, -1000000000 ≤ s.weight ∧ s.weight ≤ 1000000000) ∧ l.length ≤ 1000
theorem size119 : (Tryz.prog.info? 119).map (·.size) = some 3 := by kernel_rfl
theorem index120_0 (w : World) : (Instr.index 120 (.agg partsC) (.int .i64 0)).run Tryz.prog w = .ok (.agg #[.string ⟨#[98, 111, 97, 116]⟩, fnV 96, fnV 96]) w := by
  simp [Instr.index, go_sem, partsC]
theorem index120_1 (w : World) : (Instr.index 120 (.agg partsC) (.int .i64 1)).run Tryz.prog w = .ok (.agg #[.string ⟨#[110, 101, 116, 115]⟩, fnV 97, fnV 55]) w := by
  simp [Instr.index, go_sem, partsC]
theorem index120_2 (w : World) : (Instr.index 120 (.agg partsC) (.int .i64 2)).run Tryz.prog w = .ok (.agg #[.string ⟨#[99, 114, 101, 119]⟩, fnV 98, fnV 98]) w := by
  simp [Instr.index, go_sem, partsC]
/-- The cells of the eighths, as far as they have been looked at. -/
def backC (bo ne cr : Int) (ol ll hl : List Stk) (k : Nat) : Array Value := #[.int .i64 (if 0 < k then back bo ol else bo), .int .i64 (if 1 < k then back ne ll else ne), .int .i64 (if 2 < k then back cr hl else cr)]
set_option maxRecDepth 100000 in
set_option maxHeartbeats 4000000 in
theorem backed_any (gr bo ne cr : Int) (cv lv mv : Value) (oa la ha : Option Addr) (on oc ln lc hn hc : Nat) (ol ll hl : List Stk) (w : World)
    (ho : StakesAt w (.slice oa on oc) ol) (hl' : StakesAt w (.slice la ln lc) ll) (hh : StakesAt w (.slice ha hn hc) hl) (so : smallW ol) (sl : smallW ll) (sh : smallW hl) :
    Cal 94 #[.agg #[.int .i64 gr, cv, .int .i64 bo, .int .i64 ne, .int .i64 cr, .slice oa on oc, .slice la ln lc, .slice ha hn hc, lv, mv]] w fun e w' => e = .returned (.agg #[.int .i64 (back bo ol), .int .i64 (back ne ll), .int .i64 (back cr hl)]) ∧ Ext w w' := by
  have o1 := ho.capped
  have l1 := hl'.capped
  have h1 := hh.capped
  have HO := hid (fun (u : World) (hu : Ext w u) => weights_any _ ol u (o1.2.2.mono hu) so.1 so.2)
  have HL := hid (fun (u : World) (hu : Ext w u) => weights_any _ ll u (l1.2.2.mono hu) sl.1 sl.2)
  have HH := hid (fun (u : World) (hu : Ext w u) => weights_any _ hl u (h1.2.2.mono hu) sh.1 sh.2)
  have HE7 := hid (fun (u : World) => eighths_any gr bo ne cr cv lv mv oa la ha on oc ln lc hn hc u)
  have HP := hid (fun (u : World) => parts_any u)
  have H6 := hid (fun (u : World) => owners_any gr bo ne cr cv lv mv oa la ha on oc ln lc hn hc u o1.1)
  have H7 := hid (fun (u : World) => lenders_any gr bo ne cr cv lv mv oa la ha on oc ln lc hn hc u l1.1)
  have H8 := hid (fun (u : World) => hands_any gr bo ne cr cv lv mv oa la ha on oc ln lc hn hc u h1.1)
  have HI0 := hid index120_0
  have HI1 := hid index120_1
  have HI2 := hid index120_2
  clear ho hl' hh so sl sh o1 l1 h1
  have hW : Ext w ((w.alloc (.cells #[.int .i64 gr, cv, .int .i64 bo, .int .i64 ne, .int .i64 cr, .slice oa on oc, .slice la ln lc, .slice ha hn hc, lv, mv] 83)).alloc (.cells #[.int .i64 0, .int .i64 0, .int .i64 0] 90)) := ((Ext.refl _).alloc _).alloc _
  have hB := two_new (w := w) (o1 := .cells #[.int .i64 gr, cv, .int .i64 bo, .int .i64 ne, .int .i64 cr, .slice oa on oc, .slice la ln lc, .slice ha hn hc, lv, mv] 83) (o2 := .cells #[.int .i64 0, .int .i64 0, .int .i64 0] 90)
  have hR : ((w.alloc (.cells #[.int .i64 gr, cv, .int .i64 bo, .int .i64 ne, .int .i64 cr, .slice oa on oc, .slice la ln lc, .slice ha hn hc, lv, mv] 83)).alloc (.cells #[.int .i64 0, .int .i64 0, .int .i64 0] 90)).heap[w.heap.size + 1]? = some (.cells #[.int .i64 0, .int .i64 0, .int .i64 0] 90 (0, 0)) := by
    have := Ext.new (w := w.alloc (.cells #[.int .i64 gr, cv, .int .i64 bo, .int .i64 ne, .int .i64 cr, .slice oa on oc, .slice la ln lc, .slice ha hn hc, lv, mv] 83)) (o := .cells #[.int .i64 0, .int .i64 0, .int .i64 0] 90) (Ext.refl _); rwa [World.size_alloc] at this
  gi_enter Tryz.func94, Tryz.ntmps94
  gi_upto_region 1 with fail
  generalize (w.alloc (.cells #[.int .i64 gr, cv, .int .i64 bo, .int .i64 ne, .int .i64 cr, .slice oa on oc, .slice la ln lc, .slice ha hn hc, lv, mv] 83)).alloc (.cells #[.int .i64 0, .int .i64 0, .int .i64 0] 90) = W at *
  have cB := cell_of hB
  have HX := hid hW
  have HB := hid hB
  have HR := hid hR
  clear hW hB hR
  gi_upto_region 2 with (gi_at_call 77; ((with_reducible refine (HE7.out _).mono ?_); rintro e w1 ⟨rfl, hx1⟩))
  have hxa : Ext W (w1.alloc (.cells #[.int .i64 bo, .int .i64 ne, .int .i64 cr] 90)) := hx1.alloc _
  have hg : (w1.alloc (.cells #[.int .i64 bo, .int .i64 ne, .int .i64 cr] 90)).heap[w1.heap.size]? = some (.cells #[.int .i64 bo, .int .i64 ne, .int .i64 cr] 90 (0, 0)) := Ext.new (Ext.refl _)
  have HXn := hid (HX.out.trans hxa)
  have HBn := hid (hxa.block HB.out)
  have HRn := hid (hxa.block HR.out)
  have HGE : Hid (w.heap.size + 1 < w1.heap.size) := hid (Nat.lt_of_lt_of_le (lt_of_block HR.out) hx1.size)
  have HG := hid hg
  clear hxa hg cB HX HB HR hx1
  generalize w1.alloc (.cells #[.int .i64 bo, .int .i64 ne, .int .i64 cr] 90) = W1 at *
  generalize w1.heap.size = g at *
  clear W w1
  gi_wp2_with (gi_at_call 78; ((with_reducible refine (HP.out _).mono ?_); rintro e w2 ⟨rfl, hx2⟩))
  have HJ : Hid (Ext w w2 ∧ w2.heap[w.heap.size]? = some (.cells #[.int .i64 gr, cv, .int .i64 bo, .int .i64 ne, .int .i64 cr, .slice oa on oc, .slice la ln lc, .slice ha hn hc, lv, mv] 83 (0, 0)) ∧ w2.heap[w.heap.size + 1]? = some (.cells #[.int .i64 0, .int .i64 0, .int .i64 0] 90 (0, 0)) ∧ w2.heap[g]? = some (.cells (backC bo ne cr ol ll hl 0) 90 (0, 0))) := hid ⟨HXn.out.trans hx2, hx2.block HBn.out, hx2.block HRn.out, hx2.block HG.out⟩
  clear HXn HBn HRn HG hx2
  gi_loopw [4, 5, 9] (fun u4 u5 i wr => ∃ k : Nat, k ≤ 3 ∧ i = .int .i64 k ∧ Hid (Ext w wr ∧ wr.heap[w.heap.size]? = some (.cells #[.int .i64 gr, cv, .int .i64 bo, .int .i64 ne, .int .i64 cr, .slice oa on oc, .slice la ln lc, .slice ha hn hc, lv, mv] 83 (0, 0)) ∧ wr.heap[w.heap.size + 1]? = some (.cells #[.int .i64 0, .int .i64 0, .int .i64 0] 90 (0, 0)) ∧ wr.heap[g]? = some (.cells (backC bo ne cr ol ll hl k) 90 (0, 0)))) (fun _ _ i _ => 3 - (intOf i).toNat)
  case atStart => exact ⟨0, by omega, rfl, HJ⟩
  case round =>
    obtain ⟨k, hk, rfl, HI⟩ := hrel
    clear HJ
    rcases (by omega : k = 0 ∨ k = 1 ∨ k = 2 ∨ k = 3) with rfl | rfl | rfl | rfl
    · have hix := HI0.out wr
      gi_wp2_with (refine wpIn_store_fresh (fun _ => trivial) 119 (.tmp 5) (.tmp 12) rfl (W := wr) (c' := #[.string ⟨#[98, 111, 97, 116]⟩, fnV 96, fnV 96]) rfl rfl rfl size119 rfl (by simp [Value.oneCell']) ?_; refine Hid.out ?_)
      have hxa : Ext wr (wr.alloc (.cells #[.string ⟨#[98, 111, 97, 116]⟩, fnV 96, fnV 96] 119)) := (Ext.refl _).alloc _
      have hn : (wr.alloc (.cells #[.string ⟨#[98, 111, 97, 116]⟩, fnV 96, fnV 96] 119)).heap[wr.heap.size]? = some (.cells #[.string ⟨#[98, 111, 97, 116]⟩, fnV 96, fnV 96] 119 (0, 0)) := Ext.new (Ext.refl _)
      have HXn := hid (HI.out.1.trans hxa)
      have hBn := hxa.block HI.out.2.1
      have HRn := hid (hxa.block HI.out.2.2.1)
      have HGn := hid (hxa.block HI.out.2.2.2)
      clear HI hxa hix
      refine hid ?_
      generalize wr.alloc (.cells #[.string ⟨#[98, 111, 97, 116]⟩, fnV 96, fnV 96] 119) = W3 at *
      generalize wr.heap.size = nb at *
      have cn := cell_of hn
      have cB := cell_of hBn
      have HBn := hid hBn
      clear hBn hn
      cases hz : (sumW ol == 0) with
      | true =>
        have HZ : Hid (sumW ol = 0) := hid (by simpa using hz)
        gi_wp2_with (first | (gi_at_call 96; ((with_reducible refine (H6.out _).mono ?_); rintro e w4 ⟨rfl, hx4⟩)) | (gi_at_call 48; ((with_reducible refine (HO.out _ (HXn.out.trans hx4)).mono ?_); rintro e w5 ⟨rfl, hx5⟩; have hgg := (hx4.trans hx5).block HGn.out; have cg := cell_of hgg; have fg := free_of hgg; have lg := lt_of_block hgg)))
        go_roundw
        case rel =>
          have h1 := HGE.out
          refine ⟨1, by omega, by go_num, hid ⟨((HXn.out.trans hx4).trans hx5).set (by omega) _ _, ?_, ?_, ?_⟩⟩
          · rw [set_other (by omega)]; exact (hx4.trans hx5).block HBn.out
          · rw [set_other (by omega)]; exact (hx4.trans hx5).block HRn.out
          · rw [set_same hgg]
            have hb : back bo ol = 0 := by unfold back; rw [if_pos HZ.out]
            simp [backC, hb]
        case measure => simp [intOf]
      | false =>
        have HZ : Hid (sumW ol ≠ 0) := hid (by simpa using hz)
        gi_wp2_with (first | (gi_at_call 96; ((with_reducible refine (H6.out _).mono ?_); rintro e w4 ⟨rfl, hx4⟩)) | (gi_at_call 48; ((with_reducible refine (HO.out _ (HXn.out.trans hx4)).mono ?_); rintro e w5 ⟨rfl, hx5⟩)))
        go_roundw
        case rel =>
          refine ⟨1, by omega, by go_num, hid ⟨(HXn.out.trans hx4).trans hx5, (hx4.trans hx5).block HBn.out, (hx4.trans hx5).block HRn.out, ?_⟩⟩
          rw [(hx4.trans hx5).block HGn.out]
          have hb : back bo ol = bo := by unfold back; rw [if_neg HZ.out]
          simp [backC, hb]
        case measure => simp [intOf]
    · have hix := HI1.out wr
      gi_wp2_with (refine wpIn_store_fresh (fun _ => trivial) 119 (.tmp 5) (.tmp 12) rfl (W := wr) (c' := #[.string ⟨#[110, 101, 116, 115]⟩, fnV 97, fnV 55]) rfl rfl rfl size119 rfl (by simp [Value.oneCell']) ?_; refine Hid.out ?_)
      have hxa : Ext wr (wr.alloc (.cells #[.string ⟨#[110, 101, 116, 115]⟩, fnV 97, fnV 55] 119)) := (Ext.refl _).alloc _
      have hn : (wr.alloc (.cells #[.string ⟨#[110, 101, 116, 115]⟩, fnV 97, fnV 55] 119)).heap[wr.heap.size]? = some (.cells #[.string ⟨#[110, 101, 116, 115]⟩, fnV 97, fnV 55] 119 (0, 0)) := Ext.new (Ext.refl _)
      have HXn := hid (HI.out.1.trans hxa)
      have hBn := hxa.block HI.out.2.1
      have HRn := hid (hxa.block HI.out.2.2.1)
      have HGn := hid (hxa.block HI.out.2.2.2)
      clear HI hxa hix
      refine hid ?_
      generalize wr.alloc (.cells #[.string ⟨#[110, 101, 116, 115]⟩, fnV 97, fnV 55] 119) = W3 at *
      generalize wr.heap.size = nb at *
      have cn := cell_of hn
      have cB := cell_of hBn
      have HBn := hid hBn
      clear hBn hn
      cases hz : (sumW ll == 0) with
      | true =>
        have HZ : Hid (sumW ll = 0) := hid (by simpa using hz)
        gi_wp2_with (first | (gi_at_call 97; ((with_reducible refine (H7.out _).mono ?_); rintro e w4 ⟨rfl, hx4⟩)) | (gi_at_call 48; ((with_reducible refine (HL.out _ (HXn.out.trans hx4)).mono ?_); rintro e w5 ⟨rfl, hx5⟩; have hgg := (hx4.trans hx5).block HGn.out; have cg := cell_of hgg; have fg := free_of hgg; have lg := lt_of_block hgg)))
        go_roundw
        case rel =>
          have h1 := HGE.out
          refine ⟨2, by omega, by go_num, hid ⟨((HXn.out.trans hx4).trans hx5).set (by omega) _ _, ?_, ?_, ?_⟩⟩
          · rw [set_other (by omega)]; exact (hx4.trans hx5).block HBn.out
          · rw [set_other (by omega)]; exact (hx4.trans hx5).block HRn.out
          · rw [set_same hgg]
            have hb : back ne ll = 0 := by unfold back; rw [if_pos HZ.out]
            simp [backC, hb]
        case measure => simp [intOf]
      | false =>
        have HZ : Hid (sumW ll ≠ 0) := hid (by simpa using hz)
        gi_wp2_with (first | (gi_at_call 97; ((with_reducible refine (H7.out _).mono ?_); rintro e w4 ⟨rfl, hx4⟩)) | (gi_at_call 48; ((with_reducible refine (HL.out _ (HXn.out.trans hx4)).mono ?_); rintro e w5 ⟨rfl, hx5⟩)))
        go_roundw
        case rel =>
          refine ⟨2, by omega, by go_num, hid ⟨(HXn.out.trans hx4).trans hx5, (hx4.trans hx5).block HBn.out, (hx4.trans hx5).block HRn.out, ?_⟩⟩
          rw [(hx4.trans hx5).block HGn.out]
          have hb : back ne ll = ne := by unfold back; rw [if_neg HZ.out]
          simp [backC, hb]
        case measure => simp [intOf]
    · have hix := HI2.out wr
      gi_wp2_with (refine wpIn_store_fresh (fun _ => trivial) 119 (.tmp 5) (.tmp 12) rfl (W := wr) (c' := #[.string ⟨#[99, 114, 101, 119]⟩, fnV 98, fnV 98]) rfl rfl rfl size119 rfl (by simp [Value.oneCell']) ?_; refine Hid.out ?_)
      have hxa : Ext wr (wr.alloc (.cells #[.string ⟨#[99, 114, 101, 119]⟩, fnV 98, fnV 98] 119)) := (Ext.refl _).alloc _
      have hn : (wr.alloc (.cells #[.string ⟨#[99, 114, 101, 119]⟩, fnV 98, fnV 98] 119)).heap[wr.heap.size]? = some (.cells #[.string ⟨#[99, 114, 101, 119]⟩, fnV 98, fnV 98] 119 (0, 0)) := Ext.new (Ext.refl _)
      have HXn := hid (HI.out.1.trans hxa)
      have hBn := hxa.block HI.out.2.1
      have HRn := hid (hxa.block HI.out.2.2.1)
      have HGn := hid (hxa.block HI.out.2.2.2)
      clear HI hxa hix
      refine hid ?_
      generalize wr.alloc (.cells #[.string ⟨#[99, 114, 101, 119]⟩, fnV 98, fnV 98] 119) = W3 at *
      generalize wr.heap.size = nb at *
      have cn := cell_of hn
      have cB := cell_of hBn
      have HBn := hid hBn
      clear hBn hn
      cases hz : (sumW hl == 0) with
      | true =>
        have HZ : Hid (sumW hl = 0) := hid (by simpa using hz)
        gi_wp2_with (first | (gi_at_call 98; ((with_reducible refine (H8.out _).mono ?_); rintro e w4 ⟨rfl, hx4⟩)) | (gi_at_call 48; ((with_reducible refine (HH.out _ (HXn.out.trans hx4)).mono ?_); rintro e w5 ⟨rfl, hx5⟩; have hgg := (hx4.trans hx5).block HGn.out; have cg := cell_of hgg; have fg := free_of hgg; have lg := lt_of_block hgg)))
        go_roundw
        case rel =>
          have h1 := HGE.out
          refine ⟨3, by omega, by go_num, hid ⟨((HXn.out.trans hx4).trans hx5).set (by omega) _ _, ?_, ?_, ?_⟩⟩
          · rw [set_other (by omega)]; exact (hx4.trans hx5).block HBn.out
          · rw [set_other (by omega)]; exact (hx4.trans hx5).block HRn.out
          · rw [set_same hgg]
            have hb : back cr hl = 0 := by unfold back; rw [if_pos HZ.out]
            simp [backC, hb]
        case measure => simp [intOf]
      | false =>
        have HZ : Hid (sumW hl ≠ 0) := hid (by simpa using hz)
        gi_wp2_with (first | (gi_at_call 98; ((with_reducible refine (H8.out _).mono ?_); rintro e w4 ⟨rfl, hx4⟩)) | (gi_at_call 48; ((with_reducible refine (HH.out _ (HXn.out.trans hx4)).mono ?_); rintro e w5 ⟨rfl, hx5⟩)))
        go_roundw
        case rel =>
          refine ⟨3, by omega, by go_num, hid ⟨(HXn.out.trans hx4).trans hx5, (hx4.trans hx5).block HBn.out, (hx4.trans hx5).block HRn.out, ?_⟩⟩
          rw [(hx4.trans hx5).block HGn.out]
          have hb : back cr hl = cr := by unfold back; rw [if_neg HZ.out]
          simp [backC, hb]
        case measure => simp [intOf]
    · have cg := cell_of HI.out.2.2.2
      have hb : backC bo ne cr ol ll hl 3 = #[.int .i64 (back bo ol), .int .i64 (back ne ll), .int .i64 (back cr hl)] := by simp [backC]
      rw [hb] at cg
      have fr := free_of HI.out.2.2.1
      have cr' := cell_of HI.out.2.2.1
      have HRR := hid HI.out.2.2.1
      have HX := hid HI.out.1
      clear HI hb
      obtain ⟨x, hx⟩ : ∃ x, back bo ol = x := ⟨_, rfl⟩
      rw [hx] at cg
      have HA := hid hx
      clear hx
      obtain ⟨y, hy⟩ : ∃ y, back ne ll = y := ⟨_, rfl⟩
      rw [hy] at cg
      have HBB := hid hy
      clear hy
      obtain ⟨z, hz⟩ : ∃ z, back cr hl = z := ⟨_, rfl⟩
      rw [hz] at cg
      have HCC := hid hz
      clear hz
      gi_wp2_with fail
      have hX2 : Ext w (((wr.setCell ⟨w.heap.size + 1, 0, none⟩ (.int .i64 x)).setCell ⟨w.heap.size + 1, 1, none⟩ (.int .i64 y)).setCell ⟨w.heap.size + 1, 2, none⟩ (.int .i64 z)) := ((HX.out.set (by omega) _ _).set (by omega) _ _).set (by omega) _ _
      have hs := set_same (set_same (set_same HRR.out 0 (.int .i64 x)) 1 (.int .i64 y)) 2 (.int .i64 z)
      clear fr cr' cg
      generalize ((wr.setCell ⟨w.heap.size + 1, 0, none⟩ (.int .i64 x)).setCell ⟨w.heap.size + 1, 1, none⟩ (.int .i64 y)).setCell ⟨w.heap.size + 1, 2, none⟩ (.int .i64 z) = W at *
      have hc := cell_of hs
      exact bodyPost_ret (v := .agg #[.int .i64 x, .int .i64 y, .int .i64 z]) (by simp [results, Tryz.results94, go_sem, hc]) rfl ⟨by rw [HA.out, HBB.out, HCC.out], hX2⟩
end
section
open Go Go.RowKit Go.Shelf Go.MapKept

abbrev GMap := List (Value × Value)
/-- A map in memory, as the list of its entries. -/
def GMapAt (d : TypeDesc) (w : World) (bm : Nat) (m : GMap) : Prop :=
  ∃ es clock, w.heap[bm]? = some (.map es clock) ∧ es.toList.map (fun e => (e.key, e.val)) = m ∧ Stamped es clock ∧ ∀ x ∈ es.toList, IsKey d x.key
section
variable {d : TypeDesc} {w : World} {bm : Nat} {m : GMap} {k v : Value}
theorem GMapAt.keys (h : GMapAt d w bm m) : (m.map (·.1)).Nodup := by
  obtain ⟨es, clock, hb, rfl, hs, hk⟩ := h
  have := hs.2.2
  rw [List.map_map]; exact this
theorem GMapAt.key (h : GMapAt d w bm m) : ∀ p ∈ m, IsKey d p.1 := by
  obtain ⟨es, clock, hb, rfl, hs, hk⟩ := h
  intro p hp
  obtain ⟨x, hx, rfl⟩ := List.mem_map.1 hp
  exact hk x hx
theorem GMapAt.lt (h : GMapAt d w bm m) : bm < w.heap.size := by
  obtain ⟨es, clock, hb, _⟩ := h; exact lt_of_block hb
theorem GMapAt.kept {w' : World} (h : GMapAt d w bm m) (hk : ∀ o, w.heap[bm]? = some o → w'.heap[bm]? = some o) : GMapAt d w' bm m := by
  obtain ⟨es, clock, hb, h⟩ := h; exact ⟨es, clock, hk _ hb, h⟩
theorem GMapAt.mono {w' : World} (h : GMapAt d w bm m) (hx : Ext w w') : GMapAt d w' bm m := h.kept fun _ ho => hx.block ho
theorem GMapAt.made (d : TypeDesc) (w : World) : GMapAt d (w.alloc (.map #[] 0)) w.heap.size [] := ⟨#[], 0, Ext.new (Ext.refl _), rfl, stamped_empty 0, by simp⟩
theorem GMapAt.notCells (h : GMapAt d w bm m) {cs : Array Value} {t : TypeId} {f : Nat × Nat} {g : Nat} (hg : w.heap[g]? = some (.cells cs t f)) : g ≠ bm := by
  rintro rfl
  obtain ⟨es, clock, hb, _⟩ := h
  rw [hg] at hb; cases hb
theorem gobj {es : Array MapEntry} {clock : Nat} (hb : w.heap[bm]? = some (.map es clock)) : (getObj bm).run Tryz.prog w = .ok (.map es clock) w := by simp [getObj, Sem.run, hb]
theorem gchk {kt : TypeId} (hd : Tryz.prog.underlying kt = some d) (hk : IsKey d k) (e : Bool) : (Instr.checkKey e 10000 kt k).run Tryz.prog w = .ok () w := MapKept.run_checkKey hd hk e 9999
theorem gfind {es : List MapEntry} {kt : TypeId} (hd : Tryz.prog.underlying kt = some d) (hk : IsKey d k) (hks : ∀ x ∈ es, IsKey d x.key) :
    ((Instr.findKey kt k es).run Tryz.prog w = .ok none w ∧ ∀ x ∈ es, x.key ≠ k) ∨ ∃ j e, (Instr.findKey kt k es).run Tryz.prog w = .ok (some (j, e.val)) w ∧ es[j]? = some e ∧ e.key = k := by
  rcases findNow_spec hk es 0 hks with ⟨h1, h2⟩ | ⟨j, e, h1, h2, h3⟩
  · exact .inl ⟨run_findKey hd h1, h2⟩
  · exact .inr ⟨j, e, by simpa using run_findKey hd h1, h2, h3⟩
theorem pair_eq {es : Array MapEntry} {clock : Nat} (hs : Stamped es clock) {e : MapEntry} (he : e ∈ es.toList) {v : Value} (hm : (e.key, v) ∈ es.toList.map (fun e => (e.key, e.val))) : v = e.val := by
  obtain ⟨x, hx, hxe⟩ := List.mem_map.1 hm
  have h1 : x.key = e.key := congrArg Prod.fst hxe
  have h2 : x.val = v := congrArg Prod.snd hxe
  have hnd := hs.2.2
  obtain ⟨i, hi, rfl⟩ := List.getElem_of_mem hx
  obtain ⟨j, hj, rfl⟩ := List.getElem_of_mem he
  by_cases hij : i = j
  · subst hij; exact h2.symm
  · exfalso
    unfold List.Nodup at hnd
    rw [List.pairwise_iff_getElem] at hnd
    rcases Nat.lt_or_gt_of_ne hij with hlt | hlt
    · exact hnd i j (by simpa using hi) (by simpa using hj) hlt (by simpa using h1)
    · exact hnd j i (by simpa using hj) (by simpa using hi) hlt (by simpa using h1.symm)
theorem glookup_some (h : GMapAt d w bm m) (hk : IsKey d k) (hm : (k, v) ∈ m) {t kt e : TypeId} (ok : Bool) (ht : Tryz.prog.underlying t = some (.map kt e)) (hd : Tryz.prog.underlying kt = some d) :
    (Instr.lookup t (.map (some bm)) k ok).run Tryz.prog w = .ok (if ok then .tuple #[v, .bool true] else v) w := by
  obtain ⟨es, clock, hb, rfl, hs, hks⟩ := h
  rcases gfind (w := w) hd hk hks with ⟨_, h2⟩ | ⟨j, x, h1, h2, h3⟩
  · exfalso
    obtain ⟨x, hx, hxe⟩ := List.mem_map.1 hm
    exact h2 x hx (congrArg Prod.fst hxe)
  · have hx : x ∈ es.toList := List.mem_of_getElem? h2
    subst h3
    have hv := pair_eq hs hx hm
    subst hv
    unfold Instr.lookup
    simp only [Sem.run_bind, run_underlying ht, Result.andThen_ok, Sem.run_pure, gobj hb, gchk hd hk, h1]
theorem glookup_none (h : GMapAt d w bm m) (hk : IsKey d k) (hno : ∀ p ∈ m, p.1 ≠ k) {t kt e : TypeId} (ok : Bool) (ht : Tryz.prog.underlying t = some (.map kt e)) (hd : Tryz.prog.underlying kt = some d) {z : Value} (hz : (zeroValue e).run Tryz.prog w = .ok z w) :
    (Instr.lookup t (.map (some bm)) k ok).run Tryz.prog w = .ok (if ok then .tuple #[z, .bool false] else z) w := by
  obtain ⟨es, clock, hb, rfl, hs, hks⟩ := h
  rcases gfind (w := w) hd hk hks with ⟨h1, _⟩ | ⟨j, x, h1, h2, h3⟩
  · unfold Instr.lookup
    simp only [Sem.run_bind, run_underlying ht, Result.andThen_ok, Sem.run_pure, gobj hb, gchk hd hk, h1, hz]
  · exfalso
    exact hno _ (List.mem_map.2 ⟨x, List.mem_of_getElem? h2, rfl⟩) h3
theorem gupdate_new (h : GMapAt d w bm m) (hk : IsKey d k) (hno : ∀ p ∈ m, p.1 ≠ k) (v : Value) {t kt e : TypeId} (ht : Tryz.prog.underlying t = some (.map kt e)) (hd : Tryz.prog.underlying kt = some d) :
    ∃ o, (Instr.mapUpdate t (.map (some bm)) k v).run Tryz.prog w = .ok () (w.putObj bm o) ∧ GMapAt d (w.putObj bm o) bm (m ++ [(k, v)]) := by
  obtain ⟨es, clock, hb, rfl, hs, hks⟩ := h
  rcases gfind (w := w) hd hk hks with ⟨h1, h2⟩ | ⟨j, x, h1, h2, h3⟩
  · refine ⟨.map (es.push { key := k, val := v, born := clock }) (clock + 1), ?_, _, _, World.putObj_heap_same (lt_of_block hb), by simp, stamped_push hs h2, ?_⟩
    · unfold Instr.mapUpdate
      simp only [Sem.run_bind, run_underlying ht, Result.andThen_ok, Sem.run_pure, gobj hb, gchk hd hk, h1]
      simp [setObj, Sem.run, hb, World.putObj]
    · intro x hx
      simp only [Array.toList_push, List.mem_append, List.mem_singleton] at hx
      rcases hx with hx | rfl
      · exact hks x hx
      · exact hk
  · exfalso
    exact hno _ (List.mem_map.2 ⟨x, List.mem_of_getElem? h2, rfl⟩) h3
theorem gupdate_old {v0 : Value} {a b : GMap} (h : GMapAt d w bm (a ++ (k, v0) :: b)) (hk : IsKey d k) (v : Value) {t kt e : TypeId} (ht : Tryz.prog.underlying t = some (.map kt e)) (hd : Tryz.prog.underlying kt = some d) :
    ∃ o, (Instr.mapUpdate t (.map (some bm)) k v).run Tryz.prog w = .ok () (w.putObj bm o) ∧ GMapAt d (w.putObj bm o) bm (a ++ (k, v) :: b) := by
  have hkeys := h.keys
  obtain ⟨es, clock, hb, hm, hs, hks⟩ := h
  rcases gfind (w := w) hd hk hks with ⟨_, h2⟩ | ⟨j, x, h1, h2, h3⟩
  · exfalso
    have : (k, v0) ∈ es.toList.map (fun e => (e.key, e.val)) := by rw [hm]; simp
    obtain ⟨x, hx, hxe⟩ := List.mem_map.1 this
    exact h2 x hx (congrArg Prod.fst hxe)
  · have hj : es[j]? = some x := by simpa using h2
    have hlt : j < es.size := (Array.getElem?_eq_some_iff.1 hj).1
    have hja : j = a.length := by
      have e1 : (es.toList.map (fun e => (e.key, e.val)))[j]? = some (k, x.val) := by rw [List.getElem?_map, h2]; simp [h3]
      rw [hm] at e1
      have hl2 : j < (a ++ (k, v0) :: b).length := (List.getElem?_eq_some_iff.1 e1).1
      unfold List.Nodup at hkeys
      rw [List.pairwise_iff_getElem] at hkeys
      have e2 : ((a ++ (k, v0) :: b).map (·.1))[j]'(by simpa using hl2) = k := by
        rw [List.getElem_map]
        have := (List.getElem?_eq_some_iff.1 e1).2
        rw [this]
      have e3 : ((a ++ (k, v0) :: b).map (·.1))[a.length]'(by simp) = k := by simp
      rcases Nat.lt_trichotomy j a.length with h | h | h
      · exact absurd (e2.trans e3.symm) (hkeys j a.length _ _ h)
      · exact h
      · exact absurd (e3.trans e2.symm) (hkeys a.length j _ _ h)
    have hkey : ∀ e', es[j]? = some e' → ({ e' with key := k, val := v } : MapEntry).key = e'.key := fun e' he' => by rw [hj] at he'; cases he'; exact h3.symm
    refine ⟨.map (es.modify j fun e => { e with key := k, val := v }) clock, ?_, _, _, World.putObj_heap_same (lt_of_block hb), ?_, stamped_modify hs _ _ (fun _ _ => rfl) (fun e' _ he' => hkey e' he'), isKey_modify hks _ _ hkey⟩
    · unfold Instr.mapUpdate
      simp only [Sem.run_bind, run_underlying ht, Result.andThen_ok, Sem.run_pure, gobj hb, gchk hd hk, h1]
      simp [setObj, Sem.run, hb, World.putObj, hj, h3, run_keyThatStays hk, Result.andThen]
    · apply List.ext_getElem?
      intro i
      have hi := congrArg (fun l => l[i]?) hm
      simp only [List.getElem?_map, Array.getElem?_toList] at hi ⊢
      rw [Array.getElem?_modify]
      by_cases hij : j = i
      · subst hij
        rw [if_pos rfl, hj, hja]
        simp
      · rw [if_neg hij, hi]
        rcases Nat.lt_or_ge i a.length with h | h
        · rw [List.getElem?_append_left h, List.getElem?_append_left h]
        · rw [List.getElem?_append_right h, List.getElem?_append_right h]
          obtain ⟨n, hn⟩ : ∃ n, i - a.length = n + 1 := ⟨i - a.length - 1, by omega⟩
          rw [hn, List.getElem?_cons_succ, List.getElem?_cons_succ]
end
/-- An iterator over a map: what is still to come. -/
def IterAt (d : TypeDesc) (w : World) (bm it : Nat) (m left : GMap) : Prop :=
  ∃ es clock seen c0, w.heap[bm]? = some (.map es clock) ∧ es.toList.map (fun e => (e.key, e.val)) = m ∧ Stamped es clock ∧ (∀ x ∈ es.toList, IsKey d x.key) ∧ w.heap[it]? = some (.mapIter (some bm) clock seen c0) ∧ clock ≤ c0 ∧ it ≠ bm ∧
    left = (leftOf es seen).toList.map (fun e => (e.key, e.val))
section
variable {d : TypeDesc} {w : World} {bm it : Nat} {m left : GMap}
theorem IterAt.map (h : IterAt d w bm it m left) : GMapAt d w bm m := by
  obtain ⟨es, clock, seen, c0, hb, hm, hs, hk, _⟩ := h; exact ⟨es, clock, hb, hm, hs, hk⟩
theorem IterAt.kept {w' : World} (h : IterAt d w bm it m left) (h1 : ∀ o, w.heap[bm]? = some o → w'.heap[bm]? = some o) (h2 : ∀ o, w.heap[it]? = some o → w'.heap[it]? = some o) : IterAt d w' bm it m left := by
  obtain ⟨es, clock, seen, c0, hb, hm, hs, hk, hi, h⟩ := h; exact ⟨es, clock, seen, c0, h1 _ hb, hm, hs, hk, h2 _ hi, h⟩
theorem IterAt.mono {w' : World} (h : IterAt d w bm it m left) (hx : Ext w w') : IterAt d w' bm it m left := h.kept (fun _ ho => hx.block ho) fun _ ho => hx.block ho
theorem iter_made (h : GMapAt d w bm m) {t kt e : TypeId} (ht : Tryz.prog.underlying t = some (.map kt e)) :
    ∃ w', (Instr.range t (.map (some bm))).run Tryz.prog w = .ok (.pointer (some ⟨w.heap.size, 0, none⟩)) w' ∧ Ext w w' ∧ IterAt d w' bm w.heap.size m m := by
  obtain ⟨es, clock, hb, hm, hs, hk⟩ := h
  refine ⟨_, run_range_map w t kt e bm es clock ht hb, (Ext.refl w).alloc _, es, clock, #[], clock, ((Ext.refl w).alloc _).block hb, hm, hs, hk, Ext.new (Ext.refl _), Nat.le_refl _, fun e => by have := lt_of_block hb; omega, ?_⟩
  unfold leftOf
  rw [Array.filter_eq_self.2 (by simp), hm]
/-- The next entry: there is none, or one, whichever. -/
theorem iter_next (h : IterAt d w bm it m left) (ty : TypeId) :
    (left = [] ∧ (Instr.next (.pointer (some ⟨it, 0, none⟩)) false ty).run Tryz.prog w = .ok (.tuple #[.bool false]) w) ∨
    ∃ k v w' o a b, left = a ++ (k, v) :: b ∧ (k, v) ∈ m ∧ (Instr.next (.pointer (some ⟨it, 0, none⟩)) false ty).run Tryz.prog w = .ok (.tuple #[.bool true, k, v]) w' ∧
      (∃ w1 : World, (w1 = w ∨ w1 = w.drew) ∧ w' = w1.putObj it o) ∧ IterAt d w' bm it m (a ++ b) ∧ (∀ W, Ext w' W → (Instr.entry (.pointer (some ⟨it, 0, none⟩))).run Tryz.prog W = .ok (.tuple #[k, v]) W) := by
  obtain ⟨es, clock, seen, c0, hb, hm, hs, hk, hi, hc, hne, hl⟩ := h
  rcases run_next_at (P := Tryz.prog) w ty it bm clock c0 seen es clock hi hb hs.1 hc with ⟨h1, h2⟩ | ⟨e, he, w1, hw1, hrun⟩
  · left
    refine ⟨?_, h2⟩
    rw [hl, Array.eq_empty_of_size_eq_zero h1]; rfl
  · right
    have hme := (mem_left he).1
    obtain ⟨a, b, hab⟩ := List.append_of_mem he
    have hw : w1.heap = w.heap := by rcases hw1 with rfl | rfl <;> rfl
    have hi1 : w1.heap[it]? = some (.mapIter (some bm) clock seen c0) := by rw [hw]; exact hi
    have hb' : (w1.putObj it (.mapIter (some bm) clock (seen.push e.born) clock)).heap[bm]? = some (.map es clock) := by rw [World.putObj_heap_other (Ne.symm hne), hw]; exact hb
    have hi' : (w1.putObj it (.mapIter (some bm) clock (seen.push e.born) clock)).heap[it]? = some (.mapIter (some bm) clock (seen.push e.born) clock) := World.putObj_heap_same (lt_of_block hi1)
    refine ⟨e.key, e.val, w1.putObj it (.mapIter (some bm) clock (seen.push e.born) clock), _, a.map (fun e => (e.key, e.val)), b.map (fun e => (e.key, e.val)), ?_, ?_, ?_, ⟨w1, hw1, rfl⟩, ⟨es, clock, seen.push e.born, clock, hb', hm, hs, hk, hi', Nat.le_refl _, hne, ?_⟩, fun W hW => ?_⟩
    · rw [hl, hab]; simp
    · rw [← hm]; exact List.mem_map.2 ⟨e, hme, rfl⟩
    · rw [hrun]; rfl
    · rw [← List.map_append]
      congr 1
      have hnd : ((leftOf es seen).toList.map (·.born)).Nodup := by
        unfold leftOf
        rw [Array.toList_filter]
        exact hs.2.1.sublist (List.filter_sublist.map _)
      have hf : (leftOf es (seen.push e.born)).toList = (leftOf es seen).toList.filter (fun x => !(x.born == e.born)) := by
        unfold leftOf
        rw [Array.toList_filter, Array.toList_filter, List.filter_filter]
        apply List.filter_congr
        intro x hx
        rw [contains_push]
        cases seen.contains x.born <;> cases x.born == e.born <;> rfl
      rw [hf, hab]
      rw [hab, List.map_append, List.map_cons, List.nodup_append] at hnd
      obtain ⟨h1, h2, h3⟩ := hnd
      rw [List.nodup_cons] at h2
      rw [List.filter_append, List.filter_cons]
      have ha : a.filter (fun x => !(x.born == e.born)) = a := by
        rw [List.filter_eq_self]
        intro x hx
        have := h3 x.born (List.mem_map.2 ⟨x, hx, rfl⟩) e.born (by simp)
        simp [this]
      have hb2 : b.filter (fun x => !(x.born == e.born)) = b := by
        rw [List.filter_eq_self]
        intro x hx
        have : x.born ≠ e.born := fun hh => h2.1 (by rw [← hh]; exact List.mem_map.2 ⟨x, hx, rfl⟩)
        simp [this]
      rw [ha, hb2]
      simp
    · exact run_entry_at W it bm clock seen es clock e (hW.block hi') (hW.block hb') hme hs.2.1
end
end
end Go.Proofs.YtjocoadhalimjaaGreat
