/- The claims of a voyage. -/
import Derived.Test.YtjocoadhalimjaaGreatRAS
import Derived.Test.YtjocoadhalimjaaGreatRAO
import Derived.Test.YtjocoadhalimjaaGreatInv
set_option linter.unusedSimpArgs false
set_option linter.unusedVariables false
namespace Go.Proofs.YtjocoadhalimjaaGreat
section
open Go Go.RowKit Go.Shelf

theorem own_next {w0 W w' : World} {v v' : Value} (hx : Ext w0 W) (hown : ∀ g, v.ownBlock = some g → w0.heap.size ≤ g) (hgr : W.grownBy w' v.ownBlock) (how : v'.ownBlock = v.ownBlock ∨ v'.ownBlock = some W.heap.size) :
    Ext w0 w' ∧ ∀ g, v'.ownBlock = some g → w0.heap.size ≤ g := by
  refine ⟨ext_grown hx hgr hown, fun g hg => ?_⟩
  rcases how with e | e
  · exact hown g (by rw [← e]; exact hg)
  · rw [hg] at e; cases e; exact hx.size
theorem info49 : (Tryz.prog.info? 49).map (fun i => (i.zero, i.size, i.bytes)) = some (some (.agg #[.string ByteArray.empty, .int .i64 0]), 2, 24) := by kernel_rfl
def stkC (s : Stk) : List Value := [.string s.name, .int .i64 s.weight]
def stkF (l : List Stk) : List Value := l.flatMap stkC
theorem stkF_len : ∀ l : List Stk, (stkF l).length = l.length * 2
  | [] => rfl
  | a :: l => by
    have := stkF_len l
    unfold stkF at this ⊢
    rw [List.flatMap_cons, List.length_append, this, List.length_cons]
    simp [stkC]; omega
theorem stkF_get : ∀ (l : List Stk) (i : Nat) (h : i < l.length), (stkF l)[i * 2]? = some (.string l[i].name) ∧ (stkF l)[i * 2 + 1]? = some (.int .i64 l[i].weight)
  | a :: l, 0, _ => by unfold stkF; rw [List.flatMap_cons]; exact ⟨rfl, rfl⟩
  | a :: l, i + 1, h => by
    have := stkF_get l i (by simpa using h)
    unfold stkF at this ⊢
    rw [List.flatMap_cons, show (i + 1) * 2 = i * 2 + 1 + 1 by omega]
    exact this
theorem StakesAt.of_row {w : World} {v : Value} {l : List Stk} (h : Row w 49 2 v l.length (stkF l)) (hl : l.length ≤ 1000) : StakesAt w v l := by
  obtain ⟨_, h⟩ := h
  rcases h with ⟨rfl, h0⟩ | ⟨g, cap, cur, rfl, hg, h1, h2, h3, h4⟩
  · exact ⟨none, 0, by rw [h0], ⟨by omega, by omega⟩, fun i hi => by omega⟩
  · refine ⟨_, cap, rfl, ⟨h1, by omega⟩, fun i hi => ⟨g, 0, rfl, lt_of_block hg, ?_⟩⟩
    have k := stkF_get l i hi
    rw [← k.1, ← k.2, cell_of hg, cell_of hg, Nat.zero_add, ← h4, List.getElem?_take, List.getElem?_take, if_pos (by omega), if_pos (by omega), Array.getElem?_toList, Array.getElem?_toList]
    exact ⟨rfl, rfl⟩
/-- The claims, as stakes. -/
def clm (l : List Stk) (S : LSt) (n : Nat) : List Stk := (List.range n).map fun i => ⟨(l.getD i noStk).name, (S i).2⟩
theorem clm_succ (l : List Stk) (S : LSt) (n : Nat) : stkF (clm l S (n + 1)) = stkF (clm l S n) ++ stkC ⟨(l.getD n noStk).name, (S n).2⟩ := by
  unfold clm stkF
  rw [List.range_succ, List.map_append, List.flatMap_append]; simp
theorem clm_len (l : List Stk) (S : LSt) (n : Nat) : (clm l S n).length = n := by simp [clm]
theorem field115_1 (x y : Int) (w : World) : (Instr.field 115 (.agg #[.int .i64 x, .int .i64 y]) 1).run Tryz.prog w = .ok (.int .i64 y) w := by
  simp [Instr.field, go_sem, asAgg]
set_option maxRecDepth 100000 in
set_option maxHeartbeats 16000000 in
theorem claims_any (gr bo ne cr : Int) (cv ov hv lv : Value) (la : Option Addr) (lc bm : Nat) (ll : List Stk) (S : LSt) (w : World)
    (hl : StakesAt w (.slice la ll.length lc) ll) (hm : GMapAt .string w bm (entM ll S ll.length)) (hn : ll.length ≤ 1000) :
    Cal 55 #[.agg #[.int .i64 gr, cv, .int .i64 bo, .int .i64 ne, .int .i64 cr, ov, .slice la ll.length lc, hv, lv, .map (some bm)]] w fun e w' => ∃ r, e = .returned r ∧ Ext w w' ∧ Hid (Row w' 49 2 r ll.length (stkF (clm ll S ll.length))) := by
  obtain ⟨a1, c1, e1, hlb, hlc⟩ := hl
  cases e1
  have HLC := hid hlc
  have HM := hid hm
  have hX0 : Ext w (w.alloc (.cells #[.int .i64 gr, cv, .int .i64 bo, .int .i64 ne, .int .i64 cr, ov, .slice la ll.length lc, hv, lv, .map (some bm)] 83)) := (Ext.refl _).alloc _
  have hB0 := Ext.new (w := w) (o := .cells #[.int .i64 gr, cv, .int .i64 bo, .int .i64 ne, .int .i64 cr, ov, .slice la ll.length lc, hv, lv, .map (some bm)] 83) (Ext.refl _)
  clear hlc hm
  gi_enter Tryz.func55, Tryz.ntmps55
  gi_upto_region 2 with fail
  have HX0 := hid hX0
  have HB0 := hid hB0
  generalize w.alloc (.cells #[.int .i64 gr, cv, .int .i64 bo, .int .i64 ne, .int .i64 cr, ov, .slice la ll.length lc, hv, lv, .map (some bm)] 83) = W0 at *
  have cb := cell_of hB0
  clear hX0 hB0
  gi_wp2_with fail
  clear cb
  have HJ : Hid (Ext w W0 ∧ W0.heap[w.heap.size]? = some (.cells #[.int .i64 gr, cv, .int .i64 bo, .int .i64 ne, .int .i64 cr, ov, .slice la ll.length lc, hv, lv, .map (some bm)] 83 (0, 0)) ∧ Row W0 49 2 (.slice none 0 0) 0 (stkF (clm ll S 0)) ∧ ∀ g, (Value.slice none 0 0).ownBlock = some g → w.heap.size + 1 ≤ g) := hid ⟨HX0.out, HB0.out, Row.nil _ _ _, fun g hg => by simp [Value.ownBlock] at hg⟩
  clear HX0 HB0
  gi_loopw [3, 5, 10] (fun r u5 i wr => ∃ k : Nat, k ≤ ll.length ∧ i = .int .i64 k ∧ Hid (Ext w wr ∧ wr.heap[w.heap.size]? = some (.cells #[.int .i64 gr, cv, .int .i64 bo, .int .i64 ne, .int .i64 cr, ov, .slice la ll.length lc, hv, lv, .map (some bm)] 83 (0, 0)) ∧ Row wr 49 2 r k (stkF (clm ll S k)) ∧ ∀ g, r.ownBlock = some g → w.heap.size + 1 ≤ g)) (fun _ _ i _ => ll.length - (intOf i).toNat)
  case atStart => exact ⟨0, Nat.zero_le _, rfl, HJ⟩
  case round =>
    obtain ⟨k, hk, rfl, HI⟩ := hrel
    clear HJ
    by_cases hlt : k < ll.length
    · have hki : (k : Int) < (ll.length : Int) := by omega
      obtain ⟨b, off, rfl, hbb, c0, c1⟩ := HLC.out k hlt
      rw [← HI.out.1.cell (p := ⟨b, _, none⟩) hbb] at c0 c1
      have HS := hid (clm_succ ll S k)
      have HMB : Hid ((Value.string ll[k].name, lenV (S k)) ∈ entM ll S ll.length) := hid (List.mem_map.2 ⟨k, List.mem_range.2 hlt, by rw [getD_of hlt]⟩)
      rw [getD_of hlt] at HS
      generalize ll[k] = s at *
      have hx1 : Ext wr (wr.alloc (.cells #[.string s.name, .int .i64 s.weight] 49)) := (Ext.refl _).alloc _
      have hnb : (wr.alloc (.cells #[.string s.name, .int .i64 s.weight] 49)).heap[wr.heap.size]? = some (.cells #[.string s.name, .int .i64 s.weight] 49 (0, 0)) := Ext.new (Ext.refl _)
      gi_upto_region 5 with fail
      clear c0 c1
      have HX := hid (HI.out.1.trans hx1)
      have HBX := hid (hx1.block HI.out.2.1)
      have HROW := hid (HI.out.2.2.1.mono hx1)
      have HOWN := hid HI.out.2.2.2
      clear HI hx1
      generalize wr.alloc (.cells #[.string s.name, .int .i64 s.weight] 49) = W2 at *
      generalize wr.heap.size = nb at *
      have cs := cell_of hnb
      have cB := cell_of HBX.out
      have hlk := glookup_some (HM.out.mono HX.out) (show MapKept.IsKey .string (.string s.name) from trivial) HMB.out false Tryz.underlying81 Tryz.underlying9
      simp only [Bool.false_eq_true, if_false] at hlk
      generalize S k = z at *
      unfold lenV at hlk
      have hf1 := field115_1 z.1 z.2 W2
      obtain ⟨na, nc, rfl⟩ := HROW.out.isSliceN
      obtain ⟨i0, hi0, hz0, hz1, hz2⟩ := info_parts info49
      have HZ := hid (And.intro hi0 (And.intro hz0 (And.intro hz1 hz2)))
      clear hi0 hz0 hz1 hz2
      have hxa : Ext W2 (W2.alloc (.cells #[.string s.name, .int .i64 z.2] 49)) := (Ext.refl _).alloc _
      have HRW := hid (HROW.out.mono hxa)
      have HXA := hid (HX.out.trans hxa)
      have HBA := hid (hxa.block HBX.out)
      have HNW : Hid (∀ j u, (stkC ⟨s.name, z.2⟩)[j]? = some u → (W2.alloc (.cells #[.string s.name, .int .i64 z.2] 49)).cell? ((⟨W2.heap.size, 0, none⟩ : Addr).add j) = some u) := fun j u hj => by rw [Addr.add_mid, Nat.zero_add, new_cell _ _ rfl]; simpa [stkC] using hj
      have hmax : k + 1 ≤ 1000000000 := by omega
      have HLT := hid (lt_of_block HBX.out)
      clear HROW HX HBX hxa HM
      gi_wp2_with (refine wpIn_append_row (fun _ => trivial) rfl (.tmp 14) (.tmp 24) rfl Tryz.underlying22 HZ.out.1 HZ.out.2.1 HZ.out.2.2.1 HZ.out.2.2.2 (by simp [Value.cells]) (by omega) (v := .slice na k nc) rfl HRW.out ⟨W2.heap.size, 0, none⟩ 1 rfl (stkC ⟨s.name, z.2⟩) rfl HNW.out (fun u hu => by simp [stkC] at hu; rcases hu with rfl | rfl <;> rfl) hmax (by omega) ?_; intro v' w' hrow' hgr' how')
      have hon := own_next HXA.out (fun g hg => by have := HOWN.out g hg; omega) hgr' how'
      have hb' := grownBy_block hgr' HBA.out (fun e => by have := HOWN.out _ e.symm; omega)
      go_roundw
      case rel =>
        refine ⟨k + 1, by omega, by go_num, hid ⟨hon.1, hb', by rw [HS.out]; exact hrow', fun g hg => ?_⟩⟩
        rcases how' with e | e
        · exact HOWN.out g (by rw [← e]; exact hg)
        · rw [hg] at e; cases e
          have := HLT.out
          simp; omega
      case measure => simp [intOf]; omega
    · obtain rfl : k = ll.length := by omega
      clear HM HLC
      obtain ⟨na, nc, rfl⟩ := HI.out.2.2.1.isSliceN
      gi_wp2_with fail
      go_ret
      exact ⟨_, rfl, HI.out.1, hid HI.out.2.2.1⟩
end
section
open Go Go.RowKit Go.Shelf

theorem row_blk {w : World} {T : TypeId} {sz n : Nat} {v : Value} {xs : List Value} (h : Row w T sz v n xs) {g : Nat} (hg : v.ownBlock = some g) : g < w.heap.size := by
  rcases h.2 with ⟨rfl, _⟩ | ⟨g', cap, cur, rfl, hb, _⟩
  · simp [Value.ownBlock] at hg
  · simp [Value.ownBlock] at hg; subst hg; exact lt_of_block hb
/-- One row, beside another one; its box, if it has been made. -/
structure Half (w0 u : World) (c d : Value) (n : Nat) (xs : List Value) (made : Bool) (bx e : Value) : Prop where
  row : Row u 3 1 c n xs
  own : ∀ g, c.ownBlock = some g → w0.heap.size ≤ g
  dis : ∀ g, c.ownBlock = some g → d.ownBlock ≠ some g
  box : made = true → ∃ g, bx = .slice (some ⟨g, 0, none⟩) 1 1 ∧ u.heap[g]? = some (.cells #[e] 3 (0, 0)) ∧ c.ownBlock ≠ some g ∧ d.ownBlock ≠ some g
section
variable {w0 u u' : World} {c d c' d' bx e : Value} {n : Nat} {xs : List Value} {made : Bool}
theorem Half.ext (h : Half w0 u c d n xs made bx e) (hx : Ext u u') : Half w0 u' c d n xs made bx e :=
  ⟨h.row.mono hx, h.own, h.dis, fun hm => (h.box hm).elim fun g hg => ⟨g, hg.1, hx.block hg.2.1, hg.2.2⟩⟩
theorem Half.other (h : Half w0 u c d n xs made bx e) (hg : u.grownBy u' d.ownBlock) (how : d'.ownBlock = d.ownBlock ∨ d'.ownBlock = some u.heap.size) : Half w0 u' c d' n xs made bx e := by
  refine ⟨h.row.kept fun k o hk ho => grownBy_block hg ho (fun e => h.dis k hk e.symm), h.own, fun k hk hd => ?_, fun hm => ?_⟩
  · rcases how with q | q
    · exact h.dis k hk (by rw [← q]; exact hd)
    · rw [hd] at q; cases q
      have := row_blk h.row hk; omega
  · obtain ⟨g, h1, h2, h3, h4⟩ := h.box hm
    refine ⟨g, h1, grownBy_block hg h2 (fun e => h4 e.symm), h3, fun hd => ?_⟩
    rcases how with q | q
    · exact h4 (by rw [← q]; exact hd)
    · rw [hd] at q; cases q
      have := lt_of_block h2; omega
theorem Half.append (h : Half w0 u c d n xs made bx e) (hx : Ext w0 u) (hd : ∀ g, d.ownBlock = some g → g < u.heap.size) {m : Nat} {ys : List Value} (hr : Row u' 3 1 c' m ys) (hg : u.grownBy u' c.ownBlock) (how : c'.ownBlock = c.ownBlock ∨ c'.ownBlock = some u.heap.size) : Half w0 u' c' d m ys made bx e := by
  refine ⟨hr, fun k hk => ?_, fun k hk hq => ?_, fun hm => ?_⟩
  · rcases how with q | q
    · exact h.own k (by rw [← q]; exact hk)
    · rw [hk] at q; cases q; exact hx.size
  · rcases how with q | q
    · exact h.dis k (by rw [← q]; exact hk) hq
    · rw [hk] at q; cases q
      have := hd _ hq; omega
  · obtain ⟨g, h1, h2, h3, h4⟩ := h.box hm
    refine ⟨g, h1, grownBy_block hg h2 (fun e => h3 e.symm), fun hq => ?_, h4⟩
    rcases how with q | q
    · exact h3 (by rw [← q]; exact hq)
    · rw [hq] at q; cases q
      have := lt_of_block h2; omega
theorem Half.make (h : Half w0 u c d n xs made bx e) (hd : ∀ g, d.ownBlock = some g → g < u.heap.size) : Half w0 (u.alloc (.cells #[e] 3)) c d n xs true (.slice (some ⟨u.heap.size, 0, none⟩) 1 1) e := by
  have hx : Ext u (u.alloc (.cells #[e] 3)) := (Ext.refl _).alloc _
  refine ⟨h.row.mono hx, h.own, h.dis, fun _ => ⟨u.heap.size, rfl, Ext.new (Ext.refl _), fun hq => ?_, fun hq => ?_⟩⟩
  · have := row_blk h.row hq; omega
  · have := hd _ hq; omega
end
def curV (L : Nat → Bool) (x : Nat → Value) (j : Nat) (v : Value) : Value := if L j then x j else v
/-- Two rows in a region: their boxes are made by the operations i, and appended by the operations j. -/
def twoJ (w0 : World) (i1 j1 i2 j2 n : Nat) (v1 v2 : Value) (xs1 xs2 : List Value) (e1 e2 : Value) : InvJ := fun L x u => Ext w0 u ∧
  Half w0 u (curV L x j1 v1) (curV L x j2 v2) (if L j1 then n + 1 else n) (if L j1 then xs1 ++ [e1] else xs1) (L i1) (x i1) e1 ∧
  Half w0 u (curV L x j2 v2) (curV L x j1 v1) (if L j2 then n + 1 else n) (if L j2 then xs2 ++ [e2] else xs2) (L i2) (x i2) e2
section
variable {w0 u u' : World} {i1 j1 i2 j2 n : Nat} {v1 v2 e1 e2 : Value} {xs1 xs2 : List Value} {L : Nat → Bool} {x : Nat → Value}
theorem twoJ_swap (h : twoJ w0 i1 j1 i2 j2 n v1 v2 xs1 xs2 e1 e2 L x u) : twoJ w0 i2 j2 i1 j1 n v2 v1 xs2 xs1 e2 e1 L x u := ⟨h.1, h.2.2, h.2.1⟩
theorem twoJ_start {W : World} (hx : Ext w0 W) (h1 : Row W 3 1 v1 n xs1) (h2 : Row W 3 1 v2 n xs2) (o1 : ∀ g, v1.ownBlock = some g → w0.heap.size ≤ g) (o2 : ∀ g, v2.ownBlock = some g → w0.heap.size ≤ g) (hd : ∀ g, v1.ownBlock = some g → v2.ownBlock ≠ some g) :
    twoJ w0 i1 j1 i2 j2 n v1 v2 xs1 xs2 e1 e2 (fun _ => false) (fun _ => undef) { W with drawn := W.drawn + 1 } :=
  ⟨hx.trans (Ext.drawn _), ⟨h1.mono (Ext.drawn _), o1, hd, fun h => by cases h⟩, ⟨h2.mono (Ext.drawn _), o2, fun g hg he => hd g he hg, fun h => by cases h⟩⟩
theorem twoJ_skip {k : Nat} (hk : (i1 != k && j1 != k && i2 != k && j2 != k) = true) (h : twoJ w0 i1 j1 i2 j2 n v1 v2 xs1 xs2 e1 e2 L x u) : twoJ w0 i1 j1 i2 j2 n v1 v2 xs1 xs2 e1 e2 (updL L k) x u := by
  simp only [Bool.and_eq_true, bne_iff_ne, ne_eq] at hk
  unfold twoJ curV updL at *
  rw [if_neg hk.1.1.1, if_neg hk.1.1.2, if_neg hk.1.2, if_neg hk.2]
  exact h
theorem twoJ_lt (h : twoJ w0 i1 j1 i2 j2 n v1 v2 xs1 xs2 e1 e2 L x u) : (∀ g, (curV L x j1 v1).ownBlock = some g → g < u.heap.size) ∧ (∀ g, (curV L x j2 v2).ownBlock = some g → g < u.heap.size) :=
  ⟨fun g hg => row_blk h.2.1.row hg, fun g hg => row_blk h.2.2.row hg⟩
theorem twoJ_make1 (hk : (i1 != j1 && i1 != i2 && i1 != j2) = true) (h : twoJ w0 i1 j1 i2 j2 n v1 v2 xs1 xs2 e1 e2 L x u) : twoJ w0 i1 j1 i2 j2 n v1 v2 xs1 xs2 e1 e2 (updL L i1) (updX x i1 (.slice (some ⟨u.heap.size, 0, none⟩) 1 1)) (u.alloc (.cells #[e1] 3)) := by
  simp only [Bool.and_eq_true, bne_iff_ne, ne_eq] at hk
  have hx : Ext u (u.alloc (.cells #[e1] 3)) := (Ext.refl _).alloc _
  have hlt := twoJ_lt h
  unfold twoJ curV updL updX at *
  rw [if_neg (Ne.symm hk.1.1), if_neg (Ne.symm hk.1.1), if_neg (Ne.symm hk.1.2), if_neg (Ne.symm hk.1.2), if_neg (Ne.symm hk.2), if_neg (Ne.symm hk.2), if_pos rfl, if_pos rfl]
  exact ⟨h.1.trans hx, h.2.1.make hlt.2, h.2.2.ext hx⟩
theorem twoJ_app1 (hk : (i1 != j1 && j1 != i2 && j1 != j2) = true) (h : twoJ w0 i1 j1 i2 j2 n v1 v2 xs1 xs2 e1 e2 L x u) (hL : L j1 = false) {v' : Value} (hr : Row u' 3 1 v' (n + 1) (xs1 ++ [e1])) (hg : u.grownBy u' v1.ownBlock) (how : v'.ownBlock = v1.ownBlock ∨ v'.ownBlock = some u.heap.size) :
    twoJ w0 i1 j1 i2 j2 n v1 v2 xs1 xs2 e1 e2 (updL L j1) (updX x j1 v') u' := by
  simp only [Bool.and_eq_true, bne_iff_ne, ne_eq] at hk
  have hlt := twoJ_lt h
  have hc : curV L x j1 v1 = v1 := by unfold curV; rw [hL]; rfl
  rw [hc] at hlt
  have h1 := h.2.1
  have h2 := h.2.2
  rw [hc] at h1 h2
  have hx' : Ext w0 u' := ext_grown h.1 hg (fun g hg' => h1.own g hg')
  unfold twoJ
  have ec : curV (updL L j1) (updX x j1 v') j1 v1 = v' := by unfold curV updL updX; simp
  have ed : curV (updL L j1) (updX x j1 v') j2 v2 = curV L x j2 v2 := by unfold curV updL updX; simp [Ne.symm hk.2]
  have e1' : updL L j1 i1 = L i1 := if_neg hk.1.1
  have e2' : updL L j1 i2 = L i2 := if_neg (Ne.symm hk.1.2)
  have e3' : updL L j1 j2 = L j2 := if_neg (Ne.symm hk.2)
  have e4' : updL L j1 j1 = true := if_pos rfl
  have e5' : updX x j1 v' i1 = x i1 := if_neg hk.1.1
  have e6' : updX x j1 v' i2 = x i2 := if_neg (Ne.symm hk.1.2)
  rw [ec, ed, e1', e2', e3', e4', e5', e6']
  exact ⟨hx', h1.append h.1 hlt.2 hr hg how, h2.other hg how⟩
theorem twoJ_make2 (hk : (i2 != j2 && i2 != i1 && i2 != j1) = true) (h : twoJ w0 i1 j1 i2 j2 n v1 v2 xs1 xs2 e1 e2 L x u) : twoJ w0 i1 j1 i2 j2 n v1 v2 xs1 xs2 e1 e2 (updL L i2) (updX x i2 (.slice (some ⟨u.heap.size, 0, none⟩) 1 1)) (u.alloc (.cells #[e2] 3)) :=
  twoJ_swap (twoJ_make1 hk (twoJ_swap h))
theorem twoJ_app2 (hk : (i2 != j2 && j2 != i1 && j2 != j1) = true) (h : twoJ w0 i1 j1 i2 j2 n v1 v2 xs1 xs2 e1 e2 L x u) (hL : L j2 = false) {v' : Value} (hr : Row u' 3 1 v' (n + 1) (xs2 ++ [e2])) (hg : u.grownBy u' v2.ownBlock) (how : v'.ownBlock = v2.ownBlock ∨ v'.ownBlock = some u.heap.size) :
    twoJ w0 i1 j1 i2 j2 n v1 v2 xs1 xs2 e1 e2 (updL L j2) (updX x j2 v') u' := twoJ_swap (twoJ_app1 hk (twoJ_swap h) hL hr hg how)
/-- The append itself. -/
theorem twoJ_run1 (h : twoJ w0 i1 j1 i2 j2 n v1 v2 xs1 xs2 e1 e2 L x u) (hi : L i1 = true) (hj : L j1 = false) (hn : n ≤ 1000000) (he : e1.oneCell' = true) :
    ∃ v' u', (Builtin.append_ #[23, 23] 23 #[v1, x i1]).run Tryz.prog u = .ok v' u' ∧ Row u' 3 1 v' (n + 1) (xs1 ++ [e1]) ∧ u.grownBy u' v1.ownBlock ∧ (v'.ownBlock = v1.ownBlock ∨ v'.ownBlock = some u.heap.size) := by
  obtain ⟨i, hi3, hz0, hz1, hz2⟩ := info_parts info3
  obtain ⟨g, hg1, hg2, _, _⟩ := h.2.1.box hi
  have hc : curV L x j1 v1 = v1 := by unfold curV; rw [hj]; rfl
  have hr := h.2.1.row
  rw [hc, hj] at hr
  simp only [Bool.false_eq_true, if_false] at hr
  rw [hg1]
  obtain ⟨v', u', h1, h2, h3, h4, _⟩ := append_row (t := 23) (ty := 23) Tryz.underlying23 hi3 hz0 hz1 hz2 (by simp [Value.cells]) (by omega) hr ⟨g, 0, none⟩ 1 [e1] rfl (fun j q hq => by
    rw [Addr.add_mid, Nat.zero_add, cell_of hg2]
    match j, hq with
    | 0, hq => simpa using hq) (fun q hq => by rw [List.mem_singleton] at hq; subst hq; exact he) (by omega) (by omega)
  exact ⟨v', u', h1, h2, h3, h4⟩
theorem twoJ_run2 (h : twoJ w0 i1 j1 i2 j2 n v1 v2 xs1 xs2 e1 e2 L x u) (hi : L i2 = true) (hj : L j2 = false) (hn : n ≤ 1000000) (he : e2.oneCell' = true) :
    ∃ v' u', (Builtin.append_ #[23, 23] 23 #[v2, x i2]).run Tryz.prog u = .ok v' u' ∧ Row u' 3 1 v' (n + 1) (xs2 ++ [e2]) ∧ u.grownBy u' v2.ownBlock ∧ (v'.ownBlock = v2.ownBlock ∨ v'.ownBlock = some u.heap.size) := twoJ_run1 (twoJ_swap h) hi hj hn he
theorem twoJ_end (h : twoJ w0 i1 j1 i2 j2 n v1 v2 xs1 xs2 e1 e2 L x u) (h1 : L j1 = true) (h2 : L j2 = true) :
    Ext w0 u ∧ Row u 3 1 (x j1) (n + 1) (xs1 ++ [e1]) ∧ Row u 3 1 (x j2) (n + 1) (xs2 ++ [e2]) ∧ (∀ g, (x j1).ownBlock = some g → w0.heap.size ≤ g) ∧ (∀ g, (x j2).ownBlock = some g → w0.heap.size ≤ g) ∧ (∀ g, (x j1).ownBlock = some g → (x j2).ownBlock ≠ some g) := by
  have ec : curV L x j1 v1 = x j1 := by unfold curV; rw [h1]; rfl
  have ed : curV L x j2 v2 = x j2 := by unfold curV; rw [h2]; rfl
  have a := h.2.1
  have b := h.2.2
  rw [ec, ed, h1] at a
  rw [ec, ed, h2] at b
  exact ⟨h.1, a.row, b.row, a.own, b.own, a.dis⟩
end
end
end Go.Proofs.YtjocoadhalimjaaGreat
