/- The law ShareOrder. -/
import Derived.Test.YtjocoadhalimjaaGreatRBZ
import Derived.Test.YtjocoadhalimjaaGreatRBR
import Derived.Test.YtjocoadhalimjaaGreatRBJ
import Derived.Test.YtjocoadhalimjaaGreatRBF
set_option linter.unusedSimpArgs false
set_option linter.unusedVariables false
namespace Go.Proofs.YtjocoadhalimjaaGreat
open Go Go.RowKit Go.Shelf

def duOf (V : Voy) (nm : ByteArray) : Du := ⟨nm, dvv V nm 0, dvv V nm 1, dvv V nm 2⟩
theorem duF_of (V : Voy) (ns : List ByteArray) : duF (ns.map (duOf V)) = dueF V ns := by
  unfold duF dueF
  rw [List.flatMap_map]; rfl
theorem dues_at {V : Voy} {ns : List ByteArray} {w : World} {v : Value} (h : Row w 53 4 v ns.length (dueF V ns)) (hl : ns.length ≤ 30) : DuAt w v (ns.map (duOf V)) := by
  refine DuAt.of_row (l := ns.map (duOf V)) ?_ (by rw [List.length_map]; omega)
  rw [List.length_map, duF_of]; exact h
/-- The voyage, told in another order. -/
def ordV (V : Voy) (n0 n1 n2 n3 : Int) : Voy := ⟨V.gr, V.bo, V.ne, V.cr, V.cs.reverse, rndL n0 V.ow, rndL n1 V.le, rndL n2 V.ha, (List.range V.lo.length).map fun i => V.lo.getD (rixF (modI n3 V.lo.length).toNat V.lo.length i) noLn⟩
theorem ordV_other (V : Voy) (n0 n1 n2 n3 : Int) : Other V (ordV V n0 n1 n2 n3) := by
  refine ⟨rfl, rfl, rfl, rfl, List.reverse_perm _, rnd_turn _ _, rnd_turn _ _, rnd_turn _ _, ?_⟩
  show ((List.range V.lo.length).map fun i => V.lo.getD (rixF (modI n3 V.lo.length).toNat V.lo.length i) noLn).Perm V.lo
  by_cases h : 1 ≤ V.lo.length
  · have := modI_ok n3 (m := (V.lo.length : Int)) (by omega)
    exact rix_list V.lo noLn (by omega)
  · have h0 : V.lo = [] := List.eq_nil_of_length_eq_zero (by omega)
    rw [h0]; exact List.Perm.refl _
/-- The cells of the voyage in the making. -/
def ordC (V : Voy) (c o l h x : Value) : Array Value := #[.int .i64 V.gr, c, .int .i64 V.bo, .int .i64 V.ne, .int .i64 V.cr, o, l, h, x]
def RowQ (b : Nat) (u : World) (v : Value) (l : List Stk) : Prop := Row u 49 2 v l.length (stkF l) ∧ ∀ g, v.ownBlock = some g → g ≠ b
theorem RowQ.km {b : Nat} {u u' : World} {v : Value} {l : List Stk} (h : RowQ b u v l) (hk : KM b u u') : RowQ b u' v l := ⟨h.1.kept fun k o ho hb => hk.2 k o (h.2 k ho) hb, h.2⟩
def ordJ (V : Voy) (s : VS) (w0 : World) (b : Nat) (T0 T1 T2 : List Stk) : InvJ := fun L x u => Ext w0 u ∧ (w0.heap.size ≤ b ∧ b < u.heap.size) ∧
  u.heap[b]? = some (.cells (ordC V (.slice s.ca V.cs.length s.cc) (if L 16 then x 4 else .slice s.oa V.ow.length s.oc) (if L 18 then x 9 else .slice s.la V.le.length s.lc) (if L 20 then x 14 else .slice s.ha V.ha.length s.hc) (.slice s.xa V.lo.length s.xc)) 32 (0, 0)) ∧
  ((L 4 = true → RowQ b u (x 4) T0) ∧ (L 9 = true → RowQ b u (x 9) T1) ∧ (L 14 = true → RowQ b u (x 14) T2)) ∧ ((L 16 = true → L 4 = true) ∧ (L 18 = true → L 9 = true) ∧ (L 20 = true → L 14 = true))
section
variable {V : Voy} {s : VS} {w0 u u' : World} {b : Nat} {T0 T1 T2 : List Stk} {L : Nat → Bool} {x : Nat → Value}
theorem ordJ_skip {k : Nat} (hk : (4 != k && 9 != k && 14 != k && 16 != k && 18 != k && 20 != k) = true) (h : ordJ V s w0 b T0 T1 T2 L x u) : ordJ V s w0 b T0 T1 T2 (updL L k) x u := by
  simp only [Bool.and_eq_true, bne_iff_ne, ne_eq] at hk
  unfold ordJ updL at *
  rw [if_neg hk.1.1.1.1.1, if_neg hk.1.1.1.1.2, if_neg hk.1.1.1.2, if_neg hk.1.1.2, if_neg hk.1.2, if_neg hk.2]
  exact h

theorem ordJ_call4 (h : ordJ V s w0 b T0 T1 T2 L x u) (hL : L 4 = false) {v : Value} (hx : Ext u u') (hr : Row u' 49 2 v T0.length (stkF T0)) (hown : ∀ g, v.ownBlock = some g → u.heap.size ≤ g) : ordJ V s w0 b T0 T1 T2 (updL L 4) (updX x 4 v) u' := by
  obtain ⟨h1, h2, h3, h4, h5⟩ := h
  have hs : L 16 = false := by
    cases e : L 16 with
    | false => rfl
    | true => rw [h5.1 e] at hL; cases hL
  have hq : RowQ b u' v T0 := ⟨hr, fun g hg => by have := hown g hg; omega⟩
  have hk := KM.of_ext (bm := b) hx
  refine ⟨h1.trans hx, ⟨h2.1, Nat.lt_of_lt_of_le h2.2 hx.size⟩, ?_, ?_, ?_⟩
  · have h3 := hx.block h3
    rw [hs] at h3
    simp [updL, updX, hs]
    simpa using h3
  · simp only [updL, updX]
    refine ⟨?_, ?_, ?_⟩ <;> intro e <;> simp at e ⊢ <;> first | exact hq | exact (h4.1 e).km hk | exact (h4.2.1 e).km hk | exact (h4.2.2 e).km hk
  · simp only [updL]
    refine ⟨?_, ?_, ?_⟩ <;> intro e <;> simp at e ⊢ <;> first | done | exact h5.1 e | exact h5.2.1 e | exact h5.2.2 e
theorem ordJ_store16 (h : ordJ V s w0 b T0 T1 T2 L x u) (hc : L 4 = true) : ordJ V s w0 b T0 T1 T2 (updL L 16) x (u.setCell ⟨b, 5, none⟩ (x 4)) := by
  obtain ⟨h1, h2, h3, h4, h5⟩ := h
  have hk : KM b u (u.setCell ⟨b, 5, none⟩ (x 4)) := (KM.refl _ _).cell_set _ _
  refine ⟨h1.set h2.1 _ _, ⟨h2.1, by simpa using h2.2⟩, ?_, ?_, ?_⟩
  · have e := set_same h3 5 (x 4)
    simpa [updL, ordC] using e
  · simp only [updL]
    refine ⟨?_, ?_, ?_⟩ <;> intro e <;> simp at e <;> first | exact (h4.1 e).km hk | exact (h4.2.1 e).km hk | exact (h4.2.2 e).km hk
  · simp only [updL]
    refine ⟨?_, ?_, ?_⟩ <;> intro e <;> simp at e ⊢ <;> first | exact hc | exact h5.1 e | exact h5.2.1 e | exact h5.2.2 e
theorem ordJ_call9 (h : ordJ V s w0 b T0 T1 T2 L x u) (hL : L 9 = false) {v : Value} (hx : Ext u u') (hr : Row u' 49 2 v T1.length (stkF T1)) (hown : ∀ g, v.ownBlock = some g → u.heap.size ≤ g) : ordJ V s w0 b T0 T1 T2 (updL L 9) (updX x 9 v) u' := by
  obtain ⟨h1, h2, h3, h4, h5⟩ := h
  have hs : L 18 = false := by
    cases e : L 18 with
    | false => rfl
    | true => rw [h5.2.1 e] at hL; cases hL
  have hq : RowQ b u' v T1 := ⟨hr, fun g hg => by have := hown g hg; omega⟩
  have hk := KM.of_ext (bm := b) hx
  refine ⟨h1.trans hx, ⟨h2.1, Nat.lt_of_lt_of_le h2.2 hx.size⟩, ?_, ?_, ?_⟩
  · have h3 := hx.block h3
    rw [hs] at h3
    simp [updL, updX, hs]
    simpa using h3
  · simp only [updL, updX]
    refine ⟨?_, ?_, ?_⟩ <;> intro e <;> simp at e ⊢ <;> first | exact hq | exact (h4.1 e).km hk | exact (h4.2.1 e).km hk | exact (h4.2.2 e).km hk
  · simp only [updL]
    refine ⟨?_, ?_, ?_⟩ <;> intro e <;> simp at e ⊢ <;> first | done | exact h5.1 e | exact h5.2.1 e | exact h5.2.2 e
theorem ordJ_store18 (h : ordJ V s w0 b T0 T1 T2 L x u) (hc : L 9 = true) : ordJ V s w0 b T0 T1 T2 (updL L 18) x (u.setCell ⟨b, 6, none⟩ (x 9)) := by
  obtain ⟨h1, h2, h3, h4, h5⟩ := h
  have hk : KM b u (u.setCell ⟨b, 6, none⟩ (x 9)) := (KM.refl _ _).cell_set _ _
  refine ⟨h1.set h2.1 _ _, ⟨h2.1, by simpa using h2.2⟩, ?_, ?_, ?_⟩
  · have e := set_same h3 6 (x 9)
    simpa [updL, ordC] using e
  · simp only [updL]
    refine ⟨?_, ?_, ?_⟩ <;> intro e <;> simp at e <;> first | exact (h4.1 e).km hk | exact (h4.2.1 e).km hk | exact (h4.2.2 e).km hk
  · simp only [updL]
    refine ⟨?_, ?_, ?_⟩ <;> intro e <;> simp at e ⊢ <;> first | exact hc | exact h5.1 e | exact h5.2.1 e | exact h5.2.2 e
theorem ordJ_call14 (h : ordJ V s w0 b T0 T1 T2 L x u) (hL : L 14 = false) {v : Value} (hx : Ext u u') (hr : Row u' 49 2 v T2.length (stkF T2)) (hown : ∀ g, v.ownBlock = some g → u.heap.size ≤ g) : ordJ V s w0 b T0 T1 T2 (updL L 14) (updX x 14 v) u' := by
  obtain ⟨h1, h2, h3, h4, h5⟩ := h
  have hs : L 20 = false := by
    cases e : L 20 with
    | false => rfl
    | true => rw [h5.2.2 e] at hL; cases hL
  have hq : RowQ b u' v T2 := ⟨hr, fun g hg => by have := hown g hg; omega⟩
  have hk := KM.of_ext (bm := b) hx
  refine ⟨h1.trans hx, ⟨h2.1, Nat.lt_of_lt_of_le h2.2 hx.size⟩, ?_, ?_, ?_⟩
  · have h3 := hx.block h3
    rw [hs] at h3
    simp [updL, updX, hs]
    simpa using h3
  · simp only [updL, updX]
    refine ⟨?_, ?_, ?_⟩ <;> intro e <;> simp at e ⊢ <;> first | exact hq | exact (h4.1 e).km hk | exact (h4.2.1 e).km hk | exact (h4.2.2 e).km hk
  · simp only [updL]
    refine ⟨?_, ?_, ?_⟩ <;> intro e <;> simp at e ⊢ <;> first | done | exact h5.1 e | exact h5.2.1 e | exact h5.2.2 e
theorem ordJ_store20 (h : ordJ V s w0 b T0 T1 T2 L x u) (hc : L 14 = true) : ordJ V s w0 b T0 T1 T2 (updL L 20) x (u.setCell ⟨b, 7, none⟩ (x 14)) := by
  obtain ⟨h1, h2, h3, h4, h5⟩ := h
  have hk : KM b u (u.setCell ⟨b, 7, none⟩ (x 14)) := (KM.refl _ _).cell_set _ _
  refine ⟨h1.set h2.1 _ _, ⟨h2.1, by simpa using h2.2⟩, ?_, ?_, ?_⟩
  · have e := set_same h3 7 (x 14)
    simpa [updL, ordC] using e
  · simp only [updL]
    refine ⟨?_, ?_, ?_⟩ <;> intro e <;> simp at e <;> first | exact (h4.1 e).km hk | exact (h4.2.1 e).km hk | exact (h4.2.2 e).km hk
  · simp only [updL]
    refine ⟨?_, ?_, ?_⟩ <;> intro e <;> simp at e ⊢ <;> first | exact hc | exact h5.1 e | exact h5.2.1 e | exact h5.2.2 e
end
theorem wr64 {x : Int} (h1 : -1000000 ≤ x) (h2 : x ≤ 1000000) : wrap64 x = x := by unfold wrap64; omega
theorem wrik {x : Int} (h1 : -1000000 ≤ x) (h2 : x ≤ 1000000) : IntKind.i64.wrap x = x := by rw [IntKind.wrap_i64]; omega
theorem ordV_lo (V : Voy) (n0 n1 n2 n3 : Int) {k : Nat} (hk : k < V.lo.length) : lnF ((ordV V n0 n1 n2 n3).lo.take (k + 1)) = lnF ((ordV V n0 n1 n2 n3).lo.take k) ++ lnC (V.lo.getD (rixF (modI n3 V.lo.length).toNat V.lo.length k) noLn) := by
  unfold lnF
  rw [List.take_succ_eq_append_getElem (by simpa [ordV] using hk), List.flatMap_append]
  congr 1
  simp [ordV]
theorem rev_succ {l : List Int} {q : Nat} (hq : q < l.length) : intsV (l.reverse.take (l.length - 1 - q + 1)) = intsV (l.reverse.take (l.length - 1 - q)) ++ [.int .i64 l[q]] := by
  unfold intsV
  rw [List.take_succ_eq_append_getElem (by rw [List.length_reverse]; omega), List.map_append]
  congr 1
  rw [List.getElem_reverse]
  simp only [List.map_cons, List.map_nil]
  congr 3
  omega
theorem ordV_cells (V : Voy) (n0 n1 n2 n3 : Int) (ua oa la ha va : Option Addr) (uc oc lc hc vc : Nat) : voyA (ordV V n0 n1 n2 n3) ⟨ua, oa, la, ha, va, uc, oc, lc, hc, vc⟩ = #[.int .i64 V.gr, .slice ua V.cs.length uc, .int .i64 V.bo, .int .i64 V.ne, .int .i64 V.cr, .slice oa V.ow.length oc, .slice la V.le.length lc, .slice ha V.ha.length hc, .slice va V.lo.length vc] := by
  simp [voyA, ordV, rndL_len]
/-- Costs told backwards, so many of them. -/
def CostS (V : Voy) (w2 wQ : World) (b7 : Nat) (o l h x : Value) (k : Nat) (wr : World) : Prop := ∃ v, Ext w2 wr ∧ KM b7 wQ wr ∧ wr.heap[b7]? = some (.cells (ordC V v o l h x) 32 (0, 0)) ∧ Row wr 3 1 v k (intsV (V.cs.reverse.take k)) ∧ ∀ g, v.ownBlock = some g → wQ.heap.size ≤ g
set_option maxRecDepth 100000 in
set_option maxHeartbeats 32000000 in
theorem ShareOrder_any (V : Voy) (s : VS) (n0 n1 n2 n3 : Int) (w : World) (h : VoyAt w V s) : Cal 9 #[.agg (voyA V s), .agg #[.int .i64 n0, .int .i64 n1, .int .i64 n2, .int .i64 n3]] w fun e w' => e = .returned (.bool true) ∧ Ext w w' := by
  have HWK := hid (fun (u : World) => works_any u)
  obtain ⟨wa, hwa⟩ : ∃ wa, wa = (w.alloc (.cells (voyA V s) 32)).alloc (.cells #[.int .i64 n0, .int .i64 n1, .int .i64 n2, .int .i64 n3] 56) := ⟨_, rfl⟩
  have HX0 : Hid (Ext w wa) := hid (by rw [hwa]; exact ((Ext.refl _).alloc _).alloc _)
  have HB0 : Hid (wa.heap[w.heap.size]? = some (.cells (voyA V s) 32 (0, 0))) := hid (by rw [hwa]; exact two_new)
  have HB1 : Hid (wa.heap[w.heap.size + 1]? = some (.cells #[.int .i64 n0, .int .i64 n1, .int .i64 n2, .int .i64 n3] 56 (0, 0))) := hid (by
    have := Ext.new (w := w.alloc (.cells (voyA V s) 32)) (o := .cells #[.int .i64 n0, .int .i64 n1, .int .i64 n2, .int .i64 n3] 56) (Ext.refl _); rw [World.size_alloc] at this; rw [hwa]; exact this)
  by_cases hE : voyE V = 0
  · have hok := (voyE_ok hE).1
    have hso := stakes_ok hok.ow
    have hsl := stakes_ok hok.le
    have hsh := stakes_ok hok.ha
    have hlb := (lend_ok (voyE_ok hE).2).1
    have hcb := hok.csl
    have HSH := hid (fun (u : World) (hu : Ext w u) => Shares_ok V s u (h.mono hu) hE)
    have HSO := hid (fun (u : World) (hu : Ext w u) => sound_true V s u (h.mono hu) hE)
    have HR0 := hid (fun (u : World) (hu : Ext w u) => round_any n0 _ V.ow u (h.ow.mono hu) (by omega))
    have HR1 := hid (fun (u : World) (hu : Ext w u) => round_any n1 _ V.le u (h.le.mono hu) (by omega))
    have HR2 := hid (fun (u : World) (hu : Ext w u) => round_any n2 _ V.ha u (h.ha.mono hu) (by omega))
    have HLO := hid h.lo
    have HCS := hid h.cs
    have HLB := hid (And.intro hlb hcb)
    have HNM := hid (And.intro h.no (And.intro h.nl h.nh))
    have HE := hid hE
    clear h hE hok hso hsl hsh hlb hcb
    unfold voyA at *
    gi_enter Tryz.func9, Tryz.ntmps9
    gi_upto_region 1 with fail
    rw [← hwa]
    clear hwa
    generalize w.heap.size = bx at *
    have c0 := cell_of HB0.out
    gi_upto_region 4 with (first | (gi_at_call 25; ((with_reducible refine (HSH.out _ HX0.out).mono ?_); rintro e w1 ⟨lr, ns, rfl, hx1, hdn, hnl, HRW⟩; have HX1 := hid hx1; have c0 := cell_of (hx1.block HB0.out); clear hx1)) | (gi_at_call 33; ((with_reducible refine (HSO.out _ (HX0.out.trans HX1.out)).mono ?_); rintro e w2 ⟨rfl, hx2⟩; have HX2 := hid hx2; clear hx2)))
    clear c0
    have HXw2 := hid (HX0.out.trans (HX1.out.trans HX2.out))
    have HBA := hid ((HX1.out.trans HX2.out).block HB0.out)
    have HBN := hid ((HX1.out.trans HX2.out).block HB1.out)
    have HRL := hid (HRW.out.mono HX2.out)
    have HDN := hid (And.intro hdn hnl)
    obtain ⟨lra, lrc, rfl⟩ := HRL.out.isSliceN
    have HR0 := hid (fun (u : World) (hu : Ext w2 u) => HR0.out u (HXw2.out.trans hu))
    have HR1 := hid (fun (u : World) (hu : Ext w2 u) => HR1.out u (HXw2.out.trans hu))
    have HR2 := hid (fun (u : World) (hu : Ext w2 u) => HR2.out u (HXw2.out.trans hu))
    have HLO := hid (HLO.out.mono HXw2.out)
    have HCS := hid (HCS.out.mono HXw2.out)
    clear HSH HSO HX1 HX2 HB0 HB1 HRW hdn hnl
    have c0 := cell_of HBA.out
    gi_wp2_with (refine wpIn_store_fresh (fun _ => trivial) 32 (.tmp 7) (.tmp 34) rfl (W := w2) (c' := #[.int .i64 V.gr, .slice s.ca V.cs.length s.cc, .int .i64 V.bo, .int .i64 V.ne, .int .i64 V.cr, .slice s.oa V.ow.length s.oc, .slice s.la V.le.length s.lc, .slice s.ha V.ha.length s.hc, .slice s.xa V.lo.length s.xc]) rfl rfl rfl size32 rfl (by simp [Value.oneCell']) ?_; refine Hid.out ?_)
    have hxa : Ext w2 (w2.alloc (.cells #[.int .i64 V.gr, .slice s.ca V.cs.length s.cc, .int .i64 V.bo, .int .i64 V.ne, .int .i64 V.cr, .slice s.oa V.ow.length s.oc, .slice s.la V.le.length s.lc, .slice s.ha V.ha.length s.hc, .slice s.xa V.lo.length s.xc] 32)) := (Ext.refl _).alloc _
    have hbb : (w2.alloc (.cells #[.int .i64 V.gr, .slice s.ca V.cs.length s.cc, .int .i64 V.bo, .int .i64 V.ne, .int .i64 V.cr, .slice s.oa V.ow.length s.oc, .slice s.la V.le.length s.lc, .slice s.ha V.ha.length s.hc, .slice s.xa V.lo.length s.xc] 32)).heap[w2.heap.size]? = some (.cells #[.int .i64 V.gr, .slice s.ca V.cs.length s.cc, .int .i64 V.bo, .int .i64 V.ne, .int .i64 V.cr, .slice s.oa V.ow.length s.oc, .slice s.la V.le.length s.lc, .slice s.ha V.ha.length s.hc, .slice s.xa V.lo.length s.xc] 32 (0, 0)) := Ext.new (Ext.refl _)
    have HXA := hid hxa
    have HBB := hid hbb
    clear hxa hbb c0
    refine hid ?_
    have HSZ : Hid (w2.heap.size < (w2.alloc (.cells #[.int .i64 V.gr, .slice s.ca V.cs.length s.cc, .int .i64 V.bo, .int .i64 V.ne, .int .i64 V.cr, .slice s.oa V.ow.length s.oc, .slice s.la V.le.length s.lc, .slice s.ha V.ha.length s.hc, .slice s.xa V.lo.length s.xc] 32)).heap.size) := hid (by simp)
    generalize w2.alloc (.cells #[.int .i64 V.gr, .slice s.ca V.cs.length s.cc, .int .i64 V.bo, .int .i64 V.ne, .int .i64 V.cr, .slice s.oa V.ow.length s.oc, .slice s.la V.le.length s.lc, .slice s.ha V.ha.length s.hc, .slice s.xa V.lo.length s.xc] 32) = w4 at *
    obtain ⟨b7, hb7⟩ : ∃ b7, b7 = w2.heap.size := ⟨_, rfl⟩
    rw [← hb7] at HBB HSZ ⊢
    have HB7 : Hid (w2.heap.size ≤ b7) := hid (by omega)
    clear hb7
    gi_upto_region 5 with fail
    have HST : ordJ V s w2 b7 (rndL n0 V.ow) (rndL n1 V.le) (rndL n2 V.ha) (fun _ => false) (fun _ => undef) { w4 with drawn := w4.drawn + 1 } := ⟨HXA.out.trans (Ext.drawn _), ⟨HB7.out, HSZ.out⟩, HBB.out, ⟨fun h => (by cases h), fun h => (by cases h), fun h => (by cases h)⟩, ⟨fun h => (by cases h), fun h => (by cases h), fun h => (by cases h)⟩⟩
    refine jj_own 21 [4, 9, 14] _ (by kernel_rfl) (by kernel_rfl) HST ?_
    simp only [List.take_succ_cons, List.take_zero, List.drop_succ_cons, List.drop_zero]
    clear HST
    apply jj_fun (by decide)
    · intro L x u hL hd hJ
      have HJ := hid (ordJ_skip (k := 0) (by rfl) hJ)
      clear hJ hd hL
      go_simp
      exact ⟨rfl, HJ.out⟩
    simp only [Act.put, List.setIfInBounds_toArray, List.set_cons_succ, List.set_cons_zero]
    apply jj_fun (by decide)
    · intro L x u hL hd hJ
      have c0 : u.cell? ⟨bx, 5, none⟩ = some (.slice s.oa V.ow.length s.oc) := (cell_of (hJ.1.block HBA.out) 5).trans rfl
      have HJ := hid (ordJ_skip (k := 1) (by rfl) hJ)
      clear hJ hd hL
      go_simp
      exact ⟨rfl, HJ.out⟩
    simp only [Act.put, List.setIfInBounds_toArray, List.set_cons_succ, List.set_cons_zero]
    apply jj_fun (by decide)
    · intro L x u hL hd hJ
      have HJ := hid (ordJ_skip (k := 2) (by rfl) hJ)
      clear hJ hd hL
      go_simp
      exact ⟨rfl, HJ.out⟩
    simp only [Act.put, List.setIfInBounds_toArray, List.set_cons_succ, List.set_cons_zero]
    apply jj_fun (by decide)
    · intro L x u hL hd hJ
      have c0 : u.cell? ⟨bx + 1, 0, none⟩ = some (.int .i64 n0) := (cell_of (hJ.1.block HBN.out) 0).trans rfl
      have HJ := hid (ordJ_skip (k := 3) (by rfl) hJ)
      clear hJ hd hL
      go_simp
      exact ⟨rfl, HJ.out⟩
    simp only [Act.put, List.setIfInBounds_toArray, List.set_cons_succ, List.set_cons_zero]
    refine jj_inv (by decide) ?_ ?_
    · intro L x u hL hd hJ
      rw [if_pos (show Region.wanted _ _ = true from rfl)]
      exact gives_callJ (vs := #[.slice s.oa V.ow.length s.oc, .int .i64 n0]) rfl Tryz.func36 (by kernel_rfl) rfl (by simp only [List.map_toArray, List.map_cons, List.map_nil]; rfl) ((HR0.out u hJ.1).mono fun e w'' ⟨r, he, hx, hrow, hown⟩ => ⟨r, he, ordJ_call4 hJ hL hx (by rw [rndL_len]; exact hrow.out) hown⟩)
    simp only [Act.put, List.setIfInBounds_toArray, List.set_cons_succ, List.set_cons_zero]
    apply jj_fun (by decide)
    · intro L x u hL hd hJ
      have HJ := hid (ordJ_skip (k := 5) (by rfl) hJ)
      clear hJ hd hL
      go_simp
      exact ⟨rfl, HJ.out⟩
    simp only [Act.put, List.setIfInBounds_toArray, List.set_cons_succ, List.set_cons_zero]
    apply jj_fun (by decide)
    · intro L x u hL hd hJ
      have c0 : u.cell? ⟨bx, 6, none⟩ = some (.slice s.la V.le.length s.lc) := (cell_of (hJ.1.block HBA.out) 6).trans rfl
      have HJ := hid (ordJ_skip (k := 6) (by rfl) hJ)
      clear hJ hd hL
      go_simp
      exact ⟨rfl, HJ.out⟩
    simp only [Act.put, List.setIfInBounds_toArray, List.set_cons_succ, List.set_cons_zero]
    apply jj_fun (by decide)
    · intro L x u hL hd hJ
      have HJ := hid (ordJ_skip (k := 7) (by rfl) hJ)
      clear hJ hd hL
      go_simp
      exact ⟨rfl, HJ.out⟩
    simp only [Act.put, List.setIfInBounds_toArray, List.set_cons_succ, List.set_cons_zero]
    apply jj_fun (by decide)
    · intro L x u hL hd hJ
      have c0 : u.cell? ⟨bx + 1, 1, none⟩ = some (.int .i64 n1) := (cell_of (hJ.1.block HBN.out) 1).trans rfl
      have HJ := hid (ordJ_skip (k := 8) (by rfl) hJ)
      clear hJ hd hL
      go_simp
      exact ⟨rfl, HJ.out⟩
    simp only [Act.put, List.setIfInBounds_toArray, List.set_cons_succ, List.set_cons_zero]
    refine jj_inv (by decide) ?_ ?_
    · intro L x u hL hd hJ
      rw [if_pos (show Region.wanted _ _ = true from rfl)]
      exact gives_callJ (vs := #[.slice s.la V.le.length s.lc, .int .i64 n1]) rfl Tryz.func36 (by kernel_rfl) rfl (by simp only [List.map_toArray, List.map_cons, List.map_nil]; rfl) ((HR1.out u hJ.1).mono fun e w'' ⟨r, he, hx, hrow, hown⟩ => ⟨r, he, ordJ_call9 hJ hL hx (by rw [rndL_len]; exact hrow.out) hown⟩)
    simp only [Act.put, List.setIfInBounds_toArray, List.set_cons_succ, List.set_cons_zero]
    apply jj_fun (by decide)
    · intro L x u hL hd hJ
      have HJ := hid (ordJ_skip (k := 10) (by rfl) hJ)
      clear hJ hd hL
      go_simp
      exact ⟨rfl, HJ.out⟩
    simp only [Act.put, List.setIfInBounds_toArray, List.set_cons_succ, List.set_cons_zero]
    apply jj_fun (by decide)
    · intro L x u hL hd hJ
      have c0 : u.cell? ⟨bx, 7, none⟩ = some (.slice s.ha V.ha.length s.hc) := (cell_of (hJ.1.block HBA.out) 7).trans rfl
      have HJ := hid (ordJ_skip (k := 11) (by rfl) hJ)
      clear hJ hd hL
      go_simp
      exact ⟨rfl, HJ.out⟩
    simp only [Act.put, List.setIfInBounds_toArray, List.set_cons_succ, List.set_cons_zero]
    apply jj_fun (by decide)
    · intro L x u hL hd hJ
      have HJ := hid (ordJ_skip (k := 12) (by rfl) hJ)
      clear hJ hd hL
      go_simp
      exact ⟨rfl, HJ.out⟩
    simp only [Act.put, List.setIfInBounds_toArray, List.set_cons_succ, List.set_cons_zero]
    apply jj_fun (by decide)
    · intro L x u hL hd hJ
      have c0 : u.cell? ⟨bx + 1, 2, none⟩ = some (.int .i64 n2) := (cell_of (hJ.1.block HBN.out) 2).trans rfl
      have HJ := hid (ordJ_skip (k := 13) (by rfl) hJ)
      clear hJ hd hL
      go_simp
      exact ⟨rfl, HJ.out⟩
    simp only [Act.put, List.setIfInBounds_toArray, List.set_cons_succ, List.set_cons_zero]
    refine jj_inv (by decide) ?_ ?_
    · intro L x u hL hd hJ
      rw [if_pos (show Region.wanted _ _ = true from rfl)]
      exact gives_callJ (vs := #[.slice s.ha V.ha.length s.hc, .int .i64 n2]) rfl Tryz.func36 (by kernel_rfl) rfl (by simp only [List.map_toArray, List.map_cons, List.map_nil]; rfl) ((HR2.out u hJ.1).mono fun e w'' ⟨r, he, hx, hrow, hown⟩ => ⟨r, he, ordJ_call14 hJ hL hx (by rw [rndL_len]; exact hrow.out) hown⟩)
    simp only [Act.put, List.setIfInBounds_toArray, List.set_cons_succ, List.set_cons_zero]
    apply jj_fun (by decide)
    · intro L x u hL hd hJ
      have HJ := hid (ordJ_skip (k := 15) (by rfl) hJ)
      clear hJ hd hL
      go_simp
      exact ⟨rfl, HJ.out⟩
    simp only [Act.put, List.setIfInBounds_toArray, List.set_cons_succ, List.set_cons_zero]
    refine jj_fun (v := undef) (by decide) ?_ ?_
    · intro L x u hL hd hJ
      have h4 : L 4 = true := hd.2.1 rfl
      have HJ := hid (ordJ_store16 hJ h4)
      have c0 : u.cell? ⟨b7, 5, none⟩ = some (.slice s.oa V.ow.length s.oc) := by
        have hb := hJ.2.2.1
        rw [hL] at hb
        exact (cell_of hb 5).trans rfl
      have fb := free_of hJ.2.2.1
      obtain ⟨qa, qc, hq⟩ := (hJ.2.2.2.1.1 h4).1.isSliceN
      rw [hq] at HJ
      clear hJ hd hL h4
      simp only [hq]
      go_simp
      exact HJ.out
    simp only [Act.put, List.setIfInBounds_toArray, List.set_cons_succ, List.set_cons_zero]
    apply jj_fun (by decide)
    · intro L x u hL hd hJ
      have HJ := hid (ordJ_skip (k := 17) (by rfl) hJ)
      clear hJ hd hL
      go_simp
      exact ⟨rfl, HJ.out⟩
    simp only [Act.put, List.setIfInBounds_toArray, List.set_cons_succ, List.set_cons_zero]
    refine jj_fun (v := undef) (by decide) ?_ ?_
    · intro L x u hL hd hJ
      have h9 : L 9 = true := hd.2.1 rfl
      have HJ := hid (ordJ_store18 hJ h9)
      have c0 : u.cell? ⟨b7, 6, none⟩ = some (.slice s.la V.le.length s.lc) := by
        have hb := hJ.2.2.1
        rw [hL] at hb
        exact (cell_of hb 6).trans rfl
      have fb := free_of hJ.2.2.1
      obtain ⟨qa, qc, hq⟩ := (hJ.2.2.2.1.2.1 h9).1.isSliceN
      rw [hq] at HJ
      clear hJ hd hL h9
      simp only [hq]
      go_simp
      exact HJ.out
    simp only [Act.put, List.setIfInBounds_toArray, List.set_cons_succ, List.set_cons_zero]
    apply jj_fun (by decide)
    · intro L x u hL hd hJ
      have HJ := hid (ordJ_skip (k := 19) (by rfl) hJ)
      clear hJ hd hL
      go_simp
      exact ⟨rfl, HJ.out⟩
    simp only [Act.put, List.setIfInBounds_toArray, List.set_cons_succ, List.set_cons_zero]
    refine jj_fun (v := undef) (by decide) ?_ ?_
    · intro L x u hL hd hJ
      have h14 : L 14 = true := hd.2.1 rfl
      have HJ := hid (ordJ_store20 hJ h14)
      have c0 : u.cell? ⟨b7, 7, none⟩ = some (.slice s.ha V.ha.length s.hc) := by
        have hb := hJ.2.2.1
        rw [hL] at hb
        exact (cell_of hb 7).trans rfl
      have fb := free_of hJ.2.2.1
      obtain ⟨qa, qc, hq⟩ := (hJ.2.2.2.1.2.2 h14).1.isSliceN
      rw [hq] at HJ
      clear hJ hd hL h14
      simp only [hq]
      go_simp
      exact HJ.out
    simp only [Act.put, List.setIfInBounds_toArray, List.set_cons_succ, List.set_cons_zero]
    refine jj_nil fun L x u5 hall hJ => ?_
    obtain ⟨k1, k2, k3, k4, k5⟩ := hJ
    rw [hall 16 (by omega), hall 18 (by omega), hall 20 (by omega)] at k3
    have q0 := k4.1 (hall 4 (by omega))
    have q1 := k4.2.1 (hall 9 (by omega))
    have q2 := k4.2.2 (hall 14 (by omega))
    clear k4 k5 hall
    generalize x 4 = y4 at *
    generalize x 9 = y9 at *
    generalize x 14 = y14 at *
    clear x L
    have f0 := q0.1
    have f1 := q1.1
    have f2 := q2.1
    rw [rndL_len] at f0 f1 f2
    obtain ⟨oa, oc, rfl⟩ := f0.isSliceN
    obtain ⟨la, lc, rfl⟩ := f1.isSliceN
    obtain ⟨ha, hc, rfl⟩ := f2.isSliceN
    have hs0 : u5.heap[b7]? = some (.cells (ordC V (.slice s.ca V.cs.length s.cc) (.slice oa V.ow.length oc) (.slice la V.le.length lc) (.slice ha V.ha.length hc) (.slice s.xa V.lo.length s.xc)) 32 (0, 0)) := k3
    have hs1 : (u5.setCell ⟨b7, 8, none⟩ (.slice none 0 0)).heap[b7]? = some (.cells (ordC V (.slice s.ca V.cs.length s.cc) (.slice oa V.ow.length oc) (.slice la V.le.length lc) (.slice ha V.ha.length hc) (.slice none 0 0)) 32 (0, 0)) := set_same hs0 8 (.slice none 0 0)
    have hs2 : ((u5.setCell ⟨b7, 8, none⟩ (.slice none 0 0)).setCell ⟨b7, 1, none⟩ (.slice none 0 0)).heap[b7]? = some (.cells (ordC V (.slice none 0 0) (.slice oa V.ow.length oc) (.slice la V.le.length lc) (.slice ha V.ha.length hc) (.slice none 0 0)) 32 (0, 0)) := set_same hs1 1 (.slice none 0 0)
    have z8 := free_of hs0 8
    have z1 := free_of hs1 1
    have c8 : u5.cell? ⟨b7, 8, none⟩ = some (.slice s.xa V.lo.length s.xc) := (cell_of hs0 8).trans rfl
    have c1 : (u5.setCell ⟨b7, 8, none⟩ (.slice none 0 0)).cell? ⟨b7, 1, none⟩ = some (.slice s.ca V.cs.length s.cc) := (cell_of hs1 1).trans rfl
    have hkm : KM b7 u5 ((u5.setCell ⟨b7, 8, none⟩ (.slice none 0 0)).setCell ⟨b7, 1, none⟩ (.slice none 0 0)) := ((KM.refl _ _).cell_set _ _).cell_set _ _
    have HXR : Hid (Ext w2 ((u5.setCell ⟨b7, 8, none⟩ (.slice none 0 0)).setCell ⟨b7, 1, none⟩ (.slice none 0 0))) := hid ((k1.set HB7.out _ _).set HB7.out _ _)
    have HBR := hid hs2
    have HLR : Hid (b7 < ((u5.setCell ⟨b7, 8, none⟩ (.slice none 0 0)).setCell ⟨b7, 1, none⟩ (.slice none 0 0)).heap.size) := hid (Nat.lt_of_lt_of_le k2.2 hkm.1)
    have HQ0 := hid (q0.km hkm)
    have HQ1 := hid (q1.km hkm)
    have HQ2 := hid (q2.km hkm)
    clear hs0 hs1 hs2 hkm q0 q1 q2 f0 f1 f2 k1 k2 k3
    gi_upto_region 7 with fail
    clear c8 c1 z8 z1
    generalize (u5.setCell ⟨b7, 8, none⟩ (.slice none 0 0)).setCell ⟨b7, 1, none⟩ (.slice none 0 0) = wR at *
    clear u5
    have HLT : Hid (∀ k, k < V.lo.length → lnF ((ordV V n0 n1 n2 n3).lo.take (k + 1)) = lnF ((ordV V n0 n1 n2 n3).lo.take k) ++ lnC (V.lo.getD (rixF (modI n3 V.lo.length).toNat V.lo.length k) noLn)) := hid (fun k hk => ordV_lo V n0 n1 n2 n3 hk)
    have HMI := hid (fun (k : Nat) (hk : k < V.lo.length) => (show ∃ f : Nat, modI n3 V.lo.length = f ∧ f < V.lo.length ∧ (modI n3 V.lo.length).toNat = f from by
      have := modI_ok n3 (m := (V.lo.length : Int)) (by omega)
      exact ⟨(modI n3 V.lo.length).toNat, by omega, by omega, rfl⟩))
    have HM1 := hid (fun (k : Nat) (hk : k < V.lo.length) (u : World) => mod_any n3 V.lo.length u (by have := HLB.out.1; omega))
    gi_wp2_with fail
    gi_loopw [8] (fun i wr => ∃ k : Nat, k ≤ V.lo.length ∧ i = .int .i64 k ∧ Hid (∃ v, Ext w2 wr ∧ KM b7 wR wr ∧ wr.heap[b7]? = some (.cells (ordC V (.slice none 0 0) (.slice oa V.ow.length oc) (.slice la V.le.length lc) (.slice ha V.ha.length hc) v) 32 (0, 0)) ∧ Row wr 59 4 v k (lnF ((ordV V n0 n1 n2 n3).lo.take k)) ∧ ∀ g, v.ownBlock = some g → wR.heap.size ≤ g)) (fun i _ => V.lo.length - (intOf i).toNat)
    case atStart => exact ⟨0, Nat.zero_le _, rfl, hid ⟨_, HXR.out, KM.refl _ _, HBR.out, by simpa [lnF] using Row.nil wR 59 4, fun g hg => by simp [Value.ownBlock] at hg⟩⟩
    case round =>
      obtain ⟨k, hk, rfl, HI⟩ := hrel
      obtain ⟨v, i1, i2, i3, i4, i5⟩ := HI.out
      obtain ⟨va, vc, rfl⟩ := i4.isSliceN
      have HI1 := hid i1
      have HI2 := hid i2
      have HI3 := hid i3
      have HI4 := hid i4
      have HI5 := hid i5
      clear HI i1 i2 i3 i4 i5
      have cX : wr.cell? ⟨bx, 8, none⟩ = some (.slice s.xa V.lo.length s.xc) := (cell_of (HI1.out.block HBA.out) 8).trans rfl
      by_cases hlt : k < V.lo.length
      · have hki : (k : Int) < (V.lo.length : Int) := by omega
        obtain ⟨f, hf1, hf2, hf3⟩ := HMI.out k hlt
        have HM1 := hid (fun (u : World) => HM1.out k hlt u)
        rw [hf1] at HM1
        have hjm := rix_mod hf2 hlt
        have hjl := rix_lt hf2 hlt
        have hlen := HLB.out.1
        have HM2 := hid (fun (u : World) => mod_any ((f : Int) - (k : Int)) V.lo.length u (by omega))
        rw [hjm] at HM2
        have HN2 := hid (HLT.out k hlt)
        rw [hf3] at HN2
        rw [getD_of hjl] at HN2
        obtain ⟨xa', xc', exl, ⟨hxc, _⟩, hcl⟩ := HLO.out
        cases exl
        obtain ⟨lb, lo, hsx, hlb, e0, e1, e2, e3⟩ := hcl _ hjl
        rw [hsx] at cX
        generalize rixF f V.lo.length k = j at *
        generalize V.lo[j] = z at *
        have HCL := hid (And.intro e0 (And.intro e1 (And.intro e2 e3)))
        have HLBB := hid hlb
        have hji : (j : Int) < (V.lo.length : Int) := by omega
        have hbA : -1000000 ≤ (f : Int) - (k : Int) ∧ (f : Int) - (k : Int) ≤ 1000000 := by omega
        have hbC : -1000000 ≤ (k : Int) + 1 ∧ (k : Int) + 1 ≤ 1000000 := by omega
        have HSX := hid hsx
        have HKB := hid (And.intro hlt hlen)
        have HBL : Bld w2 wR wr b7 59 4 (.slice va k vc) k (lnF ((ordV V n0 n1 n2 n3).lo.take k)) false undef 1 (lnC z) := ⟨HI1.out, HI2.out, ⟨HB7.out, HLR.out⟩, HI4.out, HI5.out, fun h => (by cases h)⟩
        have HST : bldJ w2 wR b7 59 4 18 19 21 1 (fun y => ordC V (.slice none 0 0) (.slice oa V.ow.length oc) (.slice la V.le.length lc) (.slice ha V.ha.length hc) y) 32 (.slice va k vc) k (lnF ((ordV V n0 n1 n2 n3).lo.take k)) 1 (lnC z) (fun _ => false) (fun _ => undef) { wr with drawn := wr.drawn + 1 } := bldJ_start HBL HI3.out
        clear hcl e0 e1 e2 e3 hlb hf1 hf3 hjm HMI HLT HBL hf2 hjl hlen hsx
        have hwA := wr64 hbA.1 hbA.2
        have hwB := wrik hbA.1 hbA.2
        have hwC := wr64 hbC.1 hbC.2
        have hwD := wrik hbC.1 hbC.2
        clear hbA hbC
        gi_upto_region 10 with fail
        clear cX
        refine jj_own 22 [18, 19] _ (by kernel_rfl) (by kernel_rfl) HST ?_
        simp only [List.take_succ_cons, List.take_zero, List.drop_succ_cons, List.drop_zero]
        clear HST
        apply jj_fun (by decide)
        · intro L x u hL hd hJ
          have HJ := hid (bldJ_skip (k := 0) (by rfl) hJ)
          clear hJ hd hL
          go_simp
          exact ⟨rfl, HJ.out⟩
        simp only [Act.put, List.setIfInBounds_toArray, List.set_cons_succ, List.set_cons_zero]
        apply jj_fun (by decide)
        · intro L x u hL hd hJ
          have c0 : u.cell? ⟨b7, 8, none⟩ = some (.slice va k vc) := (cell_of (bldJ_load hJ hL) 8).trans rfl
          have HJ := hid (bldJ_skip (k := 1) (by rfl) hJ)
          clear hJ hd hL
          go_simp
          exact ⟨rfl, HJ.out⟩
        simp only [Act.put, List.setIfInBounds_toArray, List.set_cons_succ, List.set_cons_zero]
        apply jj_fun (by decide)
        · intro L x u hL hd hJ
          have HJ := hid (bldJ_skip (k := 2) (by rfl) hJ)
          clear hJ hd hL
          go_simp
          exact ⟨rfl, HJ.out⟩
        simp only [Act.put, List.setIfInBounds_toArray, List.set_cons_succ, List.set_cons_zero]
        apply jj_fun (by decide)
        · intro L x u hL hd hJ
          have c0 : u.cell? ⟨bx, 8, none⟩ = some (.slice (some ⟨lb, lo, none⟩) V.lo.length s.xc) := by
            have := (cell_of (hJ.1.ext.block HBA.out) 8).trans rfl
            rw [this]; exact congrArg (fun a => some (Value.slice a V.lo.length s.xc)) HSX.out
          have HJ := hid (bldJ_skip (k := 3) (by rfl) hJ)
          clear hJ hd hL
          go_simp
          exact ⟨rfl, HJ.out⟩
        simp only [Act.put, List.setIfInBounds_toArray, List.set_cons_succ, List.set_cons_zero]
        apply jj_fun (by decide)
        · intro L x u hL hd hJ
          have HJ := hid (bldJ_skip (k := 4) (by rfl) hJ)
          clear hJ hd hL
          go_simp
          exact ⟨rfl, HJ.out⟩
        simp only [Act.put, List.setIfInBounds_toArray, List.set_cons_succ, List.set_cons_zero]
        apply jj_fun (by decide)
        · intro L x u hL hd hJ
          have c0 : u.cell? ⟨bx + 1, 3, none⟩ = some (.int .i64 n3) := (cell_of (hJ.1.ext.block HBN.out) 3).trans rfl
          have HJ := hid (bldJ_skip (k := 5) (by rfl) hJ)
          clear hJ hd hL
          go_simp
          exact ⟨rfl, HJ.out⟩
        simp only [Act.put, List.setIfInBounds_toArray, List.set_cons_succ, List.set_cons_zero]
        apply jj_fun (by decide)
        · intro L x u hL hd hJ
          have HJ := hid (bldJ_skip (k := 6) (by rfl) hJ)
          clear hJ hd hL
          go_simp
          exact ⟨rfl, HJ.out⟩
        simp only [Act.put, List.setIfInBounds_toArray, List.set_cons_succ, List.set_cons_zero]
        apply jj_fun (by decide)
        · intro L x u hL hd hJ
          have c0 : u.cell? ⟨bx, 8, none⟩ = some (.slice (some ⟨lb, lo, none⟩) V.lo.length s.xc) := by
            have := (cell_of (hJ.1.ext.block HBA.out) 8).trans rfl
            rw [this]; exact congrArg (fun a => some (Value.slice a V.lo.length s.xc)) HSX.out
          have HJ := hid (bldJ_skip (k := 7) (by rfl) hJ)
          clear hJ hd hL
          go_simp
          exact ⟨rfl, HJ.out⟩
        simp only [Act.put, List.setIfInBounds_toArray, List.set_cons_succ, List.set_cons_zero]
        apply jj_fun (by decide)
        · intro L x u hL hd hJ
          have HJ := hid (bldJ_skip (k := 8) (by rfl) hJ)
          clear hJ hd hL
          go_simp
          exact ⟨rfl, HJ.out⟩
        simp only [Act.put, List.setIfInBounds_toArray, List.set_cons_succ, List.set_cons_zero]
        refine jj_fun (v := .int .i64 f) (by decide) ?_ ?_
        · intro L x u hL hd hJ
          rw [if_pos (show Region.wanted _ _ = true from rfl)]
          exact gives_callJ (vs := #[.int .i64 n3, .int .i64 (V.lo.length : Int)]) rfl Tryz.func32 (by kernel_rfl) rfl (by simp only [List.map_toArray, List.map_cons, List.map_nil]; rfl) ((HM1.out u).mono fun e w'' ⟨he, hw⟩ => ⟨_, he, rfl, by rw [← hw]; exact bldJ_skip (by rfl) hJ⟩)
        simp only [Act.put, List.setIfInBounds_toArray, List.set_cons_succ, List.set_cons_zero]
        apply jj_fun (by decide)
        · intro L x u hL hd hJ
          have HJ := hid (bldJ_skip (k := 10) (by rfl) hJ)
          clear hJ hd hL
          go_simp
          exact ⟨rfl, HJ.out⟩
        simp only [Act.put, List.setIfInBounds_toArray, List.set_cons_succ, List.set_cons_zero]
        apply jj_fun (by decide)
        · intro L x u hL hd hJ
          have HJ := hid (bldJ_skip (k := 11) (by rfl) hJ)
          clear hJ hd hL
          go_simp
          exact ⟨rfl, HJ.out⟩
        simp only [Act.put, List.setIfInBounds_toArray, List.set_cons_succ, List.set_cons_zero]
        apply jj_fun (by decide)
        · intro L x u hL hd hJ
          have HJ := hid (bldJ_skip (k := 12) (by rfl) hJ)
          clear hJ hd hL
          go_simp
          exact ⟨rfl, HJ.out⟩
        simp only [Act.put, List.setIfInBounds_toArray, List.set_cons_succ, List.set_cons_zero]
        apply jj_fun (by decide)
        · intro L x u hL hd hJ
          have c0 : u.cell? ⟨bx, 8, none⟩ = some (.slice (some ⟨lb, lo, none⟩) V.lo.length s.xc) := by
            have := (cell_of (hJ.1.ext.block HBA.out) 8).trans rfl
            rw [this]; exact congrArg (fun a => some (Value.slice a V.lo.length s.xc)) HSX.out
          have HJ := hid (bldJ_skip (k := 13) (by rfl) hJ)
          clear hJ hd hL
          go_simp
          exact ⟨rfl, HJ.out⟩
        simp only [Act.put, List.setIfInBounds_toArray, List.set_cons_succ, List.set_cons_zero]
        apply jj_fun (by decide)
        · intro L x u hL hd hJ
          have HJ := hid (bldJ_skip (k := 14) (by rfl) hJ)
          clear hJ hd hL
          go_simp
          exact ⟨rfl, HJ.out⟩
        simp only [Act.put, List.setIfInBounds_toArray, List.set_cons_succ, List.set_cons_zero]
        refine jj_fun (v := .int .i64 j) (by decide) ?_ ?_
        · intro L x u hL hd hJ
          rw [if_pos (show Region.wanted _ _ = true from rfl)]
          exact gives_callJ (vs := #[.int .i64 ((f : Int) - (k : Int)), .int .i64 (V.lo.length : Int)]) rfl Tryz.func32 (by kernel_rfl) rfl (by simp only [List.map_toArray, List.map_cons, List.map_nil]; rfl) ((HM2.out u).mono fun e w'' ⟨he, hw⟩ => ⟨_, he, rfl, by rw [← hw]; exact bldJ_skip (by rfl) hJ⟩)
        simp only [Act.put, List.setIfInBounds_toArray, List.set_cons_succ, List.set_cons_zero]
        apply jj_fun (by decide)
        · intro L x u hL hd hJ
          have HJ := hid (bldJ_skip (k := 16) (by rfl) hJ)
          clear hJ hd hL
          go_simp
          exact ⟨rfl, HJ.out⟩
        simp only [Act.put, List.setIfInBounds_toArray, List.set_cons_succ, List.set_cons_zero]
        apply jj_fun (by decide)
        · intro L x u hL hd hJ
          have hc0 := HCL.out
          rw [← hJ.1.ext.cell (p := ⟨lb, _, none⟩) HLBB.out, ← hJ.1.ext.cell (p := ⟨lb, _, none⟩) HLBB.out, ← hJ.1.ext.cell (p := ⟨lb, _, none⟩) HLBB.out, ← hJ.1.ext.cell (p := ⟨lb, _, none⟩) HLBB.out] at hc0
          obtain ⟨d0, d1, d2, d3⟩ := hc0
          have HJ := hid (bldJ_skip (k := 17) (by rfl) hJ)
          clear hJ hd hL
          go_simp
          exact ⟨rfl, HJ.out⟩
        simp only [Act.put, List.setIfInBounds_toArray, List.set_cons_succ, List.set_cons_zero]
        refine jj_inv (by decide) ?_ ?_
        · intro L x u hL hd hJ
          have HJ := hid (bldJ_make (by rfl) hJ hL (cs := #[.string z.f, .string z.g, .int .i64 z.n, .int .i64 z.r]) rfl)
          clear hJ hd hL
          go_simp
          exact HJ.out
        simp only [Act.put, List.setIfInBounds_toArray, List.set_cons_succ, List.set_cons_zero]
        refine jj_inv (by decide) ?_ ?_
        · intro L x u hL hd hJ
          obtain ⟨i, hi, hz0, hz1, hz2⟩ := info_parts info59
          obtain ⟨v', u', h1, h2⟩ := bldJ_app (t := 30) (ty' := 30) (by rfl) hJ (hd.2.1 rfl) hL Tryz.underlying30 hi hz0 hz1 hz2 (by simp [Value.cells]) (by omega) (by omega) (by rfl) (fun u hu => by simp [lnC] at hu; rcases hu with rfl | rfl | rfl | rfl <;> rfl) (by have := HKB.out; omega) (by omega)
          rw [if_pos (show Region.wanted _ _ = true from rfl)]
          exact gives_append (.tmp 63) (.tmp 80) 30 rfl rfl rfl h1 ⟨h2, trivial⟩
        simp only [Act.put, List.setIfInBounds_toArray, List.set_cons_succ, List.set_cons_zero]
        apply jj_fun (by decide)
        · intro L x u hL hd hJ
          have HJ := hid (bldJ_skip (k := 20) (by rfl) hJ)
          clear hJ hd hL
          go_simp
          exact ⟨rfl, HJ.out⟩
        simp only [Act.put, List.setIfInBounds_toArray, List.set_cons_succ, List.set_cons_zero]
        refine jj_fun (v := undef) (by decide) ?_ ?_
        · intro L x u hL hd hJ
          have h19 : L 19 = true := hd.2.1 rfl
          have h1 : L 1 = true := hd.2.2.2.2.1 rfl
          have HJ := hid (bldJ_store (by rfl) hJ h19 h1 (off := 8) (fun y z => rfl))
          have c0 : u.cell? ⟨b7, 8, none⟩ = some (.slice va k vc) := (cell_of (bldJ_old hJ hL) 8).trans rfl
          obtain ⟨qa, qc, hq⟩ := bldJ_row hJ h19
          have fb := free_of (bldJ_old hJ hL)
          rw [hq] at HJ
          clear hJ hd hL h19 h1
          simp only [hq]
          go_simp
          exact HJ.out
        simp only [Act.put, List.setIfInBounds_toArray, List.set_cons_succ, List.set_cons_zero]
        refine jj_nil fun L x u8 hall hJ => ?_
        obtain ⟨m1, m2⟩ := bldJ_end hJ (hall 19 (by omega)) (hall 21 (by omega))
        clear hJ hall
        have HM := hid (And.intro m1.ext (And.intro m1.km (And.intro m2 (And.intro m1.row m1.own))))
        clear m1 m2
        generalize x 18 = y18 at *
        generalize x 19 = y19 at *
        clear x L
        gi_wp2_with fail
        go_roundw
        case rel => exact ⟨k + 1, HKB.out.1, by go_num, hid ⟨y19, HM.out.1, HM.out.2.1, HM.out.2.2.1, by rw [HN2.out]; exact HM.out.2.2.2.1, HM.out.2.2.2.2⟩⟩
        case measure => simp [intOf]; have := HKB.out.1; omega
      · obtain rfl : k = V.lo.length := by omega
        have hki : ¬ (V.lo.length : Int) < (V.lo.length : Int) := by omega
        gi_upto_region 11 with fail
        clear cX
        have HXQ := hid HI1.out
        have HBQ := hid HI3.out
        have HQ0 := hid (HQ0.out.km HI2.out)
        have HQ1 := hid (HQ1.out.km HI2.out)
        have HQ2 := hid (HQ2.out.km HI2.out)
        have HLQ : Hid (b7 < wr.heap.size) := hid (Nat.lt_of_lt_of_le HLR.out HI2.out.1)
        have HQ3 : Hid (Row wr 59 4 (.slice va V.lo.length vc) V.lo.length (lnF (ordV V n0 n1 n2 n3).lo) ∧ ∀ g, (Value.slice va V.lo.length vc).ownBlock = some g → g ≠ b7) := hid ⟨by
          have e : (ordV V n0 n1 n2 n3).lo.take V.lo.length = (ordV V n0 n1 n2 n3).lo := List.take_of_length_le (by simp [ordV])
          have := HI4.out; rw [e] at this; exact this, fun g hg => by have := HI5.out g hg; have := HLR.out; omega⟩
        clear HI1 HI2 HI3 HI4 HI5 HLT HMI HM1 HXR HBR HLR hki hk hlt
        obtain ⟨wQ, rfl⟩ : ∃ wQ, wQ = wr := ⟨wr, rfl⟩
        have cX : wQ.cell? ⟨bx, 1, none⟩ = some (.slice s.ca V.cs.length s.cc) := (cell_of (HXQ.out.block HBA.out) 1).trans rfl
        have hcl := HLB.out.2
        have hbA : -1000000 ≤ (V.cs.length : Int) - 1 ∧ (V.cs.length : Int) - 1 ≤ 1000000 := by omega
        have hw1 := wr64 hbA.1 hbA.2
        have hw2 := wrik hbA.1 hbA.2
        clear hbA
        have HCL := hid hcl
        clear hcl
        gi_wp2_with fail
        clear cX hw1 hw2
        gi_loopw [9] (fun i wr => (∃ q : Nat, q < V.cs.length ∧ i = .int .i64 q ∧ Hid (CostS V w2 wQ b7 (.slice oa V.ow.length oc) (.slice la V.le.length lc) (.slice ha V.ha.length hc) (.slice va V.lo.length vc) (V.cs.length - 1 - q) wr)) ∨ (i = .int .i64 (-1) ∧ Hid (CostS V w2 wQ b7 (.slice oa V.ow.length oc) (.slice la V.le.length lc) (.slice ha V.ha.length hc) (.slice va V.lo.length vc) V.cs.length wr))) (fun i _ => (intOf i + 1).toNat)
        case atStart =>
          have h0 : CostS V w2 wQ b7 (.slice oa V.ow.length oc) (.slice la V.le.length lc) (.slice ha V.ha.length hc) (.slice va V.lo.length vc) 0 wQ := ⟨_, HXQ.out, KM.refl _ _, HBQ.out, by simpa [intsV] using Row.nil wQ 3 1, fun g hg => by simp [Value.ownBlock] at hg⟩
          by_cases hz : V.cs.length = 0
          · right
            exact ⟨by rw [hz]; rfl, hid (by rw [hz]; exact h0)⟩
          · left
            exact ⟨V.cs.length - 1, by omega, by rw [show ((V.cs.length - 1 : Nat) : Int) = (V.cs.length : Int) - 1 by omega], hid (by rw [show V.cs.length - 1 - (V.cs.length - 1) = 0 by omega]; exact h0)⟩
        case round =>
          rcases hrel with ⟨q, hq, rfl, HI⟩ | ⟨rfl, HI⟩
          · obtain ⟨v, i1, i2, i3, i4, i5⟩ := HI.out
            obtain ⟨ua, uc, rfl⟩ := i4.isSliceN
            have HI1 := hid i1
            have HI2 := hid i2
            have HI3 := hid i3
            have HI4 := hid i4
            have HI5 := hid i5
            clear HI i1 i2 i3 i4 i5
            have HN2 := hid (rev_succ hq)
            obtain ⟨ca', cc', ecl, ⟨hcc, _⟩, hcl⟩ := HCS.out
            cases ecl
            obtain ⟨cb, co, hsc, hcb, e0⟩ := hcl _ hq
            generalize V.cs[q] = z at *
            have HKQ := hid (And.intro hq HCL.out)
            have HCE := hid (And.intro e0 hcb)
            have HSX := hid hsc
            obtain ⟨kk, hkk⟩ : ∃ kk, kk = V.cs.length - 1 - q := ⟨_, rfl⟩
            rw [← hkk] at HI4 HI5 HN2
            have HKK := hid hkk
            have HBL : Bld w2 wQ wr b7 3 1 (.slice ua kk uc) kk (intsV (V.cs.reverse.take kk)) false undef 1 [.int .i64 z] := ⟨HI1.out, HI2.out, ⟨HB7.out, HLQ.out⟩, HI4.out, HI5.out, fun h => (by cases h)⟩
            have HST : bldJ w2 wQ b7 3 1 7 8 10 1 (fun y => ordC V y (.slice oa V.ow.length oc) (.slice la V.le.length lc) (.slice ha V.ha.length hc) (.slice va V.lo.length vc)) 32 (.slice ua kk uc) kk (intsV (V.cs.reverse.take kk)) 1 [.int .i64 z] (fun _ => false) (fun _ => undef) { wr with drawn := wr.drawn + 1 } := bldJ_start HBL (by rw [hkk]; exact HI3.out)
            have hqi : (q : Int) < (V.cs.length : Int) := by omega
            have hbA : -1000000 ≤ (q : Int) - 1 ∧ (q : Int) - 1 ≤ 1000000 := by have := HCL.out; omega
            clear hcl e0 hcb HBL hsc hkk
            have hwA := wr64 hbA.1 hbA.2
            have hwB := wrik hbA.1 hbA.2
            clear hbA
            gi_upto_region 14 with fail
            refine jj_own 11 [7, 8] _ (by kernel_rfl) (by kernel_rfl) HST ?_
            simp only [List.take_succ_cons, List.take_zero, List.drop_succ_cons, List.drop_zero]
            clear HST
            apply jj_fun (by decide)
            · intro L x u hL hd hJ
              have HJ := hid (bldJ_skip (k := 0) (by rfl) hJ)
              clear hJ hd hL
              go_simp
              exact ⟨rfl, HJ.out⟩
            simp only [Act.put, List.setIfInBounds_toArray, List.set_cons_succ, List.set_cons_zero]
            apply jj_fun (by decide)
            · intro L x u hL hd hJ
              have c0 : u.cell? ⟨b7, 1, none⟩ = some (.slice ua kk uc) := (cell_of (bldJ_load hJ hL) 1).trans rfl
              have HJ := hid (bldJ_skip (k := 1) (by rfl) hJ)
              clear hJ hd hL
              go_simp
              exact ⟨rfl, HJ.out⟩
            simp only [Act.put, List.setIfInBounds_toArray, List.set_cons_succ, List.set_cons_zero]
            apply jj_fun (by decide)
            · intro L x u hL hd hJ
              have HJ := hid (bldJ_skip (k := 2) (by rfl) hJ)
              clear hJ hd hL
              go_simp
              exact ⟨rfl, HJ.out⟩
            simp only [Act.put, List.setIfInBounds_toArray, List.set_cons_succ, List.set_cons_zero]
            apply jj_fun (by decide)
            · intro L x u hL hd hJ
              have c0 : u.cell? ⟨bx, 1, none⟩ = some (.slice (some ⟨cb, co, none⟩) V.cs.length s.cc) := by
                have := (cell_of (hJ.1.ext.block HBA.out) 1).trans rfl
                rw [this]; exact congrArg (fun a => some (Value.slice a V.cs.length s.cc)) HSX.out
              have HJ := hid (bldJ_skip (k := 3) (by rfl) hJ)
              clear hJ hd hL
              go_simp
              exact ⟨rfl, HJ.out⟩
            simp only [Act.put, List.setIfInBounds_toArray, List.set_cons_succ, List.set_cons_zero]
            apply jj_fun (by decide)
            · intro L x u hL hd hJ
              have HJ := hid (bldJ_skip (k := 4) (by rfl) hJ)
              clear hJ hd hL
              go_simp
              exact ⟨rfl, HJ.out⟩
            simp only [Act.put, List.setIfInBounds_toArray, List.set_cons_succ, List.set_cons_zero]
            apply jj_fun (by decide)
            · intro L x u hL hd hJ
              have HJ := hid (bldJ_skip (k := 5) (by rfl) hJ)
              clear hJ hd hL
              go_simp
              exact ⟨rfl, HJ.out⟩
            simp only [Act.put, List.setIfInBounds_toArray, List.set_cons_succ, List.set_cons_zero]
            apply jj_fun (by decide)
            · intro L x u hL hd hJ
              have d0 := HCE.out.1
              rw [← hJ.1.ext.cell (p := ⟨cb, _, none⟩) HCE.out.2] at d0
              have HJ := hid (bldJ_skip (k := 6) (by rfl) hJ)
              clear hJ hd hL
              go_simp
              exact ⟨rfl, HJ.out⟩
            simp only [Act.put, List.setIfInBounds_toArray, List.set_cons_succ, List.set_cons_zero]
            refine jj_inv (by decide) ?_ ?_
            · intro L x u hL hd hJ
              have HJ := hid (bldJ_make (by rfl) hJ hL (cs := #[.int .i64 z]) rfl)
              clear hJ hd hL
              go_simp
              exact HJ.out
            simp only [Act.put, List.setIfInBounds_toArray, List.set_cons_succ, List.set_cons_zero]
            refine jj_inv (by decide) ?_ ?_
            · intro L x u hL hd hJ
              obtain ⟨i, hi, hz0, hz1, hz2⟩ := info_parts info3
              obtain ⟨v', u', h1, h2⟩ := bldJ_app (t := 23) (ty' := 23) (by rfl) hJ (hd.2.1 rfl) hL Tryz.underlying23 hi hz0 hz1 hz2 (by simp [Value.cells]) (by omega) (by omega) (by rfl) (fun u hu => by simp at hu; subst hu; rfl) (by have := HKQ.out; have := HKK.out; omega) (by omega)
              rw [if_pos (show Region.wanted _ _ = true from rfl)]
              exact gives_append (.tmp 92) (.tmp 98) 23 rfl rfl rfl h1 ⟨h2, trivial⟩
            simp only [Act.put, List.setIfInBounds_toArray, List.set_cons_succ, List.set_cons_zero]
            apply jj_fun (by decide)
            · intro L x u hL hd hJ
              have HJ := hid (bldJ_skip (k := 9) (by rfl) hJ)
              clear hJ hd hL
              go_simp
              exact ⟨rfl, HJ.out⟩
            simp only [Act.put, List.setIfInBounds_toArray, List.set_cons_succ, List.set_cons_zero]
            refine jj_fun (v := undef) (by decide) ?_ ?_
            · intro L x u hL hd hJ
              have h8 : L 8 = true := hd.2.1 rfl
              have h1 : L 1 = true := hd.2.2.2.2.1 rfl
              have HJ := hid (bldJ_store (by rfl) hJ h8 h1 (off := 1) (fun y z => rfl))
              have c0 : u.cell? ⟨b7, 1, none⟩ = some (.slice ua kk uc) := (cell_of (bldJ_old hJ hL) 1).trans rfl
              obtain ⟨qa, qc, hq⟩ := bldJ_row hJ h8
              have fb := free_of (bldJ_old hJ hL)
              rw [hq] at HJ
              clear hJ hd hL h8 h1
              simp only [hq]
              go_simp
              exact HJ.out
            simp only [Act.put, List.setIfInBounds_toArray, List.set_cons_succ, List.set_cons_zero]
            refine jj_nil fun L x u8 hall hJ => ?_
            obtain ⟨m1, m2⟩ := bldJ_end hJ (hall 8 (by omega)) (hall 10 (by omega))
            clear hJ hall
            have HM : Hid (CostS V w2 wQ b7 (.slice oa V.ow.length oc) (.slice la V.le.length lc) (.slice ha V.ha.length hc) (.slice va V.lo.length vc) (kk + 1) u8) := hid ⟨_, m1.ext, m1.km, m2, by rw [HN2.out]; exact m1.row, m1.own⟩
            clear m1 m2
            generalize x 7 = y18 at *
            generalize x 8 = y19 at *
            clear x L
            gi_wp2_with fail
            go_roundw
            case rel =>
              have hk2 := HKQ.out
              have hk3 := HKK.out
              by_cases hz : q = 0
              · right
                subst hz
                refine ⟨by first | rfl | go_num, hid ?_⟩
                have := HM.out
                rw [show kk + 1 = V.cs.length by omega] at this
                exact this
              · left
                refine ⟨q - 1, by omega, by first | rw [show ((q - 1 : Nat) : Int) = (q : Int) - 1 by omega] | go_num, hid ?_⟩
                have := HM.out
                rw [show kk + 1 = V.cs.length - 1 - (q - 1) by omega] at this
                exact this
            case measure => first | (simp [intOf]; done) | (simp [intOf]; omega)
          · obtain ⟨v, i1, i2, i3, i4, i5⟩ := HI.out
            obtain ⟨ua, uc, rfl⟩ := i4.isSliceN
            clear HI
            have q0 := HQ0.out.km i2
            have q1 := HQ1.out.km i2
            have q2 := HQ2.out.km i2
            have q3 : Row wr 59 4 (.slice va V.lo.length vc) V.lo.length (lnF (ordV V n0 n1 n2 n3).lo) := HQ3.out.1.kept fun k o ho hb => i2.2 k o (HQ3.out.2 k ho) hb
            have hXat : VoyAt wr (ordV V n0 n1 n2 n3) ⟨ua, oa, la, ha, va, uc, oc, lc, hc, vc⟩ := by
              have hl := HLB.out
              have hp := ordV_other V n0 n1 n2 n3
              have hn := HNM.out
              have e5 : (ordV V n0 n1 n2 n3).cs.length = V.cs.length := by simp [ordV]
              have e6 : (ordV V n0 n1 n2 n3).lo.length = V.lo.length := by simp [ordV]
              have e7 : (ordV V n0 n1 n2 n3).ow.length = V.ow.length := rndL_len _ _
              have e8 : (ordV V n0 n1 n2 n3).le.length = V.le.length := rndL_len _ _
              have e9 : (ordV V n0 n1 n2 n3).ha.length = V.ha.length := rndL_len _ _
              have et : V.cs.reverse.take V.cs.length = V.cs.reverse := List.take_of_length_le (by simp)
              rw [et] at i4
              have hok := (voyE_ok HE.out).1
              have hso := (stakes_ok hok.ow).1
              have hsl := (stakes_ok hok.le).1
              have hsh := (stakes_ok hok.ha).1
              refine ⟨?_, ?_, ?_, ?_, ?_, fun z hz => ?_, fun z hz => ?_, fun z hz => ?_⟩
              · rw [e5]; exact IntsAt.of_row (xs := V.cs.reverse) (by rw [List.length_reverse]; exact i4) (by rw [List.length_reverse]; omega)
              · rw [e7]; have hq := q0.1; rw [rndL_len] at hq; exact StakesAt.of_row (l := (ordV V n0 n1 n2 n3).ow) (by rw [e7]; exact hq) (by rw [e7]; omega)
              · rw [e8]; have hq := q1.1; rw [rndL_len] at hq; exact StakesAt.of_row (l := (ordV V n0 n1 n2 n3).le) (by rw [e8]; exact hq) (by rw [e8]; omega)
              · rw [e9]; have hq := q2.1; rw [rndL_len] at hq; exact StakesAt.of_row (l := (ordV V n0 n1 n2 n3).ha) (by rw [e9]; exact hq) (by rw [e9]; omega)
              · rw [e6]; exact LoansAt.of_row (l := (ordV V n0 n1 n2 n3).lo) (by rw [e6]; exact q3) (by omega)
              · obtain ⟨I, ht⟩ := hp.ow; exact hn.1 z (ht.permT.mem_iff.1 hz)
              · obtain ⟨I, ht⟩ := hp.le; exact hn.2.1 z (ht.permT.mem_iff.1 hz)
              · obtain ⟨I, ht⟩ := hp.ha; exact hn.2.2 z (ht.permT.mem_iff.1 hz)
            have hSX := Shares_ok (ordV V n0 n1 n2 n3) _ wr hXat ((ordV_other V n0 n1 n2 n3).errE HE.out)
            rw [ordV_cells] at hSX
            have HSX := hid hSX
            have HI1 := hid i1
            have cB := cell_of i3
            have HOT := hid (ordV_other V n0 n1 n2 n3)
            unfold ordC at cB
            clear i1 i2 i3 i4 i5 q0 q1 q2 q3 hXat hSX
            have hng : ¬ (0 : Int) ≤ -1 := by omega
            gi_upto_region 16 with (gi_at_call 25; ((with_reducible refine (HSX.out).mono ?_); rintro e w8 ⟨tr, ms, rfl, hx8, hdn, hnl, HRT⟩))
            obtain ⟨tra, trc, rfl⟩ := HRT.out.isSliceN
            have HX8 := hid hx8
            have hms : ms = ns := (HOT.out.names (voyE_ok HE.out).1 hdn).eq HDN.out.1
            subst hms
            have HDT := hid (dues_at (V := V) (by rw [← HOT.out.dues HE.out]; exact HRT.out) hnl)
            have HDL := hid (dues_at (V := V) (HRL.out.mono (HI1.out.trans hx8)) HDN.out.2)
            have HSD := hid (sameDues_true _ _ _ _ HDL.out HDT.out)
            clear hx8 hdn hnl HRT HSX cB
            gi_wp2_with (first | (gi_at_call 27; ((with_reducible refine (HSD.out).mono ?_); rintro e w9 ⟨rfl, hx9⟩; have HX9 := hid hx9; clear hx9)) | (gi_at_call 18; ((with_reducible refine (HWK.out _).mono ?_); rintro e wz ⟨rfl, hxz⟩; have HXZ := hid hxz; clear hxz)))
            go_ret
            exact ⟨rfl, HXw2.out.trans (HI1.out.trans (HX8.out.trans (HX9.out.trans HXZ.out)))⟩
  · have hz : (voyE V == 0) = false := by simpa using hE
    have hz2 : (voyE V != 0) = true := by simpa using hE
    have HSH := hid (fun (u : World) (hu : Ext w u) => Shares_bad V s u (h.mono hu) hE)
    generalize voyE V = E at *
    clear h hE
    unfold voyA at *
    gi_enter Tryz.func9, Tryz.ntmps9
    gi_upto_region 1 with fail
    rw [← hwa]
    clear hwa
    generalize w.heap.size = bx at *
    have c0 := cell_of HB0.out
    gi_wp2_with (first | (gi_at_call 25; go_loud ((with_reducible refine (HSH.out _ HX0.out).mono ?_); rintro e w1 ⟨rfl, hx1⟩; have HX1 := hid (HX0.out.trans hx1); clear hx1)) | (gi_at_call 18; ((with_reducible refine (HWK.out _).mono ?_); rintro e w4 ⟨rfl, hx4⟩; have HX := hid (HX1.out.trans hx4); clear hx4)))
    go_ret
    exact ⟨rfl, HX.out⟩

end Go.Proofs.YtjocoadhalimjaaGreat
