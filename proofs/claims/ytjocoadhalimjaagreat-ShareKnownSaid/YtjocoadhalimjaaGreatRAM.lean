/- A voyage in memory; newVoyage. -/
import Derived.Test.YtjocoadhalimjaaGreatRAL
set_option linter.unusedSimpArgs false
set_option linter.unusedVariables false
namespace Go.Proofs.YtjocoadhalimjaaGreat
section
open Go Go.RowKit Go.Shelf

/-- A voyage. -/
structure Voy where
  gr : Int
  bo : Int
  ne : Int
  cr : Int
  cs : List Int
  ow : List Stk
  le : List Stk
  ha : List Stk
  lo : List Ln
/-- Where its lists lie. -/
structure VS where
  ca : Option Addr
  oa : Option Addr
  la : Option Addr
  ha : Option Addr
  xa : Option Addr
  cc : Nat
  oc : Nat
  lc : Nat
  hc : Nat
  xc : Nat
def voyA (V : Voy) (s : VS) : Array Value := #[.int .i64 V.gr, .slice s.ca V.cs.length s.cc, .int .i64 V.bo, .int .i64 V.ne, .int .i64 V.cr, .slice s.oa V.ow.length s.oc, .slice s.la V.le.length s.lc, .slice s.ha V.ha.length s.hc, .slice s.xa V.lo.length s.xc]
def voyB (V : Voy) (s : VS) (m : Value) : Array Value := #[.int .i64 V.gr, .slice s.ca V.cs.length s.cc, .int .i64 V.bo, .int .i64 V.ne, .int .i64 V.cr, .slice s.oa V.ow.length s.oc, .slice s.la V.le.length s.lc, .slice s.ha V.ha.length s.hc, .slice s.xa V.lo.length s.xc, m]
structure VoyAt (w : World) (V : Voy) (s : VS) : Prop where
  cs : IntsAt w (.slice s.ca V.cs.length s.cc) V.cs
  ow : StakesAt w (.slice s.oa V.ow.length s.oc) V.ow
  le : StakesAt w (.slice s.la V.le.length s.lc) V.le
  ha : StakesAt w (.slice s.ha V.ha.length s.hc) V.ha
  lo : LoansAt w (.slice s.xa V.lo.length s.xc) V.lo
  no : nmOk V.ow
  nl : nmOk V.le
  nh : nmOk V.ha
theorem VoyAt.mono {w w' : World} {V : Voy} {s : VS} (h : VoyAt w V s) (hx : Ext w w') : VoyAt w' V s := ⟨h.cs.mono hx, h.ow.mono hx, h.le.mono hx, h.ha.mono hx, h.lo.mono hx, h.no, h.nl, h.nh⟩
def validV (V : Voy) : Bool := validB V.gr V.bo V.ne V.cr V.cs V.ow V.le V.ha
/-- The error of a voyage. -/
def voyE (V : Voy) : Int := if validV V then (if lendB V.le V.lo then 0 else 31) else 30
def zeroVoy : Array Value := #[.int .i64 0, .slice none 0 0, .int .i64 0, .int .i64 0, .int .i64 0, .slice none 0 0, .slice none 0 0, .slice none 0 0, .slice none 0 0, .map none]
structure ValidV (V : Voy) : Prop where
  gr : 0 ≤ V.gr ∧ V.gr ≤ 10000000
  csl : V.cs.length ≤ 10
  cs : ∀ x ∈ V.cs, 0 ≤ x ∧ x ≤ V.gr
  net : 0 ≤ V.gr - V.cs.sum
  bo : 0 ≤ V.bo ∧ V.bo ≤ 8
  ne : 0 ≤ V.ne ∧ V.ne ≤ 8
  cr : 0 ≤ V.cr ∧ V.cr ≤ 8
  all : V.bo + V.ne + V.cr = 8
  ow : stakesB V.ow = true
  le : stakesB V.le = true
  ha : stakesB V.ha = true
  bbo : V.bo = back V.bo V.ow
  bne : V.ne = back V.ne V.le
  bcr : V.cr = back V.cr V.ha
theorem valid_iff {V : Voy} : validV V = true ↔ ValidV V := by
  unfold validV validB
  simp only [Bool.and_eq_true, decide_eq_true_eq, beq_iff_eq]
  constructor
  · rintro ⟨h1, h2, h3, h4, h5, h6, h7, h8, h9, h10, h11, h12⟩
    have a := areB_iff.1 h5
    exact ⟨inB_spec h1, h2, areB_iff.1 h3, h4, a _ (by simp), a _ (by simp), a _ (by simp), h6, h7, h8, h9, h10, h11, h12⟩
  · intro h
    refine ⟨by have := h.gr; simp [inB]; omega, h.csl, areB_iff.2 h.cs, h.net, areB_iff.2 fun x hx => ?_, h.all, h.ow, h.le, h.ha, h.bbo, h.bne, h.bcr⟩
    simp at hx
    rcases hx with rfl | rfl | rfl
    · exact h.bo
    · exact h.ne
    · exact h.cr
theorem size83 : (Tryz.prog.info? 83).map (·.size) = some 10 := by kernel_rfl
set_option maxRecDepth 100000 in
set_option maxHeartbeats 16000000 in
theorem newVoyage_any (V : Voy) (s : VS) (w : World) (h : VoyAt w V s) :
    Cal 54 #[.agg (voyA V s)] w fun e w' => Ext w w' ∧ ((voyE V ≠ 0 ∧ e = .returned (.tuple #[.agg zeroVoy, .int .i64 (voyE V)])) ∨ (voyE V = 0 ∧ ∃ bm, e = .returned (.tuple #[.agg (voyB V s (.map (some bm))), .int .i64 0]) ∧ w.heap.size ≤ bm ∧ Hid (GMapAt .string w' bm (entM V.le (lentTo V.le V.lo V.lo.length) V.le.length)))) := by
  have HV := hid (fun (u : World) (hu : Ext w u) => isValid_any V.gr V.bo V.ne V.cr (.slice s.ca V.cs.length s.cc) (.slice s.xa V.lo.length s.xc) (.map none) s.oa s.la s.ha V.ow.length s.oc V.le.length s.lc V.ha.length s.hc V.cs V.ow V.le V.ha u (h.cs.mono hu) (h.ow.mono hu) (h.le.mono hu) (h.ha.mono hu) h.no h.nl h.nh)
  have HLN := hid (fun (hv : ValidV V) (u : World) (hu : Ext w u) => lend_any V.gr V.bo V.ne V.cr (.slice s.ca V.cs.length s.cc) (.map none) s.oa s.la s.ha s.xa V.ow.length s.oc s.lc V.ha.length s.hc s.xc V.le V.lo u (h.le.mono hu) (h.lo.mono hu) (fun x hx => ((stakes_ok hv.le).2.1 x hx).2) (stakes_ok hv.le).2.2 (stakes_ok hv.le).1)
  have HE : Hid (voyE V = if validV V then (if lendB V.le V.lo then 0 else 31) else 30) := hid rfl
  have HVV : Hid (validV V = true → ValidV V) := hid valid_iff.1
  have hval : validB V.gr V.bo V.ne V.cr V.cs V.ow V.le V.ha = validV V := rfl
  rw [hval] at HV
  clear h hval
  generalize validV V = b at *
  unfold voyA voyB zeroVoy
  obtain ⟨gr, bo, ne, cr, cs, ol, ll, hl, xs⟩ := V
  obtain ⟨ca, oa, la, ha, xa, cc, oc, lc, hc, xc⟩ := s
  simp only at *
  gi_enter Tryz.func54, Tryz.ntmps54
  gi_upto_region 2 with fail
  have hx0 : Ext w (((w.alloc (.cells #[.int .i64 gr, .slice ca cs.length cc, .int .i64 bo, .int .i64 ne, .int .i64 cr, .slice oa ol.length oc, .slice la ll.length lc, .slice ha hl.length hc, .slice xa xs.length xc] 32)).alloc (.cells #[.int .i64 0, .slice none 0 0, .int .i64 0, .int .i64 0, .int .i64 0, .slice none 0 0, .slice none 0 0, .slice none 0 0, .slice none 0 0, .map none] 83)).alloc (.cells #[.int .i64 gr, .slice ca cs.length cc, .int .i64 bo, .int .i64 ne, .int .i64 cr, .slice oa ol.length oc, .slice la ll.length lc, .slice ha hl.length hc, .slice xa xs.length xc, .map none] 83)) := (((Ext.refl _).alloc _).alloc _).alloc _
  have hr0 := three_mid (w := w) (o1 := .cells #[.int .i64 gr, .slice ca cs.length cc, .int .i64 bo, .int .i64 ne, .int .i64 cr, .slice oa ol.length oc, .slice la ll.length lc, .slice ha hl.length hc, .slice xa xs.length xc] 32) (o2 := .cells #[.int .i64 0, .slice none 0 0, .int .i64 0, .int .i64 0, .int .i64 0, .slice none 0 0, .slice none 0 0, .slice none 0 0, .slice none 0 0, .map none] 83) (o3 := .cells #[.int .i64 gr, .slice ca cs.length cc, .int .i64 bo, .int .i64 ne, .int .i64 cr, .slice oa ol.length oc, .slice la ll.length lc, .slice ha hl.length hc, .slice xa xs.length xc, .map none] 83)
  have hw0 := three_top (w := w) (o1 := .cells #[.int .i64 gr, .slice ca cs.length cc, .int .i64 bo, .int .i64 ne, .int .i64 cr, .slice oa ol.length oc, .slice la ll.length lc, .slice ha hl.length hc, .slice xa xs.length xc] 32) (o2 := .cells #[.int .i64 0, .slice none 0 0, .int .i64 0, .int .i64 0, .int .i64 0, .slice none 0 0, .slice none 0 0, .slice none 0 0, .slice none 0 0, .map none] 83) (o3 := .cells #[.int .i64 gr, .slice ca cs.length cc, .int .i64 bo, .int .i64 ne, .int .i64 cr, .slice oa ol.length oc, .slice la ll.length lc, .slice ha hl.length hc, .slice xa xs.length xc, .map none] 83)
  generalize ((w.alloc (.cells #[.int .i64 gr, .slice ca cs.length cc, .int .i64 bo, .int .i64 ne, .int .i64 cr, .slice oa ol.length oc, .slice la ll.length lc, .slice ha hl.length hc, .slice xa xs.length xc] 32)).alloc (.cells #[.int .i64 0, .slice none 0 0, .int .i64 0, .int .i64 0, .int .i64 0, .slice none 0 0, .slice none 0 0, .slice none 0 0, .slice none 0 0, .map none] 83)).alloc (.cells #[.int .i64 gr, .slice ca cs.length cc, .int .i64 bo, .int .i64 ne, .int .i64 cr, .slice oa ol.length oc, .slice la ll.length lc, .slice ha hl.length hc, .slice xa xs.length xc, .map none] 83) = W at *
  have HX := hid hx0
  have HR := hid hr0
  have HW := hid hw0
  have cw := cell_of hw0
  clear hx0 hr0 hw0
  cases b with
  | false =>
    have HEE : Hid (voyE ⟨gr, bo, ne, cr, cs, ol, ll, hl, xs⟩ = 30) := hid (by rw [HE.out]; rfl)
    clear HE HLN HVV
    gi_wp2_with (first | (gi_at_call 74; ((with_reducible refine (HV.out _ HX.out).mono ?_); rintro e w1 ⟨rfl, hx1⟩; have hr1 := hx1.block HR.out; have hxx := HX.out.trans hx1)) | (refine wpIn_store_at 83 (.tmp 2) (.tmp 12) rfl (fun _ => trivial) (g := w.heap.size + 1) (off := 0) rfl rfl hr1 size83 (by simp) (by simp [Value.oneCell']) ?_; refine Hid.out ?_))
    refine hid ?_
    have hX2 := ext_setRow hxx (show w.heap.size ≤ w.heap.size + 1 by omega) #[.int .i64 0, .slice none 0 0, .int .i64 0, .int .i64 0, .int .i64 0, .slice none 0 0, .slice none 0 0, .slice none 0 0, .slice none 0 0, .map none]
    have hs := setRow_heap _ _ _ #[.int .i64 0, .slice none 0 0, .int .i64 0, .int .i64 0, .int .i64 0, .slice none 0 0, .slice none 0 0, .slice none 0 0, .slice none 0 0, .map none] _ _ hr1
    have e0 : (List.take 0 (#[.int .i64 0, .slice none 0 0, .int .i64 0, .int .i64 0, .int .i64 0, .slice none 0 0, .slice none 0 0, .slice none 0 0, .slice none 0 0, .map none] : Array Value).toList ++ (#[.int .i64 0, .slice none 0 0, .int .i64 0, .int .i64 0, .int .i64 0, .slice none 0 0, .slice none 0 0, .slice none 0 0, .slice none 0 0, .map none] : Array Value).toList ++ List.drop (0 + (#[.int .i64 0, .slice none 0 0, .int .i64 0, .int .i64 0, .int .i64 0, .slice none 0 0, .slice none 0 0, .slice none 0 0, .slice none 0 0, .map none] : Array Value).size) (#[.int .i64 0, .slice none 0 0, .int .i64 0, .int .i64 0, .int .i64 0, .slice none 0 0, .slice none 0 0, .slice none 0 0, .slice none 0 0, .map none] : Array Value).toList).toArray = #[.int .i64 0, .slice none 0 0, .int .i64 0, .int .i64 0, .int .i64 0, .slice none 0 0, .slice none 0 0, .slice none 0 0, .slice none 0 0, .map none] := rfl
    simp only [List.append_assoc] at e0 ⊢
    first | rw [e0] | skip
    generalize w1.setRow (w.heap.size + 1) #[.int .i64 0, .slice none 0 0, .int .i64 0, .int .i64 0, .int .i64 0, .slice none 0 0, .slice none 0 0, .slice none 0 0, .slice none 0 0, .map none] = W9 at *
    have hc9 := cell_of hs
    gi_wp2_with fail
    exact bodyPost_ret (v := .tuple #[.agg #[.int .i64 0, .slice none 0 0, .int .i64 0, .int .i64 0, .int .i64 0, .slice none 0 0, .slice none 0 0, .slice none 0 0, .slice none 0 0, .map none], .int .i64 30]) (by simp [results, Tryz.results54, go_sem, hc9]) rfl ⟨hX2, .inl ⟨by rw [HEE.out]; decide, by rw [HEE.out]⟩⟩
  | true =>
    have HLL := hid (HLN.out (HVV.out rfl))
    clear HLN HVV
    cases hlb : lendB ll xs with
    | false =>
      have HEE : Hid (voyE ⟨gr, bo, ne, cr, cs, ol, ll, hl, xs⟩ = 31) := hid (by rw [HE.out, hlb]; rfl)
      have HL0 : Hid (∀ u, Ext w u → Cal 75 #[.agg #[.int .i64 gr, .slice ca cs.length cc, .int .i64 bo, .int .i64 ne, .int .i64 cr, .slice oa ol.length oc, .slice la ll.length lc, .slice ha hl.length hc, .slice xa xs.length xc, .map none]] u fun e w' => e = .returned (.tuple #[.map none, .bool false]) ∧ Ext u w') := hid fun u hu => (HLL.out u hu).mono fun e w' hh => by
        rcases hh with ⟨hx, ⟨_, he⟩ | ⟨hb, _⟩⟩
        · exact ⟨he, hx⟩
        · rw [hlb] at hb; cases hb
      clear HE HLL hlb
      gi_wp2_with (first | (gi_at_call 74; ((with_reducible refine (HV.out _ HX.out).mono ?_); rintro e w1 ⟨rfl, hx1⟩; have hr1 := hx1.block HR.out; have hw1 := hx1.block HW.out; have cw1 := cell_of hw1; have hxx := HX.out.trans hx1)) | (gi_at_call 75; ((with_reducible refine (HL0.out _ hxx).mono ?_); rintro e w2 ⟨rfl, hx2⟩; have hr2 := hx2.block hr1; have hxy := hxx.trans hx2)) | (refine wpIn_store_at 83 (.tmp 2) (.tmp 20) rfl (fun _ => trivial) (g := w.heap.size + 1) (off := 0) rfl rfl hr2 size83 (by simp) (by simp [Value.oneCell']) ?_; refine Hid.out ?_))
      refine hid ?_
      have hX2 := ext_setRow hxy (show w.heap.size ≤ w.heap.size + 1 by omega) #[.int .i64 0, .slice none 0 0, .int .i64 0, .int .i64 0, .int .i64 0, .slice none 0 0, .slice none 0 0, .slice none 0 0, .slice none 0 0, .map none]
      have hs := setRow_heap _ _ _ #[.int .i64 0, .slice none 0 0, .int .i64 0, .int .i64 0, .int .i64 0, .slice none 0 0, .slice none 0 0, .slice none 0 0, .slice none 0 0, .map none] _ _ hr2
      have e0 : (List.take 0 (#[.int .i64 0, .slice none 0 0, .int .i64 0, .int .i64 0, .int .i64 0, .slice none 0 0, .slice none 0 0, .slice none 0 0, .slice none 0 0, .map none] : Array Value).toList ++ (#[.int .i64 0, .slice none 0 0, .int .i64 0, .int .i64 0, .int .i64 0, .slice none 0 0, .slice none 0 0, .slice none 0 0, .slice none 0 0, .map none] : Array Value).toList ++ List.drop (0 + (#[.int .i64 0, .slice none 0 0, .int .i64 0, .int .i64 0, .int .i64 0, .slice none 0 0, .slice none 0 0, .slice none 0 0, .slice none 0 0, .map none] : Array Value).size) (#[.int .i64 0, .slice none 0 0, .int .i64 0, .int .i64 0, .int .i64 0, .slice none 0 0, .slice none 0 0, .slice none 0 0, .slice none 0 0, .map none] : Array Value).toList).toArray = #[.int .i64 0, .slice none 0 0, .int .i64 0, .int .i64 0, .int .i64 0, .slice none 0 0, .slice none 0 0, .slice none 0 0, .slice none 0 0, .map none] := rfl
      simp only [List.append_assoc] at e0 ⊢
      first | rw [e0] | skip
      generalize w2.setRow (w.heap.size + 1) #[.int .i64 0, .slice none 0 0, .int .i64 0, .int .i64 0, .int .i64 0, .slice none 0 0, .slice none 0 0, .slice none 0 0, .slice none 0 0, .map none] = W9 at *
      have hc9 := cell_of hs
      gi_wp2_with fail
      exact bodyPost_ret (v := .tuple #[.agg #[.int .i64 0, .slice none 0 0, .int .i64 0, .int .i64 0, .int .i64 0, .slice none 0 0, .slice none 0 0, .slice none 0 0, .slice none 0 0, .map none], .int .i64 31]) (by simp [results, Tryz.results54, go_sem, hc9]) rfl ⟨hX2, .inl ⟨by rw [HEE.out]; decide, by rw [HEE.out]⟩⟩
    | true =>
      have HEE : Hid (voyE ⟨gr, bo, ne, cr, cs, ol, ll, hl, xs⟩ = 0) := hid (by rw [HE.out, hlb]; rfl)
      have HL0 : Hid (∀ u, Ext w u → Cal 75 #[.agg #[.int .i64 gr, .slice ca cs.length cc, .int .i64 bo, .int .i64 ne, .int .i64 cr, .slice oa ol.length oc, .slice la ll.length lc, .slice ha hl.length hc, .slice xa xs.length xc, .map none]] u fun e w' => ∃ bm, e = .returned (.tuple #[.map (some bm), .bool true]) ∧ u.heap.size ≤ bm ∧ Ext u w' ∧ Hid (GMapAt .string w' bm (entM ll (lentTo ll xs xs.length) ll.length))) := hid fun u hu => (HLL.out u hu).mono fun e w' hh => by
        rcases hh with ⟨hx, ⟨hb, _⟩ | ⟨_, bm, he, hle, hm⟩⟩
        · rw [hlb] at hb; cases hb
        · exact ⟨bm, he, hle, hx, hm⟩
      clear HE HLL hlb
      gi_wp2_with (first | (gi_at_call 74; ((with_reducible refine (HV.out _ HX.out).mono ?_); rintro e w1 ⟨rfl, hx1⟩; have hr1 := hx1.block HR.out; have hw1 := hx1.block HW.out; have cw1 := cell_of hw1; have hxx := HX.out.trans hx1)) | (gi_at_call 75; ((with_reducible refine (HL0.out _ hxx).mono ?_); rintro e w2 ⟨bm, rfl, hle, hx2, hmp⟩; have hr2 := hx2.block hr1; have hw2 := hx2.block hw1; have fw2 := free_of hw2; have lw2 := lt_of_block hw2; have cw2 := cell_of hw2; have hxy := hxx.trans hx2; have hbm := Nat.le_trans hxx.size hle; have hw3 := set_same hw2 9 (.map (some bm)); have cw3 := cell_of hw3; have hr3 : (w2.setCell ⟨w.heap.size + 2, 9, none⟩ (.map (some bm))).heap[w.heap.size + 1]? = _ := (set_other (by omega) 9 _).trans hr2)) | (refine wpIn_store_at 83 (.tmp 2) (.tmp 23) rfl (fun _ => trivial) (g := w.heap.size + 1) (off := 0) rfl rfl hr3 size83 (by simp) (by simp [Value.oneCell']) ?_; refine Hid.out ?_))
      refine hid ?_
      have hX2 := ext_setRow (hxy.set (b := w.heap.size + 1 + 1) (by omega) 9 (.map (some bm))) (show w.heap.size ≤ w.heap.size + 1 by omega) #[.int .i64 gr, .slice ca cs.length cc, .int .i64 bo, .int .i64 ne, .int .i64 cr, .slice oa ol.length oc, .slice la ll.length lc, .slice ha hl.length hc, .slice xa xs.length xc, .map (some bm)]
      have hs := setRow_heap _ _ _ #[.int .i64 gr, .slice ca cs.length cc, .int .i64 bo, .int .i64 ne, .int .i64 cr, .slice oa ol.length oc, .slice la ll.length lc, .slice ha hl.length hc, .slice xa xs.length xc, .map (some bm)] _ _ hr3
      have hn1 := hmp.out.notCells hw2
      have hn2 := hmp.out.notCells hr2
      have hmf : GMapAt .string ((w2.setCell ⟨w.heap.size + 1 + 1, 9, none⟩ (.map (some bm))).setRow (w.heap.size + 1) #[.int .i64 gr, .slice ca cs.length cc, .int .i64 bo, .int .i64 ne, .int .i64 cr, .slice oa ol.length oc, .slice la ll.length lc, .slice ha hl.length hc, .slice xa xs.length xc, .map (some bm)]) bm (entM ll (lentTo ll xs xs.length) ll.length) := hmp.out.kept fun o ho => by
        rw [setRow_other _ _ _ _ (Ne.symm hn2), set_other (Ne.symm hn1)]; exact ho
      generalize (w2.setCell ⟨w.heap.size + 1 + 1, 9, none⟩ (.map (some bm))).setRow (w.heap.size + 1) #[.int .i64 gr, .slice ca cs.length cc, .int .i64 bo, .int .i64 ne, .int .i64 cr, .slice oa ol.length oc, .slice la ll.length lc, .slice ha hl.length hc, .slice xa xs.length xc, .map (some bm)] = W9 at *
      have hc9 := cell_of hs
      clear cw3 cw2 cw1 cw hw3 hr3 fw2
      gi_wp2_with fail
      exact bodyPost_ret (v := .tuple #[.agg #[.int .i64 gr, .slice ca cs.length cc, .int .i64 bo, .int .i64 ne, .int .i64 cr, .slice oa ol.length oc, .slice la ll.length lc, .slice ha hl.length hc, .slice xa xs.length xc, .map (some bm)], .int .i64 0]) (by simp [results, Tryz.results54, go_sem, hc9]) rfl ⟨hX2, .inr ⟨HEE.out, bm, rfl, hbm, hid hmf⟩⟩
end
section
open Go Go.RowKit Go.Shelf

theorem own_next {w0 W w' : World} {v v' : Value} (hx : Ext w0 W) (hown : ∀ g, v.ownBlock = some g → w0.heap.size ≤ g) (hgr : W.grownBy w' v.ownBlock) (how : v'.ownBlock = v.ownBlock ∨ v'.ownBlock = some W.heap.size) :
    Ext w0 w' ∧ ∀ g, v'.ownBlock = some g → w0.heap.size ≤ g := by
  refine ⟨ext_grown hx hgr hown, fun g hg => ?_⟩
  rcases how with e | e
  · exact hown g (by rw [← e]; exact hg)
  · rw [hg] at e; cases e; exact hx.size
theorem info49 : (Tryz.prog.info? 49).map (fun i => (i.zero, i.size, i.bytes)) = some (some (.agg #[.string ByteArray.empty, .int .i64 0]), 2, 24) := by kernel_rfl
def stkC (s : Stk) : List Value := [.string s.name, .int .i64 s.weight]
def stkF (l : List Stk) : List Value := l.flatMap stkC
theorem stkF_len : ∀ l : List Stk, (stkF l).length = l.length * 2
  | [] => rfl
  | a :: l => by
    have := stkF_len l
    unfold stkF at this ⊢
    rw [List.flatMap_cons, List.length_append, this, List.length_cons]
    simp [stkC]; omega
theorem stkF_get : ∀ (l : List Stk) (i : Nat) (h : i < l.length), (stkF l)[i * 2]? = some (.string l[i].name) ∧ (stkF l)[i * 2 + 1]? = some (.int .i64 l[i].weight)
  | a :: l, 0, _ => by unfold stkF; rw [List.flatMap_cons]; exact ⟨rfl, rfl⟩
  | a :: l, i + 1, h => by
    have := stkF_get l i (by simpa using h)
    unfold stkF at this ⊢
    rw [List.flatMap_cons, show (i + 1) * 2 = i * 2 + 1 + 1 by omega]
    exact this
theorem StakesAt.of_row {w : World} {v : Value} {l : List Stk} (h : Row w 49 2 v l.length (stkF l)) (hl : l.length ≤ 1000) : StakesAt w v l := by
  obtain ⟨_, h⟩ := h
  rcases h with ⟨rfl, h0⟩ | ⟨g, cap, cur, rfl, hg, h1, h2, h3, h4⟩
  · exact ⟨none, 0, by rw [h0], ⟨by omega, by omega⟩, fun i hi => by omega⟩
  · refine ⟨_, cap, rfl, ⟨h1, by omega⟩, fun i hi => ⟨g, 0, rfl, lt_of_block hg, ?_⟩⟩
    have k := stkF_get l i hi
    rw [← k.1, ← k.2, cell_of hg, cell_of hg, Nat.zero_add, ← h4, List.getElem?_take, List.getElem?_take, if_pos (by omega), if_pos (by omega), Array.getElem?_toList, Array.getElem?_toList]
    exact ⟨rfl, rfl⟩
/-- The claims, as stakes. -/
def clm (l : List Stk) (S : LSt) (n : Nat) : List Stk := (List.range n).map fun i => ⟨(l.getD i noStk).name, (S i).2⟩
theorem clm_succ (l : List Stk) (S : LSt) (n : Nat) : stkF (clm l S (n + 1)) = stkF (clm l S n) ++ stkC ⟨(l.getD n noStk).name, (S n).2⟩ := by
  unfold clm stkF
  rw [List.range_succ, List.map_append, List.flatMap_append]; simp
theorem clm_len (l : List Stk) (S : LSt) (n : Nat) : (clm l S n).length = n := by simp [clm]
theorem field115_1 (x y : Int) (w : World) : (Instr.field 115 (.agg #[.int .i64 x, .int .i64 y]) 1).run Tryz.prog w = .ok (.int .i64 y) w := by
  simp [Instr.field, go_sem, asAgg]
set_option maxRecDepth 100000 in
set_option maxHeartbeats 16000000 in
theorem claims_any (gr bo ne cr : Int) (cv ov hv lv : Value) (la : Option Addr) (lc bm : Nat) (ll : List Stk) (S : LSt) (w : World)
    (hl : StakesAt w (.slice la ll.length lc) ll) (hm : GMapAt .string w bm (entM ll S ll.length)) (hn : ll.length ≤ 1000) :
    Cal 55 #[.agg #[.int .i64 gr, cv, .int .i64 bo, .int .i64 ne, .int .i64 cr, ov, .slice la ll.length lc, hv, lv, .map (some bm)]] w fun e w' => ∃ r, e = .returned r ∧ Ext w w' ∧ Hid (Row w' 49 2 r ll.length (stkF (clm ll S ll.length))) := by
  obtain ⟨a1, c1, e1, hlb, hlc⟩ := hl
  cases e1
  have HLC := hid hlc
  have HM := hid hm
  have hX0 : Ext w (w.alloc (.cells #[.int .i64 gr, cv, .int .i64 bo, .int .i64 ne, .int .i64 cr, ov, .slice la ll.length lc, hv, lv, .map (some bm)] 83)) := (Ext.refl _).alloc _
  have hB0 := Ext.new (w := w) (o := .cells #[.int .i64 gr, cv, .int .i64 bo, .int .i64 ne, .int .i64 cr, ov, .slice la ll.length lc, hv, lv, .map (some bm)] 83) (Ext.refl _)
  clear hlc hm
  gi_enter Tryz.func55, Tryz.ntmps55
  gi_upto_region 2 with fail
  have HX0 := hid hX0
  have HB0 := hid hB0
  generalize w.alloc (.cells #[.int .i64 gr, cv, .int .i64 bo, .int .i64 ne, .int .i64 cr, ov, .slice la ll.length lc, hv, lv, .map (some bm)] 83) = W0 at *
  have cb := cell_of hB0
  clear hX0 hB0
  gi_wp2_with fail
  clear cb
  have HJ : Hid (Ext w W0 ∧ W0.heap[w.heap.size]? = some (.cells #[.int .i64 gr, cv, .int .i64 bo, .int .i64 ne, .int .i64 cr, ov, .slice la ll.length lc, hv, lv, .map (some bm)] 83 (0, 0)) ∧ Row W0 49 2 (.slice none 0 0) 0 (stkF (clm ll S 0)) ∧ ∀ g, (Value.slice none 0 0).ownBlock = some g → w.heap.size + 1 ≤ g) := hid ⟨HX0.out, HB0.out, Row.nil _ _ _, fun g hg => by simp [Value.ownBlock] at hg⟩
  clear HX0 HB0
  gi_loopw [3, 5, 10] (fun r u5 i wr => ∃ k : Nat, k ≤ ll.length ∧ i = .int .i64 k ∧ Hid (Ext w wr ∧ wr.heap[w.heap.size]? = some (.cells #[.int .i64 gr, cv, .int .i64 bo, .int .i64 ne, .int .i64 cr, ov, .slice la ll.length lc, hv, lv, .map (some bm)] 83 (0, 0)) ∧ Row wr 49 2 r k (stkF (clm ll S k)) ∧ ∀ g, r.ownBlock = some g → w.heap.size + 1 ≤ g)) (fun _ _ i _ => ll.length - (intOf i).toNat)
  case atStart => exact ⟨0, Nat.zero_le _, rfl, HJ⟩
  case round =>
    obtain ⟨k, hk, rfl, HI⟩ := hrel
    clear HJ
    by_cases hlt : k < ll.length
    · have hki : (k : Int) < (ll.length : Int) := by omega
      obtain ⟨b, off, rfl, hbb, c0, c1⟩ := HLC.out k hlt
      rw [← HI.out.1.cell (p := ⟨b, _, none⟩) hbb] at c0 c1
      have HS := hid (clm_succ ll S k)
      have HMB : Hid ((Value.string ll[k].name, lenV (S k)) ∈ entM ll S ll.length) := hid (List.mem_map.2 ⟨k, List.mem_range.2 hlt, by rw [getD_of hlt]⟩)
      rw [getD_of hlt] at HS
      generalize ll[k] = s at *
      have hx1 : Ext wr (wr.alloc (.cells #[.string s.name, .int .i64 s.weight] 49)) := (Ext.refl _).alloc _
      have hnb : (wr.alloc (.cells #[.string s.name, .int .i64 s.weight] 49)).heap[wr.heap.size]? = some (.cells #[.string s.name, .int .i64 s.weight] 49 (0, 0)) := Ext.new (Ext.refl _)
      gi_upto_region 5 with fail
      clear c0 c1
      have HX := hid (HI.out.1.trans hx1)
      have HBX := hid (hx1.block HI.out.2.1)
      have HROW := hid (HI.out.2.2.1.mono hx1)
      have HOWN := hid HI.out.2.2.2
      clear HI hx1
      generalize wr.alloc (.cells #[.string s.name, .int .i64 s.weight] 49) = W2 at *
      generalize wr.heap.size = nb at *
      have cs := cell_of hnb
      have cB := cell_of HBX.out
      have hlk := glookup_some (HM.out.mono HX.out) (show MapKept.IsKey .string (.string s.name) from trivial) HMB.out false Tryz.underlying81 Tryz.underlying9
      simp only [Bool.false_eq_true, if_false] at hlk
      generalize S k = z at *
      unfold lenV at hlk
      have hf1 := field115_1 z.1 z.2 W2
      obtain ⟨na, nc, rfl⟩ := HROW.out.isSliceN
      obtain ⟨i0, hi0, hz0, hz1, hz2⟩ := info_parts info49
      have HZ := hid (And.intro hi0 (And.intro hz0 (And.intro hz1 hz2)))
      clear hi0 hz0 hz1 hz2
      have hxa : Ext W2 (W2.alloc (.cells #[.string s.name, .int .i64 z.2] 49)) := (Ext.refl _).alloc _
      have HRW := hid (HROW.out.mono hxa)
      have HXA := hid (HX.out.trans hxa)
      have HBA := hid (hxa.block HBX.out)
      have HNW : Hid (∀ j u, (stkC ⟨s.name, z.2⟩)[j]? = some u → (W2.alloc (.cells #[.string s.name, .int .i64 z.2] 49)).cell? ((⟨W2.heap.size, 0, none⟩ : Addr).add j) = some u) := fun j u hj => by rw [Addr.add_mid, Nat.zero_add, new_cell _ _ rfl]; simpa [stkC] using hj
      have hmax : k + 1 ≤ 1000000000 := by omega
      have HLT := hid (lt_of_block HBX.out)
      clear HROW HX HBX hxa HM
      gi_wp2_with (refine wpIn_append_row (fun _ => trivial) rfl (.tmp 14) (.tmp 24) rfl Tryz.underlying22 HZ.out.1 HZ.out.2.1 HZ.out.2.2.1 HZ.out.2.2.2 (by simp [Value.cells]) (by omega) (v := .slice na k nc) rfl HRW.out ⟨W2.heap.size, 0, none⟩ 1 rfl (stkC ⟨s.name, z.2⟩) rfl HNW.out (fun u hu => by simp [stkC] at hu; rcases hu with rfl | rfl <;> rfl) hmax (by omega) ?_; intro v' w' hrow' hgr' how')
      have hon := own_next HXA.out (fun g hg => by have := HOWN.out g hg; omega) hgr' how'
      have hb' := grownBy_block hgr' HBA.out (fun e => by have := HOWN.out _ e.symm; omega)
      go_roundw
      case rel =>
        refine ⟨k + 1, by omega, by go_num, hid ⟨hon.1, hb', by rw [HS.out]; exact hrow', fun g hg => ?_⟩⟩
        rcases how' with e | e
        · exact HOWN.out g (by rw [← e]; exact hg)
        · rw [hg] at e; cases e
          have := HLT.out
          simp; omega
      case measure => simp [intOf]; omega
    · obtain rfl : k = ll.length := by omega
      clear HM HLC
      obtain ⟨na, nc, rfl⟩ := HI.out.2.2.1.isSliceN
      gi_wp2_with fail
      go_ret
      exact ⟨_, rfl, HI.out.1, hid HI.out.2.2.1⟩
end
section
open Go Go.RowKit Go.Shelf

def threeS (bo ne cr : Int) : List Stk := [⟨boatS, bo⟩, ⟨netsS, ne⟩, ⟨crewS, cr⟩]
def pNew (nm : ByteArray) (x : Int) (v : Value) (u : World) : Prop := ∃ g, v = .slice (some ⟨g, 0, none⟩) 1 1 ∧ u.heap[g]? = some (.cells #[.string nm, .int .i64 x] 49 (0, 0))
theorem pNew_s (nm : ByteArray) (x : Int) : ∀ v u u', pNew nm x v u → Ext u u' → pNew nm x v u' := fun _ _ _ h k => by
  obtain ⟨g, h1, h2⟩ := h; exact ⟨g, h1, k.block h2⟩
def threeC (bo ne cr : Int) : Array Value := #[.int .i64 bo, .int .i64 ne, .int .i64 cr]
theorem arrayAt90 (g cap : Nat) (w : World) : (Instr.arrayAt 90 (.slice (some ⟨g, 0, none⟩) 3 cap)).run Tryz.prog w = .ok (.pointer (some ⟨g, 0, none⟩)) w := by
  simp [Instr.arrayAt, go_sem]
set_option maxRecDepth 100000 in
set_option maxHeartbeats 16000000 in
theorem vpence_any (gr bo ne cr : Int) (xv mv : Value) (ca oa la ha : Option Addr) (cc on oc ln lc hn hc : Nat) (cs : List Int) (w : World)
    (hcs : IntsAt w (.slice ca cs.length cc) cs) (hb : ∀ x ∈ cs, -1000000000 ≤ x ∧ x ≤ 1000000000) (hl : cs.length ≤ 1000) (hg : -1000000000 ≤ gr ∧ gr ≤ 1000000000) (hP : 0 ≤ gr - cs.sum ∧ gr - cs.sum ≤ 10000000)
    (h1 : 0 ≤ bo ∧ bo ≤ 8) (h2 : 0 ≤ ne ∧ ne ≤ 8) (h3 : 0 ≤ cr ∧ cr ≤ 8) (hall : bo + ne + cr = 8) :
    Cal 58 #[.agg #[.int .i64 gr, .slice ca cs.length cc, .int .i64 bo, .int .i64 ne, .int .i64 cr, .slice oa on oc, .slice la ln lc, .slice ha hn hc, xv, mv]] w fun e w' => e = .returned (.agg #[.int .i64 (giveTo (gr - cs.sum) (threeS bo ne cr) 0), .int .i64 (giveTo (gr - cs.sum) (threeS bo ne cr) 1), .int .i64 (giveTo (gr - cs.sum) (threeS bo ne cr) 2)]) ∧ Ext w w' := by
  have HE7 := hid (fun (u : World) => eighths_any gr bo ne cr (.slice ca cs.length cc) xv mv oa la ha on oc ln lc hn hc u)
  have HP := hid (fun (u : World) => parts_any u)
  have HDV := hid (fun (u : World) (hu : Ext w u) => divided_any gr bo ne cr (.slice ca cs.length cc) (.slice oa on oc) (.slice ha hn hc) xv mv la ln lc cs u (hcs.mono hu) hb hl hg)
  have hsw : sumW (threeS bo ne cr) = 8 := by simp [sumW, threeS]; omega
  have HDD := hid (fun (v : Value) (u : World) (hv : StakesAt u v (threeS bo ne cr)) => divide_any (gr - cs.sum) v (threeS bo ne cr) u hv hP (fun s hs => by simp [threeS] at hs; rcases hs with rfl | rfl | rfl <;> simp only <;> omega) (by simp [threeS]) (.inr (by rw [hsw]; omega)) (by simp [threeS]; decide))
  clear hcs hb hl hg hP h1 h2 h3 hall hsw
  have HI0 := hid index120_0
  have HI1 := hid index120_1
  have HI2 := hid index120_2
  have hW : Ext w ((w.alloc (.cells #[.int .i64 gr, .slice ca cs.length cc, .int .i64 bo, .int .i64 ne, .int .i64 cr, .slice oa on oc, .slice la ln lc, .slice ha hn hc, xv, mv] 83)).alloc (.cells #[.int .i64 0, .int .i64 0, .int .i64 0] 90)) := ((Ext.refl _).alloc _).alloc _
  have hB := two_new (w := w) (o1 := .cells #[.int .i64 gr, .slice ca cs.length cc, .int .i64 bo, .int .i64 ne, .int .i64 cr, .slice oa on oc, .slice la ln lc, .slice ha hn hc, xv, mv] 83) (o2 := .cells #[.int .i64 0, .int .i64 0, .int .i64 0] 90)
  have hR : ((w.alloc (.cells #[.int .i64 gr, .slice ca cs.length cc, .int .i64 bo, .int .i64 ne, .int .i64 cr, .slice oa on oc, .slice la ln lc, .slice ha hn hc, xv, mv] 83)).alloc (.cells #[.int .i64 0, .int .i64 0, .int .i64 0] 90)).heap[w.heap.size + 1]? = some (.cells #[.int .i64 0, .int .i64 0, .int .i64 0] 90 (0, 0)) := by
    have := Ext.new (w := w.alloc (.cells #[.int .i64 gr, .slice ca cs.length cc, .int .i64 bo, .int .i64 ne, .int .i64 cr, .slice oa on oc, .slice la ln lc, .slice ha hn hc, xv, mv] 83)) (o := .cells #[.int .i64 0, .int .i64 0, .int .i64 0] 90) (Ext.refl _); rwa [World.size_alloc] at this
  gi_enter Tryz.func58, Tryz.ntmps58
  gi_upto_region 2 with fail
  generalize (w.alloc (.cells #[.int .i64 gr, .slice ca cs.length cc, .int .i64 bo, .int .i64 ne, .int .i64 cr, .slice oa on oc, .slice la ln lc, .slice ha hn hc, xv, mv] 83)).alloc (.cells #[.int .i64 0, .int .i64 0, .int .i64 0] 90) = W at *
  have cB := cell_of hB
  have HX := hid hW
  have HB := hid hB
  have HR := hid hR
  clear hW hB hR
  gi_upto_region 3 with (gi_at_call 77; ((with_reducible refine (HE7.out _).mono ?_); rintro e w1 ⟨rfl, hx1⟩))
  have hxa : Ext W (w1.alloc (.cells #[.int .i64 bo, .int .i64 ne, .int .i64 cr] 90)) := hx1.alloc _
  have hg : (w1.alloc (.cells #[.int .i64 bo, .int .i64 ne, .int .i64 cr] 90)).heap[w1.heap.size]? = some (.cells #[.int .i64 bo, .int .i64 ne, .int .i64 cr] 90 (0, 0)) := Ext.new (Ext.refl _)
  have HXn := hid (HX.out.trans hxa)
  have HBn := hid (hxa.block HB.out)
  have HRn := hid (hxa.block HR.out)
  have HGE : Hid (w.heap.size + 1 < w1.heap.size) := hid (Nat.lt_of_lt_of_le (lt_of_block HR.out) hx1.size)
  have HG := hid hg
  clear hxa hg cB HX HB HR hx1
  generalize w1.alloc (.cells #[.int .i64 bo, .int .i64 ne, .int .i64 cr] 90) = W1 at *
  generalize w1.heap.size = g at *
  clear W w1
  gi_wp2_with (gi_at_call 78; ((with_reducible refine (HP.out _).mono ?_); rintro e w2 ⟨rfl, hx2⟩))
  have HJ : Hid (Ext w w2 ∧ w2.heap[w.heap.size]? = some (.cells #[.int .i64 gr, .slice ca cs.length cc, .int .i64 bo, .int .i64 ne, .int .i64 cr, .slice oa on oc, .slice la ln lc, .slice ha hn hc, xv, mv] 83 (0, 0)) ∧ w2.heap[w.heap.size + 1]? = some (.cells #[.int .i64 0, .int .i64 0, .int .i64 0] 90 (0, 0)) ∧ w2.heap[g]? = some (.cells #[.int .i64 bo, .int .i64 ne, .int .i64 cr] 90 (0, 0)) ∧ Row w2 49 2 (.slice none 0 0) 0 (stkF ((threeS bo ne cr).take 0)) ∧ ∀ q, (Value.slice none 0 0).ownBlock = some q → g < q) := hid ⟨HXn.out.trans hx2, hx2.block HBn.out, hx2.block HRn.out, hx2.block HG.out, Row.nil _ _ _, fun q hq => by simp [Value.ownBlock] at hq⟩
  clear HXn HBn HRn HG hx2
  gi_loopw [3, 5, 6, 10] (fun r u5 u6 i wr => ∃ k : Nat, k ≤ 3 ∧ i = .int .i64 k ∧ Hid (Ext w wr ∧ wr.heap[w.heap.size]? = some (.cells #[.int .i64 gr, .slice ca cs.length cc, .int .i64 bo, .int .i64 ne, .int .i64 cr, .slice oa on oc, .slice la ln lc, .slice ha hn hc, xv, mv] 83 (0, 0)) ∧ wr.heap[w.heap.size + 1]? = some (.cells #[.int .i64 0, .int .i64 0, .int .i64 0] 90 (0, 0)) ∧ wr.heap[g]? = some (.cells #[.int .i64 bo, .int .i64 ne, .int .i64 cr] 90 (0, 0)) ∧ Row wr 49 2 r k (stkF ((threeS bo ne cr).take k)) ∧ ∀ q, r.ownBlock = some q → g < q)) (fun _ _ _ i _ => 3 - (intOf i).toNat)
  case atStart => exact ⟨0, by omega, rfl, HJ⟩
  case round =>
    obtain ⟨k, hk, rfl, HI⟩ := hrel
    clear HJ
    rcases (by omega : k = 0 ∨ k = 1 ∨ k = 2 ∨ k = 3) with rfl | rfl | rfl | rfl
    · have hix := HI0.out wr
      gi_wp2_with (refine wpIn_store_fresh (fun _ => trivial) 119 (.tmp 6) (.tmp 13) rfl (W := wr) (c' := #[.string ⟨#[98, 111, 97, 116]⟩, fnV 96, fnV 96]) rfl rfl rfl size119 rfl (by simp [Value.oneCell']) ?_; refine Hid.out ?_)
      have hxa : Ext wr (wr.alloc (.cells #[.string ⟨#[98, 111, 97, 116]⟩, fnV 96, fnV 96] 119)) := (Ext.refl _).alloc _
      have hn : (wr.alloc (.cells #[.string ⟨#[98, 111, 97, 116]⟩, fnV 96, fnV 96] 119)).heap[wr.heap.size]? = some (.cells #[.string ⟨#[98, 111, 97, 116]⟩, fnV 96, fnV 96] 119 (0, 0)) := Ext.new (Ext.refl _)
      have HXn := hid (HI.out.1.trans hxa)
      have HBn := hid (hxa.block HI.out.2.1)
      have HRn := hid (hxa.block HI.out.2.2.1)
      have HGn := hid (hxa.block HI.out.2.2.2.1)
      have HROW := hid (HI.out.2.2.2.2.1.mono hxa)
      have HOWN := hid HI.out.2.2.2.2.2
      have HN := hid hn
      clear HI hxa hix hn
      refine hid ?_
      generalize wr.alloc (.cells #[.string ⟨#[98, 111, 97, 116]⟩, fnV 96, fnV 96] 119) = W3 at *
      generalize wr.heap.size = nb at *
      obtain ⟨na, nc, rfl⟩ := HROW.out.isSliceN
      gi_upto_region 6 with fail
      refine lex_wide 8 [(7, pNew ⟨#[98, 111, 97, 116]⟩ bo)] (by kernel_rfl) (by kernel_rfl) (nStab_cons (pNew_s _ _) nStab_nil) ?_
      simp only [List.take_succ_cons, List.take_zero, List.drop_succ_cons, List.drop_zero]
      apply lex_fun (rfl : psAt _ _ = none)
      · intro x u hR hf
        clear hR hf
        go_simp
        exact ⟨rfl, Ext.refl _⟩
      simp only [Act.put, List.setIfInBounds_toArray, List.set_cons_succ, List.set_cons_zero]
      apply lex_fun (rfl : psAt _ _ = none)
      · intro x u hR hf
        clear hR hf
        go_simp
        exact ⟨rfl, Ext.refl _⟩
      simp only [Act.put, List.setIfInBounds_toArray, List.set_cons_succ, List.set_cons_zero]
      apply lex_fun (rfl : psAt _ _ = none)
      · intro x u hR hf
        have c0 := cell_of (hR.block HN.out)
        clear hR hf
        go_simp
        exact ⟨rfl, Ext.refl _⟩
      simp only [Act.put, List.setIfInBounds_toArray, List.set_cons_succ, List.set_cons_zero]
      apply lex_fun (rfl : psAt _ _ = none)
      · intro x u hR hf
        clear hR hf
        go_simp
        exact ⟨rfl, Ext.refl _⟩
      simp only [Act.put, List.setIfInBounds_toArray, List.set_cons_succ, List.set_cons_zero]
      apply lex_fun (rfl : psAt _ _ = none)
      · intro x u hR hf
        clear hR hf
        go_simp
        exact ⟨rfl, Ext.refl _⟩
      simp only [Act.put, List.setIfInBounds_toArray, List.set_cons_succ, List.set_cons_zero]
      apply lex_fun (rfl : psAt _ _ = none)
      · intro x u hR hf
        have c0 := cell_of (hR.block HGn.out)
        clear hR hf
        go_simp
        exact ⟨rfl, Ext.refl _⟩
      simp only [Act.put, List.setIfInBounds_toArray, List.set_cons_succ, List.set_cons_zero]
      apply lex_fun (rfl : psAt _ _ = none)
      · intro x u hR hf
        clear hR hf
        go_simp
        exact ⟨rfl, Ext.refl _⟩
      simp only [Act.put, List.setIfInBounds_toArray, List.set_cons_succ, List.set_cons_zero]
      refine lex_pred (p := pNew ⟨#[98, 111, 97, 116]⟩ bo) rfl ?_ ?_
      · intro x u hR hf
        clear hR hf
        go_simp
        exact ⟨⟨_, rfl, Ext.new (Ext.refl _)⟩, (Ext.refl _).alloc _⟩
      simp only [Act.put, List.setIfInBounds_toArray, List.set_cons_succ, List.set_cons_zero]
      refine lex_nil fun x W6 hE hfacts => ?_
      obtain ⟨gn, hx7, hgn⟩ : pNew ⟨#[98, 111, 97, 116]⟩ bo (x 7) W6 := hfacts 7 _ (by omega) rfl
      rw [hx7]
      clear hfacts hx7 x
      obtain ⟨i0, hi0, hz0, hz1, hz2⟩ := info_parts info49
      have HZ := hid (And.intro hi0 (And.intro hz0 (And.intro hz1 hz2)))
      clear hi0 hz0 hz1 hz2
      have HXe := hid (HXn.out.trans hE)
      have HRW := hid (HROW.out.mono hE)
      have HBe := hid (hE.block HBn.out)
      have HRe := hid (hE.block HRn.out)
      have HGe := hid (hE.block HGn.out)
      have HNW : Hid (∀ j u, (stkC ⟨⟨#[98, 111, 97, 116]⟩, bo⟩)[j]? = some u → W6.cell? ((⟨gn, 0, none⟩ : Addr).add j) = some u) := fun j u hj => by rw [Addr.add_mid, Nat.zero_add, cell_of hgn]; simpa [stkC] using hj
      clear HXn HBn HRn HGn HROW HN hE
      gi_wp2_with (refine wpIn_append_row (fun _ => trivial) rfl (.tmp 14) (.tmp 21) rfl Tryz.underlying22 HZ.out.1 HZ.out.2.1 HZ.out.2.2.1 HZ.out.2.2.2 (by simp [Value.cells]) (by omega) (v := .slice na 0 nc) rfl HRW.out ⟨gn, 0, none⟩ 1 rfl (stkC ⟨⟨#[98, 111, 97, 116]⟩, bo⟩) rfl HNW.out (fun u hu => by simp [stkC] at hu; rcases hu with rfl | rfl <;> rfl) (by omega) (by omega) ?_; intro v' w' hrow' hgr' how')
      have hgl := HGE.out
      have hon := own_next HXe.out (fun q hq => by have := HOWN.out q hq; omega) hgr' how'
      have hb1 := grownBy_block hgr' HBe.out (fun e => by have := HOWN.out _ e.symm; omega)
      have hb2 := grownBy_block hgr' HRe.out (fun e => by have := HOWN.out _ e.symm; omega)
      have hb3 := grownBy_block hgr' HGe.out (fun e => by have := HOWN.out _ e.symm; omega)
      go_roundw
      case rel =>
        refine ⟨1, by omega, by go_num, hid ⟨hon.1, hb1, hb2, hb3, hrow', fun q hq => ?_⟩⟩
        rcases how' with e | e
        · exact HOWN.out q (by rw [← e]; exact hq)
        · rw [hq] at e; cases e; exact lt_of_block HGe.out
      case measure => simp [intOf]
    · have hix := HI1.out wr
      gi_wp2_with (refine wpIn_store_fresh (fun _ => trivial) 119 (.tmp 6) (.tmp 13) rfl (W := wr) (c' := #[.string ⟨#[110, 101, 116, 115]⟩, fnV 97, fnV 55]) rfl rfl rfl size119 rfl (by simp [Value.oneCell']) ?_; refine Hid.out ?_)
      have hxa : Ext wr (wr.alloc (.cells #[.string ⟨#[110, 101, 116, 115]⟩, fnV 97, fnV 55] 119)) := (Ext.refl _).alloc _
      have hn : (wr.alloc (.cells #[.string ⟨#[110, 101, 116, 115]⟩, fnV 97, fnV 55] 119)).heap[wr.heap.size]? = some (.cells #[.string ⟨#[110, 101, 116, 115]⟩, fnV 97, fnV 55] 119 (0, 0)) := Ext.new (Ext.refl _)
      have HXn := hid (HI.out.1.trans hxa)
      have HBn := hid (hxa.block HI.out.2.1)
      have HRn := hid (hxa.block HI.out.2.2.1)
      have HGn := hid (hxa.block HI.out.2.2.2.1)
      have HROW := hid (HI.out.2.2.2.2.1.mono hxa)
      have HOWN := hid HI.out.2.2.2.2.2
      have HN := hid hn
      clear HI hxa hix hn
      refine hid ?_
      generalize wr.alloc (.cells #[.string ⟨#[110, 101, 116, 115]⟩, fnV 97, fnV 55] 119) = W3 at *
      generalize wr.heap.size = nb at *
      obtain ⟨na, nc, rfl⟩ := HROW.out.isSliceN
      gi_upto_region 6 with fail
      refine lex_wide 8 [(7, pNew ⟨#[110, 101, 116, 115]⟩ ne)] (by kernel_rfl) (by kernel_rfl) (nStab_cons (pNew_s _ _) nStab_nil) ?_
      simp only [List.take_succ_cons, List.take_zero, List.drop_succ_cons, List.drop_zero]
      apply lex_fun (rfl : psAt _ _ = none)
      · intro x u hR hf
        clear hR hf
        go_simp
        exact ⟨rfl, Ext.refl _⟩
      simp only [Act.put, List.setIfInBounds_toArray, List.set_cons_succ, List.set_cons_zero]
      apply lex_fun (rfl : psAt _ _ = none)
      · intro x u hR hf
        clear hR hf
        go_simp
        exact ⟨rfl, Ext.refl _⟩
      simp only [Act.put, List.setIfInBounds_toArray, List.set_cons_succ, List.set_cons_zero]
      apply lex_fun (rfl : psAt _ _ = none)
      · intro x u hR hf
        have c0 := cell_of (hR.block HN.out)
        clear hR hf
        go_simp
        exact ⟨rfl, Ext.refl _⟩
      simp only [Act.put, List.setIfInBounds_toArray, List.set_cons_succ, List.set_cons_zero]
      apply lex_fun (rfl : psAt _ _ = none)
      · intro x u hR hf
        clear hR hf
        go_simp
        exact ⟨rfl, Ext.refl _⟩
      simp only [Act.put, List.setIfInBounds_toArray, List.set_cons_succ, List.set_cons_zero]
      apply lex_fun (rfl : psAt _ _ = none)
      · intro x u hR hf
        clear hR hf
        go_simp
        exact ⟨rfl, Ext.refl _⟩
      simp only [Act.put, List.setIfInBounds_toArray, List.set_cons_succ, List.set_cons_zero]
      apply lex_fun (rfl : psAt _ _ = none)
      · intro x u hR hf
        have c0 := cell_of (hR.block HGn.out)
        clear hR hf
        go_simp
        exact ⟨rfl, Ext.refl _⟩
      simp only [Act.put, List.setIfInBounds_toArray, List.set_cons_succ, List.set_cons_zero]
      apply lex_fun (rfl : psAt _ _ = none)
      · intro x u hR hf
        clear hR hf
        go_simp
        exact ⟨rfl, Ext.refl _⟩
      simp only [Act.put, List.setIfInBounds_toArray, List.set_cons_succ, List.set_cons_zero]
      refine lex_pred (p := pNew ⟨#[110, 101, 116, 115]⟩ ne) rfl ?_ ?_
      · intro x u hR hf
        clear hR hf
        go_simp
        exact ⟨⟨_, rfl, Ext.new (Ext.refl _)⟩, (Ext.refl _).alloc _⟩
      simp only [Act.put, List.setIfInBounds_toArray, List.set_cons_succ, List.set_cons_zero]
      refine lex_nil fun x W6 hE hfacts => ?_
      obtain ⟨gn, hx7, hgn⟩ : pNew ⟨#[110, 101, 116, 115]⟩ ne (x 7) W6 := hfacts 7 _ (by omega) rfl
      rw [hx7]
      clear hfacts hx7 x
      obtain ⟨i0, hi0, hz0, hz1, hz2⟩ := info_parts info49
      have HZ := hid (And.intro hi0 (And.intro hz0 (And.intro hz1 hz2)))
      clear hi0 hz0 hz1 hz2
      have HXe := hid (HXn.out.trans hE)
      have HRW := hid (HROW.out.mono hE)
      have HBe := hid (hE.block HBn.out)
      have HRe := hid (hE.block HRn.out)
      have HGe := hid (hE.block HGn.out)
      have HNW : Hid (∀ j u, (stkC ⟨⟨#[110, 101, 116, 115]⟩, ne⟩)[j]? = some u → W6.cell? ((⟨gn, 0, none⟩ : Addr).add j) = some u) := fun j u hj => by rw [Addr.add_mid, Nat.zero_add, cell_of hgn]; simpa [stkC] using hj
      clear HXn HBn HRn HGn HROW HN hE
      gi_wp2_with (refine wpIn_append_row (fun _ => trivial) rfl (.tmp 14) (.tmp 21) rfl Tryz.underlying22 HZ.out.1 HZ.out.2.1 HZ.out.2.2.1 HZ.out.2.2.2 (by simp [Value.cells]) (by omega) (v := .slice na 1 nc) rfl HRW.out ⟨gn, 0, none⟩ 1 rfl (stkC ⟨⟨#[110, 101, 116, 115]⟩, ne⟩) rfl HNW.out (fun u hu => by simp [stkC] at hu; rcases hu with rfl | rfl <;> rfl) (by omega) (by omega) ?_; intro v' w' hrow' hgr' how')
      have hgl := HGE.out
      have hon := own_next HXe.out (fun q hq => by have := HOWN.out q hq; omega) hgr' how'
      have hb1 := grownBy_block hgr' HBe.out (fun e => by have := HOWN.out _ e.symm; omega)
      have hb2 := grownBy_block hgr' HRe.out (fun e => by have := HOWN.out _ e.symm; omega)
      have hb3 := grownBy_block hgr' HGe.out (fun e => by have := HOWN.out _ e.symm; omega)
      go_roundw
      case rel =>
        refine ⟨2, by omega, by go_num, hid ⟨hon.1, hb1, hb2, hb3, hrow', fun q hq => ?_⟩⟩
        rcases how' with e | e
        · exact HOWN.out q (by rw [← e]; exact hq)
        · rw [hq] at e; cases e; exact lt_of_block HGe.out
      case measure => simp [intOf]
    · have hix := HI2.out wr
      gi_wp2_with (refine wpIn_store_fresh (fun _ => trivial) 119 (.tmp 6) (.tmp 13) rfl (W := wr) (c' := #[.string ⟨#[99, 114, 101, 119]⟩, fnV 98, fnV 98]) rfl rfl rfl size119 rfl (by simp [Value.oneCell']) ?_; refine Hid.out ?_)
      have hxa : Ext wr (wr.alloc (.cells #[.string ⟨#[99, 114, 101, 119]⟩, fnV 98, fnV 98] 119)) := (Ext.refl _).alloc _
      have hn : (wr.alloc (.cells #[.string ⟨#[99, 114, 101, 119]⟩, fnV 98, fnV 98] 119)).heap[wr.heap.size]? = some (.cells #[.string ⟨#[99, 114, 101, 119]⟩, fnV 98, fnV 98] 119 (0, 0)) := Ext.new (Ext.refl _)
      have HXn := hid (HI.out.1.trans hxa)
      have HBn := hid (hxa.block HI.out.2.1)
      have HRn := hid (hxa.block HI.out.2.2.1)
      have HGn := hid (hxa.block HI.out.2.2.2.1)
      have HROW := hid (HI.out.2.2.2.2.1.mono hxa)
      have HOWN := hid HI.out.2.2.2.2.2
      have HN := hid hn
      clear HI hxa hix hn
      refine hid ?_
      generalize wr.alloc (.cells #[.string ⟨#[99, 114, 101, 119]⟩, fnV 98, fnV 98] 119) = W3 at *
      generalize wr.heap.size = nb at *
      obtain ⟨na, nc, rfl⟩ := HROW.out.isSliceN
      gi_upto_region 6 with fail
      refine lex_wide 8 [(7, pNew ⟨#[99, 114, 101, 119]⟩ cr)] (by kernel_rfl) (by kernel_rfl) (nStab_cons (pNew_s _ _) nStab_nil) ?_
      simp only [List.take_succ_cons, List.take_zero, List.drop_succ_cons, List.drop_zero]
      apply lex_fun (rfl : psAt _ _ = none)
      · intro x u hR hf
        clear hR hf
        go_simp
        exact ⟨rfl, Ext.refl _⟩
      simp only [Act.put, List.setIfInBounds_toArray, List.set_cons_succ, List.set_cons_zero]
      apply lex_fun (rfl : psAt _ _ = none)
      · intro x u hR hf
        clear hR hf
        go_simp
        exact ⟨rfl, Ext.refl _⟩
      simp only [Act.put, List.setIfInBounds_toArray, List.set_cons_succ, List.set_cons_zero]
      apply lex_fun (rfl : psAt _ _ = none)
      · intro x u hR hf
        have c0 := cell_of (hR.block HN.out)
        clear hR hf
        go_simp
        exact ⟨rfl, Ext.refl _⟩
      simp only [Act.put, List.setIfInBounds_toArray, List.set_cons_succ, List.set_cons_zero]
      apply lex_fun (rfl : psAt _ _ = none)
      · intro x u hR hf
        clear hR hf
        go_simp
        exact ⟨rfl, Ext.refl _⟩
      simp only [Act.put, List.setIfInBounds_toArray, List.set_cons_succ, List.set_cons_zero]
      apply lex_fun (rfl : psAt _ _ = none)
      · intro x u hR hf
        clear hR hf
        go_simp
        exact ⟨rfl, Ext.refl _⟩
      simp only [Act.put, List.setIfInBounds_toArray, List.set_cons_succ, List.set_cons_zero]
      apply lex_fun (rfl : psAt _ _ = none)
      · intro x u hR hf
        have c0 := cell_of (hR.block HGn.out)
        clear hR hf
        go_simp
        exact ⟨rfl, Ext.refl _⟩
      simp only [Act.put, List.setIfInBounds_toArray, List.set_cons_succ, List.set_cons_zero]
      apply lex_fun (rfl : psAt _ _ = none)
      · intro x u hR hf
        clear hR hf
        go_simp
        exact ⟨rfl, Ext.refl _⟩
      simp only [Act.put, List.setIfInBounds_toArray, List.set_cons_succ, List.set_cons_zero]
      refine lex_pred (p := pNew ⟨#[99, 114, 101, 119]⟩ cr) rfl ?_ ?_
      · intro x u hR hf
        clear hR hf
        go_simp
        exact ⟨⟨_, rfl, Ext.new (Ext.refl _)⟩, (Ext.refl _).alloc _⟩
      simp only [Act.put, List.setIfInBounds_toArray, List.set_cons_succ, List.set_cons_zero]
      refine lex_nil fun x W6 hE hfacts => ?_
      obtain ⟨gn, hx7, hgn⟩ : pNew ⟨#[99, 114, 101, 119]⟩ cr (x 7) W6 := hfacts 7 _ (by omega) rfl
      rw [hx7]
      clear hfacts hx7 x
      obtain ⟨i0, hi0, hz0, hz1, hz2⟩ := info_parts info49
      have HZ := hid (And.intro hi0 (And.intro hz0 (And.intro hz1 hz2)))
      clear hi0 hz0 hz1 hz2
      have HXe := hid (HXn.out.trans hE)
      have HRW := hid (HROW.out.mono hE)
      have HBe := hid (hE.block HBn.out)
      have HRe := hid (hE.block HRn.out)
      have HGe := hid (hE.block HGn.out)
      have HNW : Hid (∀ j u, (stkC ⟨⟨#[99, 114, 101, 119]⟩, cr⟩)[j]? = some u → W6.cell? ((⟨gn, 0, none⟩ : Addr).add j) = some u) := fun j u hj => by rw [Addr.add_mid, Nat.zero_add, cell_of hgn]; simpa [stkC] using hj
      clear HXn HBn HRn HGn HROW HN hE
      gi_wp2_with (refine wpIn_append_row (fun _ => trivial) rfl (.tmp 14) (.tmp 21) rfl Tryz.underlying22 HZ.out.1 HZ.out.2.1 HZ.out.2.2.1 HZ.out.2.2.2 (by simp [Value.cells]) (by omega) (v := .slice na 2 nc) rfl HRW.out ⟨gn, 0, none⟩ 1 rfl (stkC ⟨⟨#[99, 114, 101, 119]⟩, cr⟩) rfl HNW.out (fun u hu => by simp [stkC] at hu; rcases hu with rfl | rfl <;> rfl) (by omega) (by omega) ?_; intro v' w' hrow' hgr' how')
      have hgl := HGE.out
      have hon := own_next HXe.out (fun q hq => by have := HOWN.out q hq; omega) hgr' how'
      have hb1 := grownBy_block hgr' HBe.out (fun e => by have := HOWN.out _ e.symm; omega)
      have hb2 := grownBy_block hgr' HRe.out (fun e => by have := HOWN.out _ e.symm; omega)
      have hb3 := grownBy_block hgr' HGe.out (fun e => by have := HOWN.out _ e.symm; omega)
      go_roundw
      case rel =>
        refine ⟨3, by omega, by go_num, hid ⟨hon.1, hb1, hb2, hb3, hrow', fun q hq => ?_⟩⟩
        rcases how' with e | e
        · exact HOWN.out q (by rw [← e]; exact hq)
        · rw [hq] at e; cases e; exact lt_of_block HGe.out
      case measure => simp [intOf]
    · obtain ⟨na, nc, rfl⟩ := HI.out.2.2.2.2.1.isSliceN
      have cB := cell_of HI.out.2.1
      have HROW : Hid (Row wr 49 2 (.slice na 3 nc) (threeS bo ne cr).length (stkF (threeS bo ne cr))) := hid HI.out.2.2.2.2.1
      have HX := hid HI.out.1
      have HRR := hid HI.out.2.2.1
      clear HI
      have HD79 := hid (HDV.out)
      have HDQ : Hid (∀ (u : World), Ext wr u → Cal 49 #[.int .i64 (gr - cs.sum), .slice na 3 nc] u fun e w' => ∃ r, e = .returned r ∧ Ext u w' ∧ Hid (Row w' 3 1 r 3 (intsF 3 (giveTo (gr - cs.sum) (threeS bo ne cr))))) := hid (fun (u : World) (hu : Ext wr u) => HDD.out _ u (StakesAt.of_row (HROW.out.mono hu) (by simp [threeS])))
      have HAR := hid arrayAt90
      clear HDV HDD
      obtain ⟨P, hP⟩ : ∃ P, gr - cs.sum = P := ⟨_, rfl⟩
      rw [hP] at HD79 HDQ
      have HPP := hid hP
      clear hP
      gi_wp2_with (first | (gi_at_call 79; ((with_reducible refine (HD79.out _ HX.out).mono ?_); rintro e w3 ⟨rfl, hx3⟩)) | (gi_at_call 49; ((with_reducible refine (HDQ.out _ hx3).mono ?_); rintro e w4 ⟨r, rfl, hx4, hr4⟩; obtain ⟨g4, cap4, cur4, rfl, hcap4, hb4, hc40, _⟩ := Row.cells1 hr4.out (j := 0) (by omega); obtain ⟨g5, cap5, cur5, e5, _, _, hc41, _⟩ := Row.cells1 hr4.out (j := 1) (by omega); obtain ⟨g6, cap6, cur6, e6, _, _, hc42, _⟩ := Row.cells1 hr4.out (j := 2) (by omega); cases e5; cases e6; rw [show (intsF 3 (giveTo P (threeS bo ne cr)))[0]? = some (.int .i64 (giveTo P (threeS bo ne cr) 0)) from rfl] at hc40; rw [show (intsF 3 (giveTo P (threeS bo ne cr)))[1]? = some (.int .i64 (giveTo P (threeS bo ne cr) 1)) from rfl] at hc41; rw [show (intsF 3 (giveTo P (threeS bo ne cr)))[2]? = some (.int .i64 (giveTo P (threeS bo ne cr) 2)) from rfl] at hc42; have hrr := (hx3.trans hx4).block HRR.out; have crr := cell_of hrr; have frr := free_of hrr; have lrr := lt_of_block hrr; have hxx := HX.out.trans (hx3.trans hx4); have har := HAR.out g4 cap4 w4)))
      have hX2 : Ext w (((w4.setCell ⟨w.heap.size + 1, 0, none⟩ (.int .i64 (giveTo P (threeS bo ne cr) 0))).setCell ⟨w.heap.size + 1, 1, none⟩ (.int .i64 (giveTo P (threeS bo ne cr) 1))).setCell ⟨w.heap.size + 1, 2, none⟩ (.int .i64 (giveTo P (threeS bo ne cr) 2))) := ((hxx.set (by omega) _ _).set (by omega) _ _).set (by omega) _ _
      have hs := set_same (set_same (set_same hrr 0 (.int .i64 (giveTo P (threeS bo ne cr) 0))) 1 (.int .i64 (giveTo P (threeS bo ne cr) 1))) 2 (.int .i64 (giveTo P (threeS bo ne cr) 2))
      clear crr frr hc40 hc41 hc42
      generalize ((w4.setCell ⟨w.heap.size + 1, 0, none⟩ (.int .i64 (giveTo P (threeS bo ne cr) 0))).setCell ⟨w.heap.size + 1, 1, none⟩ (.int .i64 (giveTo P (threeS bo ne cr) 1))).setCell ⟨w.heap.size + 1, 2, none⟩ (.int .i64 (giveTo P (threeS bo ne cr) 2)) = W at *
      have hc := cell_of hs
      exact bodyPost_ret (v := .agg #[.int .i64 (giveTo P (threeS bo ne cr) 0), .int .i64 (giveTo P (threeS bo ne cr) 1), .int .i64 (giveTo P (threeS bo ne cr) 2)]) (by simp [results, Tryz.results58, go_sem, hc]) rfl ⟨by rw [HPP.out], hX2⟩
end
end Go.Proofs.YtjocoadhalimjaaGreat
