/- NetsCarried: the walk. -/
import Derived.Test.YtmjelgonhpgmbaaMX
import Derived.Test.YtmjelgonhpgmbaaInv
set_option linter.unusedSimpArgs false
set_option linter.unusedVariables false
namespace Go.Proofs.Ytmjelgonhpgmbaa
open Go Go.RowKit Go.Shelf

/-- Two boxes that are made and filled in any order: made by 12 and 13, filled by 14 and 15. -/
def pairJ (w0 : World) (T : TypeId) (z0 z1 a0 a1 b0 b1 : Value) : InvJ := fun L x u => Ext w0 u ∧
  (L 12 = true → ∃ g, x 12 = .pointer (some ⟨g, 0, none⟩) ∧ w0.heap.size ≤ g ∧ (L 14 = false → u.heap[g]? = some (.cells #[z0, z1] T (0, 0))) ∧ (L 14 = true → u.heap[g]? = some (.cells #[a0, a1] T (0, 0)))) ∧
  (L 13 = true → ∃ g, x 13 = .pointer (some ⟨g, 0, none⟩) ∧ w0.heap.size ≤ g ∧ (L 15 = false → u.heap[g]? = some (.cells #[z0, z1] T (0, 0))) ∧ (L 15 = true → u.heap[g]? = some (.cells #[b0, b1] T (0, 0)))) ∧
  (L 12 = true → L 13 = true → x 12 ≠ x 13) ∧ (L 14 = true → L 12 = true) ∧ (L 15 = true → L 13 = true)
theorem pairJ_start (w0 : World) (T : TypeId) (z0 z1 a0 a1 b0 b1 : Value) : pairJ w0 T z0 z1 a0 a1 b0 b1 (fun _ => false) (fun _ => undef) { w0 with drawn := w0.drawn + 1 } :=
  ⟨Ext.drawn _, (fun h => by cases h), (fun h => by cases h), (fun h => by cases h), (fun h => by cases h), fun h => by cases h⟩
section
variable {w0 u u' : World} {T : TypeId} {z0 z1 a0 a1 b0 b1 : Value} {L : Nat → Bool} {x : Nat → Value}
theorem pairJ_lt1 (h : pairJ w0 T z0 z1 a0 a1 b0 b1 L x u) (hL : L 12 = true) : ∃ g, x 12 = .pointer (some ⟨g, 0, none⟩) ∧ g < u.heap.size := by
  obtain ⟨g, h1, h2, h3, h4⟩ := h.2.1 hL
  cases q : L 14 with
  | false => exact ⟨g, h1, lt_of_block (h3 q)⟩
  | true => exact ⟨g, h1, lt_of_block (h4 q)⟩
theorem pairJ_lt2 (h : pairJ w0 T z0 z1 a0 a1 b0 b1 L x u) (hL : L 13 = true) : ∃ g, x 13 = .pointer (some ⟨g, 0, none⟩) ∧ g < u.heap.size := by
  obtain ⟨g, h1, h2, h3, h4⟩ := h.2.2.1 hL
  cases q : L 15 with
  | false => exact ⟨g, h1, lt_of_block (h3 q)⟩
  | true => exact ⟨g, h1, lt_of_block (h4 q)⟩
theorem pairJ_make1 (h : pairJ w0 T z0 z1 a0 a1 b0 b1 L x u) (hL : L 12 = false) : pairJ w0 T z0 z1 a0 a1 b0 b1 (updL L 12) (updX x 12 (.pointer (some ⟨u.heap.size, 0, none⟩))) (u.alloc (.cells #[z0, z1] T)) := by
  have hx : Ext u (u.alloc (.cells #[z0, z1] T)) := (Ext.refl _).alloc _
  have h14 : L 14 = false := by
    cases q : L 14 with
    | false => rfl
    | true => rw [h.2.2.2.2.1 q] at hL; cases hL
  refine ⟨h.1.trans hx, fun _ => ⟨u.heap.size, rfl, h.1.size, fun _ => Ext.new (Ext.refl _), fun q => ?_⟩, fun q => ?_, fun _ q e => ?_, fun q => rfl, h.2.2.2.2.2⟩
  · rw [show (updL L 12) 14 = L 14 from rfl, h14] at q; cases q
  · obtain ⟨g, h1, h2, h3, h4⟩ := h.2.2.1 q
    exact ⟨g, h1, h2, fun q => hx.block (h3 q), fun q => hx.block (h4 q)⟩
  · obtain ⟨g, h1, h2⟩ := pairJ_lt2 h q
    have e2 : (Value.pointer (some ⟨u.heap.size, 0, none⟩)) = x 13 := e
    rw [h1] at e2
    cases e2
    omega
theorem pairJ_make2 (h : pairJ w0 T z0 z1 a0 a1 b0 b1 L x u) (hL : L 13 = false) : pairJ w0 T z0 z1 a0 a1 b0 b1 (updL L 13) (updX x 13 (.pointer (some ⟨u.heap.size, 0, none⟩))) (u.alloc (.cells #[z0, z1] T)) := by
  have hx : Ext u (u.alloc (.cells #[z0, z1] T)) := (Ext.refl _).alloc _
  have h15 : L 15 = false := by
    cases q : L 15 with
    | false => rfl
    | true => rw [h.2.2.2.2.2 q] at hL; cases hL
  refine ⟨h.1.trans hx, fun q => ?_, fun _ => ⟨u.heap.size, rfl, h.1.size, fun _ => Ext.new (Ext.refl _), fun q => ?_⟩, fun q _ e => ?_, h.2.2.2.2.1, fun q => rfl⟩
  · obtain ⟨g, h1, h2, h3, h4⟩ := h.2.1 q
    exact ⟨g, h1, h2, fun q => hx.block (h3 q), fun q => hx.block (h4 q)⟩
  · rw [show (updL L 13) 15 = L 15 from rfl, h15] at q; cases q
  · obtain ⟨g, h1, h2⟩ := pairJ_lt1 h q
    have e2 : x 12 = (Value.pointer (some ⟨u.heap.size, 0, none⟩)) := e
    rw [h1] at e2
    cases e2
    omega
theorem pairJ_fill1 (h : pairJ w0 T z0 z1 a0 a1 b0 b1 L x u) (hL : L 12 = true) {g : Nat} (hx : x 12 = .pointer (some ⟨g, 0, none⟩)) (hb : u.heap[g]? = some (.cells #[z0, z1] T (0, 0))) (hg : w0.heap.size ≤ g) : pairJ w0 T z0 z1 a0 a1 b0 b1 (updL L 14) x ((u.setCell ⟨g, 0, none⟩ a0).setCell ⟨g, 1, none⟩ a1) := by
  have hk := set_same (set_same hb 0 a0) 1 a1
  simp only [List.setIfInBounds_toArray, List.set_cons_succ, List.set_cons_zero] at hk
  refine ⟨(h.1.set hg 0 a0).set hg 1 a1, fun _ => ⟨g, hx, hg, (fun q => by cases q), fun _ => hk⟩, fun q => ?_, h.2.2.2.1, fun _ => hL, h.2.2.2.2.2⟩
  obtain ⟨g', h1, h2, h3, h4⟩ := h.2.2.1 q
  have hne : g' ≠ g := fun e => h.2.2.2.1 hL q (by rw [hx, h1, e])
  exact ⟨g', h1, h2, fun q => by rw [set_other hne, set_other hne]; exact h3 q, fun q => by rw [set_other hne, set_other hne]; exact h4 q⟩
theorem pairJ_fill2 (h : pairJ w0 T z0 z1 a0 a1 b0 b1 L x u) (hL : L 13 = true) {g : Nat} (hx : x 13 = .pointer (some ⟨g, 0, none⟩)) (hb : u.heap[g]? = some (.cells #[z0, z1] T (0, 0))) (hg : w0.heap.size ≤ g) : pairJ w0 T z0 z1 a0 a1 b0 b1 (updL L 15) x ((u.setCell ⟨g, 0, none⟩ b0).setCell ⟨g, 1, none⟩ b1) := by
  have hk := set_same (set_same hb 0 b0) 1 b1
  simp only [List.setIfInBounds_toArray, List.set_cons_succ, List.set_cons_zero] at hk
  refine ⟨(h.1.set hg 0 b0).set hg 1 b1, fun q => ?_, fun _ => ⟨g, hx, hg, (fun q => by cases q), fun _ => hk⟩, h.2.2.2.1, h.2.2.2.2.1, fun _ => hL⟩
  obtain ⟨g', h1, h2, h3, h4⟩ := h.2.1 q
  have hne : g' ≠ g := fun e => h.2.2.2.1 q hL (by rw [hx, h1, e])
  exact ⟨g', h1, h2, fun q => by rw [set_other hne, set_other hne]; exact h3 q, fun q => by rw [set_other hne, set_other hne]; exact h4 q⟩
end

def liesIs (F : FleetD) (T : TruthD) (i : Nat) (h e n : Int) : Prop := liesE F T i h = 0 ∧ liesVe F T i h = e ∧ liesVn F T i h = n
def sm (M x : Int) : Prop := -M ≤ x ∧ x ≤ M
theorem carried_facts {F : FleetD} {T : TruthD} (hF : fleetB F = true) (hT : truthB F T = true) {i k : Nat} {a b : NetD} (ha : F.nets[i]? = some a) (hb : F.nets[k]? = some b) {Lo h : Int} (hLo : Lo = mx a.shot b.shot) (hh : Lo ≤ h) (h1 : h ≤ a.haul) (h2 : h ≤ b.haul) :
    ∃ ae an be bn ce cn de dn si sk ti tk, liesIs F T i h ae an ∧ liesIs F T k h be bn ∧ liesIs F T i Lo ce cn ∧ liesIs F T k Lo de dn ∧ (T.se.getD i 0 = si ∧ T.se.getD k 0 = sk ∧ T.sn.getD i 0 = ti ∧ T.sn.getD k 0 = tk) ∧
      (sm 20000 ae ∧ sm 20000 an ∧ sm 20000 be ∧ sm 20000 bn ∧ sm 20000 ce ∧ sm 20000 cn ∧ sm 20000 de ∧ sm 20000 dn) ∧ (sm 50 si ∧ sm 50 sk ∧ sm 50 ti ∧ sm 50 tk) ∧
      (ae - be = ce - de + (h - Lo) * (si - sk) ∧ an - bn = cn - dn + (h - Lo) * (ti - tk)) ∧ (sm 1000000000 ((h - Lo) * (si - sk)) ∧ sm 1000000000 ((h - Lo) * (ti - tk))) ∧ (0 ≤ Lo ∧ Lo ≤ 24 ∧ 0 ≤ h ∧ h ≤ 24) := by
  have ok := fleetB_ok hF
  have oT := truthB_ok hT
  have oa := ok.nets a (List.mem_of_getElem? ha)
  have ob := ok.nets b (List.mem_of_getElem? hb)
  have hm := le_mx a.shot b.shot
  rw [← hLo] at hm
  obtain ⟨hi, ea⟩ := List.getElem?_eq_some_iff.1 ha
  obtain ⟨hk, eb⟩ := List.getElem?_eq_some_iff.1 hb
  have sa := truth_slip hT ha
  have sb := truth_slip hT hb
  have g1 := oa.se
  have g2 := oa.sn
  have g3 := ob.se
  have g4 := ob.sn
  unfold spIn at g1 g2 g3 g4
  have w1 := oa.shot
  have w2 := ob.shot
  have w3 := oa.haul
  have w4 := ob.haul
  have w5 := ok.hours
  refine ⟨_, _, _, _, _, _, _, _, _, _, _, _, lies_ok hF hT ha (h := h) (by omega), lies_ok hF hT hb (h := h) (by omega), lies_ok hF hT ha (h := Lo) (by omega), lies_ok hF hT hb (h := Lo) (by omega), ⟨rfl, rfl, rfl, rfl⟩, ?_, ?_, ⟨?_, ?_⟩, ⟨?_, ?_⟩, ?_⟩
  · exact ⟨where_e_in ok oT hi ea ⟨by omega, by omega⟩, where_n_in ok oT hi ea ⟨by omega, by omega⟩, where_e_in ok oT hk eb ⟨by omega, by omega⟩, where_n_in ok oT hk eb ⟨by omega, by omega⟩, where_e_in ok oT hi ea ⟨by omega, by omega⟩, where_n_in ok oT hi ea ⟨by omega, by omega⟩, where_e_in ok oT hk eb ⟨by omega, by omega⟩, where_n_in ok oT hk eb ⟨by omega, by omega⟩⟩
  · unfold sm; omega
  · rw [where_eG, where_eG, where_eG, where_eG, hLo]; exact side_carried T.east a.east b.east w1.1 w2.1 (by omega)
  · rw [where_nG, where_nG, where_nG, where_nG, hLo]; exact side_carried T.north a.north b.north w1.1 w2.1 (by omega)
  · exact mul_small (by omega) (by omega)
  · exact mul_small (by omega) (by omega)
  · omega
theorem carried_apart {F : FleetD} (hF : fleetB F = true) {i k : Nat} (hne : i ≠ k) {a b : NetD} (ha : F.nets[i]? = some a) (hb : F.nets[k]? = some b) {Lo h : Int} (hLo : Lo = mx a.shot b.shot) (hh : Lo ≤ h) (h1 : h ≤ a.haul) (h2 : h ≤ b.haul) :
    ∃ tl th nl nh, (apartE F i k h = 0 ∧ apartVe F i k h = ⟨tl + (h - Lo) * (a.se.lo - b.se.hi), th + (h - Lo) * (a.se.hi - b.se.lo)⟩ ∧ apartVn F i k h = ⟨nl, nh⟩) ∧ (apartE F i k Lo = 0 ∧ apartVe F i k Lo = ⟨tl, th⟩ ∧ ∃ ml mh, apartVn F i k Lo = ⟨ml, mh⟩) ∧ (sm 1000000 tl ∧ sm 1000000 th) ∧ (sm 1000000000 ((h - Lo) * (a.se.lo - b.se.hi)) ∧ sm 1000000000 ((h - Lo) * (a.se.hi - b.se.lo))) ∧ (sm 50 a.se.lo ∧ sm 50 a.se.hi ∧ sm 50 b.se.lo ∧ sm 50 b.se.hi) := by
  have ok := fleetB_ok hF
  have oa := ok.nets a (List.mem_of_getElem? ha)
  have ob := ok.nets b (List.mem_of_getElem? hb)
  have hm := le_mx a.shot b.shot
  rw [← hLo] at hm
  have g1 := oa.se
  have g3 := ob.se
  unfold spIn at g1 g3
  have w1 := oa.shot
  have w2 := ob.shot
  have w3 := oa.haul
  have w4 := ob.haul
  have w5 := ok.hours
  have k1 := apart_ok hF hne ha hb (h := h) (by omega) (by omega)
  have k2 := apart_ok hF hne ha hb (h := Lo) (by omega) (by omega)
  have hs := (near_apart_small ok oa ob (h := Lo) ⟨by omega, by omega⟩).2.2
  unfold SmallSp at hs
  refine ⟨(apart_eF F a b Lo).lo, (apart_eF F a b Lo).hi, (apart_nF F a b h).lo, (apart_nF F a b h).hi, ⟨k1.1, ?_, k1.2.2⟩, ⟨k2.1, k2.2.1, _, _, k2.2.2⟩, ⟨hs.1, hs.2⟩, ⟨mul_small (by omega) (by omega), mul_small (by omega) (by omega)⟩, ?_⟩
  · rw [k1.2.1, apart_eG, apart_carried, ← hLo]; rfl
  · unfold sm; omega

set_option maxRecDepth 100000 in
set_option maxHeartbeats 8000000 in
theorem NetsCarried_any (F : FleetD) (n0 n1 n2 : Int) (bits : List Int) (fv bv : Value) (w : World) (hf : FlAt w fv F) (hb : IntsAt w bv bits) : Cal 6 #[fv, .agg #[.int .i64 n0, .int .i64 n1, .int .i64 n2], bv] w fun e w' => e = .returned (.bool true) ∧ Ext w w' := by
  obtain ⟨ev, nv, sv, rfl, he, hn, hs⟩ := hf
  have HF := hid (fun (u : World) (hu : Ext w u) => (⟨ev, nv, sv, rfl, he.mono hu, hn.mono hu, hs.mono hu⟩ : FlAt u (.agg #[ev, nv, .int .i64 F.gap, sv]) F))
  have HEN := hid (And.intro he (And.intro hn hs))
  obtain ⟨sa, sc, rfl, hsl, hsc⟩ := hs
  have HSC := hid hsc
  obtain ⟨ea, ec, rfl, _, _⟩ := he
  obtain ⟨na, nc, rfl, _, _⟩ := hn
  clear hsc
  have HBI := hid (fun (u : World) (hu : Ext w u) => hb.mono hu)
  clear hb
  gi_enter Try.func6, Try.ntmps6
  gi_upto_region 1 with fail
  have hW : Ext w ((w.alloc (.cells #[.slice ea F.east.length ec, .slice na F.north.length nc, .int .i64 F.gap, .slice sa F.nets.length sc] 40)).alloc (.cells #[.int .i64 n0, .int .i64 n1, .int .i64 n2] 60)) := (((Ext.refl _).alloc _).alloc _)
  have hB0 : ((w.alloc (.cells #[.slice ea F.east.length ec, .slice na F.north.length nc, .int .i64 F.gap, .slice sa F.nets.length sc] 40)).alloc (.cells #[.int .i64 n0, .int .i64 n1, .int .i64 n2] 60)).heap[w.heap.size]? = some (.cells #[.slice ea F.east.length ec, .slice na F.north.length nc, .int .i64 F.gap, .slice sa F.nets.length sc] 40 (0, 0)) := by simp only [alloc_at, World.size_alloc]; (repeat rw [if_neg (by omega)]); first | rfl | rw [if_pos (by omega)] | rw [if_pos trivial]
  have hB1 : ((w.alloc (.cells #[.slice ea F.east.length ec, .slice na F.north.length nc, .int .i64 F.gap, .slice sa F.nets.length sc] 40)).alloc (.cells #[.int .i64 n0, .int .i64 n1, .int .i64 n2] 60)).heap[w.heap.size + 1]? = some (.cells #[.int .i64 n0, .int .i64 n1, .int .i64 n2] 60 (0, 0)) := by simp only [alloc_at, World.size_alloc]; (repeat rw [if_neg (by omega)]); first | rfl | rw [if_pos (by omega)] | rw [if_pos trivial]
  generalize ((w.alloc (.cells #[.slice ea F.east.length ec, .slice na F.north.length nc, .int .i64 F.gap, .slice sa F.nets.length sc] 40)).alloc (.cells #[.int .i64 n0, .int .i64 n1, .int .i64 n2] 60)) = W at *
  have HX := hid hW
  have HB0 := hid hB0
  have c0 := cell_of hB0
  have HB1 := hid hB1
  have c1 := cell_of hB1
  clear hW hB0 hB1
  have HSO := hid (fun (b : Bool) (hb : fleetB F = b) (u : World) (hu : Ext w u) => sound_b F b hb _ u (HF.out u hu))
  cases hF : fleetB F
  case false =>
    gi_wp2_with (first | (gi_at_call 22; ((with_reducible refine (HSO.out false hF _ HX.out).mono ?_); rintro e w2 ⟨rfl, hx2⟩)) | (gi_at_call 19; ((with_reducible refine (works_any _).mono ?_); rintro e w99 ⟨rfl, hx99⟩)))
    go_ret
    exact ⟨rfl, (HX.out.trans hx2).trans hx99⟩
  case true =>
  have ok := fleetB_ok hF
  gi_upto_region 3 with (gi_at_call 22; ((with_reducible refine (HSO.out true hF _ HX.out).mono ?_); rintro e w2 ⟨rfl, hx2⟩; have c0 := cell_of (hx2.block HB0.out); have c1 := cell_of (hx2.block HB1.out)))
  have HX2 := hid (HX.out.trans hx2)
  have HB2 := hid (hx2.block HB0.out)
  clear HX HB0 HB1 hx2 HSO
  have HPH := hid (pairHour_c F hF _ n0 n1 n2 w2 (HF.out _ HX2.out))
  cases hp : pairOk F n0 n1
  case false =>
    rw [show pairV F n0 n1 n2 = .tuple #[.int .i64 0, .int .i64 0, .int .i64 0, .bool false] by unfold pairV; rw [hp]; rfl] at HPH
    gi_wp2_with (first | (gi_at_call 27; ((with_reducible refine (HPH.out).mono ?_); rintro e w3 ⟨rfl, hx3⟩)) | (gi_at_call 19; ((with_reducible refine (works_any _).mono ?_); rintro e w99 ⟨rfl, hx99⟩)))
    go_ret
    exact ⟨rfl, (HX2.out.trans hx3).trans hx99⟩
  case true =>
  rw [show pairV F n0 n1 n2 = .tuple #[.int .i64 (pairI F n0), .int .i64 (pairK F n0 n1), .int .i64 (chosenI (pairLo F n0 n1) (pairHi F n0 n1) n2), .bool true] by unfold pairV; rw [hp]; rfl] at HPH
  obtain ⟨a, b, ha, hb, hne, hlo, hhi, hmm⟩ := pair_facts hp
  have hch := chosenI_ok n2 hmm
  generalize pairI F n0 = i at *
  generalize pairK F n0 n1 = k at *
  generalize chosenI (pairLo F n0 n1) (pairHi F n0 n1) n2 = h at *
  generalize pairHi F n0 n1 = Hi at *
  generalize pairLo F n0 n1 = Lo at *
  have hT := chosenT_ok ok bits
  obtain ⟨ae, an, be, bn, ce, cn, de, dn, si, sk, ti, tk, l1, l2, l3, l4, hsl4, hbd, hsd, heq, hpr, hhr⟩ := carried_facts hF hT ha hb hlo.2.2.1 hch.1 (by omega) (by omega)
  obtain ⟨tl, th, nl, nh, p1, ⟨p2, p3, ml, mh, p4⟩, htb, hqr, hseb⟩ := carried_apart hF hne ha hb hlo.2.2.1 hch.1 (by omega) (by omega)
  have HL1 := hid (fun (tv : Value) (u : World) (hu : Ext w u) (ht : TrAt u tv (chosenT F bits)) => Lies_c F (chosenT F bits) _ tv i h u (HF.out u hu) ht)
  have HL2 := hid (fun (tv : Value) (u : World) (hu : Ext w u) (ht : TrAt u tv (chosenT F bits)) => Lies_c F (chosenT F bits) _ tv k h u (HF.out u hu) ht)
  have HL3 := hid (fun (tv : Value) (u : World) (hu : Ext w u) (ht : TrAt u tv (chosenT F bits)) => Lies_c F (chosenT F bits) _ tv i Lo u (HF.out u hu) ht)
  have HL4 := hid (fun (tv : Value) (u : World) (hu : Ext w u) (ht : TrAt u tv (chosenT F bits)) => Lies_c F (chosenT F bits) _ tv k Lo u (HF.out u hu) ht)
  have HA1 := hid (fun (u : World) (hu : Ext w u) => Apart_c F _ i k h u (HF.out u hu))
  have HA2 := hid (fun (u : World) (hu : Ext w u) => Apart_c F _ i k Lo u (HF.out u hu))
  rw [l1.1, l1.2.1, l1.2.2] at HL1
  rw [l2.1, l2.2.1, l2.2.2] at HL2
  rw [l3.1, l3.2.1, l3.2.2] at HL3
  rw [l4.1, l4.2.1, l4.2.2] at HL4
  rw [p1.1, p1.2.1, p1.2.2] at HA1
  rw [p2, p3, p4] at HA2
  simp only [spnV] at HA1 HA2
  unfold sm at hbd hsd hpr htb hqr hseb
  obtain ⟨hi, ea'⟩ := List.getElem?_eq_some_iff.1 ha
  obtain ⟨hk, eb'⟩ := List.getElem?_eq_some_iff.1 hb
  obtain ⟨nb, off, rfl, hnb, dd⟩ := HSC.out i hi
  obtain ⟨nb2, off2, hre, hnb2, ee⟩ := HSC.out k hk
  obtain ⟨rfl, rfl⟩ : nb = nb2 ∧ off = off2 := by cases hre; exact ⟨rfl, rfl⟩
  rw [ea'] at dd
  rw [eb'] at ee
  have HND := hid (And.intro hnb (And.intro dd ee))
  have HCL := hid (chosenT_len ok bits)
  have HCF := hid (fun (u : World) (hu : Ext w u) => chosen_four F hF bits _ bv u (HF.out u hu) (HBI.out u hu))
  have HS4 := hid hsl4
  have HEQ := hid heq
  have hii : (i : Int) < F.nets.length := by omega
  have hkk : (k : Int) < F.nets.length := by omega
  have HLO := hid hlo.2.2.2
  have hlo1 := hlo.1
  have hlo2 := hlo.2.1
  have HOK := hid ok
  clear l1 l2 l3 l4 p1 p2 p3 p4 hre hnb2 dd ee hsl4 heq hlo ha hb ea' eb' ok hp
  gi_upto_region 6 with (gi_at_call 27; ((with_reducible refine (HPH.out).mono ?_); rintro e w3 ⟨rfl, hx3⟩; have c0 := cell_of (hx3.block HB2.out)))
  have HX3 := hid (HX2.out.trans hx3)
  have HB3 := hid (hx3.block HB2.out)
  clear hx3 HX2 HB2 HPH c0 c1
  have HC := hid fun e : Later w3 => And.intro (cell_of (Ext.block e.grown HB3.out)) (And.intro (((HX3.out.trans e.grown).cell (p := ⟨nb, _, none⟩) HND.out.1).trans HND.out.2.1.2.2.2.2.1) (((HX3.out.trans e.grown).cell (p := ⟨nb, _, none⟩) HND.out.1).trans HND.out.2.2.2.2.2.2.1))
  have q0 := HC.out
  refine quiet_wide 14 (by kernel_rfl) (by kernel_rfl) ?_
  simp only [List.take_succ_cons, List.take_zero, List.drop_succ_cons, List.drop_zero]
  repeat (any_goals (first | go_big_quiet_step (fail) | quiet_step (fail)))
  refine wpQuiet_nil ?_
  rintro w4 ⟨⟨w4q, hx4⟩, hew⟩
  obtain rfl : w4 = w4q := hew
  have hx4 : Ext w3 w4 := hx4
  clear q0 HC
  have HX4 := hid (HX3.out.trans hx4)
  have HB4 := hid (hx4.block HB3.out)
  clear hx4 HX3 HB3
  rw [← HLO.out]
  have c0 := cell_of HB4.out
  gi_upto_region 8 with (gi_at_call 25; ((with_reducible refine (HCF.out _ HX4.out).mono ?_); rintro e w5 ⟨v1, v2, v3, v4, rfl, hx5, hfo⟩; obtain ⟨x1, y1, rfl⟩ := hfo.row1.isSliceN; obtain ⟨x2, y2, rfl⟩ := hfo.row2.isSliceN; obtain ⟨x3, y3, rfl⟩ := hfo.row3.isSliceN; obtain ⟨x4, y4, rfl⟩ := hfo.row4.isSliceN))
  have hxa : Ext w5 (w5.alloc (.cells #[.slice x1 (chosenT F bits).east.length y1, .slice x2 (chosenT F bits).north.length y2, .slice x3 (chosenT F bits).se.length y3, .slice x4 (chosenT F bits).sn.length y4] 50)) := (Ext.refl _).alloc _
  have HX6 := hid ((HX4.out.trans hx5).trans hxa)
  have HB6 := hid ((hx5.trans hxa).block HB4.out)
  have HT6 : Hid ((w5.alloc (.cells #[.slice x1 (chosenT F bits).east.length y1, .slice x2 (chosenT F bits).north.length y2, .slice x3 (chosenT F bits).se.length y3, .slice x4 (chosenT F bits).sn.length y4] 50)).heap[w5.heap.size]? = some (.cells #[.slice x1 (chosenT F bits).east.length y1, .slice x2 (chosenT F bits).north.length y2, .slice x3 (chosenT F bits).se.length y3, .slice x4 (chosenT F bits).sn.length y4] 50 (0, 0))) := Ext.new (Ext.refl _)
  have HFO := hid (hfo.ext hxa)
  have hlb := lt_of_block (hx5.block HB4.out)
  clear hx5 hxa hfo HX4 HB4 c0 HCF
  obtain ⟨TT, hTT⟩ : ∃ n, n = w5.heap.size := ⟨_, rfl⟩
  rw [← hTT] at HT6 hlb ⊢
  clear hTT
  generalize w5.alloc (.cells #[.slice x1 (chosenT F bits).east.length y1, .slice x2 (chosenT F bits).north.length y2, .slice x3 (chosenT F bits).se.length y3, .slice x4 (chosenT F bits).sn.length y4] 50) = w6 at *
  have c0 := cell_of HB6.out
  have ct := cell_of HT6.out
  gi_upto_region 9 with (gi_at_call 29; ((with_reducible refine (HL1.out _ _ HX6.out (four_of hF HFO.out)).mono ?_); rintro e w7 ⟨rfl, hx7⟩))
  have hxa : Ext w6 (w7.alloc (.cells #[.int .i64 ae, .int .i64 an] 54)) := hx7.alloc _
  have HX6 := hid (HX6.out.trans hxa)
  have HFO := hid (HFO.out.ext hxa)
  have K00 := hid (hxa.block HB6.out)
  have K01 := hid (hxa.block HT6.out)
  have K02 : Hid ((w7.alloc (.cells #[.int .i64 ae, .int .i64 an] 54)).heap[w7.heap.size]? = some (.cells #[.int .i64 ae, .int .i64 an] 54 (0, 0))) := Ext.new (Ext.refl _)
  clear hx7 hxa c0 ct HB6 HT6
  obtain ⟨G0, hG⟩ : ∃ n, n = w7.heap.size := ⟨_, rfl⟩
  rw [← hG] at K02 ⊢
  clear hG
  generalize w7.alloc (.cells #[.int .i64 ae, .int .i64 an] 54) = w8 at *
  have c0 := cell_of K00.out
  have ct := cell_of K01.out
  gi_upto_region 10 with (gi_at_call 29; ((with_reducible refine (HL2.out _ _ HX6.out (four_of hF HFO.out)).mono ?_); rintro e w9 ⟨rfl, hx7⟩))
  have hxa : Ext w8 (w9.alloc (.cells #[.int .i64 be, .int .i64 bn] 54)) := hx7.alloc _
  have HX6 := hid (HX6.out.trans hxa)
  have HFO := hid (HFO.out.ext hxa)
  have K10 := hid (hxa.block K00.out)
  have K11 := hid (hxa.block K01.out)
  have K12 := hid (hxa.block K02.out)
  have K13 : Hid ((w9.alloc (.cells #[.int .i64 be, .int .i64 bn] 54)).heap[w9.heap.size]? = some (.cells #[.int .i64 be, .int .i64 bn] 54 (0, 0))) := Ext.new (Ext.refl _)
  clear hx7 hxa c0 ct K00 K01 K02
  obtain ⟨G1, hG⟩ : ∃ n, n = w9.heap.size := ⟨_, rfl⟩
  rw [← hG] at K13 ⊢
  clear hG
  generalize w9.alloc (.cells #[.int .i64 be, .int .i64 bn] 54) = w10 at *
  have c0 := cell_of K10.out
  have ct := cell_of K11.out
  gi_upto_region 11 with (gi_at_call 29; ((with_reducible refine (HL3.out _ _ HX6.out (four_of hF HFO.out)).mono ?_); rintro e w11 ⟨rfl, hx7⟩))
  have hxa : Ext w10 (w11.alloc (.cells #[.int .i64 ce, .int .i64 cn] 54)) := hx7.alloc _
  have HX6 := hid (HX6.out.trans hxa)
  have HFO := hid (HFO.out.ext hxa)
  have K20 := hid (hxa.block K10.out)
  have K21 := hid (hxa.block K11.out)
  have K22 := hid (hxa.block K12.out)
  have K23 := hid (hxa.block K13.out)
  have K24 : Hid ((w11.alloc (.cells #[.int .i64 ce, .int .i64 cn] 54)).heap[w11.heap.size]? = some (.cells #[.int .i64 ce, .int .i64 cn] 54 (0, 0))) := Ext.new (Ext.refl _)
  clear hx7 hxa c0 ct K10 K11 K12 K13
  obtain ⟨G2, hG⟩ : ∃ n, n = w11.heap.size := ⟨_, rfl⟩
  rw [← hG] at K24 ⊢
  clear hG
  generalize w11.alloc (.cells #[.int .i64 ce, .int .i64 cn] 54) = w12 at *
  have c0 := cell_of K20.out
  have ct := cell_of K21.out
  gi_upto_region 12 with (gi_at_call 29; ((with_reducible refine (HL4.out _ _ HX6.out (four_of hF HFO.out)).mono ?_); rintro e w13 ⟨rfl, hx7⟩))
  have hxa : Ext w12 (w13.alloc (.cells #[.int .i64 de, .int .i64 dn] 54)) := hx7.alloc _
  have HX6 := hid (HX6.out.trans hxa)
  have HFO := hid (HFO.out.ext hxa)
  have K30 := hid (hxa.block K20.out)
  have K31 := hid (hxa.block K21.out)
  have K32 := hid (hxa.block K22.out)
  have K33 := hid (hxa.block K23.out)
  have K34 := hid (hxa.block K24.out)
  have K35 : Hid ((w13.alloc (.cells #[.int .i64 de, .int .i64 dn] 54)).heap[w13.heap.size]? = some (.cells #[.int .i64 de, .int .i64 dn] 54 (0, 0))) := Ext.new (Ext.refl _)
  clear hx7 hxa c0 ct K20 K21 K22 K23 K24
  obtain ⟨G3, hG⟩ : ∃ n, n = w13.heap.size := ⟨_, rfl⟩
  rw [← hG] at K35 ⊢
  clear hG
  generalize w13.alloc (.cells #[.int .i64 de, .int .i64 dn] 54) = w14 at *
  gi_upto_region 14 with fail
  have hlen := HCL.out
  have hiS : (i : Int) < (chosenT F bits).se.length := by omega
  have hkS : (k : Int) < (chosenT F bits).se.length := by omega
  have hiN : (i : Int) < (chosenT F bits).sn.length := by omega
  have hkN : (k : Int) < (chosenT F bits).sn.length := by omega
  have hcnt := HOK.out.count
  obtain ⟨a3, c3, he3, hl3, hc3⟩ := ints_row HFO.out.row3 (by omega)
  obtain ⟨a4, c4, he4, hl4, hc4⟩ := ints_row HFO.out.row4 (by omega)
  cases he3
  cases he4
  obtain ⟨b3, o3, rfl, hb3, hci3⟩ := hc3 i (by omega)
  obtain ⟨b3', o3', he3, _, hck3⟩ := hc3 k (by omega)
  cases he3
  obtain ⟨b4, o4, rfl, hb4, hci4⟩ := hc4 i (by omega)
  obtain ⟨b4', o4', he4, _, hck4⟩ := hc4 k (by omega)
  cases he4
  rw [show (chosenT F bits).se[i]'(by omega) = si from by rw [← HS4.out.1, getD_of (by omega)]] at hci3
  rw [show (chosenT F bits).se[k]'(by omega) = sk from by rw [← HS4.out.2.1, getD_of (by omega)]] at hck3
  rw [show (chosenT F bits).sn[i]'(by omega) = ti from by rw [← HS4.out.2.2.1, getD_of (by omega)]] at hci4
  rw [show (chosenT F bits).sn[k]'(by omega) = tk from by rw [← HS4.out.2.2.2, getD_of (by omega)]] at hck4
  have HQ := hid fun e : Later w14 => And.intro (cell_of (Ext.block e.grown K31.out)) (And.intro (cell_of (Ext.block e.grown K32.out)) (And.intro (cell_of (Ext.block e.grown K33.out)) (And.intro (cell_of (Ext.block e.grown K34.out)) (And.intro (cell_of (Ext.block e.grown K35.out)) (And.intro ((Below.cell e.grown (p := ⟨b3, _, none⟩) hb3).trans hci3) (And.intro ((Below.cell e.grown (p := ⟨b3, _, none⟩) hb3).trans hck3) (And.intro ((Below.cell e.grown (p := ⟨b4, _, none⟩) hb4).trans hci4) ((Below.cell e.grown (p := ⟨b4, _, none⟩) hb4).trans hck4))))))))
  clear hc3 hc4 hci3 hck3 hci4 hck4 hb3 hb4 hlen
  have hq1 : ((ae - be) != (ce - de + (h - Lo) * (si - sk))) = false := by rw [HEQ.out.1]; simp
  have hq2 : ((an - bn) != (cn - dn + (h - Lo) * (ti - tk))) = false := by rw [HEQ.out.2]; simp
  have hw1 : IntKind.i64.wrap ((h - Lo) * (si - sk)) = (h - Lo) * (si - sk) := by rw [IntKind.wrap_i64]; omega
  have hw2 : IntKind.i64.wrap ((h - Lo) * (ti - tk)) = (h - Lo) * (ti - tk) := by rw [IntKind.wrap_i64]; omega
  have hw3 : wrap64 ((h - Lo) * (si - sk)) = (h - Lo) * (si - sk) := by unfold wrap64; omega
  have hw4 : wrap64 ((h - Lo) * (ti - tk)) = (h - Lo) * (ti - tk) := by unfold wrap64; omega
  have q0 := HQ.out
  refine quiet_wide 56 (by kernel_rfl) (by kernel_rfl) ?_
  simp only [List.take_succ_cons, List.take_zero, List.drop_succ_cons, List.drop_zero]
  repeat (any_goals (first | go_big_quiet_step (fail) | quiet_step (fail)))
  refine wpQuiet_nil ?_
  rintro w20 ⟨⟨w20q, hx20⟩, hew⟩
  obtain rfl : w20 = w20q := hew
  have hx20 : Ext w14 w20 := hx20
  clear q0 HQ hw1 hw2 hw3 hw4
  have HX7 := hid (HX6.out.trans hx20)
  have HB7 := hid (hx20.block K30.out)
  clear hx20 HX6 K30 K31 K32 K33 K34 K35 HFO
  have c0 := cell_of HB7.out

  gi_upto_region 17 with (gi_at_call 28; ((with_reducible refine (HA1.out _ HX7.out).mono ?_); rintro e w21 ⟨rfl, hx21⟩; have c0 := cell_of (hx21.block HB7.out)))
  have hxa : Ext w20 ((w21.alloc (.cells #[.int .i64 (tl + (h - Lo) * (a.se.lo - b.se.hi)), .int .i64 (th + (h - Lo) * (a.se.hi - b.se.lo))] 56)).alloc (.cells #[.int .i64 nl, .int .i64 nh] 56)) := (hx21.alloc _).alloc _
  have HX8 := hid (HX7.out.trans hxa)
  have HB8 := hid (hxa.block HB7.out)
  have HP1 : Hid (((w21.alloc (.cells #[.int .i64 (tl + (h - Lo) * (a.se.lo - b.se.hi)), .int .i64 (th + (h - Lo) * (a.se.hi - b.se.lo))] 56)).alloc (.cells #[.int .i64 nl, .int .i64 nh] 56)).heap[w21.heap.size]? = some (.cells #[.int .i64 (tl + (h - Lo) * (a.se.lo - b.se.hi)), .int .i64 (th + (h - Lo) * (a.se.hi - b.se.lo))] 56 (0, 0))) := two_new
  clear hx21 hxa c0 HX7 HB7
  obtain ⟨P1, hP⟩ : ∃ n, n = w21.heap.size := ⟨_, rfl⟩
  rw [← hP] at HP1 ⊢
  clear hP
  generalize (w21.alloc (.cells #[.int .i64 (tl + (h - Lo) * (a.se.lo - b.se.hi)), .int .i64 (th + (h - Lo) * (a.se.hi - b.se.lo))] 56)).alloc (.cells #[.int .i64 nl, .int .i64 nh] 56) = w22 at *
  have c0 := cell_of HB8.out
  gi_upto_region 18 with (gi_at_call 28; ((with_reducible refine (HA2.out _ HX8.out).mono ?_); rintro e w23 ⟨rfl, hx23⟩; have c0 := cell_of (hx23.block HB8.out)))
  have hxa : Ext w22 ((w23.alloc (.cells #[.int .i64 tl, .int .i64 th] 56)).alloc (.cells #[.int .i64 ml, .int .i64 mh] 56)) := (hx23.alloc _).alloc _
  have HX9 := hid (HX8.out.trans hxa)
  have HB9 := hid (hxa.block HB8.out)
  have HP2 := hid (hxa.block HP1.out)
  have HP3 : Hid (((w23.alloc (.cells #[.int .i64 tl, .int .i64 th] 56)).alloc (.cells #[.int .i64 ml, .int .i64 mh] 56)).heap[w23.heap.size]? = some (.cells #[.int .i64 tl, .int .i64 th] 56 (0, 0))) := two_new
  clear hx23 hxa c0 HX8 HB8 HP1
  obtain ⟨P3, hP⟩ : ∃ n, n = w23.heap.size := ⟨_, rfl⟩
  rw [← hP] at HP3 ⊢
  clear hP
  generalize (w23.alloc (.cells #[.int .i64 tl, .int .i64 th] 56)).alloc (.cells #[.int .i64 ml, .int .i64 mh] 56) = w24 at *
  have HG := hid (fun (u : World) (hu : Ext w24 u) => And.intro (hu.block HB9.out) (HX9.out.trans hu))
  refine jj_own 16 [12, 13] (pairJ w24 56 (.int .i64 0) (.int .i64 0) (.int .i64 a.se.lo) (.int .i64 a.se.hi) (.int .i64 b.se.lo) (.int .i64 b.se.hi)) (by kernel_rfl) (by kernel_rfl) (pairJ_start _ _ _ _ _ _ _ _) ?_
  simp only [List.take_succ_cons, List.take_zero, List.drop_succ_cons, List.drop_zero]
  apply jj_fun (by decide)
  · intro L x u hL hd hJ
    have HJ := hid hJ
    clear hJ hd hL
    go_simp
    exact ⟨rfl, HJ.out⟩
  simp only [Act.put, List.setIfInBounds_toArray, List.set_cons_succ, List.set_cons_zero]
  apply jj_fun (by decide)
  · intro L x u hL hd hJ
    have c1 := cell_of (HG.out u hJ.1).1
    have HJ := hid hJ
    clear hJ hd hL
    go_simp
    exact ⟨rfl, HJ.out⟩
  simp only [Act.put, List.setIfInBounds_toArray, List.set_cons_succ, List.set_cons_zero]
  apply jj_fun (by decide)
  · intro L x u hL hd hJ
    have HJ := hid hJ
    clear hJ hd hL
    go_simp
    exact ⟨rfl, HJ.out⟩
  simp only [Act.put, List.setIfInBounds_toArray, List.set_cons_succ, List.set_cons_zero]
  apply jj_fun (by decide)
  · intro L x u hL hd hJ
    have HJ := hid hJ
    clear hJ hd hL
    go_simp
    exact ⟨rfl, HJ.out⟩
  simp only [Act.put, List.setIfInBounds_toArray, List.set_cons_succ, List.set_cons_zero]
  apply jj_fun (by decide)
  · intro L x u hL hd hJ
    have HJ := hid hJ
    clear hJ hd hL
    go_simp
    exact ⟨rfl, HJ.out⟩
  simp only [Act.put, List.setIfInBounds_toArray, List.set_cons_succ, List.set_cons_zero]
  apply jj_fun (by decide)
  · intro L x u hL hd hJ
    have c1 := ((HG.out u hJ.1).2.cell (p := ⟨nb, _, none⟩) HND.out.1).trans HND.out.2.1.2.2.2.2.2.2.1
    have c2 := ((HG.out u hJ.1).2.cell (p := ⟨nb, _, none⟩) HND.out.1).trans HND.out.2.1.2.2.2.2.2.2.2.1
    have HJ := hid hJ
    clear hJ hd hL
    go_simp
    exact ⟨rfl, HJ.out⟩
  simp only [Act.put, List.setIfInBounds_toArray, List.set_cons_succ, List.set_cons_zero]
  apply jj_fun (by decide)
  · intro L x u hL hd hJ
    have HJ := hid hJ
    clear hJ hd hL
    go_simp
    exact ⟨rfl, HJ.out⟩
  simp only [Act.put, List.setIfInBounds_toArray, List.set_cons_succ, List.set_cons_zero]
  apply jj_fun (by decide)
  · intro L x u hL hd hJ
    have c1 := cell_of (HG.out u hJ.1).1
    have HJ := hid hJ
    clear hJ hd hL
    go_simp
    exact ⟨rfl, HJ.out⟩
  simp only [Act.put, List.setIfInBounds_toArray, List.set_cons_succ, List.set_cons_zero]
  apply jj_fun (by decide)
  · intro L x u hL hd hJ
    have HJ := hid hJ
    clear hJ hd hL
    go_simp
    exact ⟨rfl, HJ.out⟩
  simp only [Act.put, List.setIfInBounds_toArray, List.set_cons_succ, List.set_cons_zero]
  apply jj_fun (by decide)
  · intro L x u hL hd hJ
    have HJ := hid hJ
    clear hJ hd hL
    go_simp
    exact ⟨rfl, HJ.out⟩
  simp only [Act.put, List.setIfInBounds_toArray, List.set_cons_succ, List.set_cons_zero]
  apply jj_fun (by decide)
  · intro L x u hL hd hJ
    have HJ := hid hJ
    clear hJ hd hL
    go_simp
    exact ⟨rfl, HJ.out⟩
  simp only [Act.put, List.setIfInBounds_toArray, List.set_cons_succ, List.set_cons_zero]
  apply jj_fun (by decide)
  · intro L x u hL hd hJ
    have c1 := ((HG.out u hJ.1).2.cell (p := ⟨nb, _, none⟩) HND.out.1).trans HND.out.2.2.2.2.2.2.2.2.1
    have c2 := ((HG.out u hJ.1).2.cell (p := ⟨nb, _, none⟩) HND.out.1).trans HND.out.2.2.2.2.2.2.2.2.2.1
    have HJ := hid hJ
    clear hJ hd hL
    go_simp
    exact ⟨rfl, HJ.out⟩
  simp only [Act.put, List.setIfInBounds_toArray, List.set_cons_succ, List.set_cons_zero]
  refine jj_inv (by decide) ?_ ?_
  · intro L x u hL hd hJ
    have HJ := hid (pairJ_make1 hJ hL)
    clear hJ hd hL
    go_simp
    exact HJ.out
  simp only [Act.put, List.setIfInBounds_toArray, List.set_cons_succ, List.set_cons_zero]
  refine jj_inv (by decide) ?_ ?_
  · intro L x u hL hd hJ
    have HJ := hid (pairJ_make2 hJ hL)
    clear hJ hd hL
    go_simp
    exact HJ.out
  simp only [Act.put, List.setIfInBounds_toArray, List.set_cons_succ, List.set_cons_zero]
  refine jj_fun (v := undef) (by decide) ?_ ?_
  · intro L x u hL hd hJ
    have hl : L 12 = true := hd.1 rfl
    obtain ⟨g, hx8, hg, h3, _⟩ := hJ.2.1 hl
    have hb := h3 hL
    have HJ := hid (pairJ_fill1 hJ hl hx8 hb hg)
    have cb := cell_of hb
    have fb := free_of hb
    rw [hx8]
    clear hJ hd hL hb h3 hl hx8
    go_simp
    exact HJ.out
  simp only [Act.put, List.setIfInBounds_toArray, List.set_cons_succ, List.set_cons_zero]
  refine jj_fun (v := undef) (by decide) ?_ ?_
  · intro L x u hL hd hJ
    have hl : L 13 = true := hd.1 rfl
    obtain ⟨g, hx8, hg, h3, _⟩ := hJ.2.2.1 hl
    have hb := h3 hL
    have HJ := hid (pairJ_fill2 hJ hl hx8 hb hg)
    have cb := cell_of hb
    have fb := free_of hb
    rw [hx8]
    clear hJ hd hL hb h3 hl hx8
    go_simp
    exact HJ.out
  simp only [Act.put, List.setIfInBounds_toArray, List.set_cons_succ, List.set_cons_zero]
  refine jj_nil fun L x u hall hJ => ?_
  obtain ⟨g1, hg1, hgl1, _, hgb1⟩ := hJ.2.1 (hall 12 (by omega))
  obtain ⟨g2, hg2, hgl2, _, hgb2⟩ := hJ.2.2.1 (hall 13 (by omega))
  have hgb1 := hgb1 (hall 14 (by omega))
  have hgb2 := hgb2 (hall 15 (by omega))
  have hE := hJ.1
  clear hJ hall
  generalize x 12 = x12 at *
  generalize x 13 = x13 at *
  clear x
  subst hg1
  subst hg2
  have HX10 := hid (HX9.out.trans hE)
  have HQ := hid fun e : Later u => And.intro (cell_of (Ext.block e.grown (hE.block HP2.out))) (And.intro (cell_of (Ext.block e.grown (hE.block HP3.out))) (And.intro (cell_of (Ext.block e.grown hgb1)) (cell_of (Ext.block e.grown hgb2))))
  clear hE hgb1 hgb2 HG
  gi_upto_region 19 with fail
  have hw1 : IntKind.i64.wrap ((h - Lo) * (a.se.lo - b.se.hi)) = (h - Lo) * (a.se.lo - b.se.hi) := by rw [IntKind.wrap_i64]; omega
  have hw2 : IntKind.i64.wrap ((h - Lo) * (a.se.hi - b.se.lo)) = (h - Lo) * (a.se.hi - b.se.lo) := by rw [IntKind.wrap_i64]; omega
  have hw3 : wrap64 ((h - Lo) * (a.se.lo - b.se.hi)) = (h - Lo) * (a.se.lo - b.se.hi) := by unfold wrap64; omega
  have hw4 : wrap64 ((h - Lo) * (a.se.hi - b.se.lo)) = (h - Lo) * (a.se.hi - b.se.lo) := by unfold wrap64; omega
  have HTO := hid (fun v => to_any (tl + (h - Lo) * (a.se.lo - b.se.hi)) (th + (h - Lo) * (a.se.hi - b.se.lo)) v)
  have HWK := hid works_any
  have q0 := HQ.out
  refine quiet_wide 39 (by kernel_rfl) (by kernel_rfl) ?_
  simp only [List.take_succ_cons, List.take_zero, List.drop_succ_cons, List.drop_zero]
  repeat (any_goals (first | go_big_quiet_step ((first | (go_at_call 31; with_reducible exact Cal.quiet (HTO.out _)) | (go_at_call 19; with_reducible exact Cal.quiet (HWK.out _)))) | quiet_step ((first | (go_at_call 31; with_reducible exact Cal.quiet (HTO.out _)) | (go_at_call 19; with_reducible exact Cal.quiet (HWK.out _))))))
  refine wpQuiet_nil ?_
  rintro w30 ⟨⟨w30q, hx30⟩, hew⟩
  obtain rfl : w30 = w30q := hew
  have hx30 : Ext u w30 := hx30
  gi_wp2_with fail
  go_ret
  exact ⟨rfl, HX10.out.trans hx30⟩

end Go.Proofs.Ytmjelgonhpgmbaa
