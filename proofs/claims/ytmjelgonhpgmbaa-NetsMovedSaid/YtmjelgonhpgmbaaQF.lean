/- NetsBetween: the walk. -/
import Derived.Test.YtmjelgonhpgmbaaQE
set_option linter.unusedSimpArgs false
set_option linter.unusedVariables false
namespace Go.Proofs.Ytmjelgonhpgmbaa
open Go Go.RowKit Go.Shelf

/-- One box that is made by 11 and filled by 12. -/
def boxJ (w0 : World) (T : TypeId) (zs as_ : Array Value) : InvJ := fun L x u => Ext w0 u ∧
  (L 11 = true → ∃ g, x 11 = .pointer (some ⟨g, 0, none⟩) ∧ w0.heap.size ≤ g ∧ (L 12 = false → u.heap[g]? = some (.cells zs T (0, 0))) ∧ (L 12 = true → u.heap[g]? = some (.cells as_ T (0, 0)))) ∧ (L 12 = true → L 11 = true)
theorem boxJ_start (w0 : World) (T : TypeId) (zs as_ : Array Value) : boxJ w0 T zs as_ (fun _ => false) (fun _ => undef) { w0 with drawn := w0.drawn + 1 } :=
  ⟨Ext.drawn _, (fun h => by cases h), fun h => by cases h⟩
section
variable {w0 u u' : World} {T : TypeId} {zs as_ : Array Value} {L : Nat → Bool} {x : Nat → Value}
theorem boxJ_ext (h : boxJ w0 T zs as_ L x u) (hx : Ext u u') : boxJ w0 T zs as_ L x u' :=
  ⟨h.1.trans hx, fun q => by obtain ⟨g, h1, h2, h3, h4⟩ := h.2.1 q; exact ⟨g, h1, h2, fun r => hx.block (h3 r), fun r => hx.block (h4 r)⟩, h.2.2⟩
theorem boxJ_make (h : boxJ w0 T zs as_ L x u) (hL : L 11 = false) : boxJ w0 T zs as_ (updL L 11) (updX x 11 (.pointer (some ⟨u.heap.size, 0, none⟩))) (u.alloc (.cells zs T)) := by
  have h12 : L 12 = false := by
    cases q : L 12 with
    | false => rfl
    | true => rw [h.2.2 q] at hL; cases hL
  refine ⟨h.1.alloc _, fun _ => ⟨u.heap.size, rfl, h.1.size, fun _ => Ext.new (Ext.refl _), fun q => ?_⟩, fun _ => rfl⟩
  rw [show (updL L 11) 12 = L 12 from rfl, h12] at q; cases q
end

/-- Two truths, one after the other. -/
def qTwo (n : Nat) (T1 T2 : TruthD) (v : Value) (u : World) : Prop := ∃ g a1 c1 a2 c2 a3 c3 a4 c4 b1 d1 b2 d2 b3 d3 b4 d4 k1 k2 k3 k4 m1 m2 m3 m4, v = .slice (some ⟨g, 0, none⟩) 2 2 ∧ n ≤ g ∧ u.heap[g]? = some (.cells #[.slice a1 k1 c1, .slice a2 k2 c2, .slice a3 k3 c3, .slice a4 k4 c4, .slice b1 m1 d1, .slice b2 m2 d2, .slice b3 m3 d3, .slice b4 m4 d4] 50 (0, 0)) ∧ TrAt u (.agg #[.slice a1 k1 c1, .slice a2 k2 c2, .slice a3 k3 c3, .slice a4 k4 c4]) T1 ∧ TrAt u (.agg #[.slice b1 m1 d1, .slice b2 m2 d2, .slice b3 m3 d3, .slice b4 m4 d4]) T2
theorem qTwo_s (n : Nat) (T1 T2 : TruthD) : ∀ v u u', qTwo n T1 T2 v u → Ext u u' → qTwo n T1 T2 v u' := fun _ _ _ ⟨g, a1, c1, a2, c2, a3, c3, a4, c4, b1, d1, b2, d2, b3, d3, b4, d4, k1, k2, k3, k4, m1, m2, m3, m4, h1, h2, h3, h4, h5⟩ hx => ⟨g, a1, c1, a2, c2, a3, c3, a4, c4, b1, d1, b2, d2, b3, d3, b4, d4, k1, k2, k3, k4, m1, m2, m3, m4, h1, h2, hx.block h3, h4.mono hx, h5.mono hx⟩
theorem tr_slices {w : World} {v : Value} {T : TruthD} (h : TrAt w v T) : ∃ a1 k1 c1 a2 k2 c2 a3 k3 c3 a4 k4 c4, v = .agg #[.slice a1 k1 c1, .slice a2 k2 c2, .slice a3 k3 c3, .slice a4 k4 c4] := by
  obtain ⟨x1, x2, x3, x4, rfl, ⟨a1, c1, rfl, _⟩, ⟨a2, c2, rfl, _⟩, ⟨a3, c3, rfl, _⟩, ⟨a4, c4, rfl, _⟩⟩ := h
  exact ⟨a1, _, c1, a2, _, c2, a3, _, c3, a4, _, c4, rfl⟩
theorem holds_b (lo hi n : Int) (h : lo ≤ n ∧ n ≤ hi) (w : World) : Cal 30 #[.agg #[.int .i64 lo, .int .i64 hi], .int .i64 n] w fun e w' => e = .returned (.bool true) ∧ Ext w w' := by
  have := holds_any lo hi n w
  rwa [inB_of h] at this
theorem between_facts {F : FleetD} {T : TruthD} (hF : fleetB F = true) (hT : truthB F T = true) {i k : Nat} (hne : i ≠ k) {a b : NetD} (ha : F.nets[i]? = some a) (hb : F.nets[k]? = some b) {h : Nat} (h0 : mx a.shot b.shot ≤ h) (h1 : (h : Int) ≤ a.haul) (h2 : (h : Int) ≤ b.haul) :
    ∃ ae an be bn el eh nl nh p1 p2 p3 p4 o1 o2 o3 o4, liesIs F T i h ae an ∧ liesIs F T k h be bn ∧ (apartE F i k h = 0 ∧ apartVe F i k h = ⟨el, eh⟩ ∧ apartVn F i k h = ⟨nl, nh⟩) ∧ (apartE F k i h = 0 ∧ apartVe F k i h = ⟨-eh, -el⟩ ∧ apartVn F k i h = ⟨-nh, -nl⟩) ∧
      ((el ≤ ae - be ∧ ae - be ≤ eh) ∧ nl ≤ an - bn ∧ an - bn ≤ nh) ∧ (sm 20000 ae ∧ sm 20000 an ∧ sm 20000 be ∧ sm 20000 bn) ∧ (sm 1000000 el ∧ sm 1000000 eh ∧ sm 1000000 nl ∧ sm 1000000 nh) ∧
      (liesIs F (endTr F a b i k h true) i h p1 o1 ∧ liesIs F (endTr F a b i k h true) k h p2 o2 ∧ p1 - p2 = el) ∧ (liesIs F (endTr F a b i k h false) i h p3 o3 ∧ liesIs F (endTr F a b i k h false) k h p4 o4 ∧ p3 - p4 = eh) ∧ (sm 20000 p1 ∧ sm 20000 p2 ∧ sm 20000 p3 ∧ sm 20000 p4) := by
  have ok := fleetB_ok hF
  have oT := truthB_ok hT
  have oa := ok.nets a (List.mem_of_getElem? ha)
  have ob := ok.nets b (List.mem_of_getElem? hb)
  have hm := le_mx a.shot b.shot
  obtain ⟨hi, ea⟩ := List.getElem?_eq_some_iff.1 ha
  obtain ⟨hk, eb⟩ := List.getElem?_eq_some_iff.1 hb
  have w1 := oa.shot
  have w2 := ob.shot
  have w3 := oa.haul
  have w4 := ob.haul
  have w5 := ok.hours
  have e1 := endTr_ok ok ha hb h true
  have e2 := endTr_ok ok ha hb h false
  have d1 := truthB_ok e1
  have d2 := truthB_ok e2
  have far := endTr_far ok hne ha hb h0 (by omega)
  have k1 := apart_ok hF hne ha hb (h := h) (by omega) (by omega)
  have k2 := apart_ok hF (Ne.symm hne) hb ha (h := h) (by omega) (by omega)
  obtain ⟨b1, b2⟩ := between_e ok hT ha hb h0
  have hs := (near_apart_small ok oa ob (h := h) ⟨by omega, by omega⟩).2.2
  have hsn : sm 1000000 (apart_nF F a b h).lo ∧ sm 1000000 (apart_nF F a b h).hi := by
    have q1 := alone_n_in ok (m := b) oa (h := h) ⟨by omega, by omega⟩
    have q2 := alone_n_in ok (m := a) ob (h := h) ⟨by omega, by omega⟩
    have q3 := oa.north
    have q4 := ob.north
    unfold spIn at q1 q2
    unfold sm apart_nF spAdd spNeg
    simp only
    omega
  unfold SmallSp at hs
  have back : apart_eF F b a h = spNeg (apart_eF F a b h) := apart_back F.east a.east b.east a.shot b.shot a.se b.se h
  have down : apart_nF F b a h = spNeg (apart_nF F a b h) := apart_back F.north a.north b.north a.shot b.shot a.sn b.sn h
  refine ⟨_, _, _, _, (apart_eF F a b h).lo, (apart_eF F a b h).hi, (apart_nF F a b h).lo, (apart_nF F a b h).hi, _, _, _, _, _, _, _, _, lies_ok hF hT ha (h := h) (by omega), lies_ok hF hT hb (h := h) (by omega), ⟨k1.1, k1.2.1, k1.2.2⟩, ⟨k2.1, by rw [k2.2.1, back]; rfl, by rw [k2.2.2, down]; rfl⟩, ⟨b1, b2⟩, ?_, ⟨hs.1, hs.2, hsn.1, hsn.2⟩, ⟨lies_ok hF e1 ha (h := h) (by omega), lies_ok hF e1 hb (h := h) (by omega), far.1⟩, ⟨lies_ok hF e2 ha (h := h) (by omega), lies_ok hF e2 hb (h := h) (by omega), far.2⟩, ?_⟩
  · exact ⟨where_e_in ok oT hi ea ⟨by omega, by omega⟩, where_n_in ok oT hi ea ⟨by omega, by omega⟩, where_e_in ok oT hk eb ⟨by omega, by omega⟩, where_n_in ok oT hk eb ⟨by omega, by omega⟩⟩
  · exact ⟨where_e_in ok d1 hi ea ⟨by omega, by omega⟩, where_e_in ok d1 hk eb ⟨by omega, by omega⟩, where_e_in ok d2 hi ea ⟨by omega, by omega⟩, where_e_in ok d2 hk eb ⟨by omega, by omega⟩⟩

set_option maxRecDepth 100000 in
set_option maxHeartbeats 16000000 in
theorem NetsBetween_any (F : FleetD) (n0 n1 n2 : Int) (bits : List Int) (fv bv : Value) (w : World) (hf : FlAt w fv F) (hb : IntsAt w bv bits) : Cal 5 #[fv, .agg #[.int .i64 n0, .int .i64 n1, .int .i64 n2], bv] w fun e w' => e = .returned (.bool true) ∧ Ext w w' := by
  obtain ⟨ev, nv, sv, rfl, he, hn, hs⟩ := hf
  have HF := hid (fun (u : World) (hu : Ext w u) => (⟨ev, nv, sv, rfl, he.mono hu, hn.mono hu, hs.mono hu⟩ : FlAt u (.agg #[ev, nv, .int .i64 F.gap, sv]) F))
  have HEN := hid (And.intro he (And.intro hn hs))
  obtain ⟨sa, sc, rfl, hsl, hsc⟩ := hs
  have HSC := hid hsc
  obtain ⟨ea, ec, rfl, _, _⟩ := he
  obtain ⟨na, nc, rfl, _, _⟩ := hn
  clear hsc
  have HBI := hid (fun (u : World) (hu : Ext w u) => hb.mono hu)
  clear hb
  gi_enter Try.func5, Try.ntmps5
  gi_upto_region 1 with fail
  have hW : Ext w ((w.alloc (.cells #[.slice ea F.east.length ec, .slice na F.north.length nc, .int .i64 F.gap, .slice sa F.nets.length sc] 40)).alloc (.cells #[.int .i64 n0, .int .i64 n1, .int .i64 n2] 60)) := (((Ext.refl _).alloc _).alloc _)
  have hB0 : ((w.alloc (.cells #[.slice ea F.east.length ec, .slice na F.north.length nc, .int .i64 F.gap, .slice sa F.nets.length sc] 40)).alloc (.cells #[.int .i64 n0, .int .i64 n1, .int .i64 n2] 60)).heap[w.heap.size]? = some (.cells #[.slice ea F.east.length ec, .slice na F.north.length nc, .int .i64 F.gap, .slice sa F.nets.length sc] 40 (0, 0)) := by simp only [alloc_at, World.size_alloc]; (repeat rw [if_neg (by omega)]); first | rfl | rw [if_pos (by omega)] | rw [if_pos trivial]
  have hB1 : ((w.alloc (.cells #[.slice ea F.east.length ec, .slice na F.north.length nc, .int .i64 F.gap, .slice sa F.nets.length sc] 40)).alloc (.cells #[.int .i64 n0, .int .i64 n1, .int .i64 n2] 60)).heap[w.heap.size + 1]? = some (.cells #[.int .i64 n0, .int .i64 n1, .int .i64 n2] 60 (0, 0)) := by simp only [alloc_at, World.size_alloc]; (repeat rw [if_neg (by omega)]); first | rfl | rw [if_pos (by omega)] | rw [if_pos trivial]
  generalize ((w.alloc (.cells #[.slice ea F.east.length ec, .slice na F.north.length nc, .int .i64 F.gap, .slice sa F.nets.length sc] 40)).alloc (.cells #[.int .i64 n0, .int .i64 n1, .int .i64 n2] 60)) = W at *
  have HX := hid hW
  have HB0 := hid hB0
  have c0 := cell_of hB0
  have HB1 := hid hB1
  have c1 := cell_of hB1
  clear hW hB0 hB1
  have HSO := hid (fun (b : Bool) (hb : fleetB F = b) (u : World) (hu : Ext w u) => sound_b F b hb _ u (HF.out u hu))
  cases hF : fleetB F
  case false =>
    gi_wp2_with (first | (gi_at_call 22; ((with_reducible refine (HSO.out false hF _ HX.out).mono ?_); rintro e w2 ⟨rfl, hx2⟩)) | (gi_at_call 19; ((with_reducible refine (works_any _).mono ?_); rintro e w99 ⟨rfl, hx99⟩)))
    go_ret
    exact ⟨rfl, (HX.out.trans hx2).trans hx99⟩
  case true =>
  have ok := fleetB_ok hF
  gi_upto_region 3 with (gi_at_call 22; ((with_reducible refine (HSO.out true hF _ HX.out).mono ?_); rintro e w2 ⟨rfl, hx2⟩; have c0 := cell_of (hx2.block HB0.out); have c1 := cell_of (hx2.block HB1.out)))
  have HX2 := hid (HX.out.trans hx2)
  have HB2 := hid (hx2.block HB0.out)
  clear HX HB0 HB1 hx2 HSO
  have HPH := hid (pairHour_c F hF _ n0 n1 n2 w2 (HF.out _ HX2.out))
  cases hp : pairOk F n0 n1
  case false =>
    rw [show pairV F n0 n1 n2 = .tuple #[.int .i64 0, .int .i64 0, .int .i64 0, .bool false] by unfold pairV; rw [hp]; rfl] at HPH
    gi_wp2_with (first | (gi_at_call 27; ((with_reducible refine (HPH.out).mono ?_); rintro e w3 ⟨rfl, hx3⟩)) | (gi_at_call 19; ((with_reducible refine (works_any _).mono ?_); rintro e w99 ⟨rfl, hx99⟩)))
    go_ret
    exact ⟨rfl, (HX2.out.trans hx3).trans hx99⟩
  case true =>
  rw [show pairV F n0 n1 n2 = .tuple #[.int .i64 (pairI F n0), .int .i64 (pairK F n0 n1), .int .i64 (chosenI (pairLo F n0 n1) (pairHi F n0 n1) n2), .bool true] by unfold pairV; rw [hp]; rfl] at HPH
  obtain ⟨a, b, ha, hb, hne, hlo, hhi, hmm⟩ := pair_facts hp
  have hch := chosenI_ok n2 hmm
  generalize pairI F n0 = i at *
  generalize pairK F n0 n1 = k at *
  generalize chosenI (pairLo F n0 n1) (pairHi F n0 n1) n2 = h at *
  generalize pairHi F n0 n1 = Hi at *
  generalize pairLo F n0 n1 = Lo at *
  have oa := ok.nets a (List.mem_of_getElem? ha)
  obtain ⟨h, rfl⟩ : ∃ n : Nat, h = n := ⟨h.toNat, by have := oa.shot; omega⟩
  have hT := chosenT_ok ok bits
  obtain ⟨ae, an, be, bn, el, eh, nl, nh, p1, p2, p3, p4, o1, o2, o3, o4, l1, l2, k1, k2, hin, hbd, hsp, f1, f2, hpb⟩ := between_facts hF hT hne ha hb (by omega : mx a.shot b.shot ≤ h) (by omega) (by omega)
  have hhl : h ≤ F.east.length := by have := oa.haul; omega
  have HL1 := hid (fun (tv : Value) (u : World) (hu : Ext w u) (ht : TrAt u tv (chosenT F bits)) => Lies_c F (chosenT F bits) _ tv i h u (HF.out u hu) ht)
  have HL2 := hid (fun (tv : Value) (u : World) (hu : Ext w u) (ht : TrAt u tv (chosenT F bits)) => Lies_c F (chosenT F bits) _ tv k h u (HF.out u hu) ht)
  have HM1 := hid (fun (tv : Value) (u : World) (hu : Ext w u) (ht : TrAt u tv (endTr F a b i k h true)) => Lies_c F (endTr F a b i k h true) _ tv i h u (HF.out u hu) ht)
  have HM2 := hid (fun (tv : Value) (u : World) (hu : Ext w u) (ht : TrAt u tv (endTr F a b i k h true)) => Lies_c F (endTr F a b i k h true) _ tv k h u (HF.out u hu) ht)
  have HM3 := hid (fun (tv : Value) (u : World) (hu : Ext w u) (ht : TrAt u tv (endTr F a b i k h false)) => Lies_c F (endTr F a b i k h false) _ tv i h u (HF.out u hu) ht)
  have HM4 := hid (fun (tv : Value) (u : World) (hu : Ext w u) (ht : TrAt u tv (endTr F a b i k h false)) => Lies_c F (endTr F a b i k h false) _ tv k h u (HF.out u hu) ht)
  have HA1 := hid (fun (u : World) (hu : Ext w u) => Apart_c F _ i k h u (HF.out u hu))
  have HA2 := hid (fun (u : World) (hu : Ext w u) => Apart_c F _ k i h u (HF.out u hu))
  have HE1 := hid (fun (u : World) (hu : Ext w u) => end_any F hF _ i k a b ha hb h hhl true u (HF.out u hu))
  have HE2 := hid (fun (u : World) (hu : Ext w u) => end_any F hF _ i k a b ha hb h hhl false u (HF.out u hu))
  rw [l1.1, l1.2.1, l1.2.2] at HL1
  rw [l2.1, l2.2.1, l2.2.2] at HL2
  rw [f1.1.1, f1.1.2.1, f1.1.2.2] at HM1
  rw [f1.2.1.1, f1.2.1.2.1, f1.2.1.2.2] at HM2
  rw [f2.1.1, f2.1.2.1, f2.1.2.2] at HM3
  rw [f2.2.1.1, f2.2.1.2.1, f2.2.1.2.2] at HM4
  rw [k1.1, k1.2.1, k1.2.2] at HA1
  rw [k2.1, k2.2.1, k2.2.2] at HA2
  simp only [spnV] at HA1 HA2
  have HQ1 := hid f1.2.2
  have HQ2 := hid f2.2.2
  have HH1 := hid (fun (u : World) => holds_b el eh (ae - be) hin.1 u)
  have HH2 := hid (fun (u : World) => holds_b nl nh (an - bn) hin.2 u)
  unfold sm at hbd hsp hpb
  have HCL := hid (chosenT_len ok bits)
  have HCF := hid (fun (u : World) (hu : Ext w u) => chosen_four F hF bits _ bv u (HF.out u hu) (HBI.out u hu))
  clear l1 l2 k1 k2 f1 f2 hin ha hb hlo hhi hmm hch hne oa ok hp hT
  gi_upto_region 6 with (gi_at_call 27; ((with_reducible refine (HPH.out).mono ?_); rintro e w3 ⟨rfl, hx3⟩; have c0 := cell_of (hx3.block HB2.out)))
  have HX3 := hid (HX2.out.trans hx3)
  have HB3 := hid (hx3.block HB2.out)
  clear hx3 HX2 HB2 HPH c1
  gi_upto_region 7 with (gi_at_call 28; ((with_reducible refine (HA1.out _ HX3.out).mono ?_); rintro e w4 ⟨rfl, hx7⟩; have c0 := cell_of (hx7.block HB3.out)))
  have hxa : Ext _ ((w4.alloc (.cells #[.int .i64 el, .int .i64 eh] 56)).alloc (.cells #[.int .i64 nl, .int .i64 nh] 56)) := ((hx7.alloc _).alloc _)
  have HX3n := hid (HX3.out.trans hxa)
  have KA0 := hid (hxa.block HB3.out)
  have KA1 : Hid (((w4.alloc (.cells #[.int .i64 el, .int .i64 eh] 56)).alloc (.cells #[.int .i64 nl, .int .i64 nh] 56)).heap[w4.heap.size]? = some (.cells #[.int .i64 el, .int .i64 eh] 56 (0, 0))) := two_new
  have KA2 : Hid (((w4.alloc (.cells #[.int .i64 el, .int .i64 eh] 56)).alloc (.cells #[.int .i64 nl, .int .i64 nh] 56)).heap[w4.heap.size + 1]? = some (.cells #[.int .i64 nl, .int .i64 nh] 56 (0, 0))) := by have := Ext.new (w := w4.alloc (.cells #[.int .i64 el, .int .i64 eh] 56)) (o := .cells #[.int .i64 nl, .int .i64 nh] 56) (Ext.refl _); rwa [World.size_alloc] at this
  clear hx7 hxa c0 HX3 HB3
  obtain ⟨SKA, hS⟩ : ∃ n, n = w4.heap.size := ⟨_, rfl⟩
  rw [← hS] at KA1 KA2 ⊢
  clear hS
  generalize ((w4.alloc (.cells #[.int .i64 el, .int .i64 eh] 56)).alloc (.cells #[.int .i64 nl, .int .i64 nh] 56)) = w4n at *
  have c0 := cell_of KA0.out
  gi_upto_region 8 with (gi_at_call 28; ((with_reducible refine (HA2.out _ HX3n.out).mono ?_); rintro e w5 ⟨rfl, hx7⟩; have c0 := cell_of (hx7.block KA0.out)))
  have hxa : Ext _ ((w5.alloc (.cells #[.int .i64 (-eh), .int .i64 (-el)] 56)).alloc (.cells #[.int .i64 (-nh), .int .i64 (-nl)] 56)) := ((hx7.alloc _).alloc _)
  have HX3nn := hid (HX3n.out.trans hxa)
  have KB0 := hid (hxa.block KA0.out)
  have KB1 := hid (hxa.block KA1.out)
  have KB2 := hid (hxa.block KA2.out)
  have KB3 : Hid (((w5.alloc (.cells #[.int .i64 (-eh), .int .i64 (-el)] 56)).alloc (.cells #[.int .i64 (-nh), .int .i64 (-nl)] 56)).heap[w5.heap.size]? = some (.cells #[.int .i64 (-eh), .int .i64 (-el)] 56 (0, 0))) := two_new
  have KB4 : Hid (((w5.alloc (.cells #[.int .i64 (-eh), .int .i64 (-el)] 56)).alloc (.cells #[.int .i64 (-nh), .int .i64 (-nl)] 56)).heap[w5.heap.size + 1]? = some (.cells #[.int .i64 (-nh), .int .i64 (-nl)] 56 (0, 0))) := by have := Ext.new (w := w5.alloc (.cells #[.int .i64 (-eh), .int .i64 (-el)] 56)) (o := .cells #[.int .i64 (-nh), .int .i64 (-nl)] 56) (Ext.refl _); rwa [World.size_alloc] at this
  clear hx7 hxa c0 HX3n KA0 KA1 KA2
  obtain ⟨SKB, hS⟩ : ∃ n, n = w5.heap.size := ⟨_, rfl⟩
  rw [← hS] at KB3 KB4 ⊢
  clear hS
  generalize ((w5.alloc (.cells #[.int .i64 (-eh), .int .i64 (-el)] 56)).alloc (.cells #[.int .i64 (-nh), .int .i64 (-nl)] 56)) = w5n at *
  have c0 := cell_of KB0.out
  gi_upto_region 9 with (gi_at_call 25; ((with_reducible refine (HCF.out _ HX3nn.out).mono ?_); rintro e w6 ⟨v1, v2, v3, v4, rfl, hx5, hfo⟩; have c0 := cell_of (hx5.block KB0.out); obtain ⟨x1, y1, rfl⟩ := hfo.row1.isSliceN; obtain ⟨x2, y2, rfl⟩ := hfo.row2.isSliceN; obtain ⟨x3, y3, rfl⟩ := hfo.row3.isSliceN; obtain ⟨x4, y4, rfl⟩ := hfo.row4.isSliceN))
  have hxa : Ext _ (w6.alloc (.cells #[.slice x1 (chosenT F bits).east.length y1, .slice x2 (chosenT F bits).north.length y2, .slice x3 (chosenT F bits).se.length y3, .slice x4 (chosenT F bits).sn.length y4] 50)) := hx5.alloc _
  have HX3nnn := hid (HX3nn.out.trans hxa)
  have HTR := hid ((four_of hF hfo).mono ((Ext.refl w6).alloc (.cells #[.slice x1 (chosenT F bits).east.length y1, .slice x2 (chosenT F bits).north.length y2, .slice x3 (chosenT F bits).se.length y3, .slice x4 (chosenT F bits).sn.length y4] 50)))
  have KC0 := hid (hxa.block KB0.out)
  have KC1 := hid (hxa.block KB1.out)
  have KC2 := hid (hxa.block KB2.out)
  have KC3 := hid (hxa.block KB3.out)
  have KC4 := hid (hxa.block KB4.out)
  have KC5 : Hid ((w6.alloc (.cells #[.slice x1 (chosenT F bits).east.length y1, .slice x2 (chosenT F bits).north.length y2, .slice x3 (chosenT F bits).se.length y3, .slice x4 (chosenT F bits).sn.length y4] 50)).heap[w6.heap.size]? = some (.cells #[.slice x1 (chosenT F bits).east.length y1, .slice x2 (chosenT F bits).north.length y2, .slice x3 (chosenT F bits).se.length y3, .slice x4 (chosenT F bits).sn.length y4] 50 (0, 0))) := Ext.new (Ext.refl _)
  clear hx5 hxa hfo c0 HX3nn KB0 KB1 KB2 KB3 KB4
  obtain ⟨TT, hTT⟩ : ∃ n, n = w6.heap.size := ⟨_, rfl⟩
  rw [← hTT] at KC5 ⊢
  clear hTT
  generalize w6.alloc (.cells #[.slice x1 (chosenT F bits).east.length y1, .slice x2 (chosenT F bits).north.length y2, .slice x3 (chosenT F bits).se.length y3, .slice x4 (chosenT F bits).sn.length y4] 50) = w6n at *
  have c0 := cell_of KC0.out
  have ct := cell_of KC5.out
  have HTR0 := HTR
  clear HTR
  gi_upto_region 10 with (gi_at_call 29; ((with_reducible refine (HL1.out _ _ HX3nnn.out HTR0.out).mono ?_); rintro e w7 ⟨rfl, hx7⟩; have c0 := cell_of (hx7.block KC0.out); have ct := cell_of (hx7.block KC5.out)))
  have hxa : Ext _ (w7.alloc (.cells #[.int .i64 ae, .int .i64 an] 54)) := hx7.alloc _
  have HX3nnnn := hid (HX3nnn.out.trans hxa)
  have HTR := hid (HTR0.out.mono hxa)
  have KD00 := hid (hxa.block KC0.out)
  have KD01 := hid (hxa.block KC1.out)
  have KD02 := hid (hxa.block KC2.out)
  have KD03 := hid (hxa.block KC3.out)
  have KD04 := hid (hxa.block KC4.out)
  have KD05 := hid (hxa.block KC5.out)
  have KD06 : Hid ((w7.alloc (.cells #[.int .i64 ae, .int .i64 an] 54)).heap[w7.heap.size]? = some (.cells #[.int .i64 ae, .int .i64 an] 54 (0, 0))) := Ext.new (Ext.refl _)
  clear hx7 hxa c0 ct HTR0 HX3nnn KC0 KC1 KC2 KC3 KC4 KC5
  obtain ⟨G0, hG⟩ : ∃ n, n = w7.heap.size := ⟨_, rfl⟩
  rw [← hG] at KD06 ⊢
  clear hG
  generalize w7.alloc (.cells #[.int .i64 ae, .int .i64 an] 54) = w7n at *
  have c0 := cell_of KD00.out
  have ct := cell_of KD05.out
  have HTR0 := HTR
  clear HTR
  gi_upto_region 11 with (gi_at_call 29; ((with_reducible refine (HL2.out _ _ HX3nnnn.out HTR0.out).mono ?_); rintro e w8 ⟨rfl, hx7⟩; have c0 := cell_of (hx7.block KD00.out); have ct := cell_of (hx7.block KD05.out)))
  have hxa : Ext _ (w8.alloc (.cells #[.int .i64 be, .int .i64 bn] 54)) := hx7.alloc _
  have HX3nnnnn := hid (HX3nnnn.out.trans hxa)
  have HTR := hid (HTR0.out.mono hxa)
  have KD10 := hid (hxa.block KD00.out)
  have KD11 := hid (hxa.block KD01.out)
  have KD12 := hid (hxa.block KD02.out)
  have KD13 := hid (hxa.block KD03.out)
  have KD14 := hid (hxa.block KD04.out)
  have KD15 := hid (hxa.block KD05.out)
  have KD16 := hid (hxa.block KD06.out)
  have KD17 : Hid ((w8.alloc (.cells #[.int .i64 be, .int .i64 bn] 54)).heap[w8.heap.size]? = some (.cells #[.int .i64 be, .int .i64 bn] 54 (0, 0))) := Ext.new (Ext.refl _)
  clear hx7 hxa c0 ct HTR0 HX3nnnn KD00 KD01 KD02 KD03 KD04 KD05 KD06
  obtain ⟨G1, hG⟩ : ∃ n, n = w8.heap.size := ⟨_, rfl⟩
  rw [← hG] at KD17 ⊢
  clear hG
  generalize w8.alloc (.cells #[.int .i64 be, .int .i64 bn] 54) = w8n at *
  have c0 := cell_of KD10.out
  have ct := cell_of KD15.out
  clear ct
  have HQ := hid fun e : Later w8n => (And.intro (cell_of (Ext.block e.grown KD11.out)) (And.intro (cell_of (Ext.block e.grown KD12.out)) (And.intro (cell_of (Ext.block e.grown KD13.out)) (And.intro (cell_of (Ext.block e.grown KD14.out)) (And.intro (cell_of (Ext.block e.grown KD16.out)) (cell_of (Ext.block e.grown KD17.out)))))))
  have HT1 := hid (fun u => to_any (-eh) (-el) u)
  have HT2 := hid (fun u => to_any (-nh) (-nl) u)
  have q0 := HQ.out
  refine quiet_wide 56 (by kernel_rfl) (by kernel_rfl) ?_
  simp only [List.take_succ_cons, List.take_zero, List.drop_succ_cons, List.drop_zero]
  repeat (any_goals (first | go_big_quiet_step ((first | (go_at_call 30; with_reducible exact Cal.quiet (HH1.out _)) | (go_at_call 30; with_reducible exact Cal.quiet (HH2.out _)) | (go_at_call 31; with_reducible exact Cal.quiet (HT1.out _)) | (go_at_call 31; with_reducible exact Cal.quiet (HT2.out _)))) | quiet_step ((first | (go_at_call 30; with_reducible exact Cal.quiet (HH1.out _)) | (go_at_call 30; with_reducible exact Cal.quiet (HH2.out _)) | (go_at_call 31; with_reducible exact Cal.quiet (HT1.out _)) | (go_at_call 31; with_reducible exact Cal.quiet (HT2.out _))))))
  refine wpQuiet_nil ?_
  rintro w20 ⟨⟨w20q, hx20⟩, hew⟩
  obtain rfl : w20 = w20q := hew
  have hx20 : Ext w8n w20 := hx20
  clear q0 HQ HT1 HT2 HH1 HH2 c0
  have HX20 := hid (HX3nnnnn.out.trans hx20)
  have HB20 := hid (hx20.block KD10.out)
  have HP20 := hid (hx20.block KD11.out)
  clear hx20 HTR HL1 HL2 HA1 HA2 HCF HX3nnnnn KD10 KD11 KD12 KD13 KD14 KD15 KD16 KD17
  gi_upto_region 13 with fail
  have HG := hid (fun (u : World) (hu : Ext w20 u) => And.intro (hu.block HB20.out) (HX20.out.trans hu))
  refine lex_wide 11 [(4, qTr (endTr F a b i k h true)), (9, qTr (endTr F a b i k h false)), (10, qTwo w20.heap.size (endTr F a b i k h true) (endTr F a b i k h false))] (by kernel_rfl) (by kernel_rfl) (nStab_cons (qTr_s _) (nStab_cons (qTr_s _) (nStab_cons (qTwo_s _ _ _) nStab_nil))) ?_
  simp only [List.take_succ_cons, List.take_zero, List.drop_succ_cons, List.drop_zero]
  apply lex_fun (rfl : psAt _ _ = none)
  · intro x u hR hf
    have c1 := cell_of (HG.out u hR).1
    clear hR hf
    go_simp
    exact ⟨rfl, Ext.refl _⟩
  simp only [Act.put, List.setIfInBounds_toArray, List.set_cons_succ, List.set_cons_zero]
  apply lex_fun (rfl : psAt _ _ = none)
  · intro x u hR hf
    clear hR hf
    go_simp
    exact ⟨rfl, Ext.refl _⟩
  simp only [Act.put, List.setIfInBounds_toArray, List.set_cons_succ, List.set_cons_zero]
  apply lex_fun (rfl : psAt _ _ = none)
  · intro x u hR hf
    clear hR hf
    go_simp
    exact ⟨rfl, Ext.refl _⟩
  simp only [Act.put, List.setIfInBounds_toArray, List.set_cons_succ, List.set_cons_zero]
  apply lex_fun (rfl : psAt _ _ = none)
  · intro x u hR hf
    clear hR hf
    go_simp
    exact ⟨rfl, Ext.refl _⟩
  simp only [Act.put, List.setIfInBounds_toArray, List.set_cons_succ, List.set_cons_zero]
  refine lex_pred (p := qTr (endTr F a b i k h true)) rfl ?_ ?_
  · intro x u hR hf
    have hcal := hid (HE1.out u (HG.out u hR).2)
    clear hR hf
    go_simp
    exact hcal.out.mono fun e w'' ⟨v, he, ht, hx'⟩ => ⟨v, he, ht, hx'⟩
  simp only [Act.put, List.setIfInBounds_toArray, List.set_cons_succ, List.set_cons_zero]
  apply lex_fun (rfl : psAt _ _ = none)
  · intro x u hR hf
    have c1 := cell_of (HG.out u hR).1
    clear hR hf
    go_simp
    exact ⟨rfl, Ext.refl _⟩
  simp only [Act.put, List.setIfInBounds_toArray, List.set_cons_succ, List.set_cons_zero]
  apply lex_fun (rfl : psAt _ _ = none)
  · intro x u hR hf
    clear hR hf
    go_simp
    exact ⟨rfl, Ext.refl _⟩
  simp only [Act.put, List.setIfInBounds_toArray, List.set_cons_succ, List.set_cons_zero]
  apply lex_fun (rfl : psAt _ _ = none)
  · intro x u hR hf
    clear hR hf
    go_simp
    exact ⟨rfl, Ext.refl _⟩
  simp only [Act.put, List.setIfInBounds_toArray, List.set_cons_succ, List.set_cons_zero]
  apply lex_fun (rfl : psAt _ _ = none)
  · intro x u hR hf
    clear hR hf
    go_simp
    exact ⟨rfl, Ext.refl _⟩
  simp only [Act.put, List.setIfInBounds_toArray, List.set_cons_succ, List.set_cons_zero]
  refine lex_pred (p := qTr (endTr F a b i k h false)) rfl ?_ ?_
  · intro x u hR hf
    have hcal := hid (HE2.out u (HG.out u hR).2)
    clear hR hf
    go_simp
    exact hcal.out.mono fun e w'' ⟨v, he, ht, hx'⟩ => ⟨v, he, ht, hx'⟩
  simp only [Act.put, List.setIfInBounds_toArray, List.set_cons_succ, List.set_cons_zero]
  refine lex_pred (p := qTwo w20.heap.size (endTr F a b i k h true) (endTr F a b i k h false)) rfl ?_ ?_
  · intro x u hR hf
    have h4 : qTr (endTr F a b i k h true) (x 4) u := by first | exact hf.1 rfl | exact hf.2.1 rfl | exact hf.2.2.1 rfl
    have h9 : qTr (endTr F a b i k h false) (x 9) u := by first | exact hf.1 rfl | exact hf.2.1 rfl | exact hf.2.2.1 rfl
    have hn := hR.size
    obtain ⟨a1, r1, c1, a2, r2, c2, a3, r3, c3, a4, r4, c4, e4⟩ := tr_slices h4
    obtain ⟨b1, m1, d1, b2, m2, d2, b3, m3, d3, b4, m4, d4, e9⟩ := tr_slices h9
    unfold qTr at h4 h9
    rw [e4] at h4 ⊢
    rw [e9] at h9 ⊢
    have H4 := hid h4
    have H9 := hid h9
    clear hR hf h4 h9 e4 e9
    go_simp
    exact ⟨⟨_, _, _, _, _, _, _, _, _, _, _, _, _, _, _, _, _, _, _, _, _, _, _, _, _, rfl, hn, Ext.new (Ext.refl _), H4.out.mono ((Ext.refl _).alloc _), H9.out.mono ((Ext.refl _).alloc _)⟩, (Ext.refl _).alloc _⟩
  simp only [Act.put, List.setIfInBounds_toArray, List.set_cons_succ, List.set_cons_zero]
  refine lex_nil fun x u hE hfacts => ?_
  obtain ⟨g, a1, c1, a2, c2, a3, c3, a4, c4, b1, d1, b2, d2, b3, d3, b4, d4, r1, r2, r3, r4, m1, m2, m3, m4, hg1, hg2, hg3, ht1, ht2⟩ := (hfacts 10 _ (by omega) rfl : qTwo w20.heap.size (endTr F a b i k h true) (endTr F a b i k h false) (x 10) u)
  clear hfacts
  generalize x 4 = x4' at *
  generalize x 9 = x9' at *
  generalize x 10 = x10' at *
  clear x
  subst hg1
  have HX21 := hid (HX20.out.trans hE)
  have HB21 := hid (hE.block HB20.out)
  have hp21 := hE.block HP20.out
  have HP21 := hid hp21
  have cp := cell_of hp21
  have HGG := hid hg3
  have HT1 := hid ht1
  have HT2 := hid ht2
  clear hE HG HX20 HB20 HP20 hg3 ht1 ht2 hp21 HE1 HE2
  gi_upto_region 15 with fail
  have hxw : Ext u (u.alloc (.cells #[.int .i64 el, .int .i64 eh] 3)) := (Ext.refl _).alloc _
  have HX22 := hid (HX21.out.trans hxw)
  have HB22 := hid (hxw.block HB21.out)
  have HG22 := hid (hxw.block HGG.out)
  have HT1 := hid (HT1.out.mono hxw)
  have HT2 := hid (HT2.out.mono hxw)
  have HW22 : Hid ((u.alloc (.cells #[.int .i64 el, .int .i64 eh] 3)).heap[u.heap.size]? = some (.cells #[.int .i64 el, .int .i64 eh] 3 (0, 0))) := Ext.new (Ext.refl _)
  clear cp hxw HX21 HB21 HP21 HGG c0
  obtain ⟨GW, hGW⟩ : ∃ n, n = u.heap.size := ⟨_, rfl⟩
  rw [← hGW] at HW22 ⊢
  clear hGW
  generalize u.alloc (.cells #[.int .i64 el, .int .i64 eh] 3) = w22 at *
  gi_wp2_with fail
  gi_loopw [24] (fun i wr => ∃ j : Nat, j ≤ 2 ∧ i = .int .i64 j ∧ Ext w22 wr) (fun i _ => 2 - (intOf i).toNat)
  case atStart => exact ⟨0, by omega, rfl, Ext.refl _⟩
  case round =>
    obtain ⟨j, hj, rfl, hx⟩ := hrel
    have HX := hid (HX22.out.trans hx)
    have HB := hid (hx.block HB22.out)
    have HGT := hid (hx.block HG22.out)
    have HW := hid (hx.block HW22.out)
    have HU1 := hid (HT1.out.mono hx)
    have HU2 := hid (HT2.out.mono hx)
    have HXR := hid hx
    clear hx
    rcases (by omega : j = 0 ∨ j = 1 ∨ j = 2) with rfl | rfl | rfl
    · gi_wp2_with fail
      have HV := hid (fun (u : World) (hu : Ext wr u) => And.intro (hu.block HB.out) (And.intro (hu.block HGT.out) (And.intro (HX.out.trans hu) (HU1.out.mono hu))))
      refine jj_own 14 [11] (boxJ wr 54 #[.int .i64 0, .int .i64 0] #[.int .i64 p1, .int .i64 o1]) (by kernel_rfl) (by kernel_rfl) (boxJ_start _ _ _ _) ?_
      simp only [List.take_succ_cons, List.take_zero, List.drop_succ_cons, List.drop_zero]
      apply jj_fun (by decide)
      · intro L x u hL hd hJ
        have c1 := cell_of (HV.out u (hJ.1)).1
        have HJ := hid hJ
        clear hJ hd hL
        go_simp
        exact ⟨rfl, HJ.out⟩
      simp only [Act.put, List.setIfInBounds_toArray, List.set_cons_succ, List.set_cons_zero]
      apply jj_fun (by decide)
      · intro L x u hL hd hJ
        have HJ := hid hJ
        clear hJ hd hL
        go_simp
        exact ⟨rfl, HJ.out⟩
      simp only [Act.put, List.setIfInBounds_toArray, List.set_cons_succ, List.set_cons_zero]
      apply jj_fun (by decide)
      · intro L x u hL hd hJ
        have HJ := hid hJ
        clear hJ hd hL
        go_simp
        exact ⟨rfl, HJ.out⟩
      simp only [Act.put, List.setIfInBounds_toArray, List.set_cons_succ, List.set_cons_zero]
      apply jj_fun (by decide)
      · intro L x u hL hd hJ
        have HJ := hid hJ
        clear hJ hd hL
        go_simp
        exact ⟨rfl, HJ.out⟩
      simp only [Act.put, List.setIfInBounds_toArray, List.set_cons_succ, List.set_cons_zero]
      apply jj_fun (by decide)
      · intro L x u hL hd hJ
        have c1 := cell_of (HV.out u (hJ.1)).2.1
        have HJ := hid hJ
        clear hJ hd hL
        go_simp
        exact ⟨rfl, HJ.out⟩
      simp only [Act.put, List.setIfInBounds_toArray, List.set_cons_succ, List.set_cons_zero]
      apply jj_fun (by decide)
      · intro L x u hL hd hJ
        have HJ := hid hJ
        clear hJ hd hL
        go_simp
        exact ⟨rfl, HJ.out⟩
      simp only [Act.put, List.setIfInBounds_toArray, List.set_cons_succ, List.set_cons_zero]
      apply jj_fun (by decide)
      · intro L x u hL hd hJ
        have HJ := hid hJ
        clear hJ hd hL
        go_simp
        exact ⟨rfl, HJ.out⟩
      simp only [Act.put, List.setIfInBounds_toArray, List.set_cons_succ, List.set_cons_zero]
      refine jj_fun (v := .tuple #[.agg #[.int .i64 p1, .int .i64 o1], .int .i64 0]) (by decide) ?_ ?_
      · intro L x u hL hd hJ
        have hcal := hid (HM1.out (.agg #[.slice a1 r1 c1, .slice a2 r2 c2, .slice a3 r3 c3, .slice a4 r4 c4]) u (HV.out u (hJ.1)).2.2.1 (HV.out u (hJ.1)).2.2.2)
        have HJ := hid hJ
        clear hJ hd hL
        go_simp
        exact hcal.out.mono fun e w'' ⟨he, hx'⟩ => ⟨_, he, rfl, boxJ_ext HJ.out hx'⟩
      simp only [Act.put, List.setIfInBounds_toArray, List.set_cons_succ, List.set_cons_zero]
      apply jj_fun (by decide)
      · intro L x u hL hd hJ
        have HJ := hid hJ
        clear hJ hd hL
        go_simp
        exact ⟨rfl, HJ.out⟩
      simp only [Act.put, List.setIfInBounds_toArray, List.set_cons_succ, List.set_cons_zero]
      apply jj_fun (by decide)
      · intro L x u hL hd hJ
        have HJ := hid hJ
        clear hJ hd hL
        go_simp
        exact ⟨rfl, HJ.out⟩
      simp only [Act.put, List.setIfInBounds_toArray, List.set_cons_succ, List.set_cons_zero]
      apply jj_fun (by decide)
      · intro L x u hL hd hJ
        have HJ := hid hJ
        clear hJ hd hL
        go_simp
        exact ⟨rfl, HJ.out⟩
      simp only [Act.put, List.setIfInBounds_toArray, List.set_cons_succ, List.set_cons_zero]
      refine jj_inv (by decide) ?_ ?_
      · intro L x u hL hd hJ
        have HJ := hid (boxJ_make hJ hL)
        clear hJ hd hL
        go_simp
        exact HJ.out
      simp only [Act.put, List.setIfInBounds_toArray, List.set_cons_succ, List.set_cons_zero]
      refine jj_fun (v := undef) (by decide) ?_ ?_
      · intro L x u hL hd hJ
        have hl : L 11 = true := hd.1 rfl
        obtain ⟨g, hx8, hg, h3, _⟩ := hJ.2.1 hl
        have hb := h3 hL
        have hk := set_same (set_same hb 0 (.int .i64 p1)) 1 (.int .i64 o1)
        simp only [List.setIfInBounds_toArray, List.set_cons_succ, List.set_cons_zero] at hk
        have HJ : Hid (boxJ wr 54 #[.int .i64 0, .int .i64 0] #[.int .i64 p1, .int .i64 o1] (updL L 12) x ((u.setCell ⟨g, 0, none⟩ (.int .i64 p1)).setCell ⟨g, 1, none⟩ (.int .i64 o1))) := ⟨(hJ.1.set hg 0 _).set hg 1 _, fun _ => ⟨g, hx8, hg, (fun q => by cases q), fun _ => hk⟩, fun _ => hl⟩
        have cb := cell_of hb
        have fb := free_of hb
        rw [hx8]
        clear hJ hd hL hb h3 hl hx8 hk
        go_simp
        exact HJ.out
      simp only [Act.put, List.setIfInBounds_toArray, List.set_cons_succ, List.set_cons_zero]
      apply jj_fun (by decide)
      · intro L x u hL hd hJ
        have HJ := hid hJ
        clear hJ hd hL
        go_simp
        exact ⟨rfl, HJ.out⟩
      simp only [Act.put, List.setIfInBounds_toArray, List.set_cons_succ, List.set_cons_zero]
      refine jj_nil fun L x uA hall hJ => ?_
      obtain ⟨gA, hg1, hgl1, _, hgb1⟩ := hJ.2.1 (hall 11 (by omega))
      have hgb1 := hgb1 (hall 12 (by omega))
      have hEA := hJ.1
      clear hJ hall
      generalize x 11 = x11A at *
      clear x
      subst hg1
      have HGBA := hid hgb1
      clear hgb1 hgl1
      gi_wp2_with fail
      refine jj_own 14 [11] (boxJ uA 54 #[.int .i64 0, .int .i64 0] #[.int .i64 p2, .int .i64 o2]) (by kernel_rfl) (by kernel_rfl) (boxJ_start _ _ _ _) ?_
      simp only [List.take_succ_cons, List.take_zero, List.drop_succ_cons, List.drop_zero]
      apply jj_fun (by decide)
      · intro L x u hL hd hJ
        have c1 := cell_of (HV.out u (hEA.trans hJ.1)).1
        have HJ := hid hJ
        clear hJ hd hL
        go_simp
        exact ⟨rfl, HJ.out⟩
      simp only [Act.put, List.setIfInBounds_toArray, List.set_cons_succ, List.set_cons_zero]
      apply jj_fun (by decide)
      · intro L x u hL hd hJ
        have HJ := hid hJ
        clear hJ hd hL
        go_simp
        exact ⟨rfl, HJ.out⟩
      simp only [Act.put, List.setIfInBounds_toArray, List.set_cons_succ, List.set_cons_zero]
      apply jj_fun (by decide)
      · intro L x u hL hd hJ
        have HJ := hid hJ
        clear hJ hd hL
        go_simp
        exact ⟨rfl, HJ.out⟩
      simp only [Act.put, List.setIfInBounds_toArray, List.set_cons_succ, List.set_cons_zero]
      apply jj_fun (by decide)
      · intro L x u hL hd hJ
        have HJ := hid hJ
        clear hJ hd hL
        go_simp
        exact ⟨rfl, HJ.out⟩
      simp only [Act.put, List.setIfInBounds_toArray, List.set_cons_succ, List.set_cons_zero]
      apply jj_fun (by decide)
      · intro L x u hL hd hJ
        have c1 := cell_of (HV.out u (hEA.trans hJ.1)).2.1
        have HJ := hid hJ
        clear hJ hd hL
        go_simp
        exact ⟨rfl, HJ.out⟩
      simp only [Act.put, List.setIfInBounds_toArray, List.set_cons_succ, List.set_cons_zero]
      apply jj_fun (by decide)
      · intro L x u hL hd hJ
        have HJ := hid hJ
        clear hJ hd hL
        go_simp
        exact ⟨rfl, HJ.out⟩
      simp only [Act.put, List.setIfInBounds_toArray, List.set_cons_succ, List.set_cons_zero]
      apply jj_fun (by decide)
      · intro L x u hL hd hJ
        have HJ := hid hJ
        clear hJ hd hL
        go_simp
        exact ⟨rfl, HJ.out⟩
      simp only [Act.put, List.setIfInBounds_toArray, List.set_cons_succ, List.set_cons_zero]
      refine jj_fun (v := .tuple #[.agg #[.int .i64 p2, .int .i64 o2], .int .i64 0]) (by decide) ?_ ?_
      · intro L x u hL hd hJ
        have hcal := hid (HM2.out (.agg #[.slice a1 r1 c1, .slice a2 r2 c2, .slice a3 r3 c3, .slice a4 r4 c4]) u (HV.out u (hEA.trans hJ.1)).2.2.1 (HV.out u (hEA.trans hJ.1)).2.2.2)
        have HJ := hid hJ
        clear hJ hd hL
        go_simp
        exact hcal.out.mono fun e w'' ⟨he, hx'⟩ => ⟨_, he, rfl, boxJ_ext HJ.out hx'⟩
      simp only [Act.put, List.setIfInBounds_toArray, List.set_cons_succ, List.set_cons_zero]
      apply jj_fun (by decide)
      · intro L x u hL hd hJ
        have HJ := hid hJ
        clear hJ hd hL
        go_simp
        exact ⟨rfl, HJ.out⟩
      simp only [Act.put, List.setIfInBounds_toArray, List.set_cons_succ, List.set_cons_zero]
      apply jj_fun (by decide)
      · intro L x u hL hd hJ
        have HJ := hid hJ
        clear hJ hd hL
        go_simp
        exact ⟨rfl, HJ.out⟩
      simp only [Act.put, List.setIfInBounds_toArray, List.set_cons_succ, List.set_cons_zero]
      apply jj_fun (by decide)
      · intro L x u hL hd hJ
        have HJ := hid hJ
        clear hJ hd hL
        go_simp
        exact ⟨rfl, HJ.out⟩
      simp only [Act.put, List.setIfInBounds_toArray, List.set_cons_succ, List.set_cons_zero]
      refine jj_inv (by decide) ?_ ?_
      · intro L x u hL hd hJ
        have HJ := hid (boxJ_make hJ hL)
        clear hJ hd hL
        go_simp
        exact HJ.out
      simp only [Act.put, List.setIfInBounds_toArray, List.set_cons_succ, List.set_cons_zero]
      refine jj_fun (v := undef) (by decide) ?_ ?_
      · intro L x u hL hd hJ
        have hl : L 11 = true := hd.1 rfl
        obtain ⟨g, hx8, hg, h3, _⟩ := hJ.2.1 hl
        have hb := h3 hL
        have hk := set_same (set_same hb 0 (.int .i64 p2)) 1 (.int .i64 o2)
        simp only [List.setIfInBounds_toArray, List.set_cons_succ, List.set_cons_zero] at hk
        have HJ : Hid (boxJ uA 54 #[.int .i64 0, .int .i64 0] #[.int .i64 p2, .int .i64 o2] (updL L 12) x ((u.setCell ⟨g, 0, none⟩ (.int .i64 p2)).setCell ⟨g, 1, none⟩ (.int .i64 o2))) := ⟨(hJ.1.set hg 0 _).set hg 1 _, fun _ => ⟨g, hx8, hg, (fun q => by cases q), fun _ => hk⟩, fun _ => hl⟩
        have cb := cell_of hb
        have fb := free_of hb
        rw [hx8]
        clear hJ hd hL hb h3 hl hx8 hk
        go_simp
        exact HJ.out
      simp only [Act.put, List.setIfInBounds_toArray, List.set_cons_succ, List.set_cons_zero]
      apply jj_fun (by decide)
      · intro L x u hL hd hJ
        have HJ := hid hJ
        clear hJ hd hL
        go_simp
        exact ⟨rfl, HJ.out⟩
      simp only [Act.put, List.setIfInBounds_toArray, List.set_cons_succ, List.set_cons_zero]
      refine jj_nil fun L x uB hall hJ => ?_
      obtain ⟨gB, hg1, hgl1, _, hgb1⟩ := hJ.2.1 (hall 11 (by omega))
      have hgb1 := hgb1 (hall 12 (by omega))
      have hEB := hJ.1
      clear hJ hall
      generalize x 11 = x11B at *
      clear x
      subst hg1
      have HGBB := hid hgb1
      clear hgb1 hgl1
      gi_wp2_with fail
      have hxAB : Ext wr uB := hEA.trans hEB
      have HQ := hid fun e : Later uB => And.intro (cell_of (Ext.block e.grown (hEB.block HGBA.out))) (And.intro (cell_of (Ext.block e.grown HGBB.out)) (cell_of (Ext.block e.grown (hxAB.block HW.out))))
      have hne : ((p1 - p2) != el) = false := by rw [HQ1.out]; simp
      have q0 := HQ.out
      refine quiet_wide 18 (by kernel_rfl) (by kernel_rfl) ?_
      simp only [List.take_succ_cons, List.take_zero, List.drop_succ_cons, List.drop_zero]
      repeat (any_goals (first | go_big_quiet_step (fail) | quiet_step (fail)))
      refine wpQuiet_nil ?_
      rintro w30 ⟨⟨w30q, hx30⟩, hew⟩
      obtain rfl : w30 = w30q := hew
      have hx30 : Ext uB w30 := hx30
      clear q0 HQ
      have HXF := hid ((HXR.out.trans hxAB).trans hx30)
      clear hxAB hx30 hEA hEB
      gi_wp2_with fail
      go_roundw
      case rel => exact ⟨1, by omega, rfl, HXF.out⟩
      case measure => simp [intOf]
    · gi_wp2_with fail
      have HV := hid (fun (u : World) (hu : Ext wr u) => And.intro (hu.block HB.out) (And.intro (hu.block HGT.out) (And.intro (HX.out.trans hu) (HU2.out.mono hu))))
      refine jj_own 14 [11] (boxJ wr 54 #[.int .i64 0, .int .i64 0] #[.int .i64 p3, .int .i64 o3]) (by kernel_rfl) (by kernel_rfl) (boxJ_start _ _ _ _) ?_
      simp only [List.take_succ_cons, List.take_zero, List.drop_succ_cons, List.drop_zero]
      apply jj_fun (by decide)
      · intro L x u hL hd hJ
        have c1 := cell_of (HV.out u (hJ.1)).1
        have HJ := hid hJ
        clear hJ hd hL
        go_simp
        exact ⟨rfl, HJ.out⟩
      simp only [Act.put, List.setIfInBounds_toArray, List.set_cons_succ, List.set_cons_zero]
      apply jj_fun (by decide)
      · intro L x u hL hd hJ
        have HJ := hid hJ
        clear hJ hd hL
        go_simp
        exact ⟨rfl, HJ.out⟩
      simp only [Act.put, List.setIfInBounds_toArray, List.set_cons_succ, List.set_cons_zero]
      apply jj_fun (by decide)
      · intro L x u hL hd hJ
        have HJ := hid hJ
        clear hJ hd hL
        go_simp
        exact ⟨rfl, HJ.out⟩
      simp only [Act.put, List.setIfInBounds_toArray, List.set_cons_succ, List.set_cons_zero]
      apply jj_fun (by decide)
      · intro L x u hL hd hJ
        have HJ := hid hJ
        clear hJ hd hL
        go_simp
        exact ⟨rfl, HJ.out⟩
      simp only [Act.put, List.setIfInBounds_toArray, List.set_cons_succ, List.set_cons_zero]
      apply jj_fun (by decide)
      · intro L x u hL hd hJ
        have c1 := cell_of (HV.out u (hJ.1)).2.1
        have HJ := hid hJ
        clear hJ hd hL
        go_simp
        exact ⟨rfl, HJ.out⟩
      simp only [Act.put, List.setIfInBounds_toArray, List.set_cons_succ, List.set_cons_zero]
      apply jj_fun (by decide)
      · intro L x u hL hd hJ
        have HJ := hid hJ
        clear hJ hd hL
        go_simp
        exact ⟨rfl, HJ.out⟩
      simp only [Act.put, List.setIfInBounds_toArray, List.set_cons_succ, List.set_cons_zero]
      apply jj_fun (by decide)
      · intro L x u hL hd hJ
        have HJ := hid hJ
        clear hJ hd hL
        go_simp
        exact ⟨rfl, HJ.out⟩
      simp only [Act.put, List.setIfInBounds_toArray, List.set_cons_succ, List.set_cons_zero]
      refine jj_fun (v := .tuple #[.agg #[.int .i64 p3, .int .i64 o3], .int .i64 0]) (by decide) ?_ ?_
      · intro L x u hL hd hJ
        have hcal := hid (HM3.out (.agg #[.slice b1 m1 d1, .slice b2 m2 d2, .slice b3 m3 d3, .slice b4 m4 d4]) u (HV.out u (hJ.1)).2.2.1 (HV.out u (hJ.1)).2.2.2)
        have HJ := hid hJ
        clear hJ hd hL
        go_simp
        exact hcal.out.mono fun e w'' ⟨he, hx'⟩ => ⟨_, he, rfl, boxJ_ext HJ.out hx'⟩
      simp only [Act.put, List.setIfInBounds_toArray, List.set_cons_succ, List.set_cons_zero]
      apply jj_fun (by decide)
      · intro L x u hL hd hJ
        have HJ := hid hJ
        clear hJ hd hL
        go_simp
        exact ⟨rfl, HJ.out⟩
      simp only [Act.put, List.setIfInBounds_toArray, List.set_cons_succ, List.set_cons_zero]
      apply jj_fun (by decide)
      · intro L x u hL hd hJ
        have HJ := hid hJ
        clear hJ hd hL
        go_simp
        exact ⟨rfl, HJ.out⟩
      simp only [Act.put, List.setIfInBounds_toArray, List.set_cons_succ, List.set_cons_zero]
      apply jj_fun (by decide)
      · intro L x u hL hd hJ
        have HJ := hid hJ
        clear hJ hd hL
        go_simp
        exact ⟨rfl, HJ.out⟩
      simp only [Act.put, List.setIfInBounds_toArray, List.set_cons_succ, List.set_cons_zero]
      refine jj_inv (by decide) ?_ ?_
      · intro L x u hL hd hJ
        have HJ := hid (boxJ_make hJ hL)
        clear hJ hd hL
        go_simp
        exact HJ.out
      simp only [Act.put, List.setIfInBounds_toArray, List.set_cons_succ, List.set_cons_zero]
      refine jj_fun (v := undef) (by decide) ?_ ?_
      · intro L x u hL hd hJ
        have hl : L 11 = true := hd.1 rfl
        obtain ⟨g, hx8, hg, h3, _⟩ := hJ.2.1 hl
        have hb := h3 hL
        have hk := set_same (set_same hb 0 (.int .i64 p3)) 1 (.int .i64 o3)
        simp only [List.setIfInBounds_toArray, List.set_cons_succ, List.set_cons_zero] at hk
        have HJ : Hid (boxJ wr 54 #[.int .i64 0, .int .i64 0] #[.int .i64 p3, .int .i64 o3] (updL L 12) x ((u.setCell ⟨g, 0, none⟩ (.int .i64 p3)).setCell ⟨g, 1, none⟩ (.int .i64 o3))) := ⟨(hJ.1.set hg 0 _).set hg 1 _, fun _ => ⟨g, hx8, hg, (fun q => by cases q), fun _ => hk⟩, fun _ => hl⟩
        have cb := cell_of hb
        have fb := free_of hb
        rw [hx8]
        clear hJ hd hL hb h3 hl hx8 hk
        go_simp
        exact HJ.out
      simp only [Act.put, List.setIfInBounds_toArray, List.set_cons_succ, List.set_cons_zero]
      apply jj_fun (by decide)
      · intro L x u hL hd hJ
        have HJ := hid hJ
        clear hJ hd hL
        go_simp
        exact ⟨rfl, HJ.out⟩
      simp only [Act.put, List.setIfInBounds_toArray, List.set_cons_succ, List.set_cons_zero]
      refine jj_nil fun L x uA hall hJ => ?_
      obtain ⟨gA, hg1, hgl1, _, hgb1⟩ := hJ.2.1 (hall 11 (by omega))
      have hgb1 := hgb1 (hall 12 (by omega))
      have hEA := hJ.1
      clear hJ hall
      generalize x 11 = x11A at *
      clear x
      subst hg1
      have HGBA := hid hgb1
      clear hgb1 hgl1
      gi_wp2_with fail
      refine jj_own 14 [11] (boxJ uA 54 #[.int .i64 0, .int .i64 0] #[.int .i64 p4, .int .i64 o4]) (by kernel_rfl) (by kernel_rfl) (boxJ_start _ _ _ _) ?_
      simp only [List.take_succ_cons, List.take_zero, List.drop_succ_cons, List.drop_zero]
      apply jj_fun (by decide)
      · intro L x u hL hd hJ
        have c1 := cell_of (HV.out u (hEA.trans hJ.1)).1
        have HJ := hid hJ
        clear hJ hd hL
        go_simp
        exact ⟨rfl, HJ.out⟩
      simp only [Act.put, List.setIfInBounds_toArray, List.set_cons_succ, List.set_cons_zero]
      apply jj_fun (by decide)
      · intro L x u hL hd hJ
        have HJ := hid hJ
        clear hJ hd hL
        go_simp
        exact ⟨rfl, HJ.out⟩
      simp only [Act.put, List.setIfInBounds_toArray, List.set_cons_succ, List.set_cons_zero]
      apply jj_fun (by decide)
      · intro L x u hL hd hJ
        have HJ := hid hJ
        clear hJ hd hL
        go_simp
        exact ⟨rfl, HJ.out⟩
      simp only [Act.put, List.setIfInBounds_toArray, List.set_cons_succ, List.set_cons_zero]
      apply jj_fun (by decide)
      · intro L x u hL hd hJ
        have HJ := hid hJ
        clear hJ hd hL
        go_simp
        exact ⟨rfl, HJ.out⟩
      simp only [Act.put, List.setIfInBounds_toArray, List.set_cons_succ, List.set_cons_zero]
      apply jj_fun (by decide)
      · intro L x u hL hd hJ
        have c1 := cell_of (HV.out u (hEA.trans hJ.1)).2.1
        have HJ := hid hJ
        clear hJ hd hL
        go_simp
        exact ⟨rfl, HJ.out⟩
      simp only [Act.put, List.setIfInBounds_toArray, List.set_cons_succ, List.set_cons_zero]
      apply jj_fun (by decide)
      · intro L x u hL hd hJ
        have HJ := hid hJ
        clear hJ hd hL
        go_simp
        exact ⟨rfl, HJ.out⟩
      simp only [Act.put, List.setIfInBounds_toArray, List.set_cons_succ, List.set_cons_zero]
      apply jj_fun (by decide)
      · intro L x u hL hd hJ
        have HJ := hid hJ
        clear hJ hd hL
        go_simp
        exact ⟨rfl, HJ.out⟩
      simp only [Act.put, List.setIfInBounds_toArray, List.set_cons_succ, List.set_cons_zero]
      refine jj_fun (v := .tuple #[.agg #[.int .i64 p4, .int .i64 o4], .int .i64 0]) (by decide) ?_ ?_
      · intro L x u hL hd hJ
        have hcal := hid (HM4.out (.agg #[.slice b1 m1 d1, .slice b2 m2 d2, .slice b3 m3 d3, .slice b4 m4 d4]) u (HV.out u (hEA.trans hJ.1)).2.2.1 (HV.out u (hEA.trans hJ.1)).2.2.2)
        have HJ := hid hJ
        clear hJ hd hL
        go_simp
        exact hcal.out.mono fun e w'' ⟨he, hx'⟩ => ⟨_, he, rfl, boxJ_ext HJ.out hx'⟩
      simp only [Act.put, List.setIfInBounds_toArray, List.set_cons_succ, List.set_cons_zero]
      apply jj_fun (by decide)
      · intro L x u hL hd hJ
        have HJ := hid hJ
        clear hJ hd hL
        go_simp
        exact ⟨rfl, HJ.out⟩
      simp only [Act.put, List.setIfInBounds_toArray, List.set_cons_succ, List.set_cons_zero]
      apply jj_fun (by decide)
      · intro L x u hL hd hJ
        have HJ := hid hJ
        clear hJ hd hL
        go_simp
        exact ⟨rfl, HJ.out⟩
      simp only [Act.put, List.setIfInBounds_toArray, List.set_cons_succ, List.set_cons_zero]
      apply jj_fun (by decide)
      · intro L x u hL hd hJ
        have HJ := hid hJ
        clear hJ hd hL
        go_simp
        exact ⟨rfl, HJ.out⟩
      simp only [Act.put, List.setIfInBounds_toArray, List.set_cons_succ, List.set_cons_zero]
      refine jj_inv (by decide) ?_ ?_
      · intro L x u hL hd hJ
        have HJ := hid (boxJ_make hJ hL)
        clear hJ hd hL
        go_simp
        exact HJ.out
      simp only [Act.put, List.setIfInBounds_toArray, List.set_cons_succ, List.set_cons_zero]
      refine jj_fun (v := undef) (by decide) ?_ ?_
      · intro L x u hL hd hJ
        have hl : L 11 = true := hd.1 rfl
        obtain ⟨g, hx8, hg, h3, _⟩ := hJ.2.1 hl
        have hb := h3 hL
        have hk := set_same (set_same hb 0 (.int .i64 p4)) 1 (.int .i64 o4)
        simp only [List.setIfInBounds_toArray, List.set_cons_succ, List.set_cons_zero] at hk
        have HJ : Hid (boxJ uA 54 #[.int .i64 0, .int .i64 0] #[.int .i64 p4, .int .i64 o4] (updL L 12) x ((u.setCell ⟨g, 0, none⟩ (.int .i64 p4)).setCell ⟨g, 1, none⟩ (.int .i64 o4))) := ⟨(hJ.1.set hg 0 _).set hg 1 _, fun _ => ⟨g, hx8, hg, (fun q => by cases q), fun _ => hk⟩, fun _ => hl⟩
        have cb := cell_of hb
        have fb := free_of hb
        rw [hx8]
        clear hJ hd hL hb h3 hl hx8 hk
        go_simp
        exact HJ.out
      simp only [Act.put, List.setIfInBounds_toArray, List.set_cons_succ, List.set_cons_zero]
      apply jj_fun (by decide)
      · intro L x u hL hd hJ
        have HJ := hid hJ
        clear hJ hd hL
        go_simp
        exact ⟨rfl, HJ.out⟩
      simp only [Act.put, List.setIfInBounds_toArray, List.set_cons_succ, List.set_cons_zero]
      refine jj_nil fun L x uB hall hJ => ?_
      obtain ⟨gB, hg1, hgl1, _, hgb1⟩ := hJ.2.1 (hall 11 (by omega))
      have hgb1 := hgb1 (hall 12 (by omega))
      have hEB := hJ.1
      clear hJ hall
      generalize x 11 = x11B at *
      clear x
      subst hg1
      have HGBB := hid hgb1
      clear hgb1 hgl1
      gi_wp2_with fail
      have hxAB : Ext wr uB := hEA.trans hEB
      have HQ := hid fun e : Later uB => And.intro (cell_of (Ext.block e.grown (hEB.block HGBA.out))) (And.intro (cell_of (Ext.block e.grown HGBB.out)) (cell_of (Ext.block e.grown (hxAB.block HW.out))))
      have hne : ((p3 - p4) != eh) = false := by rw [HQ2.out]; simp
      have q0 := HQ.out
      refine quiet_wide 18 (by kernel_rfl) (by kernel_rfl) ?_
      simp only [List.take_succ_cons, List.take_zero, List.drop_succ_cons, List.drop_zero]
      repeat (any_goals (first | go_big_quiet_step (fail) | quiet_step (fail)))
      refine wpQuiet_nil ?_
      rintro w30 ⟨⟨w30q, hx30⟩, hew⟩
      obtain rfl : w30 = w30q := hew
      have hx30 : Ext uB w30 := hx30
      clear q0 HQ
      have HXF := hid ((HXR.out.trans hxAB).trans hx30)
      clear hxAB hx30 hEA hEB
      gi_wp2_with fail
      go_roundw
      case rel => exact ⟨2, by omega, rfl, HXF.out⟩
      case measure => simp [intOf]
    · gi_wp2_with (gi_at_call 19; ((with_reducible refine (works_any _).mono ?_); rintro e w99 ⟨rfl, hx99⟩))
      go_ret
      exact ⟨rfl, HX.out.trans hx99⟩

end Go.Proofs.Ytmjelgonhpgmbaa
