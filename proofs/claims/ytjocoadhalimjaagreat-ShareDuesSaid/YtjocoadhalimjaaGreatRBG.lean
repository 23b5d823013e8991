/- Claims of a voyage. -/
import Derived.Test.YtjocoadhalimjaaGreatRBF
import Derived.Test.YtjocoadhalimjaaGreatRAV
import Derived.Test.YtjocoadhalimjaaGreatRBE
import Derived.Test.YtjocoadhalimjaaGreatRAW
set_option linter.unusedSimpArgs false
set_option linter.unusedVariables false
namespace Go.Proofs.YtjocoadhalimjaaGreat
section
open Go Go.RowKit Go.Shelf

def wts (l : List Stk) : List Int := l.map (·.weight)
theorem wts_take {l : List Stk} {k : Nat} (h : k < l.length) : wts (l.take (k + 1)) = wts (l.take k) ++ [l[k].weight] := by
  unfold wts; rw [List.take_succ_eq_append_getElem h, List.map_append]; rfl
theorem wts_len (l : List Stk) (k : Nat) (h : k ≤ l.length) : (wts (l.take k)).length = k := by unfold wts; simp; omega
set_option maxRecDepth 100000 in
set_option maxHeartbeats 8000000 in
theorem Claims_ok (V : Voy) (s : VS) (w : World) (h : VoyAt w V s) (hE : voyE V = 0) : Cal 19 #[.agg (voyA V s)] w fun e w' => ∃ r, e = .returned (.tuple #[r, .int .i64 0]) ∧ Ext w w' ∧ Hid (Row w' 3 1 r V.le.length (intsV (wts (clm V.le (lentV V) V.le.length)))) := by
  have HN := hid (fun (u : World) (hu : Ext w u) => newVoyage_ok (h.mono hu) hE)
  have hok := (voyE_ok hE).1
  have hll : V.le.length ≤ 10 := (stakes_ok hok.le).1
  have HLL := hid hll
  have H55 := hid (fun (bv : Nat) (u : World) (hu : Ext w u) (hm : GMapAt .string u bv (entM V.le (lentV V) V.le.length)) => claims_any V.gr V.bo V.ne V.cr (.slice s.ca V.cs.length s.cc) (.slice s.oa V.ow.length s.oc) (.slice s.ha V.ha.length s.hc) (.slice s.xa V.lo.length s.xc) s.la s.lc bv V.le (lentV V) u (h.le.mono hu) hm (by omega))
  have hcl : (clm V.le (lentV V) V.le.length).length = V.le.length := clm_len _ _ _
  have H55 : Hid (∀ (bv : Nat) (u : World), Ext w u → GMapAt .string u bv (entM V.le (lentTo V.le V.lo V.lo.length) V.le.length) → Cal 55 #[.agg (voyB V s (.map (some bv)))] u fun e w' => ∃ r, e = .returned r ∧ Ext u w' ∧ Hid (Row w' 49 2 r V.le.length (stkF (clm V.le (lentV V) V.le.length)))) := H55
  obtain ⟨L, hL⟩ : ∃ L, clm V.le (lentV V) V.le.length = L := ⟨_, rfl⟩
  rw [hL] at H55 hcl
  rw [hL]
  have HCL := hid hcl
  clear hok hL hcl hll
  clear h hE
  unfold voyA voyB at *
  obtain ⟨gr, bo, ne, cr, cs, ol, ll, hl, xs⟩ := V
  obtain ⟨ca, oa, la, ha, xa, cc, oc, lc, hc, xc⟩ := s
  simp only at *
  have hx0 : Ext w (w.alloc (.cells #[.int .i64 gr, .slice ca cs.length cc, .int .i64 bo, .int .i64 ne, .int .i64 cr, .slice oa ol.length oc, .slice la ll.length lc, .slice ha hl.length hc, .slice xa xs.length xc] 32)) := (Ext.refl _).alloc _
  have HNN := hid (HN.out _ hx0)
  clear HN
  gi_enter Tryz.func19, Tryz.ntmps19
  have HLL : Hid (ll.length ≤ 10) := HLL
  have HCL : Hid (L.length = ll.length) := HCL
  have H55 : Hid (∀ (bv : Nat) (u : World), Ext w u → GMapAt .string u bv (entM ll (lentTo ll xs xs.length) ll.length) → Cal 55 #[.agg #[.int .i64 gr, .slice ca cs.length cc, .int .i64 bo, .int .i64 ne, .int .i64 cr, .slice oa ol.length oc, .slice la ll.length lc, .slice ha hl.length hc, .slice xa xs.length xc, .map (some bv)]] u fun e w' => ∃ r, e = .returned r ∧ Ext u w' ∧ Hid (Row w' 49 2 r ll.length (stkF L))) := H55
  gi_wp2_with (first | (gi_at_call 54; ((with_reducible refine (HNN.out).mono ?_); rintro e w1 ⟨bm, rfl, hx1, hbm, HM⟩; have HX1 := hid (hx0.trans hx1); clear hx1 hx0 hbm)) | (gi_at_call 55; ((with_reducible refine ((H55.out bm _ (HX1.out.alloc _) (HM.out.mono ((Ext.refl _).alloc _)))).mono ?_); rintro e w3 ⟨r3, rfl, hx3, HR3⟩; have HX3 := hid ((HX1.out.alloc _).trans hx3); obtain ⟨ra, rc, rfl⟩ := HR3.out.isSliceN; clear hx3)))
  have hsk : StakesAt w3 (.slice ra ll.length rc) L := StakesAt.of_row (by rw [HCL.out]; exact HR3.out) (by rw [HCL.out]; have := HLL.out; omega)
  obtain ⟨a1, c1, e1, ⟨hb1, hb2⟩, hsc⟩ := hsk
  rw [HCL.out] at e1 hb1
  cases e1
  have HSC := hid hsc
  have HJ : Hid (Ext w3 w3 ∧ Row w3 3 1 (.slice none 0 0) 0 (intsV (wts (L.take 0))) ∧ ∀ g, (Value.slice none 0 0).ownBlock = some g → w3.heap.size ≤ g) := hid ⟨Ext.refl _, Row.nil _ _ _, fun g h => by simp [Value.ownBlock] at h⟩
  clear hsc H55 HM HR3
  gi_loopw [6, 8, 20] (fun r u8 i wr => ∃ k : Nat, k ≤ ll.length ∧ i = .int .i64 k ∧ Hid (Ext w3 wr ∧ Row wr 3 1 r k (intsV (wts (L.take k))) ∧ ∀ g, r.ownBlock = some g → w3.heap.size ≤ g)) (fun _ _ i _ => ll.length - (intOf i).toNat)
  case atStart => exact ⟨0, Nat.zero_le _, rfl, HJ⟩
  case round =>
    obtain ⟨k, hk, rfl, HI⟩ := hrel
    clear HJ
    by_cases hlt : k < ll.length
    · have hki : (k : Int) < (ll.length : Int) := by omega
      have hkL : k < L.length := by rw [HCL.out]; exact hlt
      obtain ⟨b, off, rfl, hb, c0, c1⟩ := HSC.out k hkL
      rw [← HI.out.1.cell (p := ⟨b, _, none⟩) hb] at c0 c1
      have HWT := hid (wts_take hkL)
      generalize L[k] = st at *
      have hx1 : Ext wr (wr.alloc (.cells #[.string st.name, .int .i64 st.weight] 49)) := (Ext.refl _).alloc _
      have hnb : (wr.alloc (.cells #[.string st.name, .int .i64 st.weight] 49)).heap[wr.heap.size]? = some (.cells #[.string st.name, .int .i64 st.weight] 49 (0, 0)) := Ext.new (Ext.refl _)
      have HX1 := hid (HI.out.1.trans hx1)
      have HR1 := hid (HI.out.2.1.mono hx1)
      have HOW := hid HI.out.2.2
      gi_upto_region 8 with fail
      clear c0 c1 HI hx1 hb hkL
      generalize wr.alloc (.cells #[.string st.name, .int .i64 st.weight] 49) = W2 at *
      generalize wr.heap.size = nb at *
      have cn := cell_of hnb
      obtain ⟨na, nc, rfl⟩ := HR1.out.isSliceN
      have hx2 : Ext W2 (W2.alloc (.cells #[.int .i64 st.weight] 3)) := (Ext.refl _).alloc _
      have HRW := hid (HR1.out.mono hx2)
      have HX2 := hid (HX1.out.trans hx2)
      have HNW : Hid (∀ j u, ([.int .i64 st.weight] : List Value)[j]? = some u → (W2.alloc (.cells #[.int .i64 st.weight] 3)).cell? ((⟨W2.heap.size, 0, none⟩ : Addr).add j) = some u) := fun j u hj => by rw [Addr.add_mid, Nat.zero_add, new_cell _ _ rfl]; simpa using hj
      obtain ⟨i0, hi0, hz0, hz1, hz2⟩ := info_parts info3
      have HZ := hid (And.intro hi0 (And.intro hz0 (And.intro hz1 hz2)))
      have hmax : k + 1 ≤ 1000000000 := by have := HLL.out; omega
      clear hi0 hz0 hz1 hz2 hx2 hnb
      gi_wp2_with (refine wpIn_append_row (fun _ => trivial) rfl (.tmp 24) (.tmp 27) rfl Tryz.underlying23 HZ.out.1 HZ.out.2.1 HZ.out.2.2.1 HZ.out.2.2.2 (by simp [Value.cells]) (by omega) (v := .slice na k nc) rfl HRW.out ⟨W2.heap.size, 0, none⟩ 1 rfl [.int .i64 st.weight] rfl HNW.out (fun u hu => by simp at hu; subst hu; rfl) hmax (by omega) ?_; intro v' w' hrow' hgr' how')
      have hbel := ext_grown HX2.out hgr' (fun g hg => HOW.out g hg)
      have hown' : ∀ g, v'.ownBlock = some g → w3.heap.size ≤ g := fun g hg => by
        rcases how' with e | e
        · exact HOW.out g (by rw [← e]; exact hg)
        · rw [hg] at e; cases e; exact HX2.out.size
      go_roundw
      case rel => exact ⟨k + 1, by omega, by go_num, hid ⟨hbel, by rw [HWT.out, intsV_snoc]; exact hrow', hown'⟩⟩
      case measure => simp [intOf]; omega
    · obtain rfl : k = ll.length := by omega
      have hend : L.take ll.length = L := by rw [← HCL.out]; exact List.take_length
      have HEND := hid hend
      clear hend
      obtain ⟨na, nc, rfl⟩ := HI.out.2.1.isSliceN
      gi_wp2_with fail
      exact bodyPost_ret (v := .tuple #[.slice na ll.length nc, .int .i64 0]) (by simp [results, Tryz.results19, go_sem]) rfl ⟨_, rfl, HX3.out.trans HI.out.1, hid (by have h1 := HI.out.2.1; rw [HEND.out] at h1; exact h1)⟩
end
section
open Go Go.RowKit Go.Shelf
def wkS : List Stk := [⟨⟨#[98]⟩, 1⟩, ⟨⟨#[97]⟩, 1⟩, ⟨⟨#[99]⟩, 1⟩]
def nt : Voy where
  gr := 1000
  bo := 3
  ne := 3
  cr := 2
  cs := [40, 19]
  ow := [⟨⟨#[98, 117, 99, 107, 105, 101]⟩, 5⟩, ⟨⟨#[99, 117, 108, 108, 101, 110]⟩, 3⟩]
  le := [⟨⟨#[98, 117, 99, 107, 105, 101]⟩, 20⟩, ⟨⟨#[101, 121, 101, 109, 111, 117, 116, 104]⟩, 10⟩, ⟨⟨#[115, 109, 105, 116, 104]⟩, 0⟩]
  ha := [⟨⟨#[115, 109, 105, 116, 104]⟩, 10⟩, ⟨⟨#[119, 105, 99, 107]⟩, 8⟩, ⟨⟨#[98, 111, 121]⟩, 4⟩]
  lo := [⟨⟨#[101, 121, 101, 109, 111, 117, 116, 104]⟩, ⟨#[115, 109, 105, 116, 104]⟩, 10, 3⟩]
set_option maxRecDepth 100000
/-- A division that is reckoned. -/
def giveC (P : Int) (l : List Stk) (i : Nat) : Nat := Sv.gets (List.range l.length) P.toNat (wN l) (ltN l) i
def canC (P : Int) (l : List Stk) : Bool := decide (0 ≤ P) && (l.all (fun s => decide (0 ≤ s.weight)) && (decide (0 < sumW l) && decide ((l.map (·.name)).Nodup)))
theorem give_c {P : Int} {l : List Stk} (h : canC P l = true) {i : Nat} (hi : i < l.length) : giveTo P l i = (giveC P l i : Nat) := by
  simp only [canC, Bool.and_eq_true, decide_eq_true_eq, List.all_eq_true] at h
  exact giveTo_eq h.1 h.2.1 h.2.2.1 h.2.2.2 hi
theorem wkCan : canC 10 wkS = true := by kernel_rfl
theorem wkG : ((List.range 3).map (giveC 10 wkS) == [3, 4, 3]) = true := by kernel_rfl
theorem ntT : (canC (netV nt) (threeS nt.bo nt.ne nt.cr) && ((List.range 3).map (giveC (netV nt) (threeS nt.bo nt.ne nt.cr)) == [353, 353, 235])) = true := by kernel_rfl
theorem ntG : (canC 353 (partL nt 0) && canC 353 (partL nt 1) && canC 235 (partL nt 2) && ((List.range 2).map (giveC 353 (partL nt 0)) == [221, 132]) && ((List.range 3).map (giveC 353 (partL nt 1)) == [235, 44, 74]) && ((List.range 3).map (giveC 235 (partL nt 2)) == [107, 85, 43])) = true := by kernel_rfl
theorem wkDiv : intsF 3 (giveTo 10 wkS) = intsV [3, 4, 3] := by
  have h := wkG
  simp only [beq_iff_eq] at h
  have e : intsF 3 (giveTo 10 wkS) = ((List.range 3).map (giveC 10 wkS)).map fun n : Nat => (.int .i64 n : Value) := by
    unfold intsF
    rw [List.map_map]
    apply List.map_congr_left
    intro i hi
    rw [give_c wkCan (show i < wkS.length from List.mem_range.1 hi)]; rfl
  rw [e, h]; rfl
theorem list3 {f : Nat → Nat} {a b c : Nat} (h : (List.range 3).map f = [a, b, c]) : f 0 = a ∧ f 1 = b ∧ f 2 = c := by
  simp [List.range_succ] at h
  exact h
theorem list2 {f : Nat → Nat} {a b : Nat} (h : (List.range 2).map f = [a, b]) : f 0 = a ∧ f 1 = b := by
  simp [List.range_succ] at h
  exact h
theorem ntE : voyE nt = 0 := by
  have : (voyE nt == 0) = true := by kernel_rfl
  simpa using this
theorem ntC : wts (clm nt.le (lentV nt) nt.le.length) = [160, 30, 50] := by
  have : (wts (clm nt.le (lentV nt) nt.le.length) == [160, 30, 50]) = true := by kernel_rfl
  simpa using this
theorem ntP : partP nt 0 = 353 ∧ partP nt 1 = 353 ∧ partP nt 2 = 235 := by
  have h := ntT
  simp only [Bool.and_eq_true, beq_iff_eq] at h
  obtain ⟨h0, h1, h2⟩ := list3 h.2
  refine ⟨?_, ?_, ?_⟩
  · show giveTo (netV nt) (threeS nt.bo nt.ne nt.cr) 0 = 353
    rw [give_c h.1 (show 0 < 3 by omega), h0]; rfl
  · show giveTo (netV nt) (threeS nt.bo nt.ne nt.cr) 1 = 353
    rw [give_c h.1 (show 1 < 3 by omega), h1]; rfl
  · show giveTo (netV nt) (threeS nt.bo nt.ne nt.cr) 2 = 235
    rw [give_c h.1 (show 2 < 3 by omega), h2]; rfl
def ntA : Nat → Nat → Int
  | 0 => fun i => ([221, 132] : List Int).getD i 0
  | 1 => fun i => ([235, 44, 74] : List Int).getD i 0
  | _ => fun i => ([107, 85, 43] : List Int).getD i 0
theorem valTo_congr {L : List Stk} {A B : Nat → Int} {nm : ByteArray} : ∀ k, (∀ i, i < k → A i = B i) → valTo L A nm k = valTo L B nm k
  | 0, _ => rfl
  | k + 1, h => by
    unfold valTo
    rw [h k (by omega), valTo_congr k fun i hi => h i (by omega)]
theorem lens_nt : lensV nt 0 = 2 ∧ lensV nt 1 = 3 ∧ lensV nt 2 = 3 := ⟨by kernel_rfl, by kernel_rfl, by kernel_rfl⟩
theorem ntVals (nm : ByteArray) : valsD (partL nt) (partG nt) (lensV nt) nm 0 = valsD (partL nt) ntA (lensV nt) nm 0 ∧ valsD (partL nt) (partG nt) (lensV nt) nm 1 = valsD (partL nt) ntA (lensV nt) nm 1 ∧ valsD (partL nt) (partG nt) (lensV nt) nm 2 = valsD (partL nt) ntA (lensV nt) nm 2 := by
  have h := ntG
  simp only [Bool.and_eq_true, beq_iff_eq] at h
  obtain ⟨⟨⟨⟨⟨h0, h1⟩, h2⟩, h3⟩, h4⟩, h5⟩ := h
  obtain ⟨l0, l1, l2⟩ := lens_nt
  obtain ⟨p0, p1, p2⟩ := ntP
  obtain ⟨a0, a1⟩ := list2 h3
  obtain ⟨b0, b1, b2⟩ := list3 h4
  obtain ⟨c0, c1, c2⟩ := list3 h5
  refine ⟨?_, ?_, ?_⟩
  · unfold valsD
    rw [l0]
    refine valTo_congr 2 fun i hi => ?_
    unfold partG
    rw [p0, give_c h0 (show i < (partL nt 0).length by have : (partL nt 0).length = 2 := l0; omega)]
    rcases (by omega : i = 0 ∨ i = 1) with rfl | rfl
    · rw [a0]; rfl
    · rw [a1]; rfl
  · unfold valsD
    rw [l1]
    refine valTo_congr 3 fun i hi => ?_
    unfold partG
    rw [p1, give_c h1 (show i < (partL nt 1).length by have : (partL nt 1).length = 3 := l1; omega)]
    rcases (by omega : i = 0 ∨ i = 1 ∨ i = 2) with rfl | rfl | rfl
    · rw [b0]; rfl
    · rw [b1]; rfl
    · rw [b2]; rfl
  · unfold valsD
    rw [l2]
    refine valTo_congr 3 fun i hi => ?_
    unfold partG
    rw [p2, give_c h2 (show i < (partL nt 2).length by have : (partL nt 2).length = 3 := l2; omega)]
    rcases (by omega : i = 0 ∨ i = 1 ∨ i = 2) with rfl | rfl | rfl
    · rw [c0]; rfl
    · rw [c1]; rfl
    · rw [c2]; rfl
/-- Who gets what. -/
structure Du where
  nm : ByteArray
  b : Int
  n : Int
  c : Int
def ntD : List Du := [⟨⟨#[98, 111, 121]⟩, 0, 0, 43⟩, ⟨⟨#[98, 117, 99, 107, 105, 101]⟩, 221, 235, 0⟩, ⟨⟨#[99, 117, 108, 108, 101, 110]⟩, 132, 0, 0⟩, ⟨⟨#[101, 121, 101, 109, 111, 117, 116, 104]⟩, 0, 44, 0⟩, ⟨⟨#[115, 109, 105, 116, 104]⟩, 0, 74, 107⟩, ⟨⟨#[119, 105, 99, 107]⟩, 0, 0, 85⟩]
def duC (d : Du) : List Value := [.string d.nm, .int .i64 d.b, .int .i64 d.n, .int .i64 d.c]
def duF (l : List Du) : List Value := l.flatMap duC
def riseB : List ByteArray → Bool
  | [] => true
  | x :: l => l.all (fun y => nmLt x y) && riseB l
theorem riseB_iff : ∀ {l : List ByteArray}, riseB l = true → l.Pairwise fun a b => nmLt a b = true
  | [], _ => .nil
  | x :: l, h => by
    unfold riseB at h
    simp only [Bool.and_eq_true, List.all_eq_true] at h
    exact .cons h.1 (riseB_iff h.2)
theorem ntRise : riseB (ntD.map (·.nm)) = true := by kernel_rfl
theorem ntIn1 : (ntD.all fun d => (partL nt 0 ++ partL nt 1 ++ partL nt 2).any fun s => decide (s.name = d.nm)) = true := by kernel_rfl
theorem ntIn2 : ((partL nt 0 ++ partL nt 1 ++ partL nt 2).all fun s => ntD.any fun d => decide (s.name = d.nm)) = true := by kernel_rfl
theorem ntNames {ns : List ByteArray} (h : DueNames nt ns) : ns = ntD.map (·.nm) := by
  refine rise_eq h.rise (riseB_iff ntRise) fun nm => ?_
  rw [h.mem, inAny_mem]
  constructor
  · rintro ⟨s, hs, rfl⟩
    have h2 := ntIn2
    rw [List.all_eq_true] at h2
    have h3 := h2 s (by simp only [List.mem_append]; rcases hs with h | h | h; exact .inl (.inl h); exact .inl (.inr h); exact .inr h)
    rw [List.any_eq_true] at h3
    obtain ⟨d, hd, he⟩ := h3
    exact List.mem_map.2 ⟨d, hd, (of_decide_eq_true he).symm⟩
  · intro hm
    obtain ⟨d, hd, rfl⟩ := List.mem_map.1 hm
    have h2 := ntIn1
    rw [List.all_eq_true] at h2
    have h3 := h2 d hd
    rw [List.any_eq_true] at h3
    obtain ⟨s, hs, he⟩ := h3
    simp only [List.mem_append] at hs
    exact ⟨s, by rcases hs with (h | h) | h; exact .inl h; exact .inr (.inl h); exact .inr (.inr h), of_decide_eq_true he⟩
theorem ntDueB : (ntD.all fun d => (valsD (partL nt) ntA (lensV nt) d.nm 0 == d.b) && (valsD (partL nt) ntA (lensV nt) d.nm 1 == d.n) && (valsD (partL nt) ntA (lensV nt) d.nm 2 == d.c)) = true := by kernel_rfl
theorem ntDue {ns : List ByteArray} (h : DueNames nt ns) : ns.length = 6 ∧ dueF nt ns = duF ntD := by
  rw [ntNames h]
  refine ⟨rfl, ?_⟩
  have h2 := ntDueB
  rw [List.all_eq_true] at h2
  have e : ∀ l : List Du, (∀ d ∈ l, d ∈ ntD) → dueF nt (l.map (·.nm)) = duF l := by
    intro l
    induction l with
    | nil => intro _; rfl
    | cons d l ih =>
      intro hl
      have h3 := h2 d (hl d List.mem_cons_self)
      simp only [Bool.and_eq_true, beq_iff_eq] at h3
      have h4 := ntVals d.nm
      have e1 : dueC nt d.nm = duC d := by
        unfold dueC duC
        rw [h4.1, h4.2.1, h4.2.2, h3.1.1, h3.1.2, h3.2]
      have ih2 := ih fun x hx => hl x (List.mem_cons_of_mem _ hx)
      unfold dueF duF at ih2 ⊢
      rw [List.map_cons, List.flatMap_cons, List.flatMap_cons, e1, ih2]
  exact e ntD fun _ h => h
def wkX : List Int := [5, -3, -2, 4, -4, 0]
def wkPy : List Py := [⟨1, 0, 5⟩, ⟨2, 1, 2⟩, ⟨4, 3, 4⟩]
theorem wkB : debtsB wkX = true := by kernel_rfl
theorem wkN : nzC wkX = 5 := by kernel_rfl
theorem wkI : clearB wkX wkPy = true := by kernel_rfl
end
end Go.Proofs.YtjocoadhalimjaaGreat
