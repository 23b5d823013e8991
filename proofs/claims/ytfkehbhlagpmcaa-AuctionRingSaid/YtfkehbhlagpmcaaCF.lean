/- The bids that win. -/
import Derived.Test.YtfkehbhlagpmcaaCD
import Derived.Test.YtfkehbhlagpmcaaCE
set_option linter.unusedSimpArgs false
set_option linter.unusedVariables false
namespace Go.Proofs.Ytfkehbhlagpmcaa
open Go Go.RowKit Go.Shelf Go.Lib Go.Sort
open Au
theorem KeepP.grown {p : TypeId → Prop} {W W' : World} {T : TypeId} {sz : Nat} {v : Value} {n : Nat} {xs : List Value} (hr : Row W T sz v n xs) (hT : ¬ p T) (hg : W.grownBy W' v.ownBlock) : KeepP p W W' := fun k cs t ht hb => by
  refine grownBy_block hg hb fun e => ?_
  rcases hr.2 with ⟨rfl, _⟩ | ⟨g, cap, cur, rfl, hgb, _⟩
  · simp [Value.ownBlock] at e
  · simp [Value.ownBlock] at e
    subst e
    rw [hgb] at hb; cases hb; exact hT ht
theorem keepsFrom_grownS {B : Nat} {W W' : World} {T : TypeId} {sz : Nat} {v : Value} {n : Nat} {xs : List Value} (hr : Row W T sz v n xs) (hg : W.grownBy W' v.ownBlock) : KeepsFrom B W W' :=
  ⟨hg.size, fun k o _ ho hc => grownBy_block hg ho fun e => by have := hr.isCells e.symm ho; rw [this] at hc; cases hc⟩
theorem keepsFrom_extS {B : Nat} {W W' : World} (h : Ext W W') : KeepsFrom B W W' := ⟨h.size, fun k o _ ho _ => h.block ho⟩
theorem BdB.take {w : World} {a : Option Addr} {n cap : Nat} {m : List Bd} (h : BdB w (.slice a n cap) m) {N : Nat} (hN : N ≤ m.length) : BdB w (.slice a N N) (m.take N) := by
  obtain ⟨⟨a', cap', e, hl, hc⟩, h2⟩ := h
  cases e
  have hlen : (m.take N).length = N := by rw [List.length_take]; omega
  refine ⟨⟨a, N, by rw [hlen], by rw [hlen]; omega, fun i hi => ?_⟩, ?_⟩
  · rw [hlen] at hi
    obtain ⟨b, off, ha, hb, h0⟩ := hc i (by omega)
    exact ⟨b, off, ha, hb, by rw [List.getElem_take]; exact h0⟩
  · rcases h2 with ⟨e, rfl⟩ | ⟨g, n', cap', cs, e, hg⟩
    · cases e; obtain rfl : N = 0 := by simpa using hN
      exact .inl ⟨rfl, rfl⟩
    · cases e; exact .inr ⟨g, _, _, cs, rfl, hg⟩
theorem wn_take {s : Sal} {m : List Bd} (hp : m.Perm (bids s)) (hs : sorted m) : m.take (min s.crans.toNat (bids s).length) = wn s := by
  rw [sortB_eq hp hs]
  unfold wn top
  rw [List.take_eq_take_iff, (sortB_perm _).length_eq]
  omega
theorem bids_small {s : Sal} (ho : Ok s) : (bids s).length ≤ 320 := by
  have := bidsTo_length (s := s) (m := 40) (fun i => (ho.fall i).len) s.offers.length
  have := ho.n
  unfold bids
  have : s.offers.length * 40 ≤ 8 * 40 := Nat.mul_le_mul_right _ this.2
  omega
def bdA (b : Bd) : Array Value := #[.int .i64 (b.buyer : Int), .int .i64 (b.place : Int), .int .i64 b.offer]
set_option maxRecDepth 100000 in
set_option maxHeartbeats 4000000 in
theorem winners_any (v : Value) (s : Sal) (w : World) (hv : ListsAt w v s.offers) (ho : Ok s) :
    Cal 73 #[saleW s v] w fun e w' => ∃ r, e = .returned r ∧ Ext w w' ∧ BdB w' r (wn s) := by
  have HIT := hid (bids_iter v s w hv (fun i => by have := (ho.fall i).len; omega))
  have hbs := bids_small ho
  have HLM : Hid (((bids s).map fun b => #[bidV b]).length = (bids s).length) := hid (by simp)
  have HSF := hid (fun (k : Nat) (h : k < (bids s).length) => flatB_succ (bids s) h)
  have HSO := hid (fun (v : Value) (u : World) (hr : Row u 102 3 v (bids s).length (flatB (bids s) (bids s).length)) => sortS_any (bids s) (by omega) v u hr)
  have HWN := hid (fun (m : List Bd) (h : m.Perm (bids s)) (k : sorted m) => wn_take h k)
  have hcr := ho.crans
  obtain ⟨a, cap, rfl, ⟨hcap, hlen⟩, _⟩ := hv
  generalize hBB : bids s = B at *
  have hcr0 := hcr.1
  clear ho hBB
  unfold saleW at *
  generalize s.crans = cr at *
  generalize s.least = le at *
  refine callsIn_of_wp_marks Try.func73 rfl trivial ?_
  simp only [Try.ntmps73, List.size_toArray, List.length_cons, List.length_nil, Nat.reduceAdd, Nat.reduceSub, Array.replicate_succ, Array.replicate_zero, List.push_toArray, List.append_toArray, List.nil_append, List.cons_append]
  gi_wp2_with fail
  have hW : Ext w ((w.alloc (.cells #[.int .i64 cr, .int .i64 le, .slice a s.offers.length cap, fnV 68] 71)).alloc (.cells #[.slice none 0 0] 98)) := ((Ext.refl _).alloc _).alloc _
  have hA0 : ((w.alloc (.cells #[.int .i64 cr, .int .i64 le, .slice a s.offers.length cap, fnV 68] 71)).alloc (.cells #[.slice none 0 0] 98)).heap[w.heap.size]? = some (.cells #[.int .i64 cr, .int .i64 le, .slice a s.offers.length cap, fnV 68] 71 (0, 0)) := two_new
  have hW0 : ((w.alloc (.cells #[.int .i64 cr, .int .i64 le, .slice a s.offers.length cap, fnV 68] 71)).alloc (.cells #[.slice none 0 0] 98)).heap[w.heap.size + 1]? = some (.cells #[.slice none 0 0] 98 (0, 0)) := by
    have := Ext.new (w := w.alloc (.cells #[.int .i64 cr, .int .i64 le, .slice a s.offers.length cap, fnV 68] 71)) (o := .cells #[.slice none 0 0] 98) (Ext.refl _); rwa [World.size_alloc] at this
  generalize (w.alloc (.cells #[.int .i64 cr, .int .i64 le, .slice a s.offers.length cap, fnV 68] 71)).alloc (.cells #[.slice none 0 0] 98) = W at *
  have HWS := hid (show w.heap.size + 2 ≤ W.heap.size by have h := lt_of_block hW0; omega)
  have hbel : Below w.heap.size w W := hW
  refine range_boxedC (p := fun t => t = 71) rfl (enters_of Try.func89 (by kernel_rfl) rfl) HIT.out
    (fun r W' => Below w.heap.size w W' ∧ Hid (W'.heap[w.heap.size]? = some (.cells #[.int .i64 cr, .int .i64 le, .slice a s.offers.length cap, fnV 68] 71 (0, 0)) ∧ ∃ v, W'.heap[w.heap.size + 1]? = some (.cells #[v] 98 (0, 0)) ∧ Row W' 102 3 v r (flatB B r) ∧ ∀ g, v.ownBlock = some g → W.heap.size ≤ g))
    (fun _ _ _ => False)
    (fun r W' W'' h hp => ⟨hp.past.below h.1 hbel.size (Nat.le_refl _), by obtain ⟨h0, v, h1, h2, h3⟩ := h.2.out; exact hid ⟨hp.cells h0, v, hp.cells h1, h2.pastC hp, h3⟩⟩)
    (fun _ _ _ _ h _ => h) (fun r W' h => h.1) (fun r h => by simp) ⟨hbel, hid ⟨hA0, _, hW0, Row.nil _ _ _, fun g hg => by simp [Value.ownBlock] at hg⟩⟩
    (fun r Bx => { tmps := #[.agg #[.int .i64 cr, .int .i64 le, .slice a s.offers.length cap, fnV 68], .pointer (some ⟨w.heap.size, 0, none⟩), .slice none 0 0, .pointer (some ⟨w.heap.size + 1, 0, none⟩), .pointer (some ⟨Bx, 0, none⟩), undef, .agg #[.int .i64 cr, .int .i64 le, .slice a s.offers.length cap, fnV 68], .func (.func 89) #[.agg #[.int .i64 cr, .int .i64 le, .slice a s.offers.length cap, fnV 68]] #[], .agg (bdA (B.getD r noBd)), undef, undef, undef, undef, undef, undef, undef, undef, undef, undef, undef, undef, undef, undef, undef, undef, undef, undef], defers := [] })
    (fun r => bdA (B.getD r noBd)) 102 ?assign ?body ?done ?stop
  case assign =>
    intro l0 r h W1 K' hK
    have he : (B.map fun b => #[bidV b])[r] = #[.agg (bdA (B.getD r noBd))] := by
      rw [List.getElem_map, getD_of (by rw [← HLM.out]; exact h)]; rfl
    rw [he]
    generalize B.getD r noBd = b at *
    gi_wp2_with (refine wpIn_store_fresh (fun _ => trivial) 102 (.tmp 4) (.tmp 8) rfl (W := W1) (c' := bdA b) rfl rfl rfl size102 rfl (by simp [bdA, Value.oneCell']) ?_)
    exact hK
  case stop =>
    rintro D r c W2 hD hi hf hK
    exact hf.elim
  case body =>
    rintro l0 r Bx W2 hi hl0 hrr ⟨hbelW, HI⟩ hBx hbx
    have hil : r < B.length := by rw [← HLM.out]; exact hi
    have HF1 := hid (HSF.out r hil)
    have hgd : B.getD r noBd = B[r] := getD_of hil
    rw [← hgd] at HF1
    clear hgd HSF
    generalize B.getD r noBd = b at *
    obtain ⟨hA, v, hb2, hrow, hown⟩ := HI.out
    clear HI
    unfold bdA at hbx ⊢
    have hws := HWS.out
    have cB := cell_of hb2
    have c5 := cell_of hbx
    have HBE := hid (show Ext w W2 from hbelW)
    have HB := hid hb2
    have HA := hid hA
    have HOWN := hid hown
    have hxa := (Ext.refl W2).alloc (.cells #[.int .i64 (b.buyer : Int), .int .i64 (b.place : Int), .int .i64 b.offer] 102)
    have HRW := hid (hrow.mono hxa)
    have HB2 := hid (hxa.block hb2)
    have HA2 := hid (hxa.block hA)
    have HK1 := hid (KeepP.of_ext (p := fun t => t = 71) hxa)
    have HNW : Hid (∀ j u, (bidCells b)[j]? = some u → (W2.alloc (.cells #[.int .i64 (b.buyer : Int), .int .i64 (b.place : Int), .int .i64 b.offer] 102)).cell? ((⟨W2.heap.size, 0, none⟩ : Addr).add j) = some u) := fun j u hj => by rw [Addr.add_mid, Nat.zero_add, new_cell _ _ rfl]; simpa [bidCells] using hj
    obtain ⟨i0, hi0, hz0, hz1, hz2⟩ := info_parts info102
    have HZ := hid (And.intro hi0 (And.intro hz0 (And.intro hz1 hz2)))
    have hmax : r + 1 ≤ 1000000000 := by omega
    have hlb := lt_of_block hb2
    have hBl := lt_of_block hbx
    clear hi0 hz0 hz1 hz2 hrow hown hb2 hbx hbelW hrr hA hxa
    gi_wp2_with (refine wpIn_append_row (fun _ => trivial) rfl (.tmp 9) (.tmp 11) rfl Try.underlying98 HZ.out.1 HZ.out.2.1 HZ.out.2.2.1 HZ.out.2.2.2 (by simp [Value.cells]) (by omega) (v := v) rfl HRW.out ⟨W2.heap.size, 0, none⟩ 1 rfl (bidCells b) rfl HNW.out (fun u hu => by simp [bidCells] at hu; rcases hu with rfl | rfl | rfl <;> rfl) hmax (by omega) ?_; intro v' w' hrow' hgr' how'; obtain ⟨sa', sn', sc', rfl⟩ := hrow'.isSlice; have hbv' := grownBy_block hgr' HB2.out (fun e => by have := HOWN.out _ e.symm; omega); have hcv' := cell_of hbv'; have hfv' := free_of hbv')
    have hav' := grownBy_block hgr' HA2.out (fun e => by have := HOWN.out _ e.symm; omega)
    have hbel' : Ext w w' := Below.trans (HBE.out.alloc _) ⟨hgr'.os, hgr'.tape, hgr'.output, hgr'.size, fun j hj => hgr'.block j (by simp; omega) (fun e => by have := HOWN.out j e.symm; omega)⟩
    have hsz := HBE.out.size
    have hown' : ∀ g, (Value.slice sa' sn' sc').ownBlock = some g → W.heap.size ≤ g := fun g hg => by
      rcases how' with e | e
      · exact HOWN.out g (by rw [← e]; exact hg)
      · rw [hg] at e; cases e; simp; omega
    refine ⟨⟨(keepsFrom_extS ((Ext.refl W2).alloc _)).trans ((keepsFrom_grownS HRW.out hgr').trans ((KeepsOthers.setCell _ _ _).from _)), hbel'.set (by omega) _ _, hid ⟨by rw [set_other (by omega)]; exact hav', _, set_same hbv' 0 _, ?_, hown'⟩⟩, HK1.out.trans ((KeepP.grown HRW.out (show ¬ (102 : Nat) = 71 by decide) hgr').trans (KeepP.set hbv' (show ¬ (98 : Nat) = 71 by decide) _ _))⟩
    rw [HF1.out]
    exact hrow'.set (fun e => by have := hown' _ e; omega) _ _
  case done =>
    rintro D W2 hD ⟨hbelW, hb2⟩ hK
    obtain ⟨e0, v, e1, e2, e3⟩ := hb2.out
    rw [HLM.out] at e2
    have hcy := cell_of e1
    have hca := cell_of e0
    have HSR := hid (HSO.out v W2 e2)
    obtain ⟨sa, sc, rfl⟩ := e2.isSliceN
    have HRW := hid (And.intro e0 (And.intro e1 (And.intro e2 e3)))
    have HBW := hid (show Ext w W2 from hbelW)
    have HKD := hid hK
    have hws := HWS.out
    have hmn : min cr (B.length : Int) = ((min cr.toNat B.length : Nat) : Int) := by omega
    have HMN := hid hmn
    have hNl : min cr.toNat B.length ≤ B.length := Nat.min_le_right _ _
    generalize hN : min cr.toNat B.length = N at *
    clear e0 e1 e2 e3 hb2 hbelW hK hmn hN
    gi_upto_region 7 with (gi_at_call 90; ((with_reducible refine (HSR.out).mono ?_); rintro e w3 ⟨rfl, hgr, m, hm1, hm2, hm3⟩; have h0 := grownBy_block hgr HRW.out.1 (fun e => by have := HRW.out.2.2.2 _ e.symm; omega); have h1 := grownBy_block hgr HRW.out.2.1 (fun e => by have := HRW.out.2.2.2 _ e.symm; omega); have hcy := cell_of h1; have hca := cell_of h0))
    rw [HMN.out]
    have hkd := grownBy_block hgr HKD.out (fun e => by have h := HRW.out.2.2.1.isCells e.symm HKD.out; cases h)
    have HEX : Hid (Ext w w3) := hid (ext_grown HBW.out hgr fun g hg => by have := HRW.out.2.2.2 g hg; omega)
    have HBT := hid (hm3.take (N := N) (by rw [hm1.length_eq]; exact hNl))
    rw [HWN.out m hm1 hm2] at HBT
    have HPD : Hid (∀ (k : Nat) (cs : Array Value), w3.heap[k]? = some (.cells cs 102 (0, 0)) → (w3.putObj D (.deferred none)).heap[k]? = some (.cells cs 102 (0, 0))) := hid fun k cs hb => by
      rw [World.putObj_heap_other (by rintro rfl; rw [hkd] at hb; cases hb)]; exact hb
    have HED : Hid (Ext w (w3.putObj D (.deferred none))) := hid ((put_past (B := w.heap.size) _ _ (by omega)).below HEX.out (Nat.le_refl _) (Nat.le_refl _))
    have HR := hid HRW.out.2.2.1.2
    have HKE := hid hkd
    clear hm1 hm2 hm3 h0 h1 hgr HSR HRW hkd
    rcases HR.out with ⟨e, hz⟩ | ⟨g, cap', cur, e, _, hcap2, _⟩
    · injection e with h1 h2 h3
      subst h1
      subst h3
      obtain rfl : N = 0 := by omega
      clear HR HMN h2
      gi_wp2_with fail
      refine leave_mark HKE.out (v := .slice none 0 0) (by simp [results, Try.results73, go_sem]) ⟨_, rfl, HED.out, HBT.out.keep HPD.out⟩
    · injection e with h1 h2 h3
      subst h1
      subst h3
      clear HR HMN h2
      gi_wp2_with fail
      refine leave_mark HKE.out (v := .slice (some ⟨g, 0, none⟩) N N) (by simp [results, Try.results73, go_sem]) ⟨_, rfl, HED.out, HBT.out.keep HPD.out⟩

end Go.Proofs.Ytfkehbhlagpmcaa
