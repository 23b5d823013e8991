/- What each share gets. -/
import Derived.Test.YtjocoadhalimjaaGreatRAI
import Derived.Test.YtjocoadhalimjaaGreatBase
set_option linter.unusedSimpArgs false
set_option linter.unusedVariables false
namespace Go.Proofs.YtjocoadhalimjaaGreat
section
open Go Go.RowKit Go.Shelf

def eqS (a b : Shr) : Bool := (a.name.toList == b.name.toList) && ((a.weight == b.weight) && ((a.pence == b.pence) && (a.rest == b.rest)))
theorem eqlShr (a b : Shr) (w : World) : (binOp .eql 146 (.agg (shrA a)) (.agg (shrA b))).run Tryz.prog w = .ok (.bool (eqS a b)) w := by
  unfold shrA eqS
  rw [run_eql_struct]
  have h : (Op.equalIn 10000 146 (.agg #[.string a.name, .int .i64 a.weight, .int .i64 a.pence, .int .i64 a.rest]) (.agg #[.string b.name, .int .i64 b.weight, .int .i64 b.pence, .int .i64 b.rest])).run Tryz.prog w = .ok ((a.name.toList == b.name.toList) && ((a.weight == b.weight) && ((a.pence == b.pence) && (a.rest == b.rest)))) w := by
    simp [go_sem]
    by_cases h1 : a.name.toList = b.name.toList <;> by_cases h2 : a.weight = b.weight <;> by_cases h3 : a.pence = b.pence <;> by_cases h4 : a.rest = b.rest <;> simp [h1, h2, h3, h4]
  rw [h]; rfl
theorem eqS_iff {a b : Shr} : eqS a b = true ↔ a = b := by
  unfold eqS
  simp only [Bool.and_eq_true, beq_iff_eq]
  constructor
  · rintro ⟨h1, h2, h3, h4⟩
    have := names_inj h1
    cases a; cases b
    simp only at *
    subst this; subst h2; subst h3; subst h4; rfl
  · rintro rfl; exact ⟨rfl, rfl, rfl, rfl⟩
theorem info3 : (Tryz.prog.info? 3).map (fun i => (i.zero, i.size, i.bytes)) = some (some (.int .i64 0), 1, 8) := by kernel_rfl
def intsF (n : Nat) (f : Nat → Int) : List Value := (List.range n).map fun i => .int .i64 (f i)
theorem intsF_succ (n : Nat) (f : Nat → Int) : intsF (n + 1) f = intsF n f ++ [.int .i64 (f n)] := by
  unfold intsF; rw [List.range_succ, List.map_append]; rfl
theorem intsF_congr {n : Nat} {f g : Nat → Int} (h : ∀ i, i < n → f i = g i) : intsF n f = intsF n g := by
  unfold intsF
  exact List.map_congr_left fun i hi => by rw [h i (List.mem_range.mp hi)]
theorem intsF_set {n j : Nat} (f : Nat → Int) (x : Int) (hj : j < n) : (intsF n f).set j (.int .i64 x) = intsF n fun i => if i = j then x else f i := by
  refine List.ext_getElem (by simp [intsF]) fun i h1 h2 => ?_
  have hi : i < n := by simpa [intsF] using h2
  rw [List.getElem_set]
  by_cases hij : j = i
  · subst hij; simp [intsF]
  · rw [if_neg hij]; simp [intsF, Ne.symm hij]
theorem Row.put1 {w : World} {T : TypeId} {g n cap : Nat} {xs : List Value} (h : Row w T 1 (.slice (some ⟨g, 0, none⟩) n cap) n xs) (j : Nat) (x : Value) : Row (w.setCell ⟨g, j, none⟩ x) T 1 (.slice (some ⟨g, 0, none⟩) n cap) n (xs.set j x) := by
  obtain ⟨hl, h⟩ := h
  refine ⟨by simpa using hl, .inr ?_⟩
  rcases h with ⟨e, _⟩ | ⟨g', cap', cur, e, hg, h1, h2, h3, h4⟩
  · cases e
  · cases e
    refine ⟨g, cap, _, rfl, set_same hg j x, h1, h2, by simpa using h3, ?_⟩
    rw [← h4, Array.toList_setIfInBounds, List.take_set]
theorem Row.cells1 {w : World} {T : TypeId} {v : Value} {n : Nat} {xs : List Value} (h : Row w T 1 v n xs) {j : Nat} (hj : j < n) : ∃ g cap cur, v = .slice (some ⟨g, 0, none⟩) n cap ∧ n ≤ cap ∧ w.heap[g]? = some (.cells cur T (0, 0)) ∧ w.cell? ⟨g, j, none⟩ = xs[j]? ∧ ∀ o, w.frozen? ⟨g, o, none⟩ = false := by
  obtain ⟨hl, h⟩ := h
  rcases h with ⟨_, e⟩ | ⟨g, cap, cur, e, hg, h1, h2, h3, h4⟩
  · omega
  · refine ⟨g, cap, cur, e, h1, hg, ?_, free_of hg⟩
    rw [cell_of hg, ← h4, List.getElem?_take, if_pos (by omega), Array.getElem?_toList]
/-- What each has once r shares have had their penny more. -/
def getsTo (l m : List Shr) (r i : Nat) : Int := (l.getD i noShr).pence + ((m.take r).countP (fun f => eqS (l.getD i noShr) f) : Nat)
theorem getsTo_succ (l m : List Shr) {r : Nat} (h : r < m.length) (i : Nat) : getsTo l m (r + 1) i = if eqS (l.getD i noShr) m[r] then getsTo l m r i + 1 else getsTo l m r i := by
  unfold getsTo
  rw [List.take_succ_eq_append_getElem h, List.countP_append, List.countP_cons, List.countP_nil]
  split <;> simp <;> omega
theorem getsTo_bound {l m : List Shr} (hb : ∀ s ∈ l, 0 ≤ s.pence ∧ s.pence ≤ 10000000000000) (hm : m.length ≤ 1000) (r i : Nat) : 0 ≤ getsTo l m r i ∧ getsTo l m r i ≤ 10000000001000 := by
  unfold getsTo
  have h1 : 0 ≤ (l.getD i noShr).pence ∧ (l.getD i noShr).pence ≤ 10000000000000 := by
    by_cases h : i < l.length
    · rw [getD_of h]; exact hb _ (List.getElem_mem _)
    · rw [List.getD_eq_getElem?_getD, List.getElem?_eq_none (by omega)]; simp [noShr]
  have h2 : (m.take r).countP (fun f => eqS (l.getD i noShr) f) ≤ 1000 := Nat.le_trans List.countP_le_length (by rw [List.length_take]; omega)
  omega

set_option maxRecDepth 100000 in
set_option maxHeartbeats 8000000 in
theorem pence_any (sv : Value) (l : List Shr) (n : Nat) (w : World) (hn : n ≤ l.length) (hl : l.length ≤ 1000) (hd : (l.map (·.name)).Nodup) (hp : ∀ s ∈ l, 0 ≤ s.pence ∧ s.pence ≤ 10000000000000) (hv : SharesAt w sv l) :
    Cal 71 #[.agg #[sv, .int .i64 n, fnV 92]] w fun e w' => ∃ v, e = .returned v ∧ Ext w w' ∧ Row w' 3 1 v l.length (intsF l.length (getsTo l (sortR l) n)) := by
  have HIT := hid (more_iter sv l n hn hl hd)
  have HV := hid (fun (u : World) (hu : Ext w u) => hv.mono hu)
  have HUB := hid (fun (r i : Nat) => getsTo_bound (m := sortR l) hp (by rw [(sortR_perm l).length_eq]; exact hl) r i)
  have hsl : (sortR l).length = l.length := (sortR_perm l).length_eq
  have HSL := hid hsl
  have HLM : Hid ((((sortR l).take n).map fun s => #[shrV s]).length = n) := hid (by rw [List.length_map, List.length_take]; omega)
  have HUS := hid (fun (r : Nat) (h : r < (sortR l).length) => getsTo_succ l (sortR l) h)
  obtain ⟨a, cap, rfl, ⟨hcap, hlen⟩, _⟩ := hv
  clear hd hp hsl
  refine callsIn_of_wp_marks Tryz.func71 rfl trivial ?_
  simp only [Tryz.ntmps71, List.size_toArray, List.length_cons, List.length_nil, Nat.reduceAdd, Nat.reduceSub, Array.replicate_succ, Array.replicate_zero, List.push_toArray, List.append_toArray, List.nil_append, List.cons_append]
  have hW : Ext w ((w.alloc (.cells #[.slice a l.length cap, .int .i64 n, fnV 92] 108)).alloc (.cells #[.slice none 0 0] 23)) := ((Ext.refl _).alloc _).alloc _
  have hW0 := two_new (w := w) (o1 := .cells #[.slice a l.length cap, .int .i64 n, fnV 92] 108) (o2 := .cells #[.slice none 0 0] 23)
  have hW1 : ((w.alloc (.cells #[.slice a l.length cap, .int .i64 n, fnV 92] 108)).alloc (.cells #[.slice none 0 0] 23)).heap[w.heap.size + 1]? = some (.cells #[.slice none 0 0] 23 (0, 0)) := by
    have := Ext.new (w := w.alloc (.cells #[.slice a l.length cap, .int .i64 n, fnV 92] 108)) (o := .cells #[.slice none 0 0] 23) (Ext.refl _); rwa [World.size_alloc] at this
  gi_upto_region 2 with fail
  generalize (w.alloc (.cells #[.slice a l.length cap, .int .i64 n, fnV 92] 108)).alloc (.cells #[.slice none 0 0] 23) = W1 at *
  have c0 := cell_of hW0
  have HJ : Hid (Ext w W1 ∧ W1.heap[w.heap.size]? = some (.cells #[.slice a l.length cap, .int .i64 n, fnV 92] 108 (0, 0)) ∧ ∃ v, W1.heap[w.heap.size + 1]? = some (.cells #[v] 23 (0, 0)) ∧ Row W1 3 1 v 0 (intsF 0 fun i => (l.getD i noShr).pence) ∧ ∀ g, v.ownBlock = some g → w.heap.size + 1 < g) := hid ⟨hW, hW0, _, hW1, Row.nil _ _ _, fun g hg => by simp [Value.ownBlock] at hg⟩
  clear hW hW0 hW1
  gi_wp2_with fail
  clear c0
  gi_loopw [5, 12] (fun u5 i wr => ∃ k : Nat, k ≤ l.length ∧ i = .int .i64 k ∧ Hid (Ext w wr ∧ wr.heap[w.heap.size]? = some (.cells #[.slice a l.length cap, .int .i64 n, fnV 92] 108 (0, 0)) ∧ ∃ v, wr.heap[w.heap.size + 1]? = some (.cells #[v] 23 (0, 0)) ∧ Row wr 3 1 v k (intsF k fun i => (l.getD i noShr).pence) ∧ ∀ g, v.ownBlock = some g → w.heap.size + 1 < g)) (fun _ i _ => l.length - (intOf i).toNat)
  case atStart => exact ⟨0, Nat.zero_le _, rfl, HJ⟩
  case round =>
    obtain ⟨k, hk, rfl, HI⟩ := hrel
    clear HJ
    obtain ⟨hx, hb0, v, hb1, hrow, hown⟩ := HI.out
    clear HI
    by_cases hlt : k < l.length
    · have hki : (k : Int) < (l.length : Int) := by omega
      obtain ⟨a', cap', e, _, hcs⟩ := HV.out wr hx
      cases e
      obtain ⟨b, off, rfl, hbb, c0, c1, c2, c3⟩ := hcs k hlt
      have HGD := hid (show l.getD k noShr = l[k] from getD_of hlt)
      clear hcs
      generalize l[k] = s at *
      have hx1 : Ext wr (wr.alloc (.cells #[.string s.name, .int .i64 s.weight, .int .i64 s.pence, .int .i64 s.rest] 146)) := (Ext.refl _).alloc _
      have hnb : (wr.alloc (.cells #[.string s.name, .int .i64 s.weight, .int .i64 s.pence, .int .i64 s.rest] 146)).heap[wr.heap.size]? = some (.cells #[.string s.name, .int .i64 s.weight, .int .i64 s.pence, .int .i64 s.rest] 146 (0, 0)) := Ext.new (Ext.refl _)
      gi_upto_region 5 with fail
      clear c0 c1 c2 c3
      have HX := hid (hx.trans hx1)
      have HB0 := hid (hx1.block hb0)
      have HB1 := hid (hx1.block hb1)
      have HROW := hid (hrow.mono hx1)
      have HOWN := hid hown
      clear hx hb0 hb1 hrow hown hx1
      generalize wr.alloc (.cells #[.string s.name, .int .i64 s.weight, .int .i64 s.pence, .int .i64 s.rest] 146) = W2 at *
      have cn := cell_of hnb
      have cB := cell_of HB1.out
      have hlb := lt_of_block HB1.out
      have HRW := hid (HROW.out.mono ((Ext.refl W2).alloc (.cells #[.int .i64 s.pence] 3)))
      have HB2 := hid (((Ext.refl W2).alloc (.cells #[.int .i64 s.pence] 3)).block HB1.out)
      have HB02 := hid (((Ext.refl W2).alloc (.cells #[.int .i64 s.pence] 3)).block HB0.out)
      have HNW : Hid (∀ j u, ([.int .i64 s.pence] : List Value)[j]? = some u → (W2.alloc (.cells #[.int .i64 s.pence] 3)).cell? ((⟨W2.heap.size, 0, none⟩ : Addr).add j) = some u) := fun j u hj => by rw [Addr.add_mid, Nat.zero_add, new_cell _ _ rfl]; simpa using hj
      obtain ⟨i0, hi0, hz0, hz1, hz2⟩ := info_parts info3
      have HZ := hid (And.intro hi0 (And.intro hz0 (And.intro hz1 hz2)))
      have hmax : k + 1 ≤ 1000000000 := by omega
      clear hi0 hz0 hz1 hz2 hnb
      gi_wp2_with (refine wpIn_append_row (fun _ => trivial) rfl (.tmp 16) (.tmp 19) rfl Tryz.underlying23 HZ.out.1 HZ.out.2.1 HZ.out.2.2.1 HZ.out.2.2.2 (by simp [Value.cells]) (by omega) (v := v) rfl HRW.out ⟨W2.heap.size, 0, none⟩ 1 rfl [.int .i64 s.pence] rfl HNW.out (fun u hu => by simp at hu; subst hu; rfl) hmax (by omega) ?_; intro v' w' hrow' hgr' how'; obtain ⟨sa', sn', sc', rfl⟩ := hrow'.isSlice; have hbv' := grownBy_block hgr' HB2.out (fun e => by have := HOWN.out _ e.symm; omega); have hcv' := cell_of hbv'; have hfv' := free_of hbv')
      have hb0' := grownBy_block hgr' HB02.out (fun e => by have := HOWN.out _ e.symm; omega)
      have hsz := HX.out.size
      have hbel : Ext w w' := Below.trans (HX.out.alloc _) ⟨hgr'.os, hgr'.tape, hgr'.output, hgr'.size, fun j hj => hgr'.block j (by simp; omega) (fun e => by have := HOWN.out j e.symm; omega)⟩
      have hown' : ∀ g, (Value.slice sa' sn' sc').ownBlock = some g → w.heap.size + 1 < g := fun g hg => by
        rcases how' with e | e
        · exact HOWN.out g (by rw [← e]; exact hg)
        · rw [hg] at e; cases e; simp; omega
      go_roundw
      case rel =>
        refine ⟨k + 1, by omega, by go_num, hid ⟨hbel.set (by omega) _ _, by rw [set_other (by omega)]; exact hb0', _, set_same hbv' 0 _, ?_, hown'⟩⟩
        rw [intsF_succ, HGD.out]
        exact hrow'.set (fun e => by have := hown' _ e; omega) _ _
      case measure => simp [intOf]; omega
    · obtain rfl : k = l.length := by omega
      have HX := hid hx
      have HB0 := hid hb0
      have HB1 := hid hb1
      have HROW := hid hrow
      have HOWN := hid hown
      have c0 := cell_of hb0
      clear hx hb0 hb1 hrow hown
      gi_wp2_with fail
      clear c0
      obtain ⟨wo, rfl⟩ : ∃ wo, wo = wr := ⟨wr, rfl⟩
      have hbel : Below w.heap.size w wo := HX.out
      have HRW0 : Hid (Row wo 3 1 v l.length (intsF l.length (getsTo l (sortR l) 0))) := hid (by
        rw [intsF_congr (g := fun i => (l.getD i noShr).pence) fun i hi => by simp [getsTo]]
        exact HROW.out)
      refine range_boxedC rfl (enters_of Tryz.func93 (by kernel_rfl) rfl) HIT.out
        (fun r W' => Below w.heap.size w W' ∧ W'.heap[w.heap.size]? = some (.cells #[.slice a l.length cap, .int .i64 n, fnV 92] 108 (0, 0)) ∧ Hid (∃ v, W'.heap[w.heap.size + 1]? = some (.cells #[v] 23 (0, 0)) ∧ Row W' 3 1 v l.length (intsF l.length (getsTo l (sortR l) r)) ∧ ∀ g, v.ownBlock = some g → w.heap.size + 1 < g))
        (fun _ _ _ => False)
        (fun r W' W'' h hp => ⟨hp.past.below h.1 hbel.size (Nat.le_refl _), hp.cells h.2.1, by obtain ⟨v, h1, h2, h3⟩ := h.2.2.out; exact ⟨v, hp.cells h1, h2.pastC hp, h3⟩⟩)
        (fun _ _ _ _ h _ => h) (fun r W' h => HV.out W' h.1) (fun r h => by simp) ⟨hbel, HB0.out, hid ⟨v, HB1.out, HRW0.out, HOWN.out⟩⟩
        (fun r Bx => { tmps := #[.agg #[.slice a l.length cap, .int .i64 n, fnV 92], .pointer (some ⟨w.heap.size, 0, none⟩), .slice none 0 0, .pointer (some ⟨w.heap.size + 1, 0, none⟩), undef, u5, .pointer (some ⟨Bx, 0, none⟩), undef, undef, .pointer (some ⟨w.heap.size, 0, none⟩), .slice a l.length cap, .int .i64 l.length, .int .i64 l.length, .bool false, u14, u15, u16, u17, u18, u19, u20, u21, .agg #[.slice a l.length cap, .int .i64 n, fnV 92], .func (.func 93) #[.agg #[.slice a l.length cap, .int .i64 n, fnV 92]] #[], .agg (shrA ((sortR l).getD r noShr)), undef, undef, undef, undef, undef, undef, undef, undef, undef, undef, undef, undef, undef, undef, undef, undef, undef, undef, undef], defers := [] })
        (fun r => shrA ((sortR l).getD r noShr)) 146 ?assign ?body ?done ?stop
      case assign =>
        intro l0 r h W3 K' hK
        have hr : r < (sortR l).length := by rw [HLM.out] at h; have := HSL.out; omega
        have he : (((sortR l).take n).map fun s => #[shrV s])[r] = #[.agg (shrA ((sortR l).getD r noShr))] := by
          rw [List.getElem_map, List.getElem_take, getD_of hr]; rfl
        rw [he]
        generalize (sortR l).getD r noShr = f at *
        gi_wp2_with (refine wpIn_store_fresh (fun _ => trivial) 146 (.tmp 6) (.tmp 24) rfl (W := W3) (c' := shrA f) rfl rfl rfl size146 rfl (by simp [shrA, Value.oneCell']) ?_)
        exact hK
      case stop =>
        rintro D r c W3 hD hi hf hK
        exact hf.elim
      case body =>
        rintro l0 r Bx W3 hi hl0 hrr ⟨hbelW, hb0, HI⟩ hBx hbx
        have hr : r < (sortR l).length := by rw [HLM.out] at hi; have := HSL.out; omega
        have HUS := hid (fun i => HUS.out r hr i)
        have hgd : (sortR l).getD r noShr = (sortR l)[r] := getD_of hr
        rw [← hgd] at HUS
        clear hgd hrr
        generalize (sortR l).getD r noShr = f at *
        obtain ⟨v, hb1, hrow, hown⟩ := HI.out
        clear HI HB0 HB1 HROW HOWN HRW0 HX
        have c0 := cell_of hb0
        have HJ : Hid (KeepsFrom wo.heap.size W3 W3 ∧ KeepP (fun t => t = 146) W3 W3 ∧ Ext w W3 ∧ W3.heap[w.heap.size]? = some (.cells #[.slice a l.length cap, .int .i64 n, fnV 92] 108 (0, 0)) ∧ W3.heap[Bx]? = some (.cells (shrA f) 146 (0, 0)) ∧ ∃ v, W3.heap[w.heap.size + 1]? = some (.cells #[v] 23 (0, 0)) ∧ Row W3 3 1 v l.length (intsF l.length fun i => if i < 0 ∧ eqS (l.getD i noShr) f = true then getsTo l (sortR l) r i + 1 else getsTo l (sortR l) r i) ∧ ∀ g, v.ownBlock = some g → w.heap.size + 1 < g) :=
          hid ⟨KeepsFrom.refl _ _, KeepP.refl _, hbelW, hb0, hbx, v, hb1, by
            rw [intsF_congr (g := getsTo l (sortR l) r) fun i hi => if_neg (by omega)]; exact hrow, hown⟩
        unfold shrA at hbx
        clear hb0 hb1 hrow hown hbx
        gi_wp2_with fail
        clear c0
        gi_loopw [7, 8, 28] (fun u7 u8 i wr => ∃ j : Nat, j ≤ l.length ∧ i = .int .i64 j ∧ Hid (KeepsFrom wo.heap.size W3 wr ∧ KeepP (fun t => t = 146) W3 wr ∧ Ext w wr ∧ wr.heap[w.heap.size]? = some (.cells #[.slice a l.length cap, .int .i64 n, fnV 92] 108 (0, 0)) ∧ wr.heap[Bx]? = some (.cells (shrA f) 146 (0, 0)) ∧ ∃ v, wr.heap[w.heap.size + 1]? = some (.cells #[v] 23 (0, 0)) ∧ Row wr 3 1 v l.length (intsF l.length fun i => if i < j ∧ eqS (l.getD i noShr) f = true then getsTo l (sortR l) r i + 1 else getsTo l (sortR l) r i) ∧ ∀ g, v.ownBlock = some g → w.heap.size + 1 < g)) (fun _ _ i _ => l.length - (intOf i).toNat)
        case atStart => exact ⟨0, Nat.zero_le _, rfl, HJ⟩
        case round =>
          obtain ⟨j, hj, rfl, HI⟩ := hrel
          clear HJ
          obtain ⟨hkf, hkp, hx, hb0, hbx, v, hb1, hrow, hown⟩ := HI.out
          clear HI
          by_cases hlt : j < l.length
          · have hki : (j : Int) < (l.length : Int) := by omega
            obtain ⟨a', cap', e, _, hcs⟩ := HV.out wr hx
            cases e
            obtain ⟨b, off, rfl, hbb, d0, d1, d2, d3⟩ := hcs j hlt
            have HGD := hid (show l.getD j noShr = l[j] from getD_of hlt)
            clear hcs
            generalize l[j] = s at *
            have hx1 : Ext wr (wr.alloc (.cells #[.string s.name, .int .i64 s.weight, .int .i64 s.pence, .int .i64 s.rest] 146)) := (Ext.refl _).alloc _
            have hnb : (wr.alloc (.cells #[.string s.name, .int .i64 s.weight, .int .i64 s.pence, .int .i64 s.rest] 146)).heap[wr.heap.size]? = some (.cells #[.string s.name, .int .i64 s.weight, .int .i64 s.pence, .int .i64 s.rest] 146 (0, 0)) := Ext.new (Ext.refl _)
            gi_upto_region 12 with fail
            clear d0 d1 d2 d3
            have HKF := hid (hkf.trans (keepsFrom_extS hx1))
            have HKP := hid (hkp.trans (KeepP.of_ext hx1))
            have HX := hid (hx.trans hx1)
            have HB0 := hid (hx1.block hb0)
            have HBX := hid (hx1.block hbx)
            have HB1 := hid (hx1.block hb1)
            have HROW := hid (hrow.mono hx1)
            have HOWN := hid hown
            clear hkf hkp hx hb0 hbx hb1 hrow hown hx1
            generalize wr.alloc (.cells #[.string s.name, .int .i64 s.weight, .int .i64 s.pence, .int .i64 s.rest] 146) = W4 at *
            have cs := cell_of hnb
            have cf := cell_of HBX.out
            have hq := fun u => eqlShr s f u
            unfold shrA at hq cf
            have HQ : Hid (eqS (l.getD j noShr) f = eqS s f) := hid (by rw [HGD.out])
            generalize eqS s f = q at hq HQ
            clear hnb HUS
            cases q with
            | false =>
              gi_wp2_with fail
              go_roundw
              case rel =>
                refine ⟨j + 1, by omega, by go_num, hid ⟨HKF.out, HKP.out, HX.out, HB0.out, HBX.out, v, HB1.out, ?_, HOWN.out⟩⟩
                rw [intsF_congr (g := fun i => if i < j ∧ eqS (l.getD i noShr) f = true then getsTo l (sortR l) r i + 1 else getsTo l (sortR l) r i) fun i hi => ?_]
                · exact HROW.out
                · by_cases hij : i = j
                  · subst hij; rw [HQ.out]; simp
                  · have : (i < j + 1) ↔ (i < j) := by omega
                    simp only [this]
              case measure => simp [intOf]; omega
            | true =>
              obtain ⟨g, cg, cur, rfl, hcg, hgb, hcell, hfr⟩ := HROW.out.cells1 hlt
              have hG : (intsF l.length fun i => if i < j ∧ eqS (l.getD i noShr) f = true then getsTo l (sortR l) r i + 1 else getsTo l (sortR l) r i)[j]? = some (.int .i64 (getsTo l (sortR l) r j)) := by
                unfold intsF
                rw [List.getElem?_map, List.getElem?_range hlt]
                simp
              rw [hG] at hcell
              have hub := HUB.out r j
              have HGG := hid (show getsTo l (sortR l) r j = getsTo l (sortR l) r j from rfl)
              obtain ⟨G, hGG⟩ : ∃ G, G = getsTo l (sortR l) r j := ⟨_, rfl⟩
              rw [← hGG] at hcell hub
              have HGE := hid hGG
              have hw : wrap64 (G + 1) = G + 1 := by unfold wrap64; omega
              have hgo := HOWN.out g rfl
              have HGB := hid hgb
              have cB := cell_of HB1.out
              have hne : g ≠ Bx := fun e => by have h := HBX.out; rw [← e, hgb] at h; cases h
              clear hG hGG HGG hgb
              have hjc : j < cg := by omega
              gi_wp2_with fail
              go_roundw
              case rel =>
                refine ⟨j + 1, by omega, by go_num, hid ⟨HKF.out.trans ((KeepsOthers.setCell _ _ _).from _), HKP.out.trans (KeepP.set HGB.out (by decide) _ _), HX.out.set (by omega) _ _, by rw [set_other (by omega)]; exact HB0.out, by rw [set_other (Ne.symm hne)]; exact HBX.out, _, by rw [set_other (by omega)]; exact HB1.out, ?_, HOWN.out⟩⟩
                rw [intsF_congr (g := fun i => if i = j then G + 1 else if i < j ∧ eqS (l.getD i noShr) f = true then getsTo l (sortR l) r i + 1 else getsTo l (sortR l) r i) fun i hi => ?_]
                · rw [← intsF_set _ _ hlt]
                  exact HROW.out.put1 j _
                · by_cases hij : i = j
                  · subst hij; rw [HQ.out, HGE.out]; simp
                  · have : (i < j + 1) ↔ (i < j) := by omega
                    simp only [this, hij, if_false]
              case measure => simp [intOf]; omega
          · obtain rfl : j = l.length := by omega
            have hend : intsF l.length (fun i => if i < l.length ∧ eqS (l.getD i noShr) f = true then getsTo l (sortR l) r i + 1 else getsTo l (sortR l) r i) = intsF l.length (getsTo l (sortR l) (r + 1)) := intsF_congr fun i hi => by
              rw [HUS.out i]
              simp only [hi, true_and]
            rw [hend] at hrow
            have HALL := hid (And.intro hkf (And.intro hkp (And.intro hx (And.intro hb0 (And.intro hb1 (And.intro hrow hown))))))
            clear hkf hkp hx hb0 hbx hb1 hrow hown hend
            gi_wp2_with fail
            exact ⟨⟨HALL.out.1, HALL.out.2.2.1, HALL.out.2.2.2.1, hid ⟨v, HALL.out.2.2.2.2⟩⟩, HALL.out.2.1⟩
      case done =>
        rintro D W3 hD ⟨hbelW, hb0, hb2⟩ hK
        obtain ⟨v, e1, e2, e3⟩ := hb2.out
        have hcy := cell_of e1
        have HRW := hid (And.intro e1 (And.intro e2 e3))
        have HBW := hid (show Ext w W3 from hbelW)
        have hlo := lt_of_block HB1.out
        clear e1 e2 e3 hb2 hbelW hb0
        rw [HLM.out] at HRW
        gi_wp2_with fail
        refine leave_mark hK (v := v) (by simp [results, Tryz.results71, go_sem]) ⟨v, rfl, ?_, ?_⟩
        · exact (put_past (B := w.heap.size) _ _ (by omega)).below HBW.out (Nat.le_refl _) (Nat.le_refl _)
        · exact HRW.out.2.1.kept fun k o hk ho => by
            rw [World.putObj_heap_other (by rintro rfl; have h := HRW.out.2.1.isCells hk ho; rw [hK] at ho; cases ho; cases h)]; exact ho
end
section
namespace Sv
/-- A strict order of the members of a list. -/
structure Orders (l : List Nat) (b : Nat → Nat → Bool) : Prop where
  irr : ∀ i, i ∈ l → b i i = false
  tr : ∀ i j k, i ∈ l → j ∈ l → k ∈ l → b i j = true → b j k = true → b i k = true
  tot : ∀ i j, i ∈ l → j ∈ l → i ≠ j → b i j = true ∨ b j i = true
/-- How many are before one. -/
def rank (l : List Nat) (b : Nat → Nat → Bool) (i : Nat) : Nat := l.countP (fun j => b j i)
theorem Orders.asym {l : List Nat} {b : Nat → Nat → Bool} (h : Orders l b) {i j : Nat} (hi : i ∈ l) (hj : j ∈ l) (hb : b i j = true) : b j i = false := by
  cases hc : b j i with
  | false => rfl
  | true =>
    have := h.tr i j i hi hj hi hb hc
    rw [h.irr i hi] at this; cases this
theorem Orders.mono {l m : List Nat} {b : Nat → Nat → Bool} (h : Orders l b) (hs : ∀ i ∈ m, i ∈ l) : Orders m b :=
  ⟨fun i hi => h.irr i (hs i hi), fun i j k hi hj hk => h.tr i j k (hs i hi) (hs j hj) (hs k hk), fun i j hi hj => h.tot i j (hs i hi) (hs j hj)⟩
theorem sort_ins {b : Nat → Nat → Bool} (a : Nat) : ∀ σ : List Nat, Orders (a :: σ) b → a ∉ σ → σ.Pairwise (fun i j => b i j = true) → ∃ τ : List Nat, τ.Perm (a :: σ) ∧ τ.Pairwise (fun i j => b i j = true)
  | [], _, _, _ => ⟨[a], .refl _, by simp⟩
  | c :: t, h, hn, hp => by
    rw [List.pairwise_cons] at hp
    have hac : a ≠ c := fun e => hn (by rw [e]; exact .head _)
    cases h.tot a c (.head _) (.tail _ (.head _)) hac with
    | inl hb =>
      refine ⟨a :: c :: t, .refl _, ?_⟩
      rw [List.pairwise_cons, List.pairwise_cons]
      refine ⟨fun x hx => ?_, hp⟩
      cases hx with
      | head => exact hb
      | tail _ hx => exact h.tr a c x (.head _) (.tail _ (.head _)) (.tail _ (.tail _ hx)) hb (hp.1 x hx)
    | inr hb =>
      obtain ⟨τ, h1, h2⟩ := sort_ins a t (h.mono (by intro i hi; cases hi with | head => exact .head _ | tail _ hi => exact .tail _ (.tail _ hi))) (fun hx => hn (.tail _ hx)) hp.2
      refine ⟨c :: τ, ((h1.cons c).trans (List.Perm.swap a c t)), ?_⟩
      rw [List.pairwise_cons]
      refine ⟨fun x hx => ?_, h2⟩
      have := (h1.mem_iff).mp hx
      cases this with
      | head => exact hb
      | tail _ hx => exact hp.1 x hx
theorem sort_all {b : Nat → Nat → Bool} : ∀ l : List Nat, Orders l b → l.Nodup → ∃ σ : List Nat, σ.Perm l ∧ σ.Pairwise (fun i j => b i j = true)
  | [], _, _ => ⟨[], .refl _, .nil⟩
  | a :: l, h, hn => by
    rw [List.nodup_cons] at hn
    obtain ⟨σ, h1, h2⟩ := sort_all l (h.mono fun i hi => .tail _ hi) hn.2
    obtain ⟨τ, h3, h4⟩ := sort_ins a σ (h.mono (by intro i hi; cases hi with | head => exact .head _ | tail _ hi => exact .tail _ (h1.mem_iff.mp hi))) (fun hx => hn.1 (h1.mem_iff.mp hx)) h2
    exact ⟨τ, h3.trans (h1.cons a), h4⟩
theorem rank_perm {l m : List Nat} {b : Nat → Nat → Bool} (h : l.Perm m) (i : Nat) : rank l b i = rank m b i := h.countP_eq _
theorem rank_head {b : Nat → Nat → Bool} {a : Nat} {t : List Nat} (h : Orders (a :: t) b) (hp : (a :: t).Pairwise (fun i j => b i j = true)) : rank (a :: t) b a = 0 := by
  rw [List.pairwise_cons] at hp
  show List.countP _ _ = 0
  rw [List.countP_eq_zero]
  intro x hx hb
  cases hx with
  | head => rw [h.irr a (.head _)] at hb; cases hb
  | tail _ hx =>
    rw [h.asym (.head _) (.tail _ hx) (hp.1 x hx)] at hb; cases hb
theorem rank_tail {b : Nat → Nat → Bool} {a i : Nat} {t : List Nat} (hp : (a :: t).Pairwise (fun i j => b i j = true)) (hi : i ∈ t) : rank (a :: t) b i = rank t b i + 1 := by
  rw [List.pairwise_cons] at hp
  show List.countP _ _ = _
  rw [List.countP_cons_of_pos (p := fun j => b j i) (hp.1 i hi)]; rfl
/-- Who is among the first k of a sorted list. -/
theorem mem_take {b : Nat → Nat → Bool} : ∀ (σ : List Nat) (k i : Nat), Orders σ b → σ.Pairwise (fun i j => b i j = true) → (i ∈ σ.take k ↔ i ∈ σ ∧ rank σ b i < k)
  | [], k, i, _, _ => by simp
  | a :: t, 0, i, _, _ => by simp
  | a :: t, k + 1, i, h, hp => by
    have hp' := hp
    rw [List.pairwise_cons] at hp'
    rw [List.take_succ_cons, List.mem_cons, mem_take t k i (h.mono fun i hi => .tail _ hi) hp'.2, List.mem_cons]
    constructor
    · rintro (rfl | ⟨hm, hr⟩)
      · exact ⟨.inl rfl, by rw [rank_head h hp]; omega⟩
      · exact ⟨.inr hm, by rw [rank_tail hp hm]; omega⟩
    · rintro ⟨rfl | hm, hr⟩
      · exact .inl rfl
      · rw [rank_tail hp hm] at hr; exact .inr ⟨hm, by omega⟩
theorem countP_sorted {b : Nat → Nat → Bool} : ∀ (σ : List Nat) (k : Nat), Orders σ b → σ.Pairwise (fun i j => b i j = true) → σ.countP (fun i => decide (rank σ b i < k)) = min k σ.length
  | [], k, _, _ => by simp
  | a :: t, k, h, hp => by
    have hp' := hp
    rw [List.pairwise_cons] at hp'
    have ht : t.countP (fun i => decide (rank (a :: t) b i < k)) = t.countP (fun i => decide (rank t b i < k - 1)) := by
      refine List.countP_congr fun i hi => ?_
      rw [rank_tail hp hi]
      simp only [decide_eq_true_eq]; omega
    rw [List.countP_cons, rank_head h hp, ht, countP_sorted t (k - 1) (h.mono fun i hi => .tail _ hi) hp'.2, List.length_cons]
    by_cases hk : 0 < k <;> simp [hk] <;> omega
theorem countP_rank {l : List Nat} {b : Nat → Nat → Bool} (h : Orders l b) (hn : l.Nodup) (k : Nat) : l.countP (fun i => decide (rank l b i < k)) = min k l.length := by
  obtain ⟨σ, h1, h2⟩ := sort_all l h hn
  have h3 := countP_sorted σ k (h.mono fun i hi => h1.mem_iff.mp hi) h2
  rw [h1.length_eq] at h3
  rw [← h3, h1.symm.countP_eq]
  refine List.countP_congr fun i _ => ?_
  rw [rank_perm h1]
theorem rank_lt {l : List Nat} {b : Nat → Nat → Bool} (h : Orders l b) {i j : Nat} (hi : i ∈ l) (hj : j ∈ l) (hb : b i j = true) : rank l b i < rank l b j := by
  show l.countP _ < l.countP _
  obtain ⟨s, t, rfl⟩ := List.append_of_mem hi
  rw [List.countP_append, List.countP_append, List.countP_cons, List.countP_cons, h.irr i hi, hb]
  have h1 : s.countP (fun k => b k i) ≤ s.countP (fun k => b k j) := List.countP_mono_left fun k hk hb2 => h.tr k i j (List.mem_append_left _ hk) hi hj hb2 hb
  have h2 : t.countP (fun k => b k i) ≤ t.countP (fun k => b k j) := List.countP_mono_left fun k hk hb2 => h.tr k i j (List.mem_append_right _ (.tail _ hk)) hi hj hb2 hb
  simp; omega
theorem rank_inj {l : List Nat} {b : Nat → Nat → Bool} (h : Orders l b) {i j : Nat} (hi : i ∈ l) (hj : j ∈ l) (he : rank l b i = rank l b j) : i = j := by
  by_cases hij : i = j
  · exact hij
  · cases h.tot i j hi hj hij with
    | inl hb => have := rank_lt h hi hj hb; omega
    | inr hb => have := rank_lt h hj hi hb; omega
/-- The first of those that are not among the first k is the next one. -/
theorem rank_next {l : List Nat} {b : Nat → Nat → Bool} (h : Orders l b) (hn : l.Nodup) {i k : Nat} (hi : i ∈ l) (hk : k ≤ rank l b i) (hb : ∀ j ∈ l, k ≤ rank l b j → b j i = false) : rank l b i = k := by
  have h1 : l.countP (fun j => b j i) ≤ l.countP (fun j => decide (rank l b j < k)) := by
    refine List.countP_mono_left fun j hj hji => ?_
    rw [decide_eq_true_eq]
    by_cases hc : rank l b j < k
    · exact hc
    · rw [hb j hj (by omega)] at hji; cases hji
  rw [countP_rank h hn] at h1
  have : rank l b i = l.countP (fun j => b j i) := rfl
  omega
/-- There is one of each rank. -/
theorem rank_some {l : List Nat} {b : Nat → Nat → Bool} (h : Orders l b) (hn : l.Nodup) {k : Nat} (hk : k < l.length) : ∃ i ∈ l, rank l b i = k := by
  have h1 := countP_rank h hn k
  have h2 := countP_rank h hn (k + 1)
  have h3 : ¬ l.countP (fun i => decide (rank l b i < k + 1)) ≤ l.countP (fun i => decide (rank l b i < k)) := by omega
  apply Classical.byContradiction
  intro hc
  apply h3
  refine List.countP_mono_left fun i hi hx => ?_
  rw [decide_eq_true_eq] at hx ⊢
  have : rank l b i ≠ k := fun e => hc ⟨i, hi, e⟩
  omega

/-- What numbers below n are together. -/
def tot (l : List Nat) (w : Nat → Nat) : Nat := (l.map w).sum
theorem tot_cons (a : Nat) (l : List Nat) (w : Nat → Nat) : tot (a :: l) w = w a + tot l w := by simp [tot]
theorem tot_add (l : List Nat) (v w : Nat → Nat) : tot l (fun i => v i + w i) = tot l v + tot l w := by
  induction l with
  | nil => rfl
  | cons a l ih => rw [tot_cons, tot_cons, tot_cons, ih]; omega
theorem tot_mul (l : List Nat) (k : Nat) (w : Nat → Nat) : tot l (fun i => k * w i) = k * tot l w := by
  induction l with
  | nil => rfl
  | cons a l ih => rw [tot_cons, tot_cons, ih, Nat.mul_add]
theorem tot_congr {l : List Nat} {v w : Nat → Nat} (h : ∀ i ∈ l, v i = w i) : tot l v = tot l w := by
  induction l with
  | nil => rfl
  | cons a l ih => rw [tot_cons, tot_cons, h a (.head _), ih fun i hi => h i (.tail _ hi)]
theorem tot_le {l : List Nat} {v w : Nat → Nat} (h : ∀ i ∈ l, v i ≤ w i) : tot l v ≤ tot l w := by
  induction l with
  | nil => exact Nat.le_refl _
  | cons a l ih =>
    have h1 := h a (.head _); have h2 := ih fun i hi => h i (.tail _ hi)
    rw [tot_cons, tot_cons]; omega
theorem tot_one {l : List Nat} {w : Nat → Nat} {i : Nat} (hi : i ∈ l) : w i ≤ tot l w := by
  induction hi with
  | head l => rw [tot_cons]; omega
  | tail a _ ih => rw [tot_cons]; omega
theorem tot_if (l : List Nat) (p : Nat → Bool) : tot l (fun i => if p i then 1 else 0) = l.countP p := by
  induction l with
  | nil => rfl
  | cons a l ih => rw [tot_cons, List.countP_cons, ih]; omega
theorem tot_perm {l m : List Nat} (h : l.Perm m) (w : Nat → Nat) : tot l w = tot m w := (h.map w).sum_nat

/-- What is divided, by weights; whose name is before whose. -/
def quo (s a : Nat) (w : Nat → Nat) (i : Nat) : Nat := s * w i / a
def rst (s a : Nat) (w : Nat → Nat) (i : Nat) : Nat := s * w i % a
def bef (s a : Nat) (w : Nat → Nat) (lt : Nat → Nat → Bool) (i j : Nat) : Bool := decide (rst s a w j < rst s a w i) || (rst s a w i == rst s a w j && lt i j)
def left (l : List Nat) (s : Nat) (w : Nat → Nat) : Nat := s - tot l (quo s (tot l w) w)
/-- What each gets. -/
def gets (l : List Nat) (s : Nat) (w : Nat → Nat) (lt : Nat → Nat → Bool) (i : Nat) : Nat :=
  quo s (tot l w) w i + if rank l (bef s (tot l w) w lt) i < left l s w then 1 else 0
theorem quo_rst (s a : Nat) (w : Nat → Nat) (i : Nat) : a * quo s a w i + rst s a w i = s * w i := Nat.div_add_mod _ _
theorem rst_lt {s a : Nat} (w : Nat → Nat) (i : Nat) (h : 0 < a) : rst s a w i < a := Nat.mod_lt _ h
theorem tot_parts (l : List Nat) (s a : Nat) (w : Nat → Nat) : a * tot l (quo s a w) + tot l (rst s a w) = s * tot l w := by
  rw [← tot_mul, ← tot_mul, ← tot_add]
  exact tot_congr fun i _ => quo_rst s a w i
theorem quo_le {l : List Nat} {s : Nat} {w : Nat → Nat} (h : 0 < tot l w) : tot l (quo s (tot l w) w) ≤ s := by
  have h1 := tot_parts l s (tot l w) w
  have h2 : tot l w * tot l (quo s (tot l w) w) ≤ tot l w * s := by rw [Nat.mul_comm (tot l w) s]; omega
  exact Nat.le_of_mul_le_mul_left h2 h
theorem left_rst {l : List Nat} {s : Nat} {w : Nat → Nat} (h : 0 < tot l w) : tot l w * left l s w = tot l (rst s (tot l w) w) := by
  have h1 := tot_parts l s (tot l w) w
  have h2 := quo_le (s := s) h
  have h3 : tot l w * left l s w = tot l w * s - tot l w * tot l (quo s (tot l w) w) := Nat.mul_sub _ _ _
  rw [h3, Nat.mul_comm (tot l w) s]; omega
theorem tot_const (l : List Nat) (k : Nat) : tot l (fun _ => k) = l.length * k := by
  induction l with
  | nil => simp [tot]
  | cons a l ih => rw [tot_cons, ih, List.length_cons, Nat.succ_mul]; omega
theorem left_lt {l : List Nat} {s : Nat} {w : Nat → Nat} (h : 0 < tot l w) : left l s w < l.length := by
  have h1 := left_rst (s := s) h
  have h2 : tot l (rst s (tot l w) w) ≤ tot l (fun _ => tot l w - 1) := tot_le fun i _ => by have := rst_lt (s := s) w i h; omega
  rw [tot_const] at h2
  cases hl : l.length with
  | zero =>
    have : l = [] := List.eq_nil_of_length_eq_zero hl
    subst this; simp [tot] at h
  | succ n =>
    have h3 : l.length * (tot l w - 1) < tot l w * l.length := by
      rw [Nat.mul_comm (tot l w)]
      exact Nat.mul_lt_mul_of_pos_left (by omega) (by omega)
    have h4 : tot l w * left l s w < tot l w * l.length := by omega
    have := Nat.lt_of_mul_lt_mul_left h4
    omega
theorem bef_orders {l : List Nat} (s a : Nat) (w : Nat → Nat) {lt : Nat → Nat → Bool} (h : Orders l lt) : Orders l (bef s a w lt) := by
  refine ⟨fun i hi => ?_, fun i j k hi hj hk h1 h2 => ?_, fun i j hi hj hn => ?_⟩
  · simp [bef, h.irr i hi]
  · simp only [bef, Bool.or_eq_true, Bool.and_eq_true, decide_eq_true_eq, beq_iff_eq] at h1 h2 ⊢
    rcases h1 with h1 | ⟨h1, h1'⟩ <;> rcases h2 with h2 | ⟨h2, h2'⟩
    · left; omega
    · left; omega
    · left; omega
    · right; exact ⟨by omega, h.tr i j k hi hj hk h1' h2'⟩
  · simp only [bef, Bool.or_eq_true, Bool.and_eq_true, decide_eq_true_eq, beq_iff_eq]
    rcases Nat.lt_trichotomy (rst s a w i) (rst s a w j) with h1 | h1 | h1
    · exact .inr (.inl h1)
    · rcases h.tot i j hi hj hn with h2 | h2
      · exact .inl (.inr ⟨h1, h2⟩)
      · exact .inr (.inr ⟨h1.symm, h2⟩)
    · exact .inl (.inl h1)
/-- Nothing is left over. -/
theorem gets_all {l : List Nat} {s : Nat} {w : Nat → Nat} {lt : Nat → Nat → Bool} (h : Orders l lt) (hn : l.Nodup) (ha : 0 < tot l w) : tot l (gets l s w lt) = s := by
  have h1 : tot l (gets l s w lt) = tot l (quo s (tot l w) w) + tot l (fun i => if decide (rank l (bef s (tot l w) w lt) i < left l s w) then 1 else 0) := by
    rw [← tot_add]
    refine tot_congr fun i _ => ?_
    simp only [gets, decide_eq_true_eq]
  rw [h1, tot_if, countP_rank (bef_orders s _ w h) hn]
  have h2 := left_lt (s := s) ha
  have h3 := quo_le (s := s) ha
  have : left l s w = s - tot l (quo s (tot l w) w) := rfl
  omega
/-- Who gets a penny more has a rest. -/
theorem more_rst {l : List Nat} {s : Nat} {w : Nat → Nat} {lt : Nat → Nat → Bool} (h : Orders l lt) (hn : l.Nodup) (ha : 0 < tot l w) {i : Nat} (hi : i ∈ l) (hm : rank l (bef s (tot l w) w lt) i < left l s w) : 0 < rst s (tot l w) w i := by
  apply Classical.byContradiction
  intro hz
  have hz : rst s (tot l w) w i = 0 := by omega
  have h1 := left_rst (s := s) ha
  -- all with a rest are before
  have h2 : tot l (rst s (tot l w) w) ≤ tot l (fun j => (tot l w) * (if bef s (tot l w) w lt j i then 1 else 0)) := by
    refine tot_le fun j hj => ?_
    cases hb : bef s (tot l w) w lt j i with
    | true => simp; exact Nat.le_of_lt (rst_lt w j ha)
    | false =>
      simp only [bef, Bool.or_eq_false_iff, decide_eq_false_iff_not] at hb
      simp; omega
  rw [tot_mul, tot_if, ← h1] at h2
  have h3 := Nat.le_of_mul_le_mul_left h2 ha
  have h4 : rank l (bef s (tot l w) w lt) i = l.countP (fun j => bef s (tot l w) w lt j i) := rfl
  omega
/-- Each gets less than a penny more or less than its exact share. -/
theorem gets_near {l : List Nat} {s : Nat} {w : Nat → Nat} {lt : Nat → Nat → Bool} (h : Orders l lt) (hn : l.Nodup) (ha : 0 < tot l w) {i : Nat} (hi : i ∈ l) : tot l w * gets l s w lt i < s * w i + tot l w ∧ s * w i < tot l w * gets l s w lt i + tot l w := by
  have h1 := quo_rst s (tot l w) w i
  have h2 := rst_lt (s := s) w i ha
  have h3 := more_rst (s := s) h hn ha hi
  unfold gets
  split
  · have h4 := h3 ‹_›
    rw [Nat.mul_add, Nat.mul_one]; omega
  · rw [Nat.mul_add, Nat.mul_zero]; omega
/-- Who has a greater weight gets no less. -/
theorem gets_mono {l : List Nat} {s : Nat} {w : Nat → Nat} {lt : Nat → Nat → Bool} (h : Orders l lt) (ha : 0 < tot l w) {i k : Nat} (hi : i ∈ l) (hk : k ∈ l) (hw : w k < w i) : gets l s w lt k ≤ gets l s w lt i := by
  have h1 : quo s (tot l w) w k ≤ quo s (tot l w) w i := Nat.div_le_div_right (Nat.mul_le_mul_left _ (Nat.le_of_lt hw))
  have h5 := quo_rst s (tot l w) w k
  have h6 := quo_rst s (tot l w) w i
  by_cases hq : quo s (tot l w) w k = quo s (tot l w) w i
  · have h2 : rst s (tot l w) w k ≤ rst s (tot l w) w i := by
      have h7 : s * w k ≤ s * w i := Nat.mul_le_mul_left _ (Nat.le_of_lt hw)
      rw [hq] at h5; omega
    unfold gets
    rw [hq]
    by_cases hs : s = 0
    · have h8 : left l s w = 0 := by simp [left, hs]
      rw [h8]; simp
    have h9 : rst s (tot l w) w k < rst s (tot l w) w i := by
      have h7 : s * w k < s * w i := Nat.mul_lt_mul_of_pos_left hw (by omega)
      rw [hq] at h5; omega
    have h4 : rank l (bef s (tot l w) w lt) i < rank l (bef s (tot l w) w lt) k := rank_lt (bef_orders s _ w h) hi hk (by simp [bef, h9])
    split <;> split <;> omega
  · unfold gets
    split <;> split <;> omega
theorem tot_lt {l : List Nat} {v w : Nat → Nat} (h : ∀ i ∈ l, v i ≤ w i) {i : Nat} (hi : i ∈ l) (hl : v i < w i) : tot l v < tot l w := by
  obtain ⟨a, b, rfl⟩ := List.append_of_mem hi
  have h1 : tot a v ≤ tot a w := tot_le fun j hj => h j (List.mem_append_left _ hj)
  have h2 : tot b v ≤ tot b w := tot_le fun j hj => h j (List.mem_append_right _ (.tail _ hj))
  simp only [tot, List.map_append, List.map_cons, List.sum_append, List.sum_cons] at h1 h2 ⊢
  omega
theorem quo_step {s a : Nat} {w : Nat → Nat} (i : Nat) (ha : 0 < a) (hw : w i ≤ a) : quo s a w i ≤ quo (s + 1) a w i ∧ quo (s + 1) a w i ≤ quo s a w i + 1 := by
  have h1 : (s + 1) * w i = s * w i + w i := Nat.succ_mul _ _
  constructor
  · exact Nat.div_le_div_right (by omega)
  · have h2 : (s * w i + a) / a = s * w i / a + 1 := Nat.add_div_right _ ha
    show (s + 1) * w i / a ≤ _
    rw [h1]
    refine Nat.le_trans (Nat.div_le_div_right (Nat.add_le_add_left hw _)) ?_
    rw [h2]; exact Nat.le_refl _
/-- A penny more to divide gives nobody more than a penny more, and nobody two less. -/
theorem gets_step {l : List Nat} {s : Nat} {w : Nat → Nat} {lt : Nat → Nat → Bool} (h : Orders l lt) (hn : l.Nodup) (ha : 0 < tot l w) {i : Nat} (hi : i ∈ l) : gets l (s + 1) w lt i ≤ gets l s w lt i + 1 ∧ gets l s w lt i ≤ gets l (s + 1) w lt i + 1 := by
  have hq := fun j (hj : j ∈ l) => quo_step (s := s) (w := w) j ha (tot_one hj)
  have hqi := hq i hi
  constructor
  · by_cases he : quo (s + 1) (tot l w) w i = quo s (tot l w) w i
    · unfold gets; split <;> split <;> omega
    · unfold gets
      split
      · rename_i hm
        split
        · omega
        · rename_i hm2
          exfalso
          -- those that were before and get no whole penny more are before
          have h1 : tot l (quo (s + 1) (tot l w) w) = tot l (quo s (tot l w) w) + tot l (fun j => quo (s + 1) (tot l w) w j - quo s (tot l w) w j) := by
            rw [← tot_add]
            exact tot_congr fun j hj => by have := hq j hj; show _ = _ + (_ - _); omega
          have h2 : tot l (fun j => if bef s (tot l w) w lt j i then quo (s + 1) (tot l w) w j - quo s (tot l w) w j else 0) < tot l (fun j => quo (s + 1) (tot l w) w j - quo s (tot l w) w j) := by
            refine tot_lt (fun j hj => ?_) hi ?_
            · show (if _ then _ else _) ≤ _
              split <;> omega
            · show (if _ then _ else _) < _
              rw [(bef_orders s (tot l w) w h).irr i hi]
              simp; omega
          have h3 : rank l (bef s (tot l w) w lt) i ≤ rank l (bef (s + 1) (tot l w) w lt) i + tot l (fun j => if bef s (tot l w) w lt j i then quo (s + 1) (tot l w) w j - quo s (tot l w) w j else 0) := by
            show l.countP _ ≤ l.countP _ + _
            rw [← tot_if, ← tot_if, ← tot_add]
            refine tot_le fun j hj => ?_
            have hqj := hq j hj
            cases hb : bef s (tot l w) w lt j i with
            | false => simp
            | true =>
              simp only [if_true]
              by_cases hz : quo (s + 1) (tot l w) w j = quo s (tot l w) w j
              · have hb2 : bef (s + 1) (tot l w) w lt j i = true := by
                  have e1 := quo_rst s (tot l w) w j
                  have e2 := quo_rst (s + 1) (tot l w) w j
                  have e3 := quo_rst s (tot l w) w i
                  have e4 := quo_rst (s + 1) (tot l w) w i
                  have e5 : (s + 1) * w j = s * w j + w j := Nat.succ_mul _ _
                  have e6 : (s + 1) * w i = s * w i + w i := Nat.succ_mul _ _
                  have e7 : quo (s + 1) (tot l w) w i = quo s (tot l w) w i + 1 := by omega
                  have e8 := tot_one (w := w) hi
                  rw [e7, Nat.mul_add, Nat.mul_one] at e4
                  rw [hz] at e2
                  simp only [bef, Bool.or_eq_true, Bool.and_eq_true, decide_eq_true_eq, beq_iff_eq] at hb ⊢
                  rcases hb with hb | ⟨hb, hb'⟩
                  · left; omega
                  · by_cases e9 : rst (s + 1) (tot l w) w j = rst (s + 1) (tot l w) w i
                    · exact .inr ⟨e9, hb'⟩
                    · left; omega
                rw [hb2]; simp
              · split <;> omega
          have h4 := quo_le (s := s + 1) ha
          have h5 : left l (s + 1) w = s + 1 - tot l (quo (s + 1) (tot l w) w) := rfl
          have h6 : left l s w = s - tot l (quo s (tot l w) w) := rfl
          have h7 := quo_le (s := s) ha
          omega
      · split <;> omega
  · unfold gets; split <;> split <;> omega
/-- Weights that are so many times as great. -/
theorem gets_times {l : List Nat} {s k : Nat} {w : Nat → Nat} {lt : Nat → Nat → Bool} (hk : 0 < k) (i : Nat) : gets l s (fun i => k * w i) lt i = gets l s w lt i := by
  have h0 : tot l (fun i => k * w i) = k * tot l w := tot_mul l k w
  have h1 : ∀ j, quo s (k * tot l w) (fun i => k * w i) j = quo s (tot l w) w j := fun j => by
    show s * (k * w j) / (k * tot l w) = _
    rw [Nat.mul_left_comm, Nat.mul_div_mul_left _ _ hk]; rfl
  have h2 : ∀ j, rst s (k * tot l w) (fun i => k * w i) j = k * rst s (tot l w) w j := fun j => by
    show s * (k * w j) % (k * tot l w) = _
    rw [Nat.mul_left_comm, Nat.mul_mod_mul_left]; rfl
  have h3 : bef s (k * tot l w) (fun i => k * w i) lt = bef s (tot l w) w lt := by
    funext i j
    have e1 : decide (k * rst s (tot l w) w j < k * rst s (tot l w) w i) = decide (rst s (tot l w) w j < rst s (tot l w) w i) := decide_eq_decide.mpr (Nat.mul_lt_mul_left hk)
    have e2 : (k * rst s (tot l w) w i == k * rst s (tot l w) w j) = (rst s (tot l w) w i == rst s (tot l w) w j) := by
      rw [Bool.eq_iff_iff, beq_iff_eq, beq_iff_eq]
      exact ⟨fun e => Nat.eq_of_mul_eq_mul_left hk e, fun e => by rw [e]⟩
    simp only [bef, h2, e1, e2]
  have h4 : left l s (fun i => k * w i) = left l s w := by
    unfold left
    rw [h0, tot_congr fun j _ => h1 j]
  unfold gets
  rw [h0, h1, h3, h4]
/-- Told in another order. -/
theorem gets_turn {l : List Nat} {s : Nat} {w : Nat → Nat} {lt : Nat → Nat → Bool} {π : Nat → Nat} (h : (l.map π).Perm l) (i : Nat) : gets l s (fun i => w (π i)) (fun i j => lt (π i) (π j)) i = gets l s w lt (π i) := by
  have h0 : ∀ v : Nat → Nat, tot l (fun i => v (π i)) = tot l v := fun v => by
    rw [← tot_perm h v]; simp [tot, Function.comp_def]
  have h1 : ∀ j, quo s (tot l w) (fun i => w (π i)) j = quo s (tot l w) w (π j) := fun _ => rfl
  have h2 : left l s (fun i => w (π i)) = left l s w := by
    unfold left
    rw [h0 w]
    have : tot l (quo s (tot l w) fun i => w (π i)) = tot l (quo s (tot l w) w) := h0 (quo s (tot l w) w)
    rw [this]
  have h3 : rank l (bef s (tot l w) (fun i => w (π i)) fun i j => lt (π i) (π j)) i = rank l (bef s (tot l w) w lt) (π i) := by
    have e := h.countP_eq (fun j => bef s (tot l w) w lt j (π i))
    rw [List.countP_map] at e
    exact e
  unfold gets
  rw [h0 w, h1, h2, h3]
end Sv
end
end Go.Proofs.YtjocoadhalimjaaGreat
