/- Debts: small functions over sets and lists. -/
import Derived.Test.YtjocoadhalimjaaGreatRAQ
import Derived.Test.YtjocoadhalimjaaGreatRAJ
import Derived.Test.YtjocoadhalimjaaGreatRAP
set_option linter.unusedSimpArgs false
set_option linter.unusedVariables false
namespace Go.Proofs.YtjocoadhalimjaaGreat
section
open Go Go.RowKit Go.Shelf Go.MapKept

set_option maxHeartbeats 1000000 in
theorem has_any (s k : Nat) (w : World) (hs : s < 1024) (hk : k ≤ 20) : Cal 103 #[.int .i64 s, .int .i64 k] w fun e w' => e = .returned (.bool (s.testBit k)) ∧ w = w' := by
  have HB := hid (has_bits (k := k) hs)
  have h1 : (0 : Int) ≤ (k : Int) := by omega
  have h2 : (k : Int) ≤ 64 := by omega
  gi_enter Tryz.func103, Tryz.ntmps103
  gi_wp2
  go_ret
  exact ⟨by rw [← HB.out]; rfl, rfl⟩
/-- The numbers of a set. -/
def numsTo (s : Nat) : Nat → List Int
  | 0 => []
  | k + 1 => if s.testBit k then numsTo s k ++ [(k : Int)] else numsTo s k
theorem numsTo_len (s : Nat) : ∀ k, (numsTo s k).length ≤ k
  | 0 => Nat.le_refl _
  | k + 1 => by
    have := numsTo_len s k
    unfold numsTo
    split
    · simp; omega
    · omega
theorem intsV_snoc (xs : List Int) (x : Int) : intsV (xs ++ [x]) = intsV xs ++ [.int .i64 x] := by simp [intsV]
set_option maxHeartbeats 4000000 in
theorem numbers_any (s : Nat) (w : World) (hs : s < 1024) : Cal 88 #[.int .i64 s] w fun e w' => ∃ r, e = .returned r ∧ Ext w w' ∧ Hid (Row w' 3 1 r (numsTo s 10).length (intsV (numsTo s 10)) ∧ ∀ g, r.ownBlock = some g → w.heap.size ≤ g) := by
  have HS := hid hs
  clear hs
  gi_enter Tryz.func88, Tryz.ntmps88
  gi_wp2_with fail
  have HJ : Hid (Ext w w ∧ Row w 3 1 (.slice none 0 0) (numsTo s 0).length (intsV (numsTo s 0)) ∧ ∀ g, (Value.slice none 0 0).ownBlock = some g → w.heap.size ≤ g) := hid ⟨Ext.refl _, Row.nil _ _ _, fun g h => by simp [Value.ownBlock] at h⟩
  gi_loopw [3, 4, 5] (fun r u4 i wr => ∃ k : Nat, k ≤ 10 ∧ i = .int .i64 k ∧ Hid (Ext w wr ∧ Row wr 3 1 r (numsTo s k).length (intsV (numsTo s k)) ∧ ∀ g, r.ownBlock = some g → w.heap.size ≤ g)) (fun _ _ i _ => 10 - (intOf i).toNat)
  case atStart => exact ⟨0, by omega, rfl, HJ⟩
  case round =>
    obtain ⟨k, hk, rfl, HI⟩ := hrel
    clear HJ
    by_cases hlt : k < 10
    · have hki : (k : Int) < 10 := by omega
      have HH := hid (has_any s k wr HS.out (by omega))
      obtain ⟨na, nc, rfl⟩ := HI.out.2.1.isSliceN
      have HST : Hid (numsTo s (k + 1) = if s.testBit k then numsTo s k ++ [(k : Int)] else numsTo s k) := hid rfl
      cases hb : s.testBit k with
      | false =>
        rw [hb] at HH HST
        have HE : Hid (numsTo s (k + 1) = numsTo s k) := hid (by rw [HST.out]; rfl)
        clear hb HST
        gi_wp2_with (gi_at_call 103; ((with_reducible refine (HH.out).mono ?_); rintro e w1 ⟨rfl, rfl⟩))
        go_roundw
        case rel => exact ⟨k + 1, by omega, by go_num, by rw [HE.out]; exact HI⟩
        case measure => simp [intOf]; omega
      | true =>
        rw [hb] at HH HST
        have HE : Hid (numsTo s (k + 1) = numsTo s k ++ [(k : Int)]) := hid (by rw [HST.out]; rfl)
        have hlen := numsTo_len s k
        have HX := hid HI.out.1
        have HRW := hid (HI.out.2.1.mono ((Ext.refl wr).alloc (.cells #[.int .i64 k] 3)))
        have HOWN := hid HI.out.2.2
        have HNW : Hid (∀ j u, ([.int .i64 k] : List Value)[j]? = some u → (wr.alloc (.cells #[.int .i64 k] 3)).cell? ((⟨wr.heap.size, 0, none⟩ : Addr).add j) = some u) := fun j u hj => by rw [Addr.add_mid, Nat.zero_add, new_cell _ _ rfl]; simpa using hj
        obtain ⟨i0, hi0, hz0, hz1, hz2⟩ := info_parts info3
        have HZ := hid (And.intro hi0 (And.intro hz0 (And.intro hz1 hz2)))
        have hmax : (numsTo s k).length + 1 ≤ 1000000000 := by omega
        clear hi0 hz0 hz1 hz2 HI hb HST
        generalize hL : (numsTo s k).length = L at *
        have HL := hid hL
        clear hL
        gi_wp2_with (first | (gi_at_call 103; ((with_reducible refine (HH.out).mono ?_); rintro e w1 ⟨rfl, rfl⟩)) | (refine wpIn_append_row (fun _ => trivial) rfl (.tmp 11) (.tmp 13) rfl Tryz.underlying23 HZ.out.1 HZ.out.2.1 HZ.out.2.2.1 HZ.out.2.2.2 (by simp [Value.cells]) (by omega) (v := .slice na L nc) rfl HRW.out ⟨wr.heap.size, 0, none⟩ 1 rfl [.int .i64 k] rfl HNW.out (fun u hu => by simp at hu; subst hu; rfl) hmax (by omega) ?_; intro v' w' hrow' hgr' how'))
        have hxx : Ext w (wr.alloc (.cells #[.int .i64 k] 3)) := HX.out.alloc _
        have hbel := ext_grown hxx hgr' (fun g hg => HOWN.out g hg)
        have hown' : ∀ g, v'.ownBlock = some g → w.heap.size ≤ g := fun g hg => by
          rcases how' with e | e
          · exact HOWN.out g (by rw [← e]; exact hg)
          · rw [hg] at e; cases e; exact hxx.size
        go_roundw
        case rel => exact ⟨k + 1, by omega, by go_num, hid ⟨hbel, by rw [HE.out, intsV_snoc, List.length_append, HL.out]; exact hrow', hown'⟩⟩
        case measure => simp [intOf]; omega
    · obtain rfl : k = 10 := by omega
      obtain ⟨na, nc, rfl⟩ := HI.out.2.1.isSliceN
      gi_wp2_with fail
      go_ret
      exact ⟨_, rfl, HI.out.1, hid HI.out.2⟩
set_option maxHeartbeats 4000000 in
theorem open_any (v : Value) (xs : List Int) (w : World) (hv : IntsAt w v xs) (hl : xs.length ≤ 10) : Cal 87 #[v] w fun e w' => e = .returned (.int .i64 (openTo xs xs.length)) ∧ w = w' := by
  obtain ⟨a, cap, rfl, ⟨hcap, hlen⟩, hc⟩ := hv
  have HC := hid hc
  clear hc
  gi_enter Tryz.func87, Tryz.ntmps87
  gi_wp2_with fail
  gi_loop [3, 4, 5, 8, 9, 10, 11, 12, 13, 14, 15, 16, 17, 18, 19] (fun s u4 u5 i u9 u10 u11 u12 u13 u14 u15 u16 u17 u18 u19 => ∃ k : Nat, k ≤ xs.length ∧ i = .int .i64 k ∧ s = .int .i64 (openTo xs k)) (fun _ _ _ i _ _ _ _ _ _ _ _ _ _ _ => xs.length - (intOf i).toNat)
  case atStart => exact ⟨0, Nat.zero_le _, rfl, rfl⟩
  case round =>
    obtain ⟨k, hk, rfl, rfl⟩ := hrel
    by_cases hlt : k < xs.length
    · have hki : (k : Int) < (xs.length : Int) := by omega
      obtain ⟨b, off, rfl, hbb, hck⟩ := HC.out k hlt
      have hop := openTo_lt xs k
      have hp10 : (2 : Nat) ^ k ≤ 2 ^ 9 := Nat.pow_le_pow_right (by omega) (by omega)
      have hor := bits_or (a := openTo xs k) (b := 2 ^ k) (by omega) (by omega)
      have hsh : wrap64 ((2 : Int) ^ k) = ((2 ^ k : Nat) : Int) := by
        have hpc : (2 : Int) ^ k = ((2 ^ k : Nat) : Int) := by push_cast; rfl
        rw [hpc]; unfold wrap64; omega
      have HST : Hid (openTo xs (k + 1) = if xs[k] = 0 then openTo xs k else openTo xs k ||| 2 ^ k) := hid (by show (if xs.getD k 0 = 0 then openTo xs k else openTo xs k ||| 2 ^ k) = _; rw [getD_of hlt])
      generalize xs[k] = x at *
      generalize openTo xs k = s at *
      generalize hpp : (2 : Nat) ^ k = pw at *
      clear hpp hop hp10
      cases hx : (x == 0) with
      | true =>
        have HE : Hid (openTo xs (k + 1) = s) := hid (by rw [HST.out, if_pos (by simpa using hx)])
        clear HST
        gi_wp2_with fail
        go_round
        case rel => exact ⟨k + 1, by omega, by go_num, by rw [HE.out]⟩
        case measure => simp [intOf]; omega
      | false =>
        have HE : Hid (openTo xs (k + 1) = s ||| pw) := hid (by rw [HST.out, if_neg (by simpa using hx)])
        have h1 : (0 : Int) ≤ (k : Int) := by omega
        clear HST
        gi_wp2_with fail
        go_round
        case rel => exact ⟨k + 1, by omega, by go_num, by rw [HE.out]⟩
        case measure => simp [intOf]; omega
    · obtain rfl : k = xs.length := by omega
      gi_wp2_with fail
      go_ret
      exact ⟨rfl, rfl⟩
end
section
open Go Go.RowKit Go.Shelf

def wts (l : List Stk) : List Int := l.map (·.weight)
theorem wts_take {l : List Stk} {k : Nat} (h : k < l.length) : wts (l.take (k + 1)) = wts (l.take k) ++ [l[k].weight] := by
  unfold wts; rw [List.take_succ_eq_append_getElem h, List.map_append]; rfl
theorem wts_len (l : List Stk) (k : Nat) (h : k ≤ l.length) : (wts (l.take k)).length = k := by unfold wts; simp; omega
set_option maxRecDepth 100000 in
set_option maxHeartbeats 8000000 in
theorem Claims_ok (V : Voy) (s : VS) (w : World) (h : VoyAt w V s) (hE : voyE V = 0) : Cal 19 #[.agg (voyA V s)] w fun e w' => ∃ r, e = .returned (.tuple #[r, .int .i64 0]) ∧ Ext w w' ∧ Hid (Row w' 3 1 r V.le.length (intsV (wts (clm V.le (lentV V) V.le.length)))) := by
  have HN := hid (fun (u : World) (hu : Ext w u) => newVoyage_ok (h.mono hu) hE)
  have hok := (voyE_ok hE).1
  have hll : V.le.length ≤ 10 := (stakes_ok hok.le).1
  have HLL := hid hll
  have H55 := hid (fun (bv : Nat) (u : World) (hu : Ext w u) (hm : GMapAt .string u bv (entM V.le (lentV V) V.le.length)) => claims_any V.gr V.bo V.ne V.cr (.slice s.ca V.cs.length s.cc) (.slice s.oa V.ow.length s.oc) (.slice s.ha V.ha.length s.hc) (.slice s.xa V.lo.length s.xc) s.la s.lc bv V.le (lentV V) u (h.le.mono hu) hm (by omega))
  have hcl : (clm V.le (lentV V) V.le.length).length = V.le.length := clm_len _ _ _
  have H55 : Hid (∀ (bv : Nat) (u : World), Ext w u → GMapAt .string u bv (entM V.le (lentTo V.le V.lo V.lo.length) V.le.length) → Cal 55 #[.agg (voyB V s (.map (some bv)))] u fun e w' => ∃ r, e = .returned r ∧ Ext u w' ∧ Hid (Row w' 49 2 r V.le.length (stkF (clm V.le (lentV V) V.le.length)))) := H55
  obtain ⟨L, hL⟩ : ∃ L, clm V.le (lentV V) V.le.length = L := ⟨_, rfl⟩
  rw [hL] at H55 hcl
  rw [hL]
  have HCL := hid hcl
  clear hok hL hcl hll
  clear h hE
  unfold voyA voyB at *
  obtain ⟨gr, bo, ne, cr, cs, ol, ll, hl, xs⟩ := V
  obtain ⟨ca, oa, la, ha, xa, cc, oc, lc, hc, xc⟩ := s
  simp only at *
  have hx0 : Ext w (w.alloc (.cells #[.int .i64 gr, .slice ca cs.length cc, .int .i64 bo, .int .i64 ne, .int .i64 cr, .slice oa ol.length oc, .slice la ll.length lc, .slice ha hl.length hc, .slice xa xs.length xc] 32)) := (Ext.refl _).alloc _
  have HNN := hid (HN.out _ hx0)
  clear HN
  gi_enter Tryz.func19, Tryz.ntmps19
  have HLL : Hid (ll.length ≤ 10) := HLL
  have HCL : Hid (L.length = ll.length) := HCL
  have H55 : Hid (∀ (bv : Nat) (u : World), Ext w u → GMapAt .string u bv (entM ll (lentTo ll xs xs.length) ll.length) → Cal 55 #[.agg #[.int .i64 gr, .slice ca cs.length cc, .int .i64 bo, .int .i64 ne, .int .i64 cr, .slice oa ol.length oc, .slice la ll.length lc, .slice ha hl.length hc, .slice xa xs.length xc, .map (some bv)]] u fun e w' => ∃ r, e = .returned r ∧ Ext u w' ∧ Hid (Row w' 49 2 r ll.length (stkF L))) := H55
  gi_wp2_with (first | (gi_at_call 54; ((with_reducible refine (HNN.out).mono ?_); rintro e w1 ⟨bm, rfl, hx1, hbm, HM⟩; have HX1 := hid (hx0.trans hx1); clear hx1 hx0 hbm)) | (gi_at_call 55; ((with_reducible refine ((H55.out bm _ (HX1.out.alloc _) (HM.out.mono ((Ext.refl _).alloc _)))).mono ?_); rintro e w3 ⟨r3, rfl, hx3, HR3⟩; have HX3 := hid ((HX1.out.alloc _).trans hx3); obtain ⟨ra, rc, rfl⟩ := HR3.out.isSliceN; clear hx3)))
  have hsk : StakesAt w3 (.slice ra ll.length rc) L := StakesAt.of_row (by rw [HCL.out]; exact HR3.out) (by rw [HCL.out]; have := HLL.out; omega)
  obtain ⟨a1, c1, e1, ⟨hb1, hb2⟩, hsc⟩ := hsk
  rw [HCL.out] at e1 hb1
  cases e1
  have HSC := hid hsc
  have HJ : Hid (Ext w3 w3 ∧ Row w3 3 1 (.slice none 0 0) 0 (intsV (wts (L.take 0))) ∧ ∀ g, (Value.slice none 0 0).ownBlock = some g → w3.heap.size ≤ g) := hid ⟨Ext.refl _, Row.nil _ _ _, fun g h => by simp [Value.ownBlock] at h⟩
  clear hsc H55 HM HR3
  gi_loopw [6, 8, 20] (fun r u8 i wr => ∃ k : Nat, k ≤ ll.length ∧ i = .int .i64 k ∧ Hid (Ext w3 wr ∧ Row wr 3 1 r k (intsV (wts (L.take k))) ∧ ∀ g, r.ownBlock = some g → w3.heap.size ≤ g)) (fun _ _ i _ => ll.length - (intOf i).toNat)
  case atStart => exact ⟨0, Nat.zero_le _, rfl, HJ⟩
  case round =>
    obtain ⟨k, hk, rfl, HI⟩ := hrel
    clear HJ
    by_cases hlt : k < ll.length
    · have hki : (k : Int) < (ll.length : Int) := by omega
      have hkL : k < L.length := by rw [HCL.out]; exact hlt
      obtain ⟨b, off, rfl, hb, c0, c1⟩ := HSC.out k hkL
      rw [← HI.out.1.cell (p := ⟨b, _, none⟩) hb] at c0 c1
      have HWT := hid (wts_take hkL)
      generalize L[k] = st at *
      have hx1 : Ext wr (wr.alloc (.cells #[.string st.name, .int .i64 st.weight] 49)) := (Ext.refl _).alloc _
      have hnb : (wr.alloc (.cells #[.string st.name, .int .i64 st.weight] 49)).heap[wr.heap.size]? = some (.cells #[.string st.name, .int .i64 st.weight] 49 (0, 0)) := Ext.new (Ext.refl _)
      have HX1 := hid (HI.out.1.trans hx1)
      have HR1 := hid (HI.out.2.1.mono hx1)
      have HOW := hid HI.out.2.2
      gi_upto_region 8 with fail
      clear c0 c1 HI hx1 hb hkL
      generalize wr.alloc (.cells #[.string st.name, .int .i64 st.weight] 49) = W2 at *
      generalize wr.heap.size = nb at *
      have cn := cell_of hnb
      obtain ⟨na, nc, rfl⟩ := HR1.out.isSliceN
      have hx2 : Ext W2 (W2.alloc (.cells #[.int .i64 st.weight] 3)) := (Ext.refl _).alloc _
      have HRW := hid (HR1.out.mono hx2)
      have HX2 := hid (HX1.out.trans hx2)
      have HNW : Hid (∀ j u, ([.int .i64 st.weight] : List Value)[j]? = some u → (W2.alloc (.cells #[.int .i64 st.weight] 3)).cell? ((⟨W2.heap.size, 0, none⟩ : Addr).add j) = some u) := fun j u hj => by rw [Addr.add_mid, Nat.zero_add, new_cell _ _ rfl]; simpa using hj
      obtain ⟨i0, hi0, hz0, hz1, hz2⟩ := info_parts info3
      have HZ := hid (And.intro hi0 (And.intro hz0 (And.intro hz1 hz2)))
      have hmax : k + 1 ≤ 1000000000 := by have := HLL.out; omega
      clear hi0 hz0 hz1 hz2 hx2 hnb
      gi_wp2_with (refine wpIn_append_row (fun _ => trivial) rfl (.tmp 24) (.tmp 27) rfl Tryz.underlying23 HZ.out.1 HZ.out.2.1 HZ.out.2.2.1 HZ.out.2.2.2 (by simp [Value.cells]) (by omega) (v := .slice na k nc) rfl HRW.out ⟨W2.heap.size, 0, none⟩ 1 rfl [.int .i64 st.weight] rfl HNW.out (fun u hu => by simp at hu; subst hu; rfl) hmax (by omega) ?_; intro v' w' hrow' hgr' how')
      have hbel := ext_grown HX2.out hgr' (fun g hg => HOW.out g hg)
      have hown' : ∀ g, v'.ownBlock = some g → w3.heap.size ≤ g := fun g hg => by
        rcases how' with e | e
        · exact HOW.out g (by rw [← e]; exact hg)
        · rw [hg] at e; cases e; exact HX2.out.size
      go_roundw
      case rel => exact ⟨k + 1, by omega, by go_num, hid ⟨hbel, by rw [HWT.out, intsV_snoc]; exact hrow', hown'⟩⟩
      case measure => simp [intOf]; omega
    · obtain rfl : k = ll.length := by omega
      have hend : L.take ll.length = L := by rw [← HCL.out]; exact List.take_length
      have HEND := hid hend
      clear hend
      obtain ⟨na, nc, rfl⟩ := HI.out.2.1.isSliceN
      gi_wp2_with fail
      exact bodyPost_ret (v := .tuple #[.slice na ll.length nc, .int .i64 0]) (by simp [results, Tryz.results19, go_sem]) rfl ⟨_, rfl, HX3.out.trans HI.out.1, hid (by have h1 := HI.out.2.1; rw [HEND.out] at h1; exact h1)⟩
end
section
open Go Go.RowKit Go.Shelf

def entG (m : GMap) (a g t : Nat) : Prop := ((.int .i64 (a : Int), .agg #[.int .i64 (g : Int), .int .i64 (t : Int)]) : Value × Value) ∈ m
section
variable {n : Nat} {b : Nat → Int}
/-- What is known of a set that is together 0. -/
structure Good (n : Nat) (b : Nat → Int) (m : GMap) (a g t : Nat) : Prop where
  lt : a < 2 ^ n
  zero : Sv.tal n b (bitN a) = 0
  best : Sv.Best n b (bitN a) g
  sub : Sv.Sub (bitN t) (bitN a)
  some : ∃ i, i < n ∧ bitN t i = true
  tz : Sv.tal n b (bitN t) = 0
  rest : ∃ g' t', g = g' + 1 ∧ Sv.Best n b (Sv.dif (bitN a) (bitN t)) g' ∧ entG m (anN a t) g' t'
structure SpOk (n : Nat) (b : Nat → Int) (m : GMap) : Prop where
  zero : entG m 0 0 0
  all : ∀ p ∈ m, ∃ a g t : Nat, p = (.int .i64 (a : Int), .agg #[.int .i64 (g : Int), .int .i64 (t : Int)]) ∧ (a = 0 ∧ g = 0 ∧ t = 0 ∨ 0 < a ∧ Good n b m a g t)
theorem Good.mono {m m' : GMap} {a g t : Nat} (h : Good n b m a g t) (hs : ∀ p ∈ m, p ∈ m') : Good n b m' a g t := by
  obtain ⟨g', t', h1, h2, h3⟩ := h.rest
  exact ⟨h.lt, h.zero, h.best, h.sub, h.some, h.tz, g', t', h1, h2, hs _ h3⟩
theorem SpOk.add {m : GMap} {a g t : Nat} (h : SpOk n b m) (ha : 0 < a) (hg : Good n b m a g t) : SpOk n b (m ++ [(.int .i64 (a : Int), .agg #[.int .i64 (g : Int), .int .i64 (t : Int)])]) := by
  refine ⟨List.mem_append_left _ h.zero, fun p hp => ?_⟩
  rcases List.mem_append.1 hp with hp | hp
  · obtain ⟨a', g', t', h1, h2⟩ := h.all p hp
    refine ⟨a', g', t', h1, ?_⟩
    rcases h2 with h2 | ⟨h2, h3⟩
    · exact .inl h2
    · exact .inr ⟨h2, h3.mono fun q hq => List.mem_append_left _ hq⟩
  · simp at hp
    exact ⟨a, g, t, hp, .inr ⟨ha, hg.mono fun q hq => List.mem_append_left _ hq⟩⟩
theorem SpOk.key {m : GMap} (h : SpOk n b m) {a : Nat} {v : Value} (hv : ((.int .i64 (a : Int), v) : Value × Value) ∈ m) : ∃ g t : Nat, v = .agg #[.int .i64 (g : Int), .int .i64 (t : Int)] ∧ (a = 0 ∧ g = 0 ∧ t = 0 ∨ 0 < a ∧ Good n b m a g t) := by
  obtain ⟨a', g, t, h1, h2⟩ := h.all _ hv
  have e1 := congrArg Prod.fst h1
  simp at e1
  have e2 := congrArg Prod.snd h1
  have : a = a' := by omega
  subst this
  exact ⟨g, t, e2, h2⟩
def qualS (n : Nat) (b : Nat → Int) (a i s : Nat) : Prop := Sv.Sub (bitN s) (bitN a) ∧ bitN s i = true ∧ Sv.tal n b (bitN s) = 0
/-- The best of the first sets. -/
def BestI (n : Nat) (b : Nat → Int) (a i : Nat) (m : GMap) (s bg bt : Nat) : Prop :=
  (bg = 0 ∧ bt = 0 ∧ ∀ s', s' < s → ¬ qualS n b a i s') ∨
  (∃ g', bg = g' + 1 ∧ bt < s ∧ qualS n b a i bt ∧ Sv.Best n b (Sv.dif (bitN a) (bitN bt)) g' ∧ (∃ t', entG m (anN a bt) g' t') ∧ ∀ s', s' < s → qualS n b a i s' → ∃ g, Sv.Best n b (Sv.dif (bitN a) (bitN s')) g ∧ g ≤ g')
theorem BestI.mono {a i : Nat} {m m' : GMap} {s bg bt : Nat} (h : BestI n b a i m s bg bt) (hs : ∀ p ∈ m, p ∈ m') : BestI n b a i m' s bg bt := by
  rcases h with h | ⟨g', h1, h2, h3, h4, ⟨t', h5⟩, h6⟩
  · exact .inl h
  · exact .inr ⟨g', h1, h2, h3, h4, ⟨t', hs _ h5⟩, h6⟩
theorem BestI.skip {a i : Nat} {m : GMap} {s bg bt : Nat} (h : BestI n b a i m s bg bt) (hq : ¬ qualS n b a i s) : BestI n b a i m (s + 1) bg bt := by
  rcases h with ⟨h1, h2, h3⟩ | ⟨g', h1, h2, h3, h4, h5, h6⟩
  · refine .inl ⟨h1, h2, fun s' hs => ?_⟩
    rcases Nat.lt_or_ge s' s with h | h
    · exact h3 s' h
    · obtain rfl : s' = s := by omega
      exact hq
  · refine .inr ⟨g', h1, by omega, h3, h4, h5, fun s' hs hq' => ?_⟩
    rcases Nat.lt_or_ge s' s with h | h
    · exact h6 s' h hq'
    · obtain rfl : s' = s := by omega
      exact absurd hq' hq
theorem BestI.take {a i : Nat} {m : GMap} {s bg bt g t : Nat} (h : BestI n b a i m s bg bt) (hq : qualS n b a i s) (hb : Sv.Best n b (Sv.dif (bitN a) (bitN s)) g) (he : entG m (anN a s) g t) (hge : bg ≤ g) : BestI n b a i m (s + 1) (g + 1) s := by
  refine .inr ⟨g, rfl, by omega, hq, hb, ⟨t, he⟩, fun s' hs hq' => ?_⟩
  rcases Nat.lt_or_ge s' s with hlt | hlt
  · rcases h with ⟨h1, h2, h3⟩ | ⟨g', h1, h2, h3, h4, h5, h6⟩
    · exact absurd hq' (h3 s' hlt)
    · obtain ⟨g2, h7, h8⟩ := h6 s' hlt hq'
      exact ⟨g2, h7, by omega⟩
  · obtain rfl : s' = s := by omega
    exact ⟨g, hb, Nat.le_refl _⟩
theorem BestI.leave {a i : Nat} {m : GMap} {s bg bt g : Nat} (h : BestI n b a i m s bg bt) (hb : Sv.Best n b (Sv.dif (bitN a) (bitN s)) g) (hlt : g < bg) : BestI n b a i m (s + 1) bg bt := by
  rcases h with ⟨h1, h2, h3⟩ | ⟨g', h1, h2, h3, h4, h5, h6⟩
  · omega
  · refine .inr ⟨g', h1, by omega, h3, h4, h5, fun s' hs hq' => ?_⟩
    rcases Nat.lt_or_ge s' s with hl | hl
    · exact h6 s' hl hq'
    · obtain rfl : s' = s := by omega
      exact ⟨g, hb, by omega⟩
theorem BestI.done {a i : Nat} {m : GMap} {bg bt : Nat} (h : BestI n b a i m (a + 1) bg bt) (ha : a < 2 ^ n) (h0 : Sv.tal n b (bitN a) = 0) (hi : i < n) (hai : bitN a i = true) : Good n b m a bg bt := by
  rcases h with ⟨h1, h2, h3⟩ | ⟨g', h1, h2, h3, h4, ⟨t', h5⟩, h6⟩
  · exact absurd ⟨Sv.Sub.refl _, hai, h0⟩ (h3 a (by omega))
  · subst h1
    refine ⟨ha, h0, best_all ha h0 hi hai (fun s hs h7 h8 h9 => h6 s (by omega) ⟨h7, h8, h9⟩) h3.1 h3.2.1 h3.2.2 h4, h3.1, ⟨i, hi, h3.2.1⟩, h3.2.2, g', t', rfl, h4, h5⟩
theorem countP_less {p q : Nat → Bool} {i : Nat} : ∀ l : List Nat, (∀ j, p j = true → q j = true) → i ∈ l → q i = true → p i = false → l.countP p + 1 ≤ l.countP q
  | [], _, h, _, _ => by cases h
  | x :: l, hs, h, hq, hp => by
    rw [List.countP_cons, List.countP_cons]
    have hle : l.countP p ≤ l.countP q := List.countP_mono_left fun j _ hj => hs j hj
    rcases List.mem_cons.1 h with rfl | h
    · rw [hq, hp]; simp; omega
    · have := countP_less l hs h hq hp
      by_cases hx : p x = true
      · rw [hx, hs x hx]; simp; omega
      · have h0 : (if p x = true then 1 else 0) = 0 := if_neg hx
        rw [h0]; omega
theorem pack_le {S : Sv.St} {k : Nat} (h : Sv.Pack n b S k) : k ≤ (List.range n).countP S := by
  induction h with
  | none => exact Nat.zero_le _
  | @add S T k h1 h2 h3 h4 ih =>
    obtain ⟨i, hi, hT⟩ := h2
    have := countP_less (p := Sv.dif S T) (q := S) (List.range n) (fun j hj => Sv.sub_dif S T j hj) (List.mem_range.2 hi) (h1 i hT) (by simp [Sv.dif, hT])
    omega
theorem best_le {S : Sv.St} {g : Nat} (h : Sv.Best n b S g) : g ≤ n := by
  have h1 := pack_le h.1
  have h2 := List.countP_le_length (p := S) (l := List.range n)
  simp at h2; omega
theorem SpOk.best {m : GMap} (h : SpOk n b m) {c g t : Nat} (he : entG m c g t) : Sv.Best n b (bitN c) g := by
  obtain ⟨g', t', hv, h2⟩ := h.key he
  simp at hv
  have : g = g' := by omega
  subst this
  rcases h2 with ⟨h3, h4, _⟩ | ⟨_, h3⟩
  · subst h3; subst h4
    refine Sv.best_zero b ?_
    rintro ⟨i, _, hi⟩
    simp [bitN] at hi
  · exact h3.best
theorem tal_bound {xs : List Int} (hx : ∀ x ∈ xs, -1000000 ≤ x ∧ x ≤ 1000000) (S : Sv.St) : ∀ k : Nat, -(1000000 * (k : Int)) ≤ Sv.tal k (balF xs) S ∧ Sv.tal k (balF xs) S ≤ 1000000 * (k : Int)
  | 0 => by simp [Sv.tal]
  | k + 1 => by
    have ih := tal_bound hx S k
    rw [tal_succ]
    have hb : -1000000 ≤ balF xs k ∧ balF xs k ≤ 1000000 := by
      unfold balF
      rcases Nat.lt_or_ge k xs.length with h | h
      · rw [getD_of h]; exact hx _ (List.getElem_mem h)
      · rw [List.getD_eq_getElem?_getD, List.getElem?_eq_none h]; simp
    push_cast
    split <;> omega
end
/-- Where the closure's boxes lie. -/
structure FindAt (n0 : World) (dv : Value) (d : List Int) (bm B1 B2 B3 : Nat) (w : World) (m : GMap) : Prop where
  ext : Ext n0 w
  b1 : w.heap[B1]? = some (.cells #[.map (some bm)] 132 (0, 0))
  b2 : w.heap[B2]? = some (.cells #[dv] 94 (0, 0))
  b3 : w.heap[B3]? = some (.cells #[.func (.func 102) #[] #[.pointer (some ⟨B1, 0, none⟩), .pointer (some ⟨B2, 0, none⟩), .pointer (some ⟨B3, 0, none⟩)]] 151 (0, 0))
  map : GMapAt (.int .i64) w bm m
  ok : SpOk d.length (balF d) m
theorem FindAt.km {n0 : World} {dv : Value} {d : List Int} {bm B1 B2 B3 : Nat} {w w' : World} {m m' : GMap} (h : FindAt n0 dv d bm B1 B2 B3 w m) (hx : Ext n0 w') (hk : KM bm w w') (hm : GMapAt (.int .i64) w' bm m') (ho : SpOk d.length (balF d) m') : FindAt n0 dv d bm B1 B2 B3 w' m' :=
  ⟨hx, hk.cell h.b1 (h.map.notCells h.b1), hk.cell h.b2 (h.map.notCells h.b2), hk.cell h.b3 (h.map.notCells h.b3), hm, ho⟩
theorem FindAt.mono {n0 : World} {dv : Value} {d : List Int} {bm B1 B2 B3 : Nat} {w w' : World} {m : GMap} (h : FindAt n0 dv d bm B1 B2 B3 w m) (hx : Ext w w') : FindAt n0 dv d bm B1 B2 B3 w' m := h.km (h.ext.trans hx) (KM.of_ext hx) (h.map.mono hx) h.ok
theorem zero137 (w : World) : (zeroValue 137).run Tryz.prog w = .ok (.agg #[.int .i64 0, .int .i64 0]) w := by simp [zeroValue, go_sem, show Tryz.t137.zero = some (.agg #[.int .i64 0, .int .i64 0]) from by kernel_rfl]
theorem size137 : (Tryz.prog.info? 137).map (·.size) = some 2 := by kernel_rfl
set_option maxRecDepth 100000 in
set_option maxHeartbeats 16000000 in
theorem find_any (n0 : World) (dv : Value) (d : List Int) (bm B1 B2 B3 : Nat) (hdv : IntsAt n0 dv d) (hd : d.length ≤ 10) (hx : ∀ x ∈ d, -1000000 ≤ x ∧ x ≤ 1000000) (hbm : n0.heap.size ≤ bm) :
    ∀ (f a : Nat) (m : GMap) (w : World), a < f → a < 2 ^ d.length → Sv.tal d.length (balF d) (bitN a) = 0 → FindAt n0 dv d bm B1 B2 B3 w m →
      Cal 102 #[.int .i64 a, .pointer (some ⟨B1, 0, none⟩), .pointer (some ⟨B2, 0, none⟩), .pointer (some ⟨B3, 0, none⟩)] w fun e w' => ∃ (g t : Nat) (m' : GMap), e = .returned (.agg #[.int .i64 g, .int .i64 t]) ∧ FindAt n0 dv d bm B1 B2 B3 w' m' ∧ entG m' a g t ∧ (∀ p ∈ m, p ∈ m') ∧ (∀ p ∈ m', p ∈ m ∨ ∃ c : Nat, c ≤ a ∧ p.1 = .int .i64 c) ∧ KM bm w w' := by
  intro f
  induction f with
  | zero => intro a m w h; omega
  | succ f ih =>
  intro a m w haf ha h0 hF
  have HIH := hid ih
  have HF := hid hF
  have h1024 : a < 1024 := Nat.lt_of_lt_of_le ha (Nat.pow_le_pow_right (n := 2) (by omega) hd)
  have HA := hid (And.intro haf (And.intro ha (And.intro h0 h1024)))
  have HDV := hid hdv
  have HDX := hid hx
  have HBM := hid hbm
  clear ih haf ha h0 hF hdv hx hbm h1024
  have hx0 : Ext w (w.alloc (.cells #[.int .i64 0, .int .i64 0] 137)) := (Ext.refl _).alloc _
  have hr0 : (w.alloc (.cells #[.int .i64 0, .int .i64 0] 137)).heap[w.heap.size]? = some (.cells #[.int .i64 0, .int .i64 0] 137 (0, 0)) := Ext.new (Ext.refl _)
  gi_enter Tryz.func102, Tryz.ntmps102
  gi_wp2_with fail
  rw [wpIn_wide]
  refine wp_scope_straight ?_
  rw [← wpIn_wide (n := 0)]
  have HX0 := hid hx0
  have HR0 := hid hr0
  have HF0 := hid (HF.out.mono hx0)
  clear hx0 hr0
  generalize w.alloc (.cells #[.int .i64 0, .int .i64 0] 137) = W at *
  have cb1 := cell_of HF0.out.b1
  by_cases hex : ∃ v, ((.int .i64 (a : Int), v) : Value × Value) ∈ m
  · obtain ⟨v, hv⟩ := hex
    obtain ⟨g, t, rfl, hgt⟩ := HF.out.ok.key hv
    have hlk := glookup_some HF0.out.map (show MapKept.IsKey (.int .i64) (.int .i64 (a : Int)) from rfl) hv true Tryz.underlying132 Tryz.underlying134
    simp only [if_true] at hlk
    have HV := hid hv
    clear hv hgt
    have hxa : Ext W (W.alloc (.cells #[.int .i64 g, .int .i64 t] 137)) := (Ext.refl _).alloc _
    have hna : (W.alloc (.cells #[.int .i64 g, .int .i64 t] 137)).heap[W.heap.size]? = some (.cells #[.int .i64 g, .int .i64 t] 137 (0, 0)) := Ext.new (Ext.refl _)
    gi_upto_region 2 with fail
    clear hlk cb1
    have HF1 := hid (HF0.out.mono hxa)
    have HX1 := hid (HX0.out.trans hxa)
    have hr1 := hxa.block HR0.out
    clear hxa HX0 HR0 HF0
    generalize W.alloc (.cells #[.int .i64 g, .int .i64 t] 137) = W1 at *
    generalize W.heap.size = nb at *
    have cn := cell_of hna
    have cr := cell_of hr1
    have fr := free_of hr1
    have lr := lt_of_block hr1
    gi_wp2_with fail
    have hs := set_same (set_same hr1 0 (.int .i64 g)) 1 (.int .i64 t)
    have hk : KM bm w ((W1.setCell ⟨w.heap.size, 0, none⟩ (.int .i64 g)).setCell ⟨w.heap.size, 1, none⟩ (.int .i64 t)) := ((KM.of_ext HX1.out).set (Nat.le_refl _) 0 _).set (Nat.le_refl _) 1 _
    have hxx : Ext w ((W1.setCell ⟨w.heap.size, 0, none⟩ (.int .i64 g)).setCell ⟨w.heap.size, 1, none⟩ (.int .i64 t)) := (HX1.out.set (Nat.le_refl _) 0 _).set (Nat.le_refl _) 1 _
    have HFE := hid (HF.out.mono hxx)
    clear cn cr fr lr hna
    generalize (W1.setCell ⟨w.heap.size, 0, none⟩ (.int .i64 g)).setCell ⟨w.heap.size, 1, none⟩ (.int .i64 t) = W2 at *
    have hc := cell_of hs
    refine noGoto_ret ?_
    exact bodyPost_ret (v := .agg #[.int .i64 g, .int .i64 t]) (by simp [results, Tryz.results102, go_sem, hc]) rfl ⟨g, t, m, rfl, HFE.out, HV.out, fun p hp => hp, fun p hp => .inl hp, hk⟩
  · have hne : ∀ p ∈ m, p.1 ≠ .int .i64 (a : Int) := fun p hp he => hex ⟨p.2, by rw [← he]; exact hp⟩
    have ha0 : 0 < a := by
      rcases Nat.eq_zero_or_pos a with h | h
      · subst h; exact absurd ⟨_, HF.out.ok.zero⟩ hex
      · exact h
    have hlk := glookup_none HF0.out.map (show MapKept.IsKey (.int .i64) (.int .i64 (a : Int)) from rfl) hne true Tryz.underlying132 Tryz.underlying134 (zero137 W)
    simp only [if_true] at hlk
    have HNE := hid hne
    obtain ⟨i0, hi10, hlow, hai⟩ := low_bit ha0 HA.out.2.2.2
    have hin : i0 < d.length := by
      rcases Nat.lt_or_ge i0 d.length with h | h
      · exact h
      · have := bitN_high HA.out.2.1 h
        unfold bitN at this
        rw [hai] at this; cases this
    have HLOW := hid (And.intro hi10 (And.intro hai hin))
    have HLW := hid hlow
    have HA0 := hid ha0
    clear hex hne hi10 hai hin ha0 hlow
    have hxa : Ext W ((W.alloc (.cells #[.int .i64 0, .int .i64 0] 137)).alloc (.cells #[.int .i64 0, .int .i64 0] 137)) := ((Ext.refl _).alloc _).alloc _
    have hna : ((W.alloc (.cells #[.int .i64 0, .int .i64 0] 137)).alloc (.cells #[.int .i64 0, .int .i64 0] 137)).heap[W.heap.size + 1]? = some (.cells #[.int .i64 0, .int .i64 0] 137 (0, 0)) := by
      have := Ext.new (w := W.alloc (.cells #[.int .i64 0, .int .i64 0] 137)) (o := .cells #[.int .i64 0, .int .i64 0] 137) (Ext.refl _); rwa [World.size_alloc] at this
    gi_wp2_with fail
    clear hlk cb1
    rw [wpIn_wide]
    refine wp_label ?_
    have HF1 := hid (HF0.out.mono hxa)
    have HX1 := hid (HX0.out.trans hxa)
    have HR1 := hid (hxa.block HR0.out)
    have HQL : Hid (w.heap.size < W.heap.size) := hid (lt_of_block HR0.out)
    have HBB := hid hna
    clear hxa HX0 HR0 HF0 hna
    generalize (W.alloc (.cells #[.int .i64 0, .int .i64 0] 137)).alloc (.cells #[.int .i64 0, .int .i64 0] 137) = W1 at *
    have HQ1 : Hid (w.heap.size < W.heap.size + 1) := hid (by have := HQL.out; omega)
    generalize W.heap.size + 1 = q at *
    clear HQL
    have hwa : wrap64 ((a : Int) + 1) = (a : Int) + 1 := by have := HA.out.2.2.2; unfold wrap64; omega
    gi_wp2_with fail
    try rw [hwa]
    clear hwa
    have HJ : Hid (∃ (m' : GMap) (bg bt : Nat), FindAt n0 dv d bm B1 B2 B3 W1 m' ∧ KM bm w W1 ∧ W1.heap[w.heap.size]? = some (.cells #[.int .i64 0, .int .i64 0] 137 (0, 0)) ∧ W1.heap[q]? = some (.cells #[.int .i64 bg, .int .i64 bt] 137 (0, 0)) ∧ BestI d.length (balF d) a i0 m' 0 bg bt ∧ (∀ p ∈ m, p ∈ m') ∧ (∀ p ∈ m', p ∈ m ∨ ∃ c : Nat, c < a ∧ p.1 = .int .i64 c)) := hid ⟨m, 0, 0, HF1.out, KM.of_ext HX1.out, HR1.out, HBB.out, .inl ⟨rfl, rfl, fun s h => absurd h (by omega)⟩, fun p hp => hp, fun p hp => .inl hp⟩
    clear HF1 HX1 HR1 HBB
    gi_loopw [9, 10, 11, 12, 13, 14, 25] (fun u9 u10 u11 u12 u13 u14 i wr => ∃ s : Nat, s ≤ a + 1 ∧ i = .int .i64 s ∧ Hid (∃ (m' : GMap) (bg bt : Nat), FindAt n0 dv d bm B1 B2 B3 wr m' ∧ KM bm w wr ∧ wr.heap[w.heap.size]? = some (.cells #[.int .i64 0, .int .i64 0] 137 (0, 0)) ∧ wr.heap[q]? = some (.cells #[.int .i64 bg, .int .i64 bt] 137 (0, 0)) ∧ BestI d.length (balF d) a i0 m' s bg bt ∧ (∀ p ∈ m, p ∈ m') ∧ (∀ p ∈ m', p ∈ m ∨ ∃ c : Nat, c < a ∧ p.1 = .int .i64 c))) (fun _ _ _ _ _ _ i _ => a + 1 - (intOf i).toNat)
    case atStart => exact ⟨0, by omega, rfl, HJ⟩
    case round =>
      obtain ⟨s, hs, rfl, HQ⟩ := hrel
      clear HJ
      by_cases hlt : s < a + 1
      · have hli : (s : Int) < (a : Int) + 1 := by omega
        obtain ⟨m', bg, bt, hF', hk', hr', hb', hI', hsub', hnew'⟩ := HQ.out
        have HF' := hid hF'
        have HK' := hid hk'
        have HR' := hid hr'
        have HB' := hid hb'
        have HI' := hid hI'
        have HS' := hid (And.intro hsub' hnew')
        have cd := cell_of hF'.b2
        have hs1024 : s < 1024 := by have := HA.out.2.2.2; omega
        have HSL := hid hs1024
        obtain ⟨da, dc, rfl, ⟨hdc, hdl⟩, hdi⟩ := id HDV.out
        have HDI := hid hdi
        clear HQ hF' hk' hr' hb' hI' hsub' hnew' hdi
        gi_wp2_with fail
        clear cd
        obtain ⟨wo, rfl⟩ : ∃ wo, wo = wr := ⟨wr, rfl⟩
        have HSK : Hid (qualS d.length (balF d) a i0 s → True) := hid fun _ => trivial
        gi_loopw [10, 11, 12, 30] (fun tg u11 u12 j wr => wr = wo ∧ ∃ k : Nat, k ≤ d.length ∧ j = .int .i64 k ∧ tg = .int .i64 (Sv.tal k (balF d) (bitN s)) ∧ Hid (∀ i, i < k → bitN s i = true → bitN a i = true)) (fun _ _ _ j _ => d.length - (intOf j).toNat)
        case atStart => exact ⟨rfl, 0, Nat.zero_le _, rfl, rfl, hid fun i h => absurd h (by omega)⟩
        case round =>
          obtain ⟨rfl, k, hk, rfl, rfl, HG⟩ := hrel
          by_cases hlk : k < d.length
          · have hki : (k : Int) < (d.length : Int) := by omega
            obtain ⟨b, off, rfl, hbb, hck⟩ := HDI.out k hlk
            rw [← HF'.out.ext.cell (p := ⟨b, _, none⟩) hbb] at hck
            have hbk : balF d k = d[k] := by unfold balF; rw [getD_of hlk]
            have hts := tal_succ (balF d) (bitN s) k
            have htb := tal_bound HDX.out (bitN s) k
            have htb2 := tal_bound HDX.out (bitN s) (k + 1)
            have HSH := hid (has_any s k wr HSL.out (by omega))
            have HAH := hid (has_any a k wr HA.out.2.2.2 (by omega))
            rw [hbk] at hts
            generalize d[k] = x at *
            obtain ⟨T, hT⟩ : ∃ T, Sv.tal k (balF d) (bitN s) = T := ⟨_, rfl⟩
            rw [hT] at hts htb ⊢
            cases hsb : s.testBit k with
            | false =>
              have HTS : Hid (Sv.tal (k + 1) (balF d) (bitN s) = T) := hid (by rw [hts]; simp [bitN, hsb])
              have HU : Hid (∀ i, i < k + 1 → bitN s i = true → bitN a i = true) := hid fun i hi hb => by
                rcases Nat.lt_or_ge i k with h | h
                · exact HG.out i h hb
                · obtain rfl : i = k := by omega
                  unfold bitN at hb; rw [hsb] at hb; cases hb
              rw [hsb] at HSH
              clear hts htb htb2 hbk hT hsb HG HAH
              gi_wp2_with (gi_at_call 103; ((with_reducible refine (HSH.out).mono ?_); rintro e w9 ⟨rfl, rfl⟩))
              go_roundw
              case rel => exact ⟨by first | rfl | trivial, k + 1, by omega, by go_num, by rw [HTS.out], HU⟩
              case measure => simp [intOf]; omega
            | true =>
            cases hab : a.testBit k with
            | false =>
              have HNQ : Hid (¬ qualS d.length (balF d) a i0 s) := hid fun hq => by
                have := hq.1 k (by unfold bitN; exact hsb)
                unfold bitN at this; rw [hab] at this; cases this
              rw [hsb] at HSH
              rw [hab] at HAH
              clear hts htb htb2 hbk hT hsb hab HG
              gi_wp2_with (first | (gi_at_call 103; ((with_reducible refine (HSH.out).mono ?_); rintro e w9 ⟨rfl, rfl⟩)) | (gi_at_call 103; ((with_reducible refine (HAH.out).mono ?_); rintro e w9 ⟨rfl, rfl⟩)))
              go_roundw
              case rel => exact ⟨s + 1, by omega, by go_num, hid ⟨m', bg, bt, HF'.out, HK'.out, HR'.out, HB'.out, HI'.out.skip HNQ.out, HS'.out.1, HS'.out.2⟩⟩
              case measure => simp [intOf]; omega
            | true =>
              have HTS : Hid (Sv.tal (k + 1) (balF d) (bitN s) = T + x) := hid (by rw [hts]; simp [bitN, hsb])
              have HU : Hid (∀ i, i < k + 1 → bitN s i = true → bitN a i = true) := hid fun i hi hb => by
                rcases Nat.lt_or_ge i k with h | h
                · exact HG.out i h hb
                · obtain rfl : i = k := by omega
                  unfold bitN; exact hab
              have hwx : wrap64 (T + x) = T + x := by rw [← HTS.out]; unfold wrap64; omega
              rw [hsb] at HSH
              rw [hab] at HAH
              clear hts htb htb2 hbk hT hsb hab HG
              gi_wp2_with (first | (gi_at_call 103; ((with_reducible refine (HSH.out).mono ?_); rintro e w9 ⟨rfl, rfl⟩)) | (gi_at_call 103; ((with_reducible refine (HAH.out).mono ?_); rintro e w9 ⟨rfl, rfl⟩)))
              go_roundw
              case rel => exact ⟨by first | rfl | trivial, k + 1, by omega, by go_num, by first | rw [HTS.out, hwx] | rw [HTS.out], HU⟩
              case measure => simp [intOf]; omega
          · obtain rfl : k = d.length := by omega
            have hsub : Sv.Sub (bitN s) (bitN a) := fun i hi => by
              rcases Nat.lt_or_ge i d.length with h | h
              · exact HG.out i h hi
              · have h1 : s < 2 ^ d.length := by have := HA.out.2.1; omega
                rw [bitN_high h1 h] at hi; cases hi
            have HSUB := hid hsub
            obtain ⟨pw, hpw⟩ : ∃ pw : Nat, 2 ^ i0 = pw := ⟨_, rfl⟩
            have hlow := HLW.out
            have hit := low_hit (s := s) (i := i0) HSL.out HLOW.out.1
            rw [hpw] at hlow hit
            have hneg : wrap64 (-(a : Int)) = -(a : Int) := by have := HA.out.2.2.2; unfold wrap64; omega
            have htb := tal_bound HDX.out (bitN s) d.length
            obtain ⟨T, hT⟩ : ∃ T, Sv.tal d.length (balF d) (bitN s) = T := ⟨_, rfl⟩
            rw [hT]
            have HT := hid hT
            clear hT HG hsub hpw htb
            cases hT0 : (T == 0) with
            | false =>
              have HNQ : Hid (¬ qualS d.length (balF d) a i0 s) := hid fun hq => by
                have := hq.2.2; rw [HT.out] at this; rw [this] at hT0; simp at hT0
              have hT1 : ¬ T = 0 := by simpa using hT0
              have hT2 : (T != 0) = true := by simpa using hT0
              clear hit
              gi_wp2_with fail
              go_roundw
              case rel => exact ⟨s + 1, by omega, by go_num, hid ⟨m', bg, bt, HF'.out, HK'.out, HR'.out, HB'.out, HI'.out.skip HNQ.out, HS'.out.1, HS'.out.2⟩⟩
              case measure => simp [intOf]; omega
            | true =>
            obtain rfl : T = 0 := by simpa using hT0
            cases hbi : s.testBit i0 with
            | false =>
              have HNQ : Hid (¬ qualS d.length (balF d) a i0 s) := hid fun hq => by
                have := hq.2.1; unfold bitN at this; rw [hbi] at this; cases this
              rw [hbi] at hit
              simp only [Bool.not_false] at hit
              gi_wp2_with fail
              go_roundw
              case rel => exact ⟨s + 1, by omega, by go_num, hid ⟨m', bg, bt, HF'.out, HK'.out, HR'.out, HB'.out, HI'.out.skip HNQ.out, HS'.out.1, HS'.out.2⟩⟩
              case measure => simp [intOf]; omega
            | true =>
              rw [hbi] at hit
              simp only [Bool.not_true] at hit
              have HQL : Hid (qualS d.length (balF d) a i0 s) := hid ⟨HSUB.out, by unfold bitN; exact hbi, HT.out⟩
              have hcb := bitN_anN HA.out.2.2.2 HSL.out
              have hca : anN a s < a := by
                have h1 := anN_le a s
                rcases Nat.lt_or_ge (anN a s) a with h | h
                · exact h
                · have he : anN a s = a := by omega
                  rw [he] at hcb
                  have := congrFun hcb i0
                  unfold bitN Sv.dif at this
                  simp [HLOW.out.2.1, hbi] at this
              have hct : Sv.tal d.length (balF d) (bitN (anN a s)) = 0 := by
                have := Sv.tal_split d.length (balF d) HSUB.out
                rw [hcb]
                have h1 := HA.out.2.2.1
                have h2 := HT.out
                omega
              have HAN := hid (bits_andNot HA.out.2.2.2 HSL.out)
              have han := HAN.out
              have HCAL := hid (HIH.out (anN a s) m' wr (by have := HA.out.1; omega) (by have := HA.out.2.1; omega) hct HF'.out)
              have HCB := hid hcb
              have HCA := hid hca
              have c3 : wr.cell? ⟨B3, 0, none⟩ = some (.func (.func 102) #[] #[.pointer (some ⟨B1, 0, none⟩), .pointer (some ⟨B2, 0, none⟩), .pointer (some ⟨B3, 0, none⟩)]) := by rw [cell_of HF'.out.b3]; rfl
              clear hT0 hbi hcb hca hct
              generalize hcc : anN a s = c at *
              have HCC := hid hcc
              clear hcc
              gi_upto_region 19 with (gi_at_call 102; ((with_reducible refine HCAL.out.mono ?_); rintro e w5 ⟨g, t2, m2, rfl, hF2, he2, hs2, hn2, hk2⟩))
              have hg10 := best_le (hF2.ok.best he2)
              have hxa : Ext w5 (w5.alloc (.cells #[.int .i64 g, .int .i64 t2] 137)) := (Ext.refl _).alloc _
              have hna : (w5.alloc (.cells #[.int .i64 g, .int .i64 t2] 137)).heap[w5.heap.size]? = some (.cells #[.int .i64 g, .int .i64 t2] 137 (0, 0)) := Ext.new (Ext.refl _)
              have HF3 := hid (hF2.mono hxa)
              have HBST : Hid (Sv.Best d.length (balF d) (Sv.dif (bitN a) (bitN s)) g) := hid (by rw [← HCB.out]; exact hF2.ok.best he2)
              have HE3 : Hid (entG m2 (anN a s) g t2) := hid (by rw [HCC.out]; exact he2)
              have HK3 := hid ((HK'.out.trans hk2).trans (KM.of_ext (bm := bm) hxa))
              have HB3 := hid (hxa.block (hk2.cell HB'.out (HF'.out.map.notCells HB'.out)))
              have HR3 := hid (hxa.block (hk2.cell HR'.out (HF'.out.map.notCells HR'.out)))
              have HS3 : Hid ((∀ p ∈ m, p ∈ m2) ∧ (∀ p ∈ m2, p ∈ m ∨ ∃ c : Nat, c < a ∧ p.1 = .int .i64 c)) := hid ⟨fun p hp => hs2 p (HS'.out.1 p hp), fun p hp => by
                rcases hn2 p hp with h | ⟨c', h1, h2⟩
                · exact HS'.out.2 p h
                · exact .inr ⟨c', by have := HCA.out; omega, h2⟩⟩
              have HI3 := hid (HI'.out.mono hs2)
              clear hxa hF2 he2 hs2 hn2 hk2 HF' HB' HR' HK' HS' HI' c3 han hit hlow hneg HCAL
              generalize w5.alloc (.cells #[.int .i64 g, .int .i64 t2] 137) = W6 at *
              generalize w5.heap.size = nb at *
              have cn := cell_of hna
              have cq := cell_of HB3.out
              have fq := free_of HB3.out
              have lq := lt_of_block HB3.out
              by_cases hge : bg ≤ g
              · have hgi : (bg : Int) ≤ (g : Int) := by omega
                have hwg : wrap64 ((g : Int) + 1) = (g : Int) + 1 := by unfold wrap64; omega
                have HGE := hid hge
                clear hge hg10 hna
                gi_wp2_with fail
                have hs6 := set_same (set_same HB3.out 0 (.int .i64 ((g : Int) + 1))) 1 (.int .i64 s)
                have hkk : KM bm w ((W6.setCell ⟨q, 0, none⟩ (.int .i64 ((g : Int) + 1))).setCell ⟨q, 1, none⟩ (.int .i64 s)) := (HK3.out.set (Nat.le_of_lt HQ1.out) 0 _).set (Nat.le_of_lt HQ1.out) 1 _
                have hnq : n0.heap.size ≤ q := by have := HF.out.ext.size; have := HQ1.out; omega
                have hxx : Ext n0 ((W6.setCell ⟨q, 0, none⟩ (.int .i64 ((g : Int) + 1))).setCell ⟨q, 1, none⟩ (.int .i64 s)) := (HF3.out.ext.set hnq 0 _).set hnq 1 _
                have hqb : bm ≠ q := fun e => HF3.out.map.notCells HB3.out e.symm
                have hmm : GMapAt (.int .i64) ((W6.setCell ⟨q, 0, none⟩ (.int .i64 ((g : Int) + 1))).setCell ⟨q, 1, none⟩ (.int .i64 s)) bm m2 := HF3.out.map.kept fun o ho => by rw [set_other hqb, set_other hqb]; exact ho
                have hrr : ((W6.setCell ⟨q, 0, none⟩ (.int .i64 ((g : Int) + 1))).setCell ⟨q, 1, none⟩ (.int .i64 s)).heap[w.heap.size]? = _ := (set_other (by have := HQ1.out; omega) 1 _).trans ((set_other (by have := HQ1.out; omega) 0 _).trans HR3.out)
                go_roundw
                case rel => exact ⟨s + 1, by omega, by go_num, hid ⟨m2, g + 1, s, HF.out.km hxx hkk hmm HF3.out.ok, hkk, hrr, hs6, HI3.out.take HQL.out HBST.out HE3.out HGE.out, HS3.out.1, HS3.out.2⟩⟩
                case measure => simp [intOf]; omega
              · have hgi : ¬ (bg : Int) ≤ (g : Int) := by omega
                have HGE : Hid (g < bg) := hid (by omega)
                clear hge hg10 hna
                gi_wp2_with fail
                go_roundw
                case rel => exact ⟨s + 1, by omega, by go_num, hid ⟨m2, bg, bt, HF3.out, HK3.out, HR3.out, HB3.out, HI3.out.leave HBST.out HGE.out, HS3.out.1, HS3.out.2⟩⟩
                case measure => simp [intOf]; omega
      · obtain rfl : s = a + 1 := by omega
        have hli : ¬ (((a + 1 : Nat) : Int)) < (a : Int) + 1 := by omega
        obtain ⟨m', bg, bt, hF', hk', hr', hb', hI', hsub', hnew'⟩ := HQ.out
        have hdone := hI'.done HA.out.2.1 HA.out.2.2.1 HLOW.out.2.2 (by unfold bitN; exact HLOW.out.2.1)
        have hno : ∀ p ∈ m', p.1 ≠ .int .i64 (a : Int) := fun p hp he => by
          rcases hnew' p hp with h | ⟨c, h1, h2⟩
          · exact HNE.out p h he
          · rw [h2] at he; simp at he; omega
        have cq0 := cell_of hb'
        have c1 : wr.cell? ⟨B1, 0, none⟩ = some (.map (some bm)) := by rw [cell_of hF'.b1]; rfl
        obtain ⟨o, hup, hmu⟩ := gupdate_new hF'.map (show MapKept.IsKey (.int .i64) (.int .i64 (a : Int)) from rfl) hno (.agg #[.int .i64 bg, .int .i64 bt]) Tryz.underlying132 Tryz.underlying134
        have hq' : (wr.putObj bm o).heap[q]? = _ := (World.putObj_heap_other (hF'.map.notCells hb')).trans hb'
        have hr0' : (wr.putObj bm o).heap[w.heap.size]? = _ := (World.putObj_heap_other (hF'.map.notCells hr')).trans hr'
        have cq := cell_of hq'
        have cr := cell_of hr0'
        have fr := free_of hr0'
        have lr := lt_of_block hr0'
        have HKU := hid (hk'.trans (KM.put bm wr o))
        have HRU := hid hr0'
        have HMU := hid hmu
        have HXU := hid (below_put hF'.ext HBM.out o)
        have HOK := hid (hF'.ok.add HA0.out hdone)
        have HSB := hid (And.intro hsub' hnew')
        clear HQ hF' hk' hr' hb' hI' hsub' hnew' hno hdone hq' hr0' hmu
        gi_wp2_with fail
        have hs7 := set_same (set_same HRU.out 0 (.int .i64 bg)) 1 (.int .i64 bt)
        have hnr : n0.heap.size ≤ w.heap.size := HF.out.ext.size
        have hmne : bm ≠ w.heap.size := by rintro rfl; have h1 := HMU.out; obtain ⟨es, ck, h1, _⟩ := h1; rw [HRU.out] at h1; cases h1
        have hk7 : KM bm w (((wr.putObj bm o).setCell ⟨w.heap.size, 0, none⟩ (.int .i64 bg)).setCell ⟨w.heap.size, 1, none⟩ (.int .i64 bt)) := (HKU.out.set (Nat.le_refl _) 0 _).set (Nat.le_refl _) 1 _
        have hx7 : Ext n0 (((wr.putObj bm o).setCell ⟨w.heap.size, 0, none⟩ (.int .i64 bg)).setCell ⟨w.heap.size, 1, none⟩ (.int .i64 bt)) := Ext.set (Ext.set HXU.out hnr 0 _) hnr 1 _
        have hm7 : GMapAt (.int .i64) (((wr.putObj bm o).setCell ⟨w.heap.size, 0, none⟩ (.int .i64 bg)).setCell ⟨w.heap.size, 1, none⟩ (.int .i64 bt)) bm _ := HMU.out.kept fun o ho => by rw [set_other hmne, set_other hmne]; exact ho
        have hFF := hid (HF.out.km hx7 hk7 hm7 HOK.out)
        have HK7 := hid hk7
        clear hk7 hx7 hm7
        generalize ((wr.putObj bm o).setCell ⟨w.heap.size, 0, none⟩ (.int .i64 bg)).setCell ⟨w.heap.size, 1, none⟩ (.int .i64 bt) = W7 at *
        have hc := cell_of hs7
        exact bodyPost_ret (v := .agg #[.int .i64 bg, .int .i64 bt]) (by simp [results, Tryz.results102, go_sem, hc]) rfl ⟨bg, bt, _, rfl, hFF.out, List.mem_append_right _ (List.mem_singleton.2 rfl), fun p hp => List.mem_append_left _ (HSB.out.1 p hp), fun p hp => by
          rcases List.mem_append.1 hp with h | h
          · rcases HSB.out.2 p h with h | ⟨c, h1, h2⟩
            · exact .inl h
            · exact .inr ⟨c, Nat.le_of_lt h1, h2⟩
          · rw [List.mem_singleton] at h
            exact .inr ⟨a, Nat.le_refl _, by rw [h]⟩, HK7.out⟩
end
end Go.Proofs.YtjocoadhalimjaaGreat
