/- Debts: small functions over sets and lists. -/
import Derived.Test.YtjocoadhalimjaaGreatRAU
import Derived.Test.YtjocoadhalimjaaGreatRAO
import Derived.Test.YtjocoadhalimjaaGreatRAT
set_option linter.unusedSimpArgs false
set_option linter.unusedVariables false
namespace Go.Proofs.YtjocoadhalimjaaGreat
section
open Go Go.RowKit Go.Shelf Go.MapKept

set_option maxHeartbeats 1000000 in
theorem has_any (s k : Nat) (w : World) (hs : s < 1024) (hk : k ≤ 20) : Cal 103 #[.int .i64 s, .int .i64 k] w fun e w' => e = .returned (.bool (s.testBit k)) ∧ w = w' := by
  have HB := hid (has_bits (k := k) hs)
  have h1 : (0 : Int) ≤ (k : Int) := by omega
  have h2 : (k : Int) ≤ 64 := by omega
  gi_enter Tryz.func103, Tryz.ntmps103
  gi_wp2
  go_ret
  exact ⟨by rw [← HB.out]; rfl, rfl⟩
/-- The numbers of a set. -/
def numsTo (s : Nat) : Nat → List Int
  | 0 => []
  | k + 1 => if s.testBit k then numsTo s k ++ [(k : Int)] else numsTo s k
theorem numsTo_len (s : Nat) : ∀ k, (numsTo s k).length ≤ k
  | 0 => Nat.le_refl _
  | k + 1 => by
    have := numsTo_len s k
    unfold numsTo
    split
    · simp; omega
    · omega
theorem intsV_snoc (xs : List Int) (x : Int) : intsV (xs ++ [x]) = intsV xs ++ [.int .i64 x] := by simp [intsV]
set_option maxHeartbeats 4000000 in
theorem numbers_any (s : Nat) (w : World) (hs : s < 1024) : Cal 88 #[.int .i64 s] w fun e w' => ∃ r, e = .returned r ∧ Ext w w' ∧ Hid (Row w' 3 1 r (numsTo s 10).length (intsV (numsTo s 10)) ∧ ∀ g, r.ownBlock = some g → w.heap.size ≤ g) := by
  have HS := hid hs
  clear hs
  gi_enter Tryz.func88, Tryz.ntmps88
  gi_wp2_with fail
  have HJ : Hid (Ext w w ∧ Row w 3 1 (.slice none 0 0) (numsTo s 0).length (intsV (numsTo s 0)) ∧ ∀ g, (Value.slice none 0 0).ownBlock = some g → w.heap.size ≤ g) := hid ⟨Ext.refl _, Row.nil _ _ _, fun g h => by simp [Value.ownBlock] at h⟩
  gi_loopw [3, 4, 5] (fun r u4 i wr => ∃ k : Nat, k ≤ 10 ∧ i = .int .i64 k ∧ Hid (Ext w wr ∧ Row wr 3 1 r (numsTo s k).length (intsV (numsTo s k)) ∧ ∀ g, r.ownBlock = some g → w.heap.size ≤ g)) (fun _ _ i _ => 10 - (intOf i).toNat)
  case atStart => exact ⟨0, by omega, rfl, HJ⟩
  case round =>
    obtain ⟨k, hk, rfl, HI⟩ := hrel
    clear HJ
    by_cases hlt : k < 10
    · have hki : (k : Int) < 10 := by omega
      have HH := hid (has_any s k wr HS.out (by omega))
      obtain ⟨na, nc, rfl⟩ := HI.out.2.1.isSliceN
      have HST : Hid (numsTo s (k + 1) = if s.testBit k then numsTo s k ++ [(k : Int)] else numsTo s k) := hid rfl
      cases hb : s.testBit k with
      | false =>
        rw [hb] at HH HST
        have HE : Hid (numsTo s (k + 1) = numsTo s k) := hid (by rw [HST.out]; rfl)
        clear hb HST
        gi_wp2_with (gi_at_call 103; ((with_reducible refine (HH.out).mono ?_); rintro e w1 ⟨rfl, rfl⟩))
        go_roundw
        case rel => exact ⟨k + 1, by omega, by go_num, by rw [HE.out]; exact HI⟩
        case measure => simp [intOf]; omega
      | true =>
        rw [hb] at HH HST
        have HE : Hid (numsTo s (k + 1) = numsTo s k ++ [(k : Int)]) := hid (by rw [HST.out]; rfl)
        have hlen := numsTo_len s k
        have HX := hid HI.out.1
        have HRW := hid (HI.out.2.1.mono ((Ext.refl wr).alloc (.cells #[.int .i64 k] 3)))
        have HOWN := hid HI.out.2.2
        have HNW : Hid (∀ j u, ([.int .i64 k] : List Value)[j]? = some u → (wr.alloc (.cells #[.int .i64 k] 3)).cell? ((⟨wr.heap.size, 0, none⟩ : Addr).add j) = some u) := fun j u hj => by rw [Addr.add_mid, Nat.zero_add, new_cell _ _ rfl]; simpa using hj
        obtain ⟨i0, hi0, hz0, hz1, hz2⟩ := info_parts info3
        have HZ := hid (And.intro hi0 (And.intro hz0 (And.intro hz1 hz2)))
        have hmax : (numsTo s k).length + 1 ≤ 1000000000 := by omega
        clear hi0 hz0 hz1 hz2 HI hb HST
        generalize hL : (numsTo s k).length = L at *
        have HL := hid hL
        clear hL
        gi_wp2_with (first | (gi_at_call 103; ((with_reducible refine (HH.out).mono ?_); rintro e w1 ⟨rfl, rfl⟩)) | (refine wpIn_append_row (fun _ => trivial) rfl (.tmp 11) (.tmp 13) rfl Tryz.underlying23 HZ.out.1 HZ.out.2.1 HZ.out.2.2.1 HZ.out.2.2.2 (by simp [Value.cells]) (by omega) (v := .slice na L nc) rfl HRW.out ⟨wr.heap.size, 0, none⟩ 1 rfl [.int .i64 k] rfl HNW.out (fun u hu => by simp at hu; subst hu; rfl) hmax (by omega) ?_; intro v' w' hrow' hgr' how'))
        have hxx : Ext w (wr.alloc (.cells #[.int .i64 k] 3)) := HX.out.alloc _
        have hbel := ext_grown hxx hgr' (fun g hg => HOWN.out g hg)
        have hown' : ∀ g, v'.ownBlock = some g → w.heap.size ≤ g := fun g hg => by
          rcases how' with e | e
          · exact HOWN.out g (by rw [← e]; exact hg)
          · rw [hg] at e; cases e; exact hxx.size
        go_roundw
        case rel => exact ⟨k + 1, by omega, by go_num, hid ⟨hbel, by rw [HE.out, intsV_snoc, List.length_append, HL.out]; exact hrow', hown'⟩⟩
        case measure => simp [intOf]; omega
    · obtain rfl : k = 10 := by omega
      obtain ⟨na, nc, rfl⟩ := HI.out.2.1.isSliceN
      gi_wp2_with fail
      go_ret
      exact ⟨_, rfl, HI.out.1, hid HI.out.2⟩
set_option maxHeartbeats 4000000 in
theorem open_any (v : Value) (xs : List Int) (w : World) (hv : IntsAt w v xs) (hl : xs.length ≤ 10) : Cal 87 #[v] w fun e w' => e = .returned (.int .i64 (openTo xs xs.length)) ∧ w = w' := by
  obtain ⟨a, cap, rfl, ⟨hcap, hlen⟩, hc⟩ := hv
  have HC := hid hc
  clear hc
  gi_enter Tryz.func87, Tryz.ntmps87
  gi_wp2_with fail
  gi_loop [3, 4, 5, 8, 9, 10, 11, 12, 13, 14, 15, 16, 17, 18, 19] (fun s u4 u5 i u9 u10 u11 u12 u13 u14 u15 u16 u17 u18 u19 => ∃ k : Nat, k ≤ xs.length ∧ i = .int .i64 k ∧ s = .int .i64 (openTo xs k)) (fun _ _ _ i _ _ _ _ _ _ _ _ _ _ _ => xs.length - (intOf i).toNat)
  case atStart => exact ⟨0, Nat.zero_le _, rfl, rfl⟩
  case round =>
    obtain ⟨k, hk, rfl, rfl⟩ := hrel
    by_cases hlt : k < xs.length
    · have hki : (k : Int) < (xs.length : Int) := by omega
      obtain ⟨b, off, rfl, hbb, hck⟩ := HC.out k hlt
      have hop := openTo_lt xs k
      have hp10 : (2 : Nat) ^ k ≤ 2 ^ 9 := Nat.pow_le_pow_right (by omega) (by omega)
      have hor := bits_or (a := openTo xs k) (b := 2 ^ k) (by omega) (by omega)
      have hsh : wrap64 ((2 : Int) ^ k) = ((2 ^ k : Nat) : Int) := by
        have hpc : (2 : Int) ^ k = ((2 ^ k : Nat) : Int) := by push_cast; rfl
        rw [hpc]; unfold wrap64; omega
      have HST : Hid (openTo xs (k + 1) = if xs[k] = 0 then openTo xs k else openTo xs k ||| 2 ^ k) := hid (by show (if xs.getD k 0 = 0 then openTo xs k else openTo xs k ||| 2 ^ k) = _; rw [getD_of hlt])
      generalize xs[k] = x at *
      generalize openTo xs k = s at *
      generalize hpp : (2 : Nat) ^ k = pw at *
      clear hpp hop hp10
      cases hx : (x == 0) with
      | true =>
        have HE : Hid (openTo xs (k + 1) = s) := hid (by rw [HST.out, if_pos (by simpa using hx)])
        clear HST
        gi_wp2_with fail
        go_round
        case rel => exact ⟨k + 1, by omega, by go_num, by rw [HE.out]⟩
        case measure => simp [intOf]; omega
      | false =>
        have HE : Hid (openTo xs (k + 1) = s ||| pw) := hid (by rw [HST.out, if_neg (by simpa using hx)])
        have h1 : (0 : Int) ≤ (k : Int) := by omega
        clear HST
        gi_wp2_with fail
        go_round
        case rel => exact ⟨k + 1, by omega, by go_num, by rw [HE.out]⟩
        case measure => simp [intOf]; omega
    · obtain rfl : k = xs.length := by omega
      gi_wp2_with fail
      go_ret
      exact ⟨rfl, rfl⟩
end
section
open Go Go.RowKit Go.Shelf

def threeS (bo ne cr : Int) : List Stk := [⟨boatS, bo⟩, ⟨netsS, ne⟩, ⟨crewS, cr⟩]
def pNew (nm : ByteArray) (x : Int) (v : Value) (u : World) : Prop := ∃ g, v = .slice (some ⟨g, 0, none⟩) 1 1 ∧ u.heap[g]? = some (.cells #[.string nm, .int .i64 x] 49 (0, 0))
theorem pNew_s (nm : ByteArray) (x : Int) : ∀ v u u', pNew nm x v u → Ext u u' → pNew nm x v u' := fun _ _ _ h k => by
  obtain ⟨g, h1, h2⟩ := h; exact ⟨g, h1, k.block h2⟩
def threeC (bo ne cr : Int) : Array Value := #[.int .i64 bo, .int .i64 ne, .int .i64 cr]
theorem arrayAt90 (g cap : Nat) (w : World) : (Instr.arrayAt 90 (.slice (some ⟨g, 0, none⟩) 3 cap)).run Tryz.prog w = .ok (.pointer (some ⟨g, 0, none⟩)) w := by
  simp [Instr.arrayAt, go_sem]
set_option maxRecDepth 100000 in
set_option maxHeartbeats 16000000 in
theorem vpence_any (gr bo ne cr : Int) (xv mv : Value) (ca oa la ha : Option Addr) (cc on oc ln lc hn hc : Nat) (cs : List Int) (w : World)
    (hcs : IntsAt w (.slice ca cs.length cc) cs) (hb : ∀ x ∈ cs, -1000000000 ≤ x ∧ x ≤ 1000000000) (hl : cs.length ≤ 1000) (hg : -1000000000 ≤ gr ∧ gr ≤ 1000000000) (hP : 0 ≤ gr - cs.sum ∧ gr - cs.sum ≤ 10000000)
    (h1 : 0 ≤ bo ∧ bo ≤ 8) (h2 : 0 ≤ ne ∧ ne ≤ 8) (h3 : 0 ≤ cr ∧ cr ≤ 8) (hall : bo + ne + cr = 8) :
    Cal 58 #[.agg #[.int .i64 gr, .slice ca cs.length cc, .int .i64 bo, .int .i64 ne, .int .i64 cr, .slice oa on oc, .slice la ln lc, .slice ha hn hc, xv, mv]] w fun e w' => e = .returned (.agg #[.int .i64 (giveTo (gr - cs.sum) (threeS bo ne cr) 0), .int .i64 (giveTo (gr - cs.sum) (threeS bo ne cr) 1), .int .i64 (giveTo (gr - cs.sum) (threeS bo ne cr) 2)]) ∧ Ext w w' := by
  have HE7 := hid (fun (u : World) => eighths_any gr bo ne cr (.slice ca cs.length cc) xv mv oa la ha on oc ln lc hn hc u)
  have HP := hid (fun (u : World) => parts_any u)
  have HDV := hid (fun (u : World) (hu : Ext w u) => divided_any gr bo ne cr (.slice ca cs.length cc) (.slice oa on oc) (.slice ha hn hc) xv mv la ln lc cs u (hcs.mono hu) hb hl hg)
  have hsw : sumW (threeS bo ne cr) = 8 := by simp [sumW, threeS]; omega
  have HDD := hid (fun (v : Value) (u : World) (hv : StakesAt u v (threeS bo ne cr)) => divide_any (gr - cs.sum) v (threeS bo ne cr) u hv hP (fun s hs => by simp [threeS] at hs; rcases hs with rfl | rfl | rfl <;> simp only <;> omega) (by simp [threeS]) (.inr (by rw [hsw]; omega)) (by simp [threeS]; decide))
  clear hcs hb hl hg hP h1 h2 h3 hall hsw
  have HI0 := hid index120_0
  have HI1 := hid index120_1
  have HI2 := hid index120_2
  have hW : Ext w ((w.alloc (.cells #[.int .i64 gr, .slice ca cs.length cc, .int .i64 bo, .int .i64 ne, .int .i64 cr, .slice oa on oc, .slice la ln lc, .slice ha hn hc, xv, mv] 83)).alloc (.cells #[.int .i64 0, .int .i64 0, .int .i64 0] 90)) := ((Ext.refl _).alloc _).alloc _
  have hB := two_new (w := w) (o1 := .cells #[.int .i64 gr, .slice ca cs.length cc, .int .i64 bo, .int .i64 ne, .int .i64 cr, .slice oa on oc, .slice la ln lc, .slice ha hn hc, xv, mv] 83) (o2 := .cells #[.int .i64 0, .int .i64 0, .int .i64 0] 90)
  have hR : ((w.alloc (.cells #[.int .i64 gr, .slice ca cs.length cc, .int .i64 bo, .int .i64 ne, .int .i64 cr, .slice oa on oc, .slice la ln lc, .slice ha hn hc, xv, mv] 83)).alloc (.cells #[.int .i64 0, .int .i64 0, .int .i64 0] 90)).heap[w.heap.size + 1]? = some (.cells #[.int .i64 0, .int .i64 0, .int .i64 0] 90 (0, 0)) := by
    have := Ext.new (w := w.alloc (.cells #[.int .i64 gr, .slice ca cs.length cc, .int .i64 bo, .int .i64 ne, .int .i64 cr, .slice oa on oc, .slice la ln lc, .slice ha hn hc, xv, mv] 83)) (o := .cells #[.int .i64 0, .int .i64 0, .int .i64 0] 90) (Ext.refl _); rwa [World.size_alloc] at this
  gi_enter Tryz.func58, Tryz.ntmps58
  gi_upto_region 2 with fail
  generalize (w.alloc (.cells #[.int .i64 gr, .slice ca cs.length cc, .int .i64 bo, .int .i64 ne, .int .i64 cr, .slice oa on oc, .slice la ln lc, .slice ha hn hc, xv, mv] 83)).alloc (.cells #[.int .i64 0, .int .i64 0, .int .i64 0] 90) = W at *
  have cB := cell_of hB
  have HX := hid hW
  have HB := hid hB
  have HR := hid hR
  clear hW hB hR
  gi_upto_region 3 with (gi_at_call 77; ((with_reducible refine (HE7.out _).mono ?_); rintro e w1 ⟨rfl, hx1⟩))
  have hxa : Ext W (w1.alloc (.cells #[.int .i64 bo, .int .i64 ne, .int .i64 cr] 90)) := hx1.alloc _
  have hg : (w1.alloc (.cells #[.int .i64 bo, .int .i64 ne, .int .i64 cr] 90)).heap[w1.heap.size]? = some (.cells #[.int .i64 bo, .int .i64 ne, .int .i64 cr] 90 (0, 0)) := Ext.new (Ext.refl _)
  have HXn := hid (HX.out.trans hxa)
  have HBn := hid (hxa.block HB.out)
  have HRn := hid (hxa.block HR.out)
  have HGE : Hid (w.heap.size + 1 < w1.heap.size) := hid (Nat.lt_of_lt_of_le (lt_of_block HR.out) hx1.size)
  have HG := hid hg
  clear hxa hg cB HX HB HR hx1
  generalize w1.alloc (.cells #[.int .i64 bo, .int .i64 ne, .int .i64 cr] 90) = W1 at *
  generalize w1.heap.size = g at *
  clear W w1
  gi_wp2_with (gi_at_call 78; ((with_reducible refine (HP.out _).mono ?_); rintro e w2 ⟨rfl, hx2⟩))
  have HJ : Hid (Ext w w2 ∧ w2.heap[w.heap.size]? = some (.cells #[.int .i64 gr, .slice ca cs.length cc, .int .i64 bo, .int .i64 ne, .int .i64 cr, .slice oa on oc, .slice la ln lc, .slice ha hn hc, xv, mv] 83 (0, 0)) ∧ w2.heap[w.heap.size + 1]? = some (.cells #[.int .i64 0, .int .i64 0, .int .i64 0] 90 (0, 0)) ∧ w2.heap[g]? = some (.cells #[.int .i64 bo, .int .i64 ne, .int .i64 cr] 90 (0, 0)) ∧ Row w2 49 2 (.slice none 0 0) 0 (stkF ((threeS bo ne cr).take 0)) ∧ ∀ q, (Value.slice none 0 0).ownBlock = some q → g < q) := hid ⟨HXn.out.trans hx2, hx2.block HBn.out, hx2.block HRn.out, hx2.block HG.out, Row.nil _ _ _, fun q hq => by simp [Value.ownBlock] at hq⟩
  clear HXn HBn HRn HG hx2
  gi_loopw [3, 5, 6, 10] (fun r u5 u6 i wr => ∃ k : Nat, k ≤ 3 ∧ i = .int .i64 k ∧ Hid (Ext w wr ∧ wr.heap[w.heap.size]? = some (.cells #[.int .i64 gr, .slice ca cs.length cc, .int .i64 bo, .int .i64 ne, .int .i64 cr, .slice oa on oc, .slice la ln lc, .slice ha hn hc, xv, mv] 83 (0, 0)) ∧ wr.heap[w.heap.size + 1]? = some (.cells #[.int .i64 0, .int .i64 0, .int .i64 0] 90 (0, 0)) ∧ wr.heap[g]? = some (.cells #[.int .i64 bo, .int .i64 ne, .int .i64 cr] 90 (0, 0)) ∧ Row wr 49 2 r k (stkF ((threeS bo ne cr).take k)) ∧ ∀ q, r.ownBlock = some q → g < q)) (fun _ _ _ i _ => 3 - (intOf i).toNat)
  case atStart => exact ⟨0, by omega, rfl, HJ⟩
  case round =>
    obtain ⟨k, hk, rfl, HI⟩ := hrel
    clear HJ
    rcases (by omega : k = 0 ∨ k = 1 ∨ k = 2 ∨ k = 3) with rfl | rfl | rfl | rfl
    · have hix := HI0.out wr
      gi_wp2_with (refine wpIn_store_fresh (fun _ => trivial) 119 (.tmp 6) (.tmp 13) rfl (W := wr) (c' := #[.string ⟨#[98, 111, 97, 116]⟩, fnV 96, fnV 96]) rfl rfl rfl size119 rfl (by simp [Value.oneCell']) ?_; refine Hid.out ?_)
      have hxa : Ext wr (wr.alloc (.cells #[.string ⟨#[98, 111, 97, 116]⟩, fnV 96, fnV 96] 119)) := (Ext.refl _).alloc _
      have hn : (wr.alloc (.cells #[.string ⟨#[98, 111, 97, 116]⟩, fnV 96, fnV 96] 119)).heap[wr.heap.size]? = some (.cells #[.string ⟨#[98, 111, 97, 116]⟩, fnV 96, fnV 96] 119 (0, 0)) := Ext.new (Ext.refl _)
      have HXn := hid (HI.out.1.trans hxa)
      have HBn := hid (hxa.block HI.out.2.1)
      have HRn := hid (hxa.block HI.out.2.2.1)
      have HGn := hid (hxa.block HI.out.2.2.2.1)
      have HROW := hid (HI.out.2.2.2.2.1.mono hxa)
      have HOWN := hid HI.out.2.2.2.2.2
      have HN := hid hn
      clear HI hxa hix hn
      refine hid ?_
      generalize wr.alloc (.cells #[.string ⟨#[98, 111, 97, 116]⟩, fnV 96, fnV 96] 119) = W3 at *
      generalize wr.heap.size = nb at *
      obtain ⟨na, nc, rfl⟩ := HROW.out.isSliceN
      gi_upto_region 6 with fail
      refine lex_wide 8 [(7, pNew ⟨#[98, 111, 97, 116]⟩ bo)] (by kernel_rfl) (by kernel_rfl) (nStab_cons (pNew_s _ _) nStab_nil) ?_
      simp only [List.take_succ_cons, List.take_zero, List.drop_succ_cons, List.drop_zero]
      apply lex_fun (rfl : psAt _ _ = none)
      · intro x u hR hf
        clear hR hf
        go_simp
        exact ⟨rfl, Ext.refl _⟩
      simp only [Act.put, List.setIfInBounds_toArray, List.set_cons_succ, List.set_cons_zero]
      apply lex_fun (rfl : psAt _ _ = none)
      · intro x u hR hf
        clear hR hf
        go_simp
        exact ⟨rfl, Ext.refl _⟩
      simp only [Act.put, List.setIfInBounds_toArray, List.set_cons_succ, List.set_cons_zero]
      apply lex_fun (rfl : psAt _ _ = none)
      · intro x u hR hf
        have c0 := cell_of (hR.block HN.out)
        clear hR hf
        go_simp
        exact ⟨rfl, Ext.refl _⟩
      simp only [Act.put, List.setIfInBounds_toArray, List.set_cons_succ, List.set_cons_zero]
      apply lex_fun (rfl : psAt _ _ = none)
      · intro x u hR hf
        clear hR hf
        go_simp
        exact ⟨rfl, Ext.refl _⟩
      simp only [Act.put, List.setIfInBounds_toArray, List.set_cons_succ, List.set_cons_zero]
      apply lex_fun (rfl : psAt _ _ = none)
      · intro x u hR hf
        clear hR hf
        go_simp
        exact ⟨rfl, Ext.refl _⟩
      simp only [Act.put, List.setIfInBounds_toArray, List.set_cons_succ, List.set_cons_zero]
      apply lex_fun (rfl : psAt _ _ = none)
      · intro x u hR hf
        have c0 := cell_of (hR.block HGn.out)
        clear hR hf
        go_simp
        exact ⟨rfl, Ext.refl _⟩
      simp only [Act.put, List.setIfInBounds_toArray, List.set_cons_succ, List.set_cons_zero]
      apply lex_fun (rfl : psAt _ _ = none)
      · intro x u hR hf
        clear hR hf
        go_simp
        exact ⟨rfl, Ext.refl _⟩
      simp only [Act.put, List.setIfInBounds_toArray, List.set_cons_succ, List.set_cons_zero]
      refine lex_pred (p := pNew ⟨#[98, 111, 97, 116]⟩ bo) rfl ?_ ?_
      · intro x u hR hf
        clear hR hf
        go_simp
        exact ⟨⟨_, rfl, Ext.new (Ext.refl _)⟩, (Ext.refl _).alloc _⟩
      simp only [Act.put, List.setIfInBounds_toArray, List.set_cons_succ, List.set_cons_zero]
      refine lex_nil fun x W6 hE hfacts => ?_
      obtain ⟨gn, hx7, hgn⟩ : pNew ⟨#[98, 111, 97, 116]⟩ bo (x 7) W6 := hfacts 7 _ (by omega) rfl
      rw [hx7]
      clear hfacts hx7 x
      obtain ⟨i0, hi0, hz0, hz1, hz2⟩ := info_parts info49
      have HZ := hid (And.intro hi0 (And.intro hz0 (And.intro hz1 hz2)))
      clear hi0 hz0 hz1 hz2
      have HXe := hid (HXn.out.trans hE)
      have HRW := hid (HROW.out.mono hE)
      have HBe := hid (hE.block HBn.out)
      have HRe := hid (hE.block HRn.out)
      have HGe := hid (hE.block HGn.out)
      have HNW : Hid (∀ j u, (stkC ⟨⟨#[98, 111, 97, 116]⟩, bo⟩)[j]? = some u → W6.cell? ((⟨gn, 0, none⟩ : Addr).add j) = some u) := fun j u hj => by rw [Addr.add_mid, Nat.zero_add, cell_of hgn]; simpa [stkC] using hj
      clear HXn HBn HRn HGn HROW HN hE
      gi_wp2_with (refine wpIn_append_row (fun _ => trivial) rfl (.tmp 14) (.tmp 21) rfl Tryz.underlying22 HZ.out.1 HZ.out.2.1 HZ.out.2.2.1 HZ.out.2.2.2 (by simp [Value.cells]) (by omega) (v := .slice na 0 nc) rfl HRW.out ⟨gn, 0, none⟩ 1 rfl (stkC ⟨⟨#[98, 111, 97, 116]⟩, bo⟩) rfl HNW.out (fun u hu => by simp [stkC] at hu; rcases hu with rfl | rfl <;> rfl) (by omega) (by omega) ?_; intro v' w' hrow' hgr' how')
      have hgl := HGE.out
      have hon := own_next HXe.out (fun q hq => by have := HOWN.out q hq; omega) hgr' how'
      have hb1 := grownBy_block hgr' HBe.out (fun e => by have := HOWN.out _ e.symm; omega)
      have hb2 := grownBy_block hgr' HRe.out (fun e => by have := HOWN.out _ e.symm; omega)
      have hb3 := grownBy_block hgr' HGe.out (fun e => by have := HOWN.out _ e.symm; omega)
      go_roundw
      case rel =>
        refine ⟨1, by omega, by go_num, hid ⟨hon.1, hb1, hb2, hb3, hrow', fun q hq => ?_⟩⟩
        rcases how' with e | e
        · exact HOWN.out q (by rw [← e]; exact hq)
        · rw [hq] at e; cases e; exact lt_of_block HGe.out
      case measure => simp [intOf]
    · have hix := HI1.out wr
      gi_wp2_with (refine wpIn_store_fresh (fun _ => trivial) 119 (.tmp 6) (.tmp 13) rfl (W := wr) (c' := #[.string ⟨#[110, 101, 116, 115]⟩, fnV 97, fnV 55]) rfl rfl rfl size119 rfl (by simp [Value.oneCell']) ?_; refine Hid.out ?_)
      have hxa : Ext wr (wr.alloc (.cells #[.string ⟨#[110, 101, 116, 115]⟩, fnV 97, fnV 55] 119)) := (Ext.refl _).alloc _
      have hn : (wr.alloc (.cells #[.string ⟨#[110, 101, 116, 115]⟩, fnV 97, fnV 55] 119)).heap[wr.heap.size]? = some (.cells #[.string ⟨#[110, 101, 116, 115]⟩, fnV 97, fnV 55] 119 (0, 0)) := Ext.new (Ext.refl _)
      have HXn := hid (HI.out.1.trans hxa)
      have HBn := hid (hxa.block HI.out.2.1)
      have HRn := hid (hxa.block HI.out.2.2.1)
      have HGn := hid (hxa.block HI.out.2.2.2.1)
      have HROW := hid (HI.out.2.2.2.2.1.mono hxa)
      have HOWN := hid HI.out.2.2.2.2.2
      have HN := hid hn
      clear HI hxa hix hn
      refine hid ?_
      generalize wr.alloc (.cells #[.string ⟨#[110, 101, 116, 115]⟩, fnV 97, fnV 55] 119) = W3 at *
      generalize wr.heap.size = nb at *
      obtain ⟨na, nc, rfl⟩ := HROW.out.isSliceN
      gi_upto_region 6 with fail
      refine lex_wide 8 [(7, pNew ⟨#[110, 101, 116, 115]⟩ ne)] (by kernel_rfl) (by kernel_rfl) (nStab_cons (pNew_s _ _) nStab_nil) ?_
      simp only [List.take_succ_cons, List.take_zero, List.drop_succ_cons, List.drop_zero]
      apply lex_fun (rfl : psAt _ _ = none)
      · intro x u hR hf
        clear hR hf
        go_simp
        exact ⟨rfl, Ext.refl _⟩
      simp only [Act.put, List.setIfInBounds_toArray, List.set_cons_succ, List.set_cons_zero]
      apply lex_fun (rfl : psAt _ _ = none)
      · intro x u hR hf
        clear hR hf
        go_simp
        exact ⟨rfl, Ext.refl _⟩
      simp only [Act.put, List.setIfInBounds_toArray, List.set_cons_succ, List.set_cons_zero]
      apply lex_fun (rfl : psAt _ _ = none)
      · intro x u hR hf
        have c0 := cell_of (hR.block HN.out)
        clear hR hf
        go_simp
        exact ⟨rfl, Ext.refl _⟩
      simp only [Act.put, List.setIfInBounds_toArray, List.set_cons_succ, List.set_cons_zero]
      apply lex_fun (rfl : psAt _ _ = none)
      · intro x u hR hf
        clear hR hf
        go_simp
        exact ⟨rfl, Ext.refl _⟩
      simp only [Act.put, List.setIfInBounds_toArray, List.set_cons_succ, List.set_cons_zero]
      apply lex_fun (rfl : psAt _ _ = none)
      · intro x u hR hf
        clear hR hf
        go_simp
        exact ⟨rfl, Ext.refl _⟩
      simp only [Act.put, List.setIfInBounds_toArray, List.set_cons_succ, List.set_cons_zero]
      apply lex_fun (rfl : psAt _ _ = none)
      · intro x u hR hf
        have c0 := cell_of (hR.block HGn.out)
        clear hR hf
        go_simp
        exact ⟨rfl, Ext.refl _⟩
      simp only [Act.put, List.setIfInBounds_toArray, List.set_cons_succ, List.set_cons_zero]
      apply lex_fun (rfl : psAt _ _ = none)
      · intro x u hR hf
        clear hR hf
        go_simp
        exact ⟨rfl, Ext.refl _⟩
      simp only [Act.put, List.setIfInBounds_toArray, List.set_cons_succ, List.set_cons_zero]
      refine lex_pred (p := pNew ⟨#[110, 101, 116, 115]⟩ ne) rfl ?_ ?_
      · intro x u hR hf
        clear hR hf
        go_simp
        exact ⟨⟨_, rfl, Ext.new (Ext.refl _)⟩, (Ext.refl _).alloc _⟩
      simp only [Act.put, List.setIfInBounds_toArray, List.set_cons_succ, List.set_cons_zero]
      refine lex_nil fun x W6 hE hfacts => ?_
      obtain ⟨gn, hx7, hgn⟩ : pNew ⟨#[110, 101, 116, 115]⟩ ne (x 7) W6 := hfacts 7 _ (by omega) rfl
      rw [hx7]
      clear hfacts hx7 x
      obtain ⟨i0, hi0, hz0, hz1, hz2⟩ := info_parts info49
      have HZ := hid (And.intro hi0 (And.intro hz0 (And.intro hz1 hz2)))
      clear hi0 hz0 hz1 hz2
      have HXe := hid (HXn.out.trans hE)
      have HRW := hid (HROW.out.mono hE)
      have HBe := hid (hE.block HBn.out)
      have HRe := hid (hE.block HRn.out)
      have HGe := hid (hE.block HGn.out)
      have HNW : Hid (∀ j u, (stkC ⟨⟨#[110, 101, 116, 115]⟩, ne⟩)[j]? = some u → W6.cell? ((⟨gn, 0, none⟩ : Addr).add j) = some u) := fun j u hj => by rw [Addr.add_mid, Nat.zero_add, cell_of hgn]; simpa [stkC] using hj
      clear HXn HBn HRn HGn HROW HN hE
      gi_wp2_with (refine wpIn_append_row (fun _ => trivial) rfl (.tmp 14) (.tmp 21) rfl Tryz.underlying22 HZ.out.1 HZ.out.2.1 HZ.out.2.2.1 HZ.out.2.2.2 (by simp [Value.cells]) (by omega) (v := .slice na 1 nc) rfl HRW.out ⟨gn, 0, none⟩ 1 rfl (stkC ⟨⟨#[110, 101, 116, 115]⟩, ne⟩) rfl HNW.out (fun u hu => by simp [stkC] at hu; rcases hu with rfl | rfl <;> rfl) (by omega) (by omega) ?_; intro v' w' hrow' hgr' how')
      have hgl := HGE.out
      have hon := own_next HXe.out (fun q hq => by have := HOWN.out q hq; omega) hgr' how'
      have hb1 := grownBy_block hgr' HBe.out (fun e => by have := HOWN.out _ e.symm; omega)
      have hb2 := grownBy_block hgr' HRe.out (fun e => by have := HOWN.out _ e.symm; omega)
      have hb3 := grownBy_block hgr' HGe.out (fun e => by have := HOWN.out _ e.symm; omega)
      go_roundw
      case rel =>
        refine ⟨2, by omega, by go_num, hid ⟨hon.1, hb1, hb2, hb3, hrow', fun q hq => ?_⟩⟩
        rcases how' with e | e
        · exact HOWN.out q (by rw [← e]; exact hq)
        · rw [hq] at e; cases e; exact lt_of_block HGe.out
      case measure => simp [intOf]
    · have hix := HI2.out wr
      gi_wp2_with (refine wpIn_store_fresh (fun _ => trivial) 119 (.tmp 6) (.tmp 13) rfl (W := wr) (c' := #[.string ⟨#[99, 114, 101, 119]⟩, fnV 98, fnV 98]) rfl rfl rfl size119 rfl (by simp [Value.oneCell']) ?_; refine Hid.out ?_)
      have hxa : Ext wr (wr.alloc (.cells #[.string ⟨#[99, 114, 101, 119]⟩, fnV 98, fnV 98] 119)) := (Ext.refl _).alloc _
      have hn : (wr.alloc (.cells #[.string ⟨#[99, 114, 101, 119]⟩, fnV 98, fnV 98] 119)).heap[wr.heap.size]? = some (.cells #[.string ⟨#[99, 114, 101, 119]⟩, fnV 98, fnV 98] 119 (0, 0)) := Ext.new (Ext.refl _)
      have HXn := hid (HI.out.1.trans hxa)
      have HBn := hid (hxa.block HI.out.2.1)
      have HRn := hid (hxa.block HI.out.2.2.1)
      have HGn := hid (hxa.block HI.out.2.2.2.1)
      have HROW := hid (HI.out.2.2.2.2.1.mono hxa)
      have HOWN := hid HI.out.2.2.2.2.2
      have HN := hid hn
      clear HI hxa hix hn
      refine hid ?_
      generalize wr.alloc (.cells #[.string ⟨#[99, 114, 101, 119]⟩, fnV 98, fnV 98] 119) = W3 at *
      generalize wr.heap.size = nb at *
      obtain ⟨na, nc, rfl⟩ := HROW.out.isSliceN
      gi_upto_region 6 with fail
      refine lex_wide 8 [(7, pNew ⟨#[99, 114, 101, 119]⟩ cr)] (by kernel_rfl) (by kernel_rfl) (nStab_cons (pNew_s _ _) nStab_nil) ?_
      simp only [List.take_succ_cons, List.take_zero, List.drop_succ_cons, List.drop_zero]
      apply lex_fun (rfl : psAt _ _ = none)
      · intro x u hR hf
        clear hR hf
        go_simp
        exact ⟨rfl, Ext.refl _⟩
      simp only [Act.put, List.setIfInBounds_toArray, List.set_cons_succ, List.set_cons_zero]
      apply lex_fun (rfl : psAt _ _ = none)
      · intro x u hR hf
        clear hR hf
        go_simp
        exact ⟨rfl, Ext.refl _⟩
      simp only [Act.put, List.setIfInBounds_toArray, List.set_cons_succ, List.set_cons_zero]
      apply lex_fun (rfl : psAt _ _ = none)
      · intro x u hR hf
        have c0 := cell_of (hR.block HN.out)
        clear hR hf
        go_simp
        exact ⟨rfl, Ext.refl _⟩
      simp only [Act.put, List.setIfInBounds_toArray, List.set_cons_succ, List.set_cons_zero]
      apply lex_fun (rfl : psAt _ _ = none)
      · intro x u hR hf
        clear hR hf
        go_simp
        exact ⟨rfl, Ext.refl _⟩
      simp only [Act.put, List.setIfInBounds_toArray, List.set_cons_succ, List.set_cons_zero]
      apply lex_fun (rfl : psAt _ _ = none)
      · intro x u hR hf
        clear hR hf
        go_simp
        exact ⟨rfl, Ext.refl _⟩
      simp only [Act.put, List.setIfInBounds_toArray, List.set_cons_succ, List.set_cons_zero]
      apply lex_fun (rfl : psAt _ _ = none)
      · intro x u hR hf
        have c0 := cell_of (hR.block HGn.out)
        clear hR hf
        go_simp
        exact ⟨rfl, Ext.refl _⟩
      simp only [Act.put, List.setIfInBounds_toArray, List.set_cons_succ, List.set_cons_zero]
      apply lex_fun (rfl : psAt _ _ = none)
      · intro x u hR hf
        clear hR hf
        go_simp
        exact ⟨rfl, Ext.refl _⟩
      simp only [Act.put, List.setIfInBounds_toArray, List.set_cons_succ, List.set_cons_zero]
      refine lex_pred (p := pNew ⟨#[99, 114, 101, 119]⟩ cr) rfl ?_ ?_
      · intro x u hR hf
        clear hR hf
        go_simp
        exact ⟨⟨_, rfl, Ext.new (Ext.refl _)⟩, (Ext.refl _).alloc _⟩
      simp only [Act.put, List.setIfInBounds_toArray, List.set_cons_succ, List.set_cons_zero]
      refine lex_nil fun x W6 hE hfacts => ?_
      obtain ⟨gn, hx7, hgn⟩ : pNew ⟨#[99, 114, 101, 119]⟩ cr (x 7) W6 := hfacts 7 _ (by omega) rfl
      rw [hx7]
      clear hfacts hx7 x
      obtain ⟨i0, hi0, hz0, hz1, hz2⟩ := info_parts info49
      have HZ := hid (And.intro hi0 (And.intro hz0 (And.intro hz1 hz2)))
      clear hi0 hz0 hz1 hz2
      have HXe := hid (HXn.out.trans hE)
      have HRW := hid (HROW.out.mono hE)
      have HBe := hid (hE.block HBn.out)
      have HRe := hid (hE.block HRn.out)
      have HGe := hid (hE.block HGn.out)
      have HNW : Hid (∀ j u, (stkC ⟨⟨#[99, 114, 101, 119]⟩, cr⟩)[j]? = some u → W6.cell? ((⟨gn, 0, none⟩ : Addr).add j) = some u) := fun j u hj => by rw [Addr.add_mid, Nat.zero_add, cell_of hgn]; simpa [stkC] using hj
      clear HXn HBn HRn HGn HROW HN hE
      gi_wp2_with (refine wpIn_append_row (fun _ => trivial) rfl (.tmp 14) (.tmp 21) rfl Tryz.underlying22 HZ.out.1 HZ.out.2.1 HZ.out.2.2.1 HZ.out.2.2.2 (by simp [Value.cells]) (by omega) (v := .slice na 2 nc) rfl HRW.out ⟨gn, 0, none⟩ 1 rfl (stkC ⟨⟨#[99, 114, 101, 119]⟩, cr⟩) rfl HNW.out (fun u hu => by simp [stkC] at hu; rcases hu with rfl | rfl <;> rfl) (by omega) (by omega) ?_; intro v' w' hrow' hgr' how')
      have hgl := HGE.out
      have hon := own_next HXe.out (fun q hq => by have := HOWN.out q hq; omega) hgr' how'
      have hb1 := grownBy_block hgr' HBe.out (fun e => by have := HOWN.out _ e.symm; omega)
      have hb2 := grownBy_block hgr' HRe.out (fun e => by have := HOWN.out _ e.symm; omega)
      have hb3 := grownBy_block hgr' HGe.out (fun e => by have := HOWN.out _ e.symm; omega)
      go_roundw
      case rel =>
        refine ⟨3, by omega, by go_num, hid ⟨hon.1, hb1, hb2, hb3, hrow', fun q hq => ?_⟩⟩
        rcases how' with e | e
        · exact HOWN.out q (by rw [← e]; exact hq)
        · rw [hq] at e; cases e; exact lt_of_block HGe.out
      case measure => simp [intOf]
    · obtain ⟨na, nc, rfl⟩ := HI.out.2.2.2.2.1.isSliceN
      have cB := cell_of HI.out.2.1
      have HROW : Hid (Row wr 49 2 (.slice na 3 nc) (threeS bo ne cr).length (stkF (threeS bo ne cr))) := hid HI.out.2.2.2.2.1
      have HX := hid HI.out.1
      have HRR := hid HI.out.2.2.1
      clear HI
      have HD79 := hid (HDV.out)
      have HDQ : Hid (∀ (u : World), Ext wr u → Cal 49 #[.int .i64 (gr - cs.sum), .slice na 3 nc] u fun e w' => ∃ r, e = .returned r ∧ Ext u w' ∧ Hid (Row w' 3 1 r 3 (intsF 3 (giveTo (gr - cs.sum) (threeS bo ne cr))))) := hid (fun (u : World) (hu : Ext wr u) => HDD.out _ u (StakesAt.of_row (HROW.out.mono hu) (by simp [threeS])))
      have HAR := hid arrayAt90
      clear HDV HDD
      obtain ⟨P, hP⟩ : ∃ P, gr - cs.sum = P := ⟨_, rfl⟩
      rw [hP] at HD79 HDQ
      have HPP := hid hP
      clear hP
      gi_wp2_with (first | (gi_at_call 79; ((with_reducible refine (HD79.out _ HX.out).mono ?_); rintro e w3 ⟨rfl, hx3⟩)) | (gi_at_call 49; ((with_reducible refine (HDQ.out _ hx3).mono ?_); rintro e w4 ⟨r, rfl, hx4, hr4⟩; obtain ⟨g4, cap4, cur4, rfl, hcap4, hb4, hc40, _⟩ := Row.cells1 hr4.out (j := 0) (by omega); obtain ⟨g5, cap5, cur5, e5, _, _, hc41, _⟩ := Row.cells1 hr4.out (j := 1) (by omega); obtain ⟨g6, cap6, cur6, e6, _, _, hc42, _⟩ := Row.cells1 hr4.out (j := 2) (by omega); cases e5; cases e6; rw [show (intsF 3 (giveTo P (threeS bo ne cr)))[0]? = some (.int .i64 (giveTo P (threeS bo ne cr) 0)) from rfl] at hc40; rw [show (intsF 3 (giveTo P (threeS bo ne cr)))[1]? = some (.int .i64 (giveTo P (threeS bo ne cr) 1)) from rfl] at hc41; rw [show (intsF 3 (giveTo P (threeS bo ne cr)))[2]? = some (.int .i64 (giveTo P (threeS bo ne cr) 2)) from rfl] at hc42; have hrr := (hx3.trans hx4).block HRR.out; have crr := cell_of hrr; have frr := free_of hrr; have lrr := lt_of_block hrr; have hxx := HX.out.trans (hx3.trans hx4); have har := HAR.out g4 cap4 w4)))
      have hX2 : Ext w (((w4.setCell ⟨w.heap.size + 1, 0, none⟩ (.int .i64 (giveTo P (threeS bo ne cr) 0))).setCell ⟨w.heap.size + 1, 1, none⟩ (.int .i64 (giveTo P (threeS bo ne cr) 1))).setCell ⟨w.heap.size + 1, 2, none⟩ (.int .i64 (giveTo P (threeS bo ne cr) 2))) := ((hxx.set (by omega) _ _).set (by omega) _ _).set (by omega) _ _
      have hs := set_same (set_same (set_same hrr 0 (.int .i64 (giveTo P (threeS bo ne cr) 0))) 1 (.int .i64 (giveTo P (threeS bo ne cr) 1))) 2 (.int .i64 (giveTo P (threeS bo ne cr) 2))
      clear crr frr hc40 hc41 hc42
      generalize ((w4.setCell ⟨w.heap.size + 1, 0, none⟩ (.int .i64 (giveTo P (threeS bo ne cr) 0))).setCell ⟨w.heap.size + 1, 1, none⟩ (.int .i64 (giveTo P (threeS bo ne cr) 1))).setCell ⟨w.heap.size + 1, 2, none⟩ (.int .i64 (giveTo P (threeS bo ne cr) 2)) = W at *
      have hc := cell_of hs
      exact bodyPost_ret (v := .agg #[.int .i64 (giveTo P (threeS bo ne cr) 0), .int .i64 (giveTo P (threeS bo ne cr) 1), .int .i64 (giveTo P (threeS bo ne cr) 2)]) (by simp [results, Tryz.results58, go_sem, hc]) rfl ⟨by rw [HPP.out], hX2⟩
end
end Go.Proofs.YtjocoadhalimjaaGreat
