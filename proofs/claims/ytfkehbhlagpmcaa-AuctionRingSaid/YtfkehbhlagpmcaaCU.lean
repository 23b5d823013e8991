/- The lots. -/
import Derived.Test.YtfkehbhlagpmcaaCI
import Derived.Test.YtfkehbhlagpmcaaCS
set_option linter.unusedSimpArgs false
set_option linter.unusedVariables false
namespace Go.Proofs.Ytfkehbhlagpmcaa
open Go Go.RowKit Go.Shelf
open Au
def natsV (f : List Nat) : List Value := f.map fun i : Nat => .int .i64 (i : Int)
theorem natsV_snoc (f : List Nat) (k : Nat) : natsV (f ++ [k]) = natsV f ++ [.int .i64 (k : Int)] := by simp [natsV]
theorem ints_row {w : World} {v : Value} {f : List Nat} (h : Row w 3 1 v f.length (natsV f)) (hl : f.length ≤ 1000) : IntsAt w v (f.map fun i : Nat => (i : Int)) := by
  obtain ⟨_, h⟩ := h
  rcases h with ⟨rfl, h0⟩ | ⟨g, cap, cur, rfl, hg, h1, h2, h3, h4⟩
  · exact ⟨none, 0, by rw [List.length_map, h0], by rw [List.length_map]; omega, fun i hi => by rw [List.length_map] at hi; omega⟩
  · refine ⟨_, cap, by rw [List.length_map], by rw [List.length_map]; omega, fun i hi => ⟨g, 0, rfl, lt_of_block hg, ?_⟩⟩
    rw [List.length_map] at hi
    have := congrArg (fun l => l[i]?) h4
    simp only [natsV, List.getElem?_map, List.getElem?_eq_getElem hi, Option.map_some] at this
    rw [cell_of hg, Nat.zero_add, ← Array.getElem?_toList]
    rw [List.getElem?_take, if_pos (by omega)] at this
    rw [this]; simp
theorem lotSt_len (l : List Spn) : ∀ k, (lotSt l k).1.length ≤ k
  | 0 => Nat.le_refl _
  | k + 1 => by
    have := lotSt_len l k
    unfold lotSt
    split <;> simp <;> omega
set_option maxRecDepth 100000 in
set_option maxHeartbeats 8000000 in
theorem lots_any (v : Value) (l : List Spn) (w : World) (hv : SpansAt w v l) (h0 : 0 < l.length) (hl40 : l.length ≤ 40) :
    Cal 63 #[v] w fun e w' => ∃ r, e = .returned r ∧ Ext w w' ∧ Hid (Row w' 3 1 r (lotsF l).length (natsV (lotsF l)) ∧ ∀ g, r.ownBlock = some g → w.heap.size ≤ g) := by
  obtain ⟨a, cap, rfl, ⟨hcap, hlen⟩, hc⟩ := hv
  have HC := hid hc
  obtain ⟨b, off, rfl, hbb, hc0, hc1⟩ := hc 0 h0
  have HG0 : Hid (lotSt l 0 = ([], l[0])) := hid (by unfold lotSt; rw [getD_of h0])
  clear hc
  generalize l[0] = x at *
  obtain ⟨lo, hi⟩ := x
  simp only [Nat.zero_mul, Nat.add_zero] at hc0 hc1
  gi_enter Try.func63, Try.ntmps63
  gi_upto_region 4 with fail
  have HB0 : Hid ((w.alloc (.cells #[.int .i64 lo, .int .i64 hi] 66)).heap[w.heap.size]? = some (.cells #[.int .i64 (lotSt l 0).2.lo, .int .i64 (lotSt l 0).2.hi] 66 (0, 0))) := hid (by rw [HG0.out]; exact Ext.new (Ext.refl _))
  have HX0 : Hid (Ext w (w.alloc (.cells #[.int .i64 lo, .int .i64 hi] 66))) := hid ((Ext.refl _).alloc _)
  have HR0 : Hid (Row (w.alloc (.cells #[.int .i64 lo, .int .i64 hi] 66)) 3 1 (.slice none 0 0) (lotSt l 0).1.length (natsV (lotSt l 0).1)) := hid (by rw [HG0.out]; exact Row.nil (w.alloc (.cells #[.int .i64 lo, .int .i64 hi] 66)) 3 1)
  clear hc0 hc1
  generalize w.alloc (.cells #[.int .i64 lo, .int .i64 hi] 66) = W at *
  gi_loopw [3, 12] (fun v i wr => ∃ k : Nat, k ≤ l.length ∧ i = .int .i64 k ∧ Hid (Ext w wr ∧ wr.heap[w.heap.size]? = some (.cells #[.int .i64 (lotSt l k).2.lo, .int .i64 (lotSt l k).2.hi] 66 (0, 0)) ∧ Row wr 3 1 v (lotSt l k).1.length (natsV (lotSt l k).1) ∧ ∀ g, v.ownBlock = some g → w.heap.size + 1 ≤ g)) (fun _ i _ => l.length - (intOf i).toNat)
  case atStart => exact ⟨0, Nat.zero_le _, rfl, hid ⟨HX0.out, HB0.out, HR0.out, fun g hg => by simp [Value.ownBlock] at hg⟩⟩
  case round =>
    obtain ⟨k, hk, rfl, HI⟩ := hrel
    clear HB0 HX0 HR0
    by_cases hlt : k < l.length
    · obtain ⟨b', off', e, hbb', hc0, hc1⟩ := HC.out k hlt
      cases e
      rw [← HI.out.1.cell (p := ⟨b, _, none⟩) hbb'] at hc0 hc1
      have HST : Hid (lotSt l (k + 1) = if k = 0 ∨ (com (lotSt l k).2 l[k]).hi < (com (lotSt l k).2 l[k]).lo then ((lotSt l k).1 ++ [k], l[k]) else ((lotSt l k).1, com (lotSt l k).2 l[k])) := hid (by rw [← getD_of (d := noSpn) hlt]; rfl)
      have hfl := lotSt_len l k
      generalize l[k] = x at *
      generalize lotSt l k = st at *
      obtain ⟨f, gl, gh⟩ := st
      obtain ⟨p, q⟩ := x
      simp only at hc0 hc1 hfl
      have HX := hid HI.out.1
      have HB := hid HI.out.2.1
      have HRW := hid HI.out.2.2.1
      have HOWN := hid HI.out.2.2.2
      simp only at HB HRW
      have hb := HB.out
      have cb := cell_of hb
      have fb := free_of hb
      have hlb := lt_of_block hb
      clear HI hb
      gi_upto_region 7 with (gi_at_call 83; ((with_reducible refine (common_any _ _ _ _ _).mono ?_); rintro e w1 ⟨rfl, hx1⟩; have hx2 := ((Ext.refl wr).alloc (.cells #[.int .i64 p, .int .i64 q] 66)).trans hx1; have HB2 := hid (hx2.block HB.out); have H6 := hid (hx1.block (Ext.new (Ext.refl _))); have cb2 := cell_of HB2.out; have fb2 := free_of HB2.out))
      have HM : Hid (com ⟨gl, gh⟩ ⟨p, q⟩ = ⟨max gl p, min gh q⟩) := hid rfl
      rw [HM.out] at HST
      have e1 := set_same HB2.out 0 (.int .i64 (max gl p))
      have e2 := set_same e1 1 (.int .i64 (min gh q))
      simp only [List.setIfInBounds_toArray, List.set_cons_succ, List.set_cons_zero] at e2
      have e6 := H6.out
      have hne : wr.heap.size ≠ w.heap.size := by omega
      rw [← set_other (w := w1) (g := w.heap.size) hne 0 (.int .i64 (max gl p)), ← set_other (g := w.heap.size) hne 1 (.int .i64 (min gh q))] at e6
      have hE := ((HX.out.trans hx2).set (b := w.heap.size) (Nat.le_refl _) 0 (.int .i64 (max gl p))).set (b := w.heap.size) (Nat.le_refl _) 1 (.int .i64 (min gh q))
      have hrw := (HRW.out.mono hx2).set (g := w.heap.size) (fun e => by have := HOWN.out _ e; omega) 0 (.int .i64 (max gl p))
      have hrw := hrw.set (g := w.heap.size) (fun e => by have := HOWN.out _ e; omega) 1 (.int .i64 (min gh q))
      have HE := hid (And.intro hE (And.intro e2 (And.intro e6 hrw)))
      generalize max gl p = M at *
      generalize min gh q = mm at *
      clear e1 e2 hE e6 hrw cb2 fb2 cb fb HB2 H6 hx2 hx1 hc0 hc1 HB HRW HX
      generalize (w1.setCell ⟨w.heap.size, 0, none⟩ (.int .i64 M)).setCell ⟨w.heap.size, 1, none⟩ (.int .i64 mm) = W6 at *
      obtain ⟨i0, hi0, hz0, hz1, hz2⟩ := info_parts info3
      have HZ := hid (And.intro hi0 (And.intro hz0 (And.intro hz1 hz2)))
      have hmax : f.length + 1 ≤ 1000000000 := by omega
      clear hi0 hz0 hz1 hz2
      by_cases hk0 : k = 0
      · subst hk0
        have hsp := Ext.refl W6
        have hxn := (Ext.refl (W6)).alloc (.cells #[.int .i64 0] 3)
        have HRA := hid ((HE.out.2.2.2.mono hsp).mono hxn)
        have HXA := hid (hsp.trans hxn)
        have HNW : Hid (∀ j y, ([.int .i64 0] : List Value)[j]? = some y → ((W6).alloc (.cells #[.int .i64 0] 3)).cell? ((⟨(W6).heap.size, 0, none⟩ : Addr).add j) = some y) := fun j y hj => by rw [Addr.add_mid, Nat.zero_add, new_cell _ _ rfl]; simpa using hj
        clear hxn hsp
        gi_upto_region 9 with (refine wpIn_append_row (fun _ => trivial) rfl (.tmp 27) (.tmp 29) rfl Try.underlying35 HZ.out.1 HZ.out.2.1 HZ.out.2.2.1 HZ.out.2.2.2 (by simp [Value.cells]) (by omega) (v := u3) rfl HRA.out ⟨(W6).heap.size, 0, none⟩ 1 rfl [.int .i64 0] rfl HNW.out (fun u hu => by simp at hu; subst hu; rfl) hmax (by omega) ?_; intro v' w' hrow' hgr' how'; obtain ⟨sa', sn', sc', rfl⟩ := hrow'.isSlice)
        have b4 := grownBy_block hgr' (HXA.out.block HE.out.2.1) (fun e => by have := HOWN.out _ e.symm; omega)
        have hs6 := HXA.out.size
        simp only [World.size_alloc] at hs6
        have hw6 := lt_of_block HE.out.2.2.1
        have HS2 : Hid (lotSt l ((0 : Nat) + 1) = (f ++ [(0 : Nat)], ⟨p, q⟩)) := hid (by rw [HST.out, if_pos (.inl rfl)])
        have hown' : ∀ g, (Value.slice sa' sn' sc').ownBlock = some g → w.heap.size + 1 ≤ g := fun g hg => by
          rcases how' with e | e
          · exact HOWN.out g (by rw [← e]; exact hg)
          · rw [hg] at e; cases e; simp; omega
        have b6 := grownBy_block hgr' (HXA.out.block HE.out.2.2.1) (fun e => by
          rcases HRA.out.2 with ⟨e2, _⟩ | ⟨g, c2, cu, e2, hgb, _⟩
          · rw [e2] at e; simp [Value.ownBlock] at e
          · rw [e2] at e
            simp [Value.ownBlock] at e
            have h9 := HXA.out.block HE.out.2.2.1
            rw [e, hgb] at h9
            cases h9)
        have hx4 : Ext w w' := ext_grown (HE.out.1.trans HXA.out) hgr' fun g hg => by have := HOWN.out g hg; omega
        have c4 := cell_of b4
        have f4 := free_of b4
        have c6 := cell_of b6
        have HI2 := hid (And.intro b4 (And.intro hx4 (And.intro hrow' hown')))
        clear b4 b6 hx4 hrow' how' hown' hgr'
        gi_wp2
        have e1 := set_same HI2.out.1 0 (.int .i64 p)
        have e2 := set_same e1 1 (.int .i64 q)
        simp only [List.setIfInBounds_toArray, List.set_cons_succ, List.set_cons_zero] at e2
        have hE := (HI2.out.2.1.set (b := w.heap.size) (Nat.le_refl _) 0 (.int .i64 p)).set (b := w.heap.size) (Nat.le_refl _) 1 (.int .i64 q)
        have hrw := HI2.out.2.2.1.set (g := w.heap.size) (fun e => by have := HI2.out.2.2.2 _ e; omega) 0 (.int .i64 p)
        have hrw := hrw.set (g := w.heap.size) (fun e => by have := HI2.out.2.2.2 _ e; omega) 1 (.int .i64 q)
        have HI3 := hid (And.intro hE (And.intro e2 (And.intro hrw HI2.out.2.2.2)))
        clear e1 e2 hE hrw
        go_roundw
        case rel => exact ⟨(0 : Nat) + 1, by omega, by (first | go_num | rfl), by rw [HS2.out, natsV_snoc, show (f ++ [(0 : Nat)]).length = f.length + 1 from by simp]; exact HI3⟩
        case measure => simp [intOf]; omega
      · have hk1 : ¬ (k : Int) = 0 := by omega
        have c4 := cell_of HE.out.2.1
        by_cases hmM : M ≤ mm
        · have HS2 : Hid (lotSt l (k + 1) = (f, ⟨M, mm⟩)) := hid (by rw [HST.out, if_neg (by rintro (h | h); exact hk0 h; exact absurd h (Int.not_lt.2 hmM))])
          have HSP := hid (show decide (M ≤ mm) = true by simpa using hmM)
          clear hmM
          gi_wp2_with (gi_at_call 82; ((with_reducible refine (isSpan_b _ _ true _ HSP.out).mono ?_); rintro e w2 ⟨rfl, hx2⟩))
          have HI3 := hid (And.intro (HE.out.1.trans hx2) (And.intro (hx2.block HE.out.2.1) (And.intro (HE.out.2.2.2.mono hx2) HOWN.out)))
          clear hx2 c4
          go_roundw
          case rel => exact ⟨k + 1, by omega, by go_num, by rw [HS2.out]; exact HI3⟩
          case measure => simp [intOf]; omega
        · have HSP := hid (show decide (M ≤ mm) = false by simpa using hmM)
          have HMM := hid (show mm < M by omega)
          clear hmM
          gi_upto_region 8 with (gi_at_call 82; ((with_reducible refine (isSpan_b _ _ false _ HSP.out).mono ?_); rintro e w2 ⟨rfl, hx2⟩))
          have hsp := hx2
          have hxn := (Ext.refl (w2)).alloc (.cells #[.int .i64 (k : Int)] 3)
          have HRA := hid ((HE.out.2.2.2.mono hsp).mono hxn)
          have HXA := hid (hsp.trans hxn)
          have HNW : Hid (∀ j y, ([.int .i64 (k : Int)] : List Value)[j]? = some y → ((w2).alloc (.cells #[.int .i64 (k : Int)] 3)).cell? ((⟨(w2).heap.size, 0, none⟩ : Addr).add j) = some y) := fun j y hj => by rw [Addr.add_mid, Nat.zero_add, new_cell _ _ rfl]; simpa using hj
          clear hxn hsp
          gi_upto_region 9 with (refine wpIn_append_row (fun _ => trivial) rfl (.tmp 27) (.tmp 29) rfl Try.underlying35 HZ.out.1 HZ.out.2.1 HZ.out.2.2.1 HZ.out.2.2.2 (by simp [Value.cells]) (by omega) (v := u3) rfl HRA.out ⟨(w2).heap.size, 0, none⟩ 1 rfl [.int .i64 (k : Int)] rfl HNW.out (fun u hu => by simp at hu; subst hu; rfl) hmax (by omega) ?_; intro v' w' hrow' hgr' how'; obtain ⟨sa', sn', sc', rfl⟩ := hrow'.isSlice)
          have b4 := grownBy_block hgr' (HXA.out.block HE.out.2.1) (fun e => by have := HOWN.out _ e.symm; omega)
          have hs6 := HXA.out.size
          simp only [World.size_alloc] at hs6
          have hw6 := lt_of_block HE.out.2.2.1
          have HS2 : Hid (lotSt l (k + 1) = (f ++ [k], ⟨p, q⟩)) := hid (by rw [HST.out, if_pos (.inr HMM.out)])
          have hown' : ∀ g, (Value.slice sa' sn' sc').ownBlock = some g → w.heap.size + 1 ≤ g := fun g hg => by
            rcases how' with e | e
            · exact HOWN.out g (by rw [← e]; exact hg)
            · rw [hg] at e; cases e; simp; omega
          have b6 := grownBy_block hgr' (HXA.out.block HE.out.2.2.1) (fun e => by
            rcases HRA.out.2 with ⟨e2, _⟩ | ⟨g, c2, cu, e2, hgb, _⟩
            · rw [e2] at e; simp [Value.ownBlock] at e
            · rw [e2] at e
              simp [Value.ownBlock] at e
              have h9 := HXA.out.block HE.out.2.2.1
              rw [e, hgb] at h9
              cases h9)
          have hx4 : Ext w w' := ext_grown (HE.out.1.trans HXA.out) hgr' fun g hg => by have := HOWN.out g hg; omega
          have c4 := cell_of b4
          have f4 := free_of b4
          have c6 := cell_of b6
          have HI2 := hid (And.intro b4 (And.intro hx4 (And.intro hrow' hown')))
          clear b4 b6 hx4 hrow' how' hown' hgr'
          gi_wp2
          have e1 := set_same HI2.out.1 0 (.int .i64 p)
          have e2 := set_same e1 1 (.int .i64 q)
          simp only [List.setIfInBounds_toArray, List.set_cons_succ, List.set_cons_zero] at e2
          have hE := (HI2.out.2.1.set (b := w.heap.size) (Nat.le_refl _) 0 (.int .i64 p)).set (b := w.heap.size) (Nat.le_refl _) 1 (.int .i64 q)
          have hrw := HI2.out.2.2.1.set (g := w.heap.size) (fun e => by have := HI2.out.2.2.2 _ e; omega) 0 (.int .i64 p)
          have hrw := hrw.set (g := w.heap.size) (fun e => by have := HI2.out.2.2.2 _ e; omega) 1 (.int .i64 q)
          have HI3 := hid (And.intro hE (And.intro e2 (And.intro hrw HI2.out.2.2.2)))
          clear e1 e2 hE hrw
          go_roundw
          case rel => exact ⟨k + 1, by omega, by (first | go_num | rfl), by rw [HS2.out, natsV_snoc, show (f ++ [k]).length = f.length + 1 from by simp]; exact HI3⟩
          case measure => simp [intOf]; omega
    · obtain rfl : k = l.length := by omega
      have HR := hid (show Row wr 3 1 u3 (lotsF l).length (natsV (lotsF l)) ∧ ∀ g, u3.ownBlock = some g → w.heap.size ≤ g from ⟨HI.out.2.2.1, fun g hg => by have := HI.out.2.2.2 g hg; omega⟩)
      have HX := hid HI.out.1
      clear HI
      gi_wp2
      go_ret
      exact ⟨_, rfl, HX.out, HR⟩

end Go.Proofs.Ytfkehbhlagpmcaa
