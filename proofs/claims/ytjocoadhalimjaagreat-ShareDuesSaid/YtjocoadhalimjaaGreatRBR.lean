/- Helpers of the laws over voyages: sound, due. -/
import Derived.Test.YtjocoadhalimjaaGreatRBK
import Derived.Test.YtjocoadhalimjaaGreatRBI
import Derived.Test.YtjocoadhalimjaaGreatRBG
import Derived.Test.YtjocoadhalimjaaGreatRAS
import Derived.Test.YtjocoadhalimjaaGreatRBL
set_option linter.unusedSimpArgs false
set_option linter.unusedVariables false
namespace Go.Proofs.YtjocoadhalimjaaGreat
section
open Go Go.RowKit Go.Shelf

set_option maxRecDepth 100000 in
set_option maxHeartbeats 8000000 in
theorem sound_true (V : Voy) (s : VS) (w : World) (h : VoyAt w V s) (hE : voyE V = 0) : Cal 33 #[.agg (voyA V s)] w fun e w' => e = .returned (.bool true) ∧ Ext w w' := by
  have hok := (voyE_ok hE).1
  have so := stakes_ok hok.ow
  have sl := stakes_ok hok.le
  have sh := stakes_ok hok.ha
  have hxl : V.lo.length ≤ 12 := (lend_ok (voyE_ok hE).2).1
  have HX0 : Hid (Ext w (w.alloc (.cells (voyA V s) 32))) := hid ((Ext.refl _).alloc _)
  have HB0 : Hid ((w.alloc (.cells (voyA V s) 32)).heap[w.heap.size]? = some (.cells (voyA V s) 32 (0, 0))) := hid (Ext.new (Ext.refl _))
  have HCK := hid (fun (u : World) (hu : Ext w u) => Check_ok V s u (h.mono hu) hE)
  have HG := hid (fun (u : World) => In_b V.gr 0 10000000 true u (by have := hok.gr; unfold inB; simp; omega))
  have HO := hid (fun (u : World) (hu : Ext w u) => small_true _ V.ow u (h.ow.mono hu) so.1 fun x hx => (so.2.1 x hx).2)
  have HL := hid (fun (u : World) (hu : Ext w u) => small_true _ V.le u (h.le.mono hu) sl.1 fun x hx => (sl.2.1 x hx).2)
  have HH := hid (fun (u : World) (hu : Ext w u) => small_true _ V.ha u (h.ha.mono hu) sh.1 fun x hx => (sh.2.1 x hx).2)
  have hc1 : decide ((V.cs.length : Int) ≤ 10) = true := decide_eq_true (by have := hok.csl; omega)
  have hc2 : decide ((V.lo.length : Int) ≤ 12) = true := decide_eq_true (by omega)
  have hc1' : V.cs.length ≤ 10 := hok.csl
  clear h hE hok so sl sh
  unfold voyA at *
  gi_enter Tryz.func33, Tryz.ntmps33
  gi_upto_region 1 with fail
  generalize w.alloc (.cells _ 32) = wa at *
  generalize w.heap.size = bx at *
  have c0 := cell_of HB0.out
  gi_wp2_with (first | (gi_at_call 21; ((with_reducible refine (HCK.out _ HX0.out).mono ?_); rintro e w1 ⟨rfl, hx1⟩; have HX1 := hid (HX0.out.trans hx1); have c0 := cell_of (hx1.block HB0.out); clear hx1)) | (gi_at_call 29; ((with_reducible refine (HG.out _).mono ?_); rintro e w2 ⟨rfl, rfl⟩)) | (gi_at_call 28; first | ((with_reducible refine (HO.out _ HX1.out).mono ?_); rintro e w3 ⟨rfl, rfl⟩) | ((with_reducible refine (HL.out _ HX1.out).mono ?_); rintro e w3 ⟨rfl, rfl⟩) | ((with_reducible refine (HH.out _ HX1.out).mono ?_); rintro e w3 ⟨rfl, rfl⟩)))
  go_ret
  exact ⟨rfl, HX1.out⟩
end
section
open Go Go.RowKit Go.Shelf

def dvv (V : Voy) (nm : ByteArray) (j : Nat) : Int := valsD (partL V) (partG V) (lensV V) nm j
theorem size53 : (Tryz.prog.info? 53).map (·.size) = some 4 := by kernel_rfl
theorem dueF_get (V : Voy) : ∀ (ns : List ByteArray) (k : Nat) (h : k < ns.length), (dueF V ns)[k * 4]? = some (.string ns[k]) ∧ (dueF V ns)[k * 4 + 1]? = some (.int .i64 (dvv V ns[k] 0)) ∧ (dueF V ns)[k * 4 + 2]? = some (.int .i64 (dvv V ns[k] 1)) ∧ (dueF V ns)[k * 4 + 3]? = some (.int .i64 (dvv V ns[k] 2))
  | [], k, h => by simp at h
  | a :: ns, 0, h => ⟨rfl, rfl, rfl, rfl⟩
  | a :: ns, k + 1, h => by
    have ih := dueF_get V ns k (by simpa using h)
    have e : dueF V (a :: ns) = dueC V a ++ dueF V ns := rfl
    have hl : (dueC V a).length = 4 := rfl
    have hs : ∀ j, (dueF V (a :: ns))[(k + 1) * 4 + j]? = (dueF V ns)[k * 4 + j]? := fun j => by
      rw [e, List.getElem?_append_right (by omega), hl, show (k + 1) * 4 + j - 4 = k * 4 + j by omega]
    have h0 := hs 0
    simp only [Nat.add_zero] at h0
    rw [h0, hs 1, hs 2, hs 3]
    exact ih
theorem due_cells {w : World} {V : Voy} {ns : List ByteArray} {lv : Value} (h : Row w 53 4 lv ns.length (dueF V ns)) {k : Nat} (hk : k < ns.length) : ∃ g cap, lv = .slice (some ⟨g, 0, none⟩) ns.length cap ∧ g < w.heap.size ∧ (w.cell? ⟨g, k * 4, none⟩ = some (.string ns[k]) ∧ w.cell? ⟨g, k * 4 + 1, none⟩ = some (.int .i64 (dvv V ns[k] 0)) ∧ w.cell? ⟨g, k * 4 + 2, none⟩ = some (.int .i64 (dvv V ns[k] 1)) ∧ w.cell? ⟨g, k * 4 + 3, none⟩ = some (.int .i64 (dvv V ns[k] 2))) := by
  obtain ⟨hl, h⟩ := h
  rcases h with ⟨_, h0⟩ | ⟨g, cap, cur, rfl, hg, h1, h2, h3, h4⟩
  · omega
  · refine ⟨g, cap, rfl, lt_of_block hg, ?_⟩
    obtain ⟨k0, k1, k2, k3⟩ := dueF_get V ns k hk
    have key : ∀ j u, (dueF V ns)[j]? = some u → w.cell? ⟨g, j, none⟩ = some u := fun j u hj => by
      rw [← h4, List.getElem?_take] at hj
      split at hj
      · rw [Array.getElem?_toList] at hj; rw [cell_of hg]; exact hj
      · cases hj
    exact ⟨key _ _ k0, key _ _ k1, key _ _ k2, key _ _ k3⟩
def zeroD : Array Value := #[.string ⟨#[]⟩, .int .i64 0, .int .i64 0, .int .i64 0]
def fullD (nm : ByteArray) (a b c : Int) : Array Value := #[.string nm, .int .i64 a, .int .i64 b, .int .i64 c]
set_option maxRecDepth 100000 in
set_option maxHeartbeats 16000000 in
theorem due_any (V : Voy) (ns : List ByteArray) (lv : Value) (nm : ByteArray) (w : World) (h : Row w 53 4 lv ns.length (dueF V ns)) (hr : ns.Pairwise (fun a b => nmLt a b = true)) (hm : nm ∈ ns) (hl : ns.length ≤ 30) :
    Cal 35 #[lv, .string nm] w fun e w' => e = .returned (.tuple #[.agg (fullD nm (dvv V nm 0) (dvv V nm 1) (dvv V nm 2)), .bool true]) ∧ Ext w w' := by
  obtain ⟨j0, hj0, hnm⟩ := List.getElem_of_mem hm
  have hother : ∀ k (hk : k < ns.length), k ≠ j0 → (ns[k].toList == nm.toList) = false := fun k hk hne => by
    cases he : (ns[k].toList == nm.toList) with
    | false => rfl
    | true =>
      exfalso
      have hk2 : ns[k] = ns[j0] := by rw [hnm]; exact names_inj (by simpa using he)
      rcases Nat.lt_or_gt_of_ne hne with hlt | hlt
      · have := List.pairwise_iff_getElem.1 hr k j0 hk hj0 hlt
        rw [hk2, nmLt_irr] at this; cases this
      · have := List.pairwise_iff_getElem.1 hr j0 k hj0 hk hlt
        rw [hk2, nmLt_irr] at this; cases this
  obtain ⟨la, lc, rfl⟩ := h.isSliceN
  have HC := hid (fun (k : Nat) (hk : k < ns.length) => due_cells h hk)
  have HO := hid hother
  obtain ⟨a, ha⟩ : ∃ a, dvv V nm 0 = a := ⟨_, rfl⟩
  obtain ⟨b, hb⟩ : ∃ a, dvv V nm 1 = a := ⟨_, rfl⟩
  obtain ⟨c, hc⟩ : ∃ a, dvv V nm 2 = a := ⟨_, rfl⟩
  have HJ0 := hid (fun (hk : j0 < ns.length) => (show ∃ g, la = some ⟨g, 0, none⟩ ∧ g < w.heap.size ∧ (w.cell? ⟨g, j0 * 4, none⟩ = some (.string nm) ∧ w.cell? ⟨g, j0 * 4 + 1, none⟩ = some (.int .i64 a) ∧ w.cell? ⟨g, j0 * 4 + 2, none⟩ = some (.int .i64 b) ∧ w.cell? ⟨g, j0 * 4 + 3, none⟩ = some (.int .i64 c)) by
    obtain ⟨g, cap, e, hg, h0⟩ := due_cells h hk
    cases e
    rw [hnm, ha, hb, hc] at h0
    exact ⟨g, rfl, hg, h0⟩))
  rw [ha, hb, hc]
  have HL := hid hl
  have HJL := hid hj0
  clear h hr hm hother hnm ha hb hc hj0 hl
  have HX0 : Hid (Ext w ((w.alloc (.cells #[.string ⟨#[]⟩, .int .i64 0, .int .i64 0, .int .i64 0] 53)).alloc (.cells #[.string ⟨#[]⟩, .int .i64 0, .int .i64 0, .int .i64 0] 53))) := hid (((Ext.refl _).alloc _).alloc _)
  have HA0 := hid (two_new (w := w) (o1 := .cells #[.string ⟨#[]⟩, .int .i64 0, .int .i64 0, .int .i64 0] 53) (o2 := .cells #[.string ⟨#[]⟩, .int .i64 0, .int .i64 0, .int .i64 0] 53))
  have HB0 : Hid (((w.alloc (.cells #[.string ⟨#[]⟩, .int .i64 0, .int .i64 0, .int .i64 0] 53)).alloc (.cells #[.string ⟨#[]⟩, .int .i64 0, .int .i64 0, .int .i64 0] 53)).heap[w.heap.size + 1]? = some (.cells #[.string ⟨#[]⟩, .int .i64 0, .int .i64 0, .int .i64 0] 53 (0, 0))) := hid (by
    have := Ext.new (w := w.alloc (.cells #[.string ⟨#[]⟩, .int .i64 0, .int .i64 0, .int .i64 0] 53)) (o := .cells #[.string ⟨#[]⟩, .int .i64 0, .int .i64 0, .int .i64 0] 53) (Ext.refl _); rwa [World.size_alloc] at this)
  gi_enter Tryz.func35, Tryz.ntmps35
  gi_wp2_with fail
  generalize (w.alloc (.cells _ 53)).alloc (.cells _ 53) = W0 at *
  have HST : Hid (Ext w W0 ∧ W0.heap[w.heap.size]? = some (.cells zeroD 53 (0, 0)) ∧ W0.heap[w.heap.size + 1]? = some (.cells (if j0 < 0 then fullD nm a b c else zeroD) 53 (0, 0))) := hid ⟨HX0.out, HA0.out, HB0.out⟩
  clear HX0 HA0 HB0
  obtain ⟨N, hN⟩ : ∃ N, N = w.heap.size := ⟨_, rfl⟩
  have HN := hid hN
  rw [← hN] at HST ⊢
  clear hN
  gi_loopw [7, 8] (fun ct i wr => ∃ k : Nat, k ≤ ns.length ∧ i = .int .i64 k ∧ ct = .int .i64 (if j0 < k then 1 else 0) ∧ Hid (Ext w wr ∧ wr.heap[N]? = some (.cells zeroD 53 (0, 0)) ∧ wr.heap[N + 1]? = some (.cells (if j0 < k then fullD nm a b c else zeroD) 53 (0, 0)))) (fun _ i _ => ns.length - (intOf i).toNat)
  case atStart => exact ⟨0, Nat.zero_le _, rfl, by simp, HST⟩
  case round =>
    obtain ⟨k, hk, rfl, rfl, HI⟩ := hrel
    clear HST
    by_cases hlt : k < ns.length
    · have hki : (k : Int) < (ns.length : Int) := by omega
      have hll := HL.out
      by_cases hkj : k = j0
      · subst hkj
        obtain ⟨g, rfl, hg, d0, d1, d2, d3⟩ := HJ0.out hlt
        obtain ⟨hx, hb0, hb1⟩ := HI.out
        rw [if_neg (Nat.lt_irrefl _)] at hb1
        rw [← hx.cell (p := ⟨g, _, none⟩) hg] at d0 d1 d2 d3
        rw [if_neg (Nat.lt_irrefl _)]
        have hzz : zeroD = #[.string ⟨#[]⟩, .int .i64 0, .int .i64 0, .int .i64 0] := rfl
        have HXr := hid hx
        have HB1 := hid hb1
        have HB0 := hid hb0
        have HLT := hid hlt
        clear HI hx hb0 hb1 hlt hzz
        gi_upto_region 8 with (refine wpIn_store_at 53 (.tmp 6) (.tmp 25) rfl (fun _ => trivial) (g := N + 1) (off := 0) rfl rfl HB1.out size53 (by simp [zeroD]) (by simp [Value.oneCell']) ?_; refine Hid.out ?_)
        have hk1 := setRow_heap wr (N + 1) _ (fullD nm a b c) 53 (0, 0) HB1.out
        have hX := ext_setRow (g := N + 1) HXr.out (by have := HN.out; omega) (fullD nm a b c)
        have hB := (setRow_other wr (N + 1) N (fullD nm a b c) (by omega)).trans HB0.out
        refine hid ?_
        rw [show (Value.string nm :: Value.int IntKind.i64 a :: Value.int IntKind.i64 b :: Value.int IntKind.i64 c :: List.drop 4 zeroD.toList).toArray = fullD nm a b c from rfl]
        have HNX := hid (And.intro hX (And.intro hB hk1))
        clear hX hB hk1 HXr HB0 HB1 d0 d1 d2 d3
        generalize wr.setRow (N + 1) (fullD nm a b c) = W2 at *
        have hltk := HLT.out
        gi_wp2_with fail
        go_roundw
        case rel => exact ⟨k + 1, by omega, by go_num, by rw [if_pos (Nat.lt_succ_self _)], hid ⟨HNX.out.1, HNX.out.2.1, by rw [if_pos (Nat.lt_succ_self _)]; exact HNX.out.2.2⟩⟩
        case measure => simp [intOf]; omega
      · have heb := HO.out k hlt hkj
        obtain ⟨g, cap, e, hg, d0, _⟩ := HC.out k hlt
        cases e
        obtain ⟨hx, hb01⟩ := HI.out
        rw [← hx.cell (p := ⟨g, _, none⟩) hg] at d0
        have e1 : (if j0 < k + 1 then (1 : Int) else 0) = if j0 < k then 1 else 0 := by
          by_cases h : j0 < k
          · rw [if_pos h, if_pos (by omega)]
          · rw [if_neg h, if_neg (by omega)]
        have e2 : (if j0 < k + 1 then fullD nm a b c else zeroD) = if j0 < k then fullD nm a b c else zeroD := by
          by_cases h : j0 < k
          · rw [if_pos h, if_pos (by omega)]
          · rw [if_neg h, if_neg (by omega)]
        have HE := hid (And.intro e1 e2)
        have HNX := hid (And.intro hx hb01)
        generalize ns[k] = nk at *
        obtain ⟨ct, hct⟩ : ∃ ct : Int, ct = if j0 < k then 1 else 0 := ⟨_, rfl⟩
        have HCT := hid hct
        rw [← hct]
        clear HI hx hb01 e1 e2 hct hkj
        gi_wp2_with fail
        go_roundw
        case rel => exact ⟨k + 1, by omega, by go_num, by rw [HE.out.1, HCT.out], hid ⟨HNX.out.1, HNX.out.2.1, by rw [HE.out.2]; exact HNX.out.2.2⟩⟩
        case measure => simp [intOf]; omega
    · obtain rfl : k = ns.length := by omega
      have hki : ¬ (ns.length : Int) < (ns.length : Int) := by omega
      obtain ⟨hx, hb0, hb1⟩ := HI.out
      have hjl := HJL.out
      rw [if_pos hjl] at hb1
      rw [if_pos hjl]
      have HXr := hid hx
      have HB0 := hid hb0
      have c1 := cell_of (show wr.heap[N + 1]? = some (.cells #[.string nm, .int .i64 a, .int .i64 b, .int .i64 c] 53 (0, 0)) from hb1)
      clear HI hx hb0 hb1 hlt
      gi_wp2_with (refine wpIn_store_at 53 (.tmp 4) (.tmp 28) rfl (fun _ => trivial) (g := N) (off := 0) rfl rfl HB0.out size53 (by simp [zeroD]) (by simp [Value.oneCell']) ?_; refine Hid.out ?_)
      have hk1 := setRow_heap wr N _ (fullD nm a b c) 53 (0, 0) HB0.out
      have hX := ext_setRow (g := N) HXr.out (by have := HN.out; omega) (fullD nm a b c)
      refine hid ?_
      rw [show (Value.string nm :: Value.int IntKind.i64 a :: Value.int IntKind.i64 b :: Value.int IntKind.i64 c :: List.drop 4 zeroD.toList).toArray = fullD nm a b c from rfl]
      clear HXr HB0 c1
      generalize wr.setRow N (fullD nm a b c) = W2 at *
      have hc9 := cell_of hk1
      unfold fullD at hc9
      gi_wp2_with fail
      exact bodyPost_ret (v := .tuple #[.agg (fullD nm a b c), .bool true]) (by simp [results, Tryz.results35, go_sem, hc9, fullD]) rfl ⟨rfl, hX⟩
end
end Go.Proofs.YtjocoadhalimjaaGreat
