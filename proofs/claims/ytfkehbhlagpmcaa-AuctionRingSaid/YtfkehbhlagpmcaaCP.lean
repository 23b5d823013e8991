/- A sale by the clock: the order of its callers. -/
import Derived.Test.YtfkehbhlagpmcaaCN
set_option linter.unusedSimpArgs false
set_option linter.unusedVariables false
namespace Go.Proofs.Ytfkehbhlagpmcaa
open Go Go.RowKit Go.Shelf
open Au
def ordG (n : Nat) (l : List Int) (k : Nat) : Bool := inB (l.getD k 0) 0 ((n : Int) - 1) && !decide (l.getD k 0 ∈ l.take k)
/-- Whether numbers are an order of callers. -/
def orderB (n : Nat) (l : List Int) : Bool := allTo (ordG n l) l.length && decide (l.length = n)
theorem nodup_range {n : Nat} {o : List Nat} (hn : o.Nodup) (hl : o.length = n) (hm : ∀ i ∈ o, i < n) : ∀ i, i ∈ o ↔ i < n := by
  have hp : o.Perm ((List.range n).filter fun i => decide (i ∈ o)) := (List.perm_ext_iff_of_nodup hn (List.Nodup.sublist List.filter_sublist List.nodup_range)).2 fun i => by
    rw [List.mem_filter, List.mem_range, decide_eq_true_eq]
    exact ⟨fun h => ⟨hm i h, h⟩, fun h => h.2⟩
  have h1 := hp.length_eq
  have h2 : ((List.range n).filter fun i => decide (i ∈ o)).length = (List.range n).length := by rw [← h1, hl, List.length_range]
  rw [List.length_filter_eq_length_iff] at h2
  exact fun i => ⟨hm i, fun h => by simpa using h2 i (List.mem_range.2 h)⟩
theorem order_ok {n : Nat} {l : List Int} (h : orderB n l = true) : Order n (l.map Int.toNat) ∧ l = (l.map Int.toNat).map (fun i : Nat => (i : Int)) := by
  unfold orderB at h
  rw [Bool.and_eq_true, decide_eq_true_eq] at h
  have hg : ∀ k, k < l.length → (0 ≤ l.getD k 0 ∧ l.getD k 0 ≤ (n : Int) - 1) ∧ l.getD k 0 ∉ l.take k := fun k hk => by
    have := h.1
    unfold allTo at this
    rw [List.all_eq_true] at this
    have := this k (List.mem_range.2 hk)
    unfold ordG at this
    rw [Bool.and_eq_true] at this
    exact ⟨inB_spec this.1, by simpa using this.2⟩
  have hin : ∀ x ∈ l, 0 ≤ x ∧ x ≤ (n : Int) - 1 := fun x hx => by
    obtain ⟨i, hi, rfl⟩ := List.getElem_of_mem hx
    have := (hg i hi).1
    rwa [getD_of hi] at this
  have hnd : l.Nodup := by
    unfold List.Nodup
    rw [List.pairwise_iff_getElem]
    intro i j hi hj hij e
    have := (hg j hj).2
    rw [getD_of hj] at this
    exact this (List.mem_take_iff_getElem.2 ⟨i, by omega, e⟩)
  have hback : l = (l.map Int.toNat).map (fun i : Nat => (i : Int)) := by
    rw [List.map_map]
    conv => lhs; rw [← List.map_id l]
    apply List.map_congr_left
    intro x hx
    have := hin x hx
    simp; omega
  refine ⟨⟨?_, nodup_range ?_ (by rw [List.length_map]; exact h.2) fun i hi => ?_⟩, hback⟩
  all_goals try
    show List.Pairwise _ _
    rw [List.pairwise_map]
    refine List.Pairwise.imp_of_mem (fun {a b} ha hb hab e => hab ?_) hnd
    have h1 := hin a ha
    have h2 := hin b hb
    omega
  obtain ⟨x, hx, rfl⟩ := List.mem_map.1 hi
  have := hin x hx
  omega
theorem order_iff {n : Nat} {o : List Nat} (h : Order n o) (hl : o.length = n) : orderB n (o.map fun i : Nat => (i : Int)) = true := by
  unfold orderB
  rw [Bool.and_eq_true, decide_eq_true_eq, List.length_map]
  refine ⟨allTo_yes fun k hk => ?_, hl⟩
  have hg : (o.map fun i : Nat => (i : Int)).getD k 0 = (o[k] : Int) := by rw [getD_of (by simpa using hk)]; simp
  unfold ordG inB
  rw [hg]
  have h1 := (h.mem o[k]).1 (List.getElem_mem _)
  simp only [Bool.and_eq_true, decide_eq_true_eq, Bool.not_eq_true', decide_eq_false_iff_not]
  refine ⟨by omega, fun hm => ?_⟩
  rw [← List.map_take, List.mem_map] at hm
  obtain ⟨i, hi, e⟩ := hm
  have e : i = o[k] := by omega
  subst e
  obtain ⟨j, hj, e⟩ := List.mem_take_iff_getElem.1 hi
  have := (List.getElem_inj (h₀ := by omega) (h₁ := hk) h.nd).1 e
  omega
def occ (l : List Int) (k : Nat) (b : Nat) : Int := if (b : Int) ∈ l.take k then 1 else 0
theorem occ_zero (l : List Int) : a8 (occ l 0) = a8 zero8 := a8_congr fun k _ => by unfold occ zero8; simp
theorem occ_succ (l : List Int) {k m : Nat} (hk : k < l.length) (hm : l[k] = (m : Int)) (hno : (m : Int) ∉ l.take k) : a8 (fun i => if i = m then (1 : Int) else occ l k i) = a8 (occ l (k + 1)) := a8_congr fun i _ => by
  unfold occ
  rw [List.take_succ_eq_append_getElem hk, hm]
  simp only [List.mem_append, List.mem_singleton]
  by_cases h : i = m
  · subst h; simp
  · have : ¬ (i : Int) = (m : Int) := by omega
    simp [h, this]
set_option maxRecDepth 100000 in
set_option maxHeartbeats 4000000 in
theorem isOrder_any (v : Value) (s : Sal) (ov : Value) (l : List Int) (w : World) (hv : ∃ a cap, v = .slice a s.offers.length cap) (hn : s.offers.length ≤ 8) (hov : IntsAt w ov l) :
    Cal 79 #[saleW s v, ov] w fun e w' => e = .returned (.bool (orderB s.offers.length l)) ∧ Ext w w' := by
  have HH := hid (fun (b : Int) (u : World) => has_any s v b u hv (by omega))
  obtain ⟨a, cap, rfl⟩ := hv
  obtain ⟨ao, co, rfl, ⟨hco, hlo⟩, hc⟩ := hov
  have HC := hid hc
  clear hc
  unfold saleW at *
  generalize s.offers.length = n at *
  have HF : Hid (∀ k, k < l.length → ordG n l k = false → orderB n l = false) := hid fun k hk h => by unfold orderB; rw [allTo_no hk h]; rfl
  gi_enter Try.func79, Try.ntmps79
  gi_upto_region 3 with fail
  have HX0 := hid (show Ext w ((w.alloc (.cells #[.int .i64 s.crans, .int .i64 s.least, .slice a n cap, fnV 68] 71)).alloc (.cells (a8 zero8) 90)) from ((Ext.refl _).alloc _).alloc _)
  have HB0 : Hid (((w.alloc (.cells #[.int .i64 s.crans, .int .i64 s.least, .slice a n cap, fnV 68] 71)).alloc (.cells (a8 zero8) 90)).heap[w.heap.size]? = some (.cells #[.int .i64 s.crans, .int .i64 s.least, .slice a n cap, fnV 68] 71 (0, 0))) := hid two_new
  have HB5 : Hid (((w.alloc (.cells #[.int .i64 s.crans, .int .i64 s.least, .slice a n cap, fnV 68] 71)).alloc (.cells (a8 zero8) 90)).heap[w.heap.size + 1]? = some (.cells (a8 (occ l 0)) 90 (0, 0))) := hid (by
    rw [occ_zero]
    have := Ext.new (w := w.alloc (.cells #[.int .i64 s.crans, .int .i64 s.least, .slice a n cap, fnV 68] 71)) (o := .cells (a8 zero8) 90) (Ext.refl _); rwa [World.size_alloc] at this)
  simp only [a8, zero8] at HX0 HB0
  rw [show (w.alloc (.cells #[.int .i64 s.crans, .int .i64 s.least, .slice a n cap, fnV 68] 71)).alloc (.cells (a8 zero8) 90) = (w.alloc (.cells #[.int .i64 s.crans, .int .i64 s.least, .slice a n cap, fnV 68] 71)).alloc (.cells #[.int .i64 0, .int .i64 0, .int .i64 0, .int .i64 0, .int .i64 0, .int .i64 0, .int .i64 0, .int .i64 0] 90) from rfl] at HB5
  generalize (w.alloc (.cells #[.int .i64 s.crans, .int .i64 s.least, .slice a n cap, fnV 68] 71)).alloc (.cells #[.int .i64 0, .int .i64 0, .int .i64 0, .int .i64 0, .int .i64 0, .int .i64 0, .int .i64 0, .int .i64 0] 90) = W at *
  gi_loopw [10] (fun i wr => ∃ k : Nat, k ≤ l.length ∧ i = .int .i64 k ∧ Hid (Ext w wr ∧ wr.heap[w.heap.size]? = some (.cells #[.int .i64 s.crans, .int .i64 s.least, .slice a n cap, fnV 68] 71 (0, 0)) ∧ wr.heap[w.heap.size + 1]? = some (.cells (a8 (occ l k)) 90 (0, 0)) ∧ ∀ j, j < k → ordG n l j = true)) (fun i _ => l.length - (intOf i).toNat)
  case atStart => exact ⟨0, Nat.zero_le _, rfl, hid ⟨HX0.out, HB0.out, HB5.out, fun _ h => absurd h (by omega)⟩⟩
  case round =>
    obtain ⟨k, hk, rfl, HI⟩ := hrel
    clear HX0 HB0 HB5
    have c0 := cell_of HI.out.2.1
    by_cases hlt : k < l.length
    · obtain ⟨b, off, rfl, hbb, hck⟩ := HC.out k hlt
      rw [← HI.out.1.cell (p := ⟨b, _, none⟩) hbb] at hck
      have HG : Hid (ordG n l k = (inB l[k] 0 ((n : Int) - 1) && !decide (l[k] ∈ l.take k))) := hid (by unfold ordG; rw [getD_of hlt])
      cases hin : inB l[k] 0 ((n : Int) - 1) with
      | false =>
        have HFF := hid (HF.out k hlt (by rw [HG.out, hin]; rfl))
        have HHH := hid (fun (u : World) => HH.out l[k] u)
        rw [hin] at HHH
        clear hin HG
        generalize l[k] = x at *
        gi_wp2_with (gi_at_call 53; ((with_reducible refine (HHH.out _).mono ?_); rintro e w1 ⟨rfl, hx1⟩))
        go_ret
        exact ⟨by rw [HFF.out]; rfl, HI.out.1.trans hx1⟩
      | true =>
        have hsp := inB_spec hin
        have HHH := hid (fun (u : World) => HH.out l[k] u)
        rw [hin] at HHH
        obtain ⟨m, hm⟩ : ∃ m : Nat, l[k] = (m : Int) := ⟨l[k].toNat, by omega⟩
        have hm8 : m < 8 := by omega
        have hm9 : (m : Int) < 8 := by omega
        have HS := hid (occ_succ l hlt hm)
        have HMM := hid hm
        rw [hm] at hck HHH
        have hmem : (l[k] ∈ l.take k) ↔ (m : Int) ∈ l.take k := by rw [hm]
        by_cases hno : (m : Int) ∈ l.take k
        · have HFF := hid (HF.out k hlt (by rw [HG.out, decide_eq_true (hmem.2 hno)]; simp))
          have ho : occ l k m = 1 := by unfold occ; rw [if_pos hno]
          clear hin HG hmem hno hm hsp HS
          gi_wp2_with (gi_at_call 53; ((with_reducible refine (HHH.out _).mono ?_); rintro e w1 ⟨rfl, hx1⟩; have ck := cell_of (hx1.block HI.out.2.2.1) m; rw [a8_get _ hm8, ho] at ck))
          go_ret
          exact ⟨by rw [HFF.out]; rfl, HI.out.1.trans hx1⟩
        · have HGT : Hid (∀ j, j < k + 1 → ordG n l j = true) := hid (upTo_succ HI.out.2.2.2 (by rw [HG.out, hin, decide_eq_false (fun h => hno (hmem.1 h))]; rfl))
          have HS2 := hid (HS.out hno)
          have ho : occ l k m = 0 := by unfold occ; rw [if_neg hno]
          clear hin HG hmem hno hm hsp HS
          gi_wp2_with (gi_at_call 53; ((with_reducible refine (HHH.out _).mono ?_); rintro e w1 ⟨rfl, hx1⟩; have hb5 := hx1.block HI.out.2.2.1; have ck := cell_of hb5 m; rw [a8_get _ hm8, ho] at ck; have fk := free_of hb5; have HB5 := hid hb5; have HB0 := hid (hx1.block HI.out.2.1); have HX := hid (HI.out.1.trans hx1); clear hb5 hx1))
          have e5 := set_same HB5.out m (.int .i64 1)
          rw [a8_set _ hm8, HS2.out] at e5
          have e0 := HB0.out
          rw [← set_other (w := w1) (g := w.heap.size + 1) (k := w.heap.size) (by omega) m (.int .i64 1)] at e0
          have HI2 := hid (And.intro (HX.out.set (b := w.heap.size + 1) (by omega) m (.int .i64 1)) (And.intro e0 (And.intro e5 HGT.out)))
          clear e5 e0 HI ck fk c0
          go_roundw
          case rel => exact ⟨k + 1, by omega, by go_num, HI2⟩
          case measure => simp [intOf]; omega
    · obtain rfl : k = l.length := by omega
      have HX := hid HI.out.1
      have HE : Hid (orderB n l = decide (l.length = n)) := hid (by unfold orderB; rw [allTo_yes HI.out.2.2.2]; rfl)
      clear HI
      by_cases hln : l.length = n
      · have HE2 : Hid (orderB n l = true) := hid (by rw [HE.out]; simpa using hln)
        have hli : (l.length : Int) = (n : Int) := by omega
        clear hln HE
        gi_wp2
        go_ret
        exact ⟨by rw [HE2.out]; first | rfl | simp [hli], HX.out⟩
      · have HE2 : Hid (orderB n l = false) := hid (by rw [HE.out]; simpa using hln)
        have hli : ¬ (l.length : Int) = (n : Int) := by omega
        clear hln HE
        gi_wp2
        go_ret
        exact ⟨by rw [HE2.out]; first | rfl | simp [hli], HX.out⟩

end Go.Proofs.Ytfkehbhlagpmcaa
