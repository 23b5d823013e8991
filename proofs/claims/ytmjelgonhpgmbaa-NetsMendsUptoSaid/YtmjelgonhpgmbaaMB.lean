/- How far a net is carried alone. -/
import Derived.Test.YtmjelgonhpgmbaaMA
set_option linter.unusedSimpArgs false
set_option linter.unusedVariables false
namespace Go.Proofs.Ytmjelgonhpgmbaa
open Go Go.RowKit Go.Shelf


theorem alloc_at (w : World) (o : Obj) (k : Nat) : (w.alloc o).heap[k]? = if k = w.heap.size then some o else w.heap[k]? := by
  show (w.heap.push o)[k]? = _
  rw [Array.getElem?_push]
structure FleetD where
  east : List Spn
  north : List Spn
  gap : Int
  nets : List NetD
def spIn (M : Int) (s : Spn) : Prop := (-M ≤ s.lo ∧ s.lo ≤ M) ∧ (-M ≤ s.hi ∧ s.hi ≤ M)
def spAdd (a b : Spn) : Spn := ⟨a.lo + b.lo, a.hi + b.hi⟩
def spNeg (a : Spn) : Spn := ⟨-a.hi, -a.lo⟩
def spMul (n : Int) (a : Spn) : Spn := ⟨n * a.lo, n * a.hi⟩
def sumSp (l : List Spn) : Spn := ⟨sumLo l, sumHi l⟩
theorem sumSp_two (a b : Spn) : sumSp [a, b] = spAdd a b := by simp [sumSp, sumLo, sumHi, spAdd]
theorem sumSp_three (a b c : Spn) : sumSp [a, b, c] = spAdd a (spAdd b c) := by simp [sumSp, sumLo, sumHi, spAdd]
def pSp (l : List Spn) (v : Value) (u : World) : Prop := SpansAt u v l
def nStab (ps : Preds) : Prop := ∀ i p, psAt ps i = some p → ∀ v u u', p v u → Ext u u' → p v u'
theorem nStab_nil : nStab [] := fun i p h => by cases h
theorem nStab_cons {k : Nat} {q : Value → World → Prop} {ps : Preds} (hq : ∀ v u u', q v u → Ext u u' → q v u') (h : nStab ps) : nStab ((k, q) :: ps) := fun i p hp v u u' hv hx => by
  unfold psAt at hp
  split at hp
  · cases hp; exact hq v u u' hv hx
  · exact h i p hp v u u' hv hx
theorem pSp_s (l : List Spn) : ∀ v u u', pSp l v u → Ext u u' → pSp l v u' := fun _ _ _ h k => h.mono k
theorem spans_two {w w1 : World} (a b : Spn) (hx : Ext (w.alloc (.cells #[.int .i64 a.lo, .int .i64 a.hi, .int .i64 b.lo, .int .i64 b.hi] 56)) w1) : SpansAt w1 (.slice (some ⟨w.heap.size, 0, none⟩) 2 2) [a, b] :=
  ⟨_, 2, rfl, by simp, fun i hi => ⟨w.heap.size, 0, rfl, lt_of_block (Ext.new hx), by rw [cell_of (Ext.new hx)]; rcases (by simp at hi; omega : i = 0 ∨ i = 1) with rfl | rfl <;> rfl, by rw [cell_of (Ext.new hx)]; rcases (by simp at hi; omega : i = 0 ∨ i = 1) with rfl | rfl <;> rfl⟩⟩
theorem spans_three {w w1 : World} (a b c : Spn) (hx : Ext (w.alloc (.cells #[.int .i64 a.lo, .int .i64 a.hi, .int .i64 b.lo, .int .i64 b.hi, .int .i64 c.lo, .int .i64 c.hi] 56)) w1) : SpansAt w1 (.slice (some ⟨w.heap.size, 0, none⟩) 3 3) [a, b, c] :=
  ⟨_, 3, rfl, by simp, fun i hi => ⟨w.heap.size, 0, rfl, lt_of_block (Ext.new hx), by rw [cell_of (Ext.new hx)]; rcases (by simp at hi; omega : i = 0 ∨ i = 1 ∨ i = 2) with rfl | rfl | rfl <;> rfl, by rw [cell_of (Ext.new hx)]; rcases (by simp at hi; omega : i = 0 ∨ i = 1 ∨ i = 2) with rfl | rfl | rfl <;> rfl⟩⟩
/-- A part of a list of spans. -/
theorem SpansAt.part {w : World} {b off cap : Nat} {l : List Spn} (h : SpansAt w (.slice (some ⟨b, off, none⟩) l.length cap) l) (s u c : Nat) (hs : s ≤ u) (hu : u ≤ l.length) (hc : u - s ≤ c) :
    SpansAt w (.slice (some ⟨b, off + s * 2, none⟩) (u - s) c) ((l.drop s).take (u - s)) := by
  obtain ⟨a, cap', hv, ⟨h0, h1⟩, hcell⟩ := h
  cases hv
  have hlen : ((l.drop s).take (u - s)).length = u - s := by simp; omega
  refine ⟨some ⟨b, off + s * 2, none⟩, c, by rw [hlen], ⟨by rw [hlen]; exact hc, by rw [hlen]; omega⟩, fun i hi => ?_⟩
  have hi' : s + i < l.length := by rw [hlen] at hi; omega
  obtain ⟨b', off', he, hb, h2, h3⟩ := hcell (s + i) hi'
  cases he
  refine ⟨b, off + s * 2, rfl, hb, ?_, ?_⟩
  · rw [show off + s * 2 + i * 2 = off + (s + i) * 2 by omega, h2]; simp
  · rw [show off + s * 2 + i * 2 + 1 = off + (s + i) * 2 + 1 by omega, h3]; simp
theorem SpansAt.cut {w : World} {b off cap : Nat} {l : List Spn} (h : SpansAt w (.slice (some ⟨b, off, none⟩) l.length cap) l) (s u c : Nat) (hs : s ≤ u) (hu : u ≤ l.length) (hc : u - s ≤ c) :
    SpansAt w (.slice (if u = s then some ⟨b, off, none⟩ else some ⟨b, off + s * 2, none⟩) (u - s) c) ((l.drop s).take (u - s)) := by
  split
  · next e =>
    subst e
    rw [Nat.sub_self, List.take_zero]
    exact ⟨_, c, rfl, ⟨by simp, by simp⟩, fun i hi => absurd hi (by simp)⟩
  · exact h.part s u c hs hu hc
theorem sumSp_bound {l : List Spn} {M : Int} (hM : 0 ≤ M ∧ M ≤ 1000) (h : ∀ s ∈ l, spIn M s) (hl : l.length ≤ 100) : spIn 100000 (sumSp l) := by
  have h1 := sum_bound (f := fun x => x.lo) hM.1 l fun s hs => (h s hs).1
  have h2 := sum_bound (f := fun x => x.hi) hM.1 l fun s hs => (h s hs).2
  have h3 : M * (l.length : Int) ≤ 1000 * 100 := Int.mul_le_mul hM.2 (by omega) (by omega) (by omega)
  unfold spIn sumSp sumLo sumHi
  simp only
  omega
theorem spMul_bound {s : Spn} {n : Int} (hn : 0 ≤ n ∧ n ≤ 100) (h : spIn 1000 s) : spIn 100000 (spMul n s) := by
  unfold spIn at *
  unfold spMul
  have a1 := Int.mul_le_mul_of_nonneg_left h.1.2 hn.1
  have a2 := Int.mul_le_mul_of_nonneg_left h.1.1 hn.1
  have a3 := Int.mul_le_mul_of_nonneg_left h.2.2 hn.1
  have a4 := Int.mul_le_mul_of_nonneg_left h.2.1 hn.1
  have a5 : n * 1000 ≤ 100000 := by omega
  have a6 : -100000 ≤ n * -1000 := by omega
  simp only
  omega


def alone_eF (F : FleetD) (n m : NetD) (h : Int) : Spn := spAdd (sumSp ((F.east.drop n.shot.toNat).take ((mx n.shot m.shot).toNat - n.shot.toNat))) (spMul (h - n.shot) n.se)
set_option maxRecDepth 100000 in
set_option maxHeartbeats 600000 in
theorem alone_e (F : FleetD) (eb eo ec nb no nc : Nat) (sv mv : Value) (n m : NetD) (i k h : Int) (w : World) (hT : SpansAt w (.slice (some ⟨eb, eo, none⟩) F.east.length ec) F.east) (hl : F.east.length ≤ 24) (hb : ∀ s ∈ F.east, spIn 200 s)
    (hn : 0 ≤ n.shot ∧ n.shot ≤ F.east.length) (hm : 0 ≤ m.shot ∧ m.shot ≤ F.east.length) (hh : n.shot ≤ h ∧ h ≤ 24) (hs : spIn 50 n.se) :
    Cal 77 #[.agg #[.slice (some ⟨eb, eo, none⟩) F.east.length ec, .slice (some ⟨nb, no, none⟩) F.north.length nc, .int .i64 F.gap, sv, mv], .agg #[.int .i64 0, .func (.func 84) #[] #[], .func (.func 85) #[] #[], .func (.func 86) #[] #[], .func (.func 87) #[] #[]], .agg #[.int .i64 n.east, .int .i64 n.north, .int .i64 n.long, .int .i64 n.along, .int .i64 n.shot, .int .i64 n.haul, .int .i64 n.se.lo, .int .i64 n.se.hi, .int .i64 n.sn.lo, .int .i64 n.sn.hi, .int .i64 i], .agg #[.int .i64 m.east, .int .i64 m.north, .int .i64 m.long, .int .i64 m.along, .int .i64 m.shot, .int .i64 m.haul, .int .i64 m.se.lo, .int .i64 m.se.hi, .int .i64 m.sn.lo, .int .i64 m.sn.hi, .int .i64 k], .int .i64 h] w fun x w' => x = .returned (spnV (alone_eF F n m h)) ∧ Ext w w' := by
  unfold alone_eF
  obtain ⟨ne, nn, nl, na, s, nh, nse, nsn⟩ := n
  obtain ⟨me, mn', ml, ma, t, mh, mse, msn⟩ := m
  simp only at hn hm hh hs ⊢
  obtain ⟨s, rfl⟩ : ∃ s' : Nat, s = s' := ⟨s.toNat, by omega⟩
  obtain ⟨t, rfl⟩ : ∃ t' : Nat, t = t' := ⟨t.toNat, by omega⟩
  obtain ⟨u, hu, hsu, hul⟩ : ∃ u : Nat, mx (s : Int) (t : Int) = u ∧ s ≤ u ∧ u ≤ F.east.length := ⟨max s t, by unfold mx; split <;> omega, by omega, by omega⟩
  rw [hu, Int.toNat_natCast, Int.toNat_natCast]
  have hcap := (show F.east.length ≤ ec by obtain ⟨_, _, hv, hc, _⟩ := hT; cases hv; exact hc.1)
  have HP := hid (hT.cut s u (u - s) hsu hul (Nat.le_refl _))
  have HSB := hid (sumSp_bound (l := (F.east.drop s).take (u - s)) (by omega : (0 : Int) ≤ 200 ∧ (200 : Int) ≤ 1000) (fun x hx => hb x (List.mem_of_mem_drop (List.mem_of_mem_take hx))) (by rw [List.length_take, List.length_drop]; omega))
  have HIB : Hid (∀ z ∈ (F.east.drop s).take (u - s), (-1000000 ≤ z.lo ∧ z.lo ≤ 1000000) ∧ (-1000000 ≤ z.hi ∧ z.hi ≤ 1000000)) := fun x hx => by
    have := hb x (List.mem_of_mem_drop (List.mem_of_mem_take hx))
    unfold spIn at this
    omega
  have HLN : Hid (((F.east.drop s).take (u - s)).length ≤ 100) := by
    show ((F.east.drop s).take (u - s)).length ≤ 100
    rw [List.length_take, List.length_drop]; omega
  have HMB := hid (spMul_bound (s := nse) (n := h - s) (by omega) (by unfold spIn at *; omega))
  have HSI := hid hs
  clear hT hb
  gi_enter Try.func77, Try.ntmps77
  generalize (F.east.drop s).take (u - s) = T at *

  gi_upto_region 1 with fail
  have hW : Ext w (((((w.alloc (.cells #[.slice (some ⟨eb, eo, none⟩) F.east.length ec, .slice (some ⟨nb, no, none⟩) F.north.length nc, .int .i64 F.gap, sv, mv] 108)).alloc (.cells #[.int .i64 0, .func (.func 84) #[] #[], .func (.func 85) #[] #[], .func (.func 86) #[] #[], .func (.func 87) #[] #[]] 133)).alloc (.cells #[.int .i64 ne, .int .i64 nn, .int .i64 nl, .int .i64 na, .int .i64 s, .int .i64 nh, .int .i64 nse.lo, .int .i64 nse.hi, .int .i64 nsn.lo, .int .i64 nsn.hi, .int .i64 i] 125)).alloc (.cells #[.int .i64 me, .int .i64 mn', .int .i64 ml, .int .i64 ma, .int .i64 t, .int .i64 mh, .int .i64 mse.lo, .int .i64 mse.hi, .int .i64 msn.lo, .int .i64 msn.hi, .int .i64 k] 125)).alloc (.cells #[.int .i64 0, .int .i64 0] 56)) := ((((((Ext.refl _).alloc _).alloc _).alloc _).alloc _).alloc _)
  have hW0 : (((((w.alloc (.cells #[.slice (some ⟨eb, eo, none⟩) F.east.length ec, .slice (some ⟨nb, no, none⟩) F.north.length nc, .int .i64 F.gap, sv, mv] 108)).alloc (.cells #[.int .i64 0, .func (.func 84) #[] #[], .func (.func 85) #[] #[], .func (.func 86) #[] #[], .func (.func 87) #[] #[]] 133)).alloc (.cells #[.int .i64 ne, .int .i64 nn, .int .i64 nl, .int .i64 na, .int .i64 s, .int .i64 nh, .int .i64 nse.lo, .int .i64 nse.hi, .int .i64 nsn.lo, .int .i64 nsn.hi, .int .i64 i] 125)).alloc (.cells #[.int .i64 me, .int .i64 mn', .int .i64 ml, .int .i64 ma, .int .i64 t, .int .i64 mh, .int .i64 mse.lo, .int .i64 mse.hi, .int .i64 msn.lo, .int .i64 msn.hi, .int .i64 k] 125)).alloc (.cells #[.int .i64 0, .int .i64 0] 56)).heap[w.heap.size]? = some (.cells #[.slice (some ⟨eb, eo, none⟩) F.east.length ec, .slice (some ⟨nb, no, none⟩) F.north.length nc, .int .i64 F.gap, sv, mv] 108 (0, 0)) := by simp only [alloc_at, World.size_alloc]; (repeat rw [if_neg (by omega)]); first | rfl | rw [if_pos (by omega)] | rw [if_pos trivial]
  have hW1 : (((((w.alloc (.cells #[.slice (some ⟨eb, eo, none⟩) F.east.length ec, .slice (some ⟨nb, no, none⟩) F.north.length nc, .int .i64 F.gap, sv, mv] 108)).alloc (.cells #[.int .i64 0, .func (.func 84) #[] #[], .func (.func 85) #[] #[], .func (.func 86) #[] #[], .func (.func 87) #[] #[]] 133)).alloc (.cells #[.int .i64 ne, .int .i64 nn, .int .i64 nl, .int .i64 na, .int .i64 s, .int .i64 nh, .int .i64 nse.lo, .int .i64 nse.hi, .int .i64 nsn.lo, .int .i64 nsn.hi, .int .i64 i] 125)).alloc (.cells #[.int .i64 me, .int .i64 mn', .int .i64 ml, .int .i64 ma, .int .i64 t, .int .i64 mh, .int .i64 mse.lo, .int .i64 mse.hi, .int .i64 msn.lo, .int .i64 msn.hi, .int .i64 k] 125)).alloc (.cells #[.int .i64 0, .int .i64 0] 56)).heap[w.heap.size + 1]? = some (.cells #[.int .i64 0, .func (.func 84) #[] #[], .func (.func 85) #[] #[], .func (.func 86) #[] #[], .func (.func 87) #[] #[]] 133 (0, 0)) := by simp only [alloc_at, World.size_alloc]; (repeat rw [if_neg (by omega)]); first | rfl | rw [if_pos (by omega)] | rw [if_pos trivial]
  have hW2 : (((((w.alloc (.cells #[.slice (some ⟨eb, eo, none⟩) F.east.length ec, .slice (some ⟨nb, no, none⟩) F.north.length nc, .int .i64 F.gap, sv, mv] 108)).alloc (.cells #[.int .i64 0, .func (.func 84) #[] #[], .func (.func 85) #[] #[], .func (.func 86) #[] #[], .func (.func 87) #[] #[]] 133)).alloc (.cells #[.int .i64 ne, .int .i64 nn, .int .i64 nl, .int .i64 na, .int .i64 s, .int .i64 nh, .int .i64 nse.lo, .int .i64 nse.hi, .int .i64 nsn.lo, .int .i64 nsn.hi, .int .i64 i] 125)).alloc (.cells #[.int .i64 me, .int .i64 mn', .int .i64 ml, .int .i64 ma, .int .i64 t, .int .i64 mh, .int .i64 mse.lo, .int .i64 mse.hi, .int .i64 msn.lo, .int .i64 msn.hi, .int .i64 k] 125)).alloc (.cells #[.int .i64 0, .int .i64 0] 56)).heap[w.heap.size + 1 + 1]? = some (.cells #[.int .i64 ne, .int .i64 nn, .int .i64 nl, .int .i64 na, .int .i64 s, .int .i64 nh, .int .i64 nse.lo, .int .i64 nse.hi, .int .i64 nsn.lo, .int .i64 nsn.hi, .int .i64 i] 125 (0, 0)) := by simp only [alloc_at, World.size_alloc]; (repeat rw [if_neg (by omega)]); first | rfl | rw [if_pos (by omega)] | rw [if_pos trivial]
  have hW3 : (((((w.alloc (.cells #[.slice (some ⟨eb, eo, none⟩) F.east.length ec, .slice (some ⟨nb, no, none⟩) F.north.length nc, .int .i64 F.gap, sv, mv] 108)).alloc (.cells #[.int .i64 0, .func (.func 84) #[] #[], .func (.func 85) #[] #[], .func (.func 86) #[] #[], .func (.func 87) #[] #[]] 133)).alloc (.cells #[.int .i64 ne, .int .i64 nn, .int .i64 nl, .int .i64 na, .int .i64 s, .int .i64 nh, .int .i64 nse.lo, .int .i64 nse.hi, .int .i64 nsn.lo, .int .i64 nsn.hi, .int .i64 i] 125)).alloc (.cells #[.int .i64 me, .int .i64 mn', .int .i64 ml, .int .i64 ma, .int .i64 t, .int .i64 mh, .int .i64 mse.lo, .int .i64 mse.hi, .int .i64 msn.lo, .int .i64 msn.hi, .int .i64 k] 125)).alloc (.cells #[.int .i64 0, .int .i64 0] 56)).heap[w.heap.size + 1 + 1 + 1]? = some (.cells #[.int .i64 me, .int .i64 mn', .int .i64 ml, .int .i64 ma, .int .i64 t, .int .i64 mh, .int .i64 mse.lo, .int .i64 mse.hi, .int .i64 msn.lo, .int .i64 msn.hi, .int .i64 k] 125 (0, 0)) := by simp only [alloc_at, World.size_alloc]; (repeat rw [if_neg (by omega)]); first | rfl | rw [if_pos (by omega)] | rw [if_pos trivial]
  have hW4 : (((((w.alloc (.cells #[.slice (some ⟨eb, eo, none⟩) F.east.length ec, .slice (some ⟨nb, no, none⟩) F.north.length nc, .int .i64 F.gap, sv, mv] 108)).alloc (.cells #[.int .i64 0, .func (.func 84) #[] #[], .func (.func 85) #[] #[], .func (.func 86) #[] #[], .func (.func 87) #[] #[]] 133)).alloc (.cells #[.int .i64 ne, .int .i64 nn, .int .i64 nl, .int .i64 na, .int .i64 s, .int .i64 nh, .int .i64 nse.lo, .int .i64 nse.hi, .int .i64 nsn.lo, .int .i64 nsn.hi, .int .i64 i] 125)).alloc (.cells #[.int .i64 me, .int .i64 mn', .int .i64 ml, .int .i64 ma, .int .i64 t, .int .i64 mh, .int .i64 mse.lo, .int .i64 mse.hi, .int .i64 msn.lo, .int .i64 msn.hi, .int .i64 k] 125)).alloc (.cells #[.int .i64 0, .int .i64 0] 56)).heap[w.heap.size + 1 + 1 + 1 + 1]? = some (.cells #[.int .i64 0, .int .i64 0] 56 (0, 0)) := by simp only [alloc_at, World.size_alloc]; (repeat rw [if_neg (by omega)]); first | rfl | rw [if_pos (by omega)] | rw [if_pos trivial]
  generalize (((((w.alloc (.cells #[.slice (some ⟨eb, eo, none⟩) F.east.length ec, .slice (some ⟨nb, no, none⟩) F.north.length nc, .int .i64 F.gap, sv, mv] 108)).alloc (.cells #[.int .i64 0, .func (.func 84) #[] #[], .func (.func 85) #[] #[], .func (.func 86) #[] #[], .func (.func 87) #[] #[]] 133)).alloc (.cells #[.int .i64 ne, .int .i64 nn, .int .i64 nl, .int .i64 na, .int .i64 s, .int .i64 nh, .int .i64 nse.lo, .int .i64 nse.hi, .int .i64 nsn.lo, .int .i64 nsn.hi, .int .i64 i] 125)).alloc (.cells #[.int .i64 me, .int .i64 mn', .int .i64 ml, .int .i64 ma, .int .i64 t, .int .i64 mh, .int .i64 mse.lo, .int .i64 mse.hi, .int .i64 msn.lo, .int .i64 msn.hi, .int .i64 k] 125)).alloc (.cells #[.int .i64 0, .int .i64 0] 56)) = W at *
  have q0 := cell_of hW0
  have q1 := cell_of hW1
  have q2 := cell_of hW2
  have q3 := cell_of hW3
  gi_upto_region 2 with (gi_at_call 97; ((with_reducible refine (ends_one (s : Int) (t : Int) _ _ _ (by first | go_simp | simp [World.cell?, World.alloc])).mono ?_); rw [hu]; rintro e w1 ⟨rfl, rfl⟩))
  have hWa : Ext W (W.alloc (.cells #[.int .i64 (t : Int)] 3)) := (Ext.refl _).alloc _
  generalize W.alloc (.cells #[.int .i64 (t : Int)] 3) = W1 at *
  have hX1 := hid (hW.trans hWa)
  have HB0 := hid (hWa.block hW0)
  have HB1 := hid (hWa.block hW1)
  have HB2 := hid (hWa.block hW2)
  have HB3 := hid (hWa.block hW3)
  have HB4 := hid (hWa.block hW4)
  clear hW hWa hW0 hW1 hW2 hW3 hW4 q0 q1 q2 q3
  have HT := hid (fun (u : World) => tide_e (.slice (some ⟨eb, eo, none⟩) F.east.length ec) (.slice (some ⟨nb, no, none⟩) F.north.length nc) sv F.gap u)
  refine quiet_wide 11 (by kernel_rfl) (by kernel_rfl) ?_
  simp only [List.take_succ_cons, List.take_zero, List.drop_succ_cons, List.drop_zero]
  have q0 := fun e : Later W1 => cell_of (Ext.block e.grown HB0.out)
  have q1 := fun e : Later W1 => cell_of (Ext.block e.grown HB1.out)
  have q2 := fun e : Later W1 => cell_of (Ext.block e.grown HB2.out)
  repeat (any_goals (first | go_big_quiet_step ((go_at_call 84; with_reducible exact Cal.quiet (HT.out _))) | quiet_step ((go_at_call 84; with_reducible exact Cal.quiet (HT.out _)))))
  refine wpQuiet_nil ?_
  rintro w5 ⟨⟨w5q, hx5⟩, he5⟩
  obtain rfl : w5 = w5q := he5
  have hx5 : Ext W1 w5 := hx5
  clear q0 q1 q2
  clear HT
  have HWR : Hid (IntKind.i64.wrap (h - (s : Int)) = h - s) := by show IntKind.i64.wrap _ = _; rw [IntKind.wrap_i64]; omega
  obtain ⟨tv, htv⟩ : ∃ v, v = Value.slice (if u = s then some ⟨eb, eo, none⟩ else some ⟨eb, eo + s * 2, none⟩) (u - s) (u - s) := ⟨_, rfl⟩
  rw [← htv] at HP ⊢
  clear htv
  have HB1 := hid (hx5.block HB1.out)
  have HB2 := hid (hx5.block HB2.out)
  have HB4 := hid (hx5.block HB4.out)
  have HX := hid (hX1.out.trans hx5)
  have HP := hid (HP.out.mono HX.out)
  clear HB0 HB3 hX1 hx5
  gi_wp2_with fail
  refine lex_wide 14 [(12, pSp [sumSp T, spMul (↑h - ↑s) nse])] (by kernel_rfl) (by kernel_rfl) (nStab_cons (pSp_s _) nStab_nil) ?_
  simp only [List.take_succ_cons, List.take_zero, List.drop_succ_cons, List.drop_zero]
  apply lex_fun (rfl : psAt _ _ = none)
  · intro x u hR hf
    clear hR hf
    go_simp
    exact ⟨rfl, Ext.refl _⟩
  simp only [Act.put, List.setIfInBounds_toArray, List.set_cons_succ, List.set_cons_zero]
  refine lex_fun (v := spnV (sumSp T)) (rfl : psAt _ _ = none) ?_ ?_
  · intro x u hR hf
    have hcal := hid (sum_any _ _ u (HP.out.mono hR) HIB.out HLN.out)
    clear hR hf
    go_simp
    exact hcal.out.mono fun e w'' ⟨he, hx'⟩ => ⟨_, he, rfl, hx'⟩
  simp only [Act.put, List.setIfInBounds_toArray, List.set_cons_succ, List.set_cons_zero]
  apply lex_fun (rfl : psAt _ _ = none)
  · intro x u hR hf
    clear hR hf
    go_simp
    exact ⟨rfl, Ext.refl _⟩
  simp only [Act.put, List.setIfInBounds_toArray, List.set_cons_succ, List.set_cons_zero]
  apply lex_fun (rfl : psAt _ _ = none)
  · intro x u hR hf
    have c1 := cell_of (hR.block HB1.out)
    clear hR hf
    go_simp
    exact ⟨rfl, Ext.refl _⟩
  simp only [Act.put, List.setIfInBounds_toArray, List.set_cons_succ, List.set_cons_zero]
  apply lex_fun (rfl : psAt _ _ = none)
  · intro x u hR hf
    have c2 := cell_of (hR.block HB2.out)
    clear hR hf
    go_simp
    exact ⟨rfl, Ext.refl _⟩
  simp only [Act.put, List.setIfInBounds_toArray, List.set_cons_succ, List.set_cons_zero]
  refine lex_fun (v := .agg #[.int .i64 nse.lo, .int .i64 nse.hi]) (rfl : psAt _ _ = none) ?_ ?_
  · intro x u hR hf
    have hcal := hid (slip_e ⟨ne, nn, nl, na, (s : Int), nh, nse, nsn⟩ i u)
    clear hR hf
    go_simp
    exact hcal.out.mono fun e w'' ⟨he, hx'⟩ => ⟨_, he, rfl, hx'⟩
  simp only [Act.put, List.setIfInBounds_toArray, List.set_cons_succ, List.set_cons_zero]
  iterate 2 (
    apply lex_fun (rfl : psAt _ _ = none)
    · intro x u hR hf
      clear hR hf
      go_simp
      exact ⟨rfl, Ext.refl _⟩
    simp only [Act.put, List.setIfInBounds_toArray, List.set_cons_succ, List.set_cons_zero])
  apply lex_fun (rfl : psAt _ _ = none)
  · intro x u hR hf
    clear hR hf
    go_simp
    exact ⟨rfl, Ext.refl _⟩
  simp only [Act.put, List.setIfInBounds_toArray, List.set_cons_succ, List.set_cons_zero]
  apply lex_fun (rfl : psAt _ _ = none)
  · intro x u hR hf
    have c2 := cell_of (hR.block HB2.out)
    clear hR hf
    go_simp
    exact ⟨rfl, Ext.refl _⟩
  simp only [Act.put, List.setIfInBounds_toArray, List.set_cons_succ, List.set_cons_zero]
  refine lex_fun (v := .int .i64 (h - (s : Int))) (rfl : psAt _ _ = none) ?_ ?_
  · intro x u hR hf
    clear hR hf
    go_simp
    exact ⟨by simp [HWR.out], Ext.refl _⟩
  simp only [Act.put, List.setIfInBounds_toArray, List.set_cons_succ, List.set_cons_zero]
  refine lex_fun (v := spnV (spMul (h - s) nse)) (rfl : psAt _ _ = none) ?_ ?_
  · intro x u hR hf
    have hcal := hid (times_any nse.lo nse.hi (h - s) (by omega) (by have := HSI.out; unfold spIn at this; omega) (by have := HSI.out; unfold spIn at this; omega) u)
    clear hR hf
    go_simp
    exact hcal.out.mono fun e w'' ⟨he, hx'⟩ => ⟨_, he, rfl, hx'⟩
  simp only [Act.put, List.setIfInBounds_toArray, List.set_cons_succ, List.set_cons_zero]
  refine lex_pred (p := pSp [sumSp T, spMul (h - s) nse]) rfl ?_ ?_
  · intro x u hR hf
    clear hR hf
    simp only [spnV]
    go_simp
    exact ⟨spans_two (sumSp T) (spMul (h - s) nse) (Ext.refl _), (Ext.refl _).alloc _⟩
  simp only [Act.put, List.setIfInBounds_toArray, List.set_cons_succ, List.set_cons_zero]
  refine lex_fun (v := spnV (sumSp [sumSp T, spMul (h - s) nse])) (rfl : psAt _ _ = none) ?_ ?_
  · intro x u hR hf
    have h12 := (hf.1 rfl : pSp _ (x 12) u)
    have hcal := hid (sum_any _ _ u h12 (by intro z hz; have h1 := HSB.out; have h2 := HMB.out; unfold spIn at h1 h2; simp only [List.mem_cons, List.not_mem_nil, or_false] at hz; rcases hz with rfl | rfl <;> omega) (by simp))
    clear hR hf
    go_simp
    exact hcal.out.mono fun e w'' ⟨he, hx'⟩ => ⟨_, he, rfl, hx'⟩
  simp only [Act.put, List.setIfInBounds_toArray, List.set_cons_succ, List.set_cons_zero]
  refine lex_nil fun x w6 hE hfacts => ?_
  clear hfacts
  generalize x 12 = x12
  clear x
  rw [sumSp_two]
  have hc := cell_of (hE.block HB4.out)
  have hf := free_of (hE.block HB4.out)
  simp only [spnV]
  gi_wp2
  refine bodyPost_ret (v := spnV (spAdd (sumSp T) (spMul (h - s) nse))) (by simp [results, Try.results77, go_sem, spnV, hc]) rfl ⟨rfl, ?_⟩
  exact ((HX.out.trans hE).set (by omega) _ _).set (by omega) _ _



def alone_nF (F : FleetD) (n m : NetD) (h : Int) : Spn := spAdd (sumSp ((F.north.drop n.shot.toNat).take ((mx n.shot m.shot).toNat - n.shot.toNat))) (spMul (h - n.shot) n.sn)
set_option maxRecDepth 100000 in
set_option maxHeartbeats 600000 in
theorem alone_n (F : FleetD) (eb eo ec nb no nc : Nat) (sv mv : Value) (n m : NetD) (i k h : Int) (w : World) (hT : SpansAt w (.slice (some ⟨nb, no, none⟩) F.north.length nc) F.north) (hl : F.north.length ≤ 24) (hb : ∀ s ∈ F.north, spIn 200 s)
    (hn : 0 ≤ n.shot ∧ n.shot ≤ F.north.length) (hm : 0 ≤ m.shot ∧ m.shot ≤ F.north.length) (hh : n.shot ≤ h ∧ h ≤ 24) (hs : spIn 50 n.sn) :
    Cal 77 #[.agg #[.slice (some ⟨eb, eo, none⟩) F.east.length ec, .slice (some ⟨nb, no, none⟩) F.north.length nc, .int .i64 F.gap, sv, mv], .agg #[.int .i64 1, .func (.func 88) #[] #[], .func (.func 89) #[] #[], .func (.func 90) #[] #[], .func (.func 91) #[] #[]], .agg #[.int .i64 n.east, .int .i64 n.north, .int .i64 n.long, .int .i64 n.along, .int .i64 n.shot, .int .i64 n.haul, .int .i64 n.se.lo, .int .i64 n.se.hi, .int .i64 n.sn.lo, .int .i64 n.sn.hi, .int .i64 i], .agg #[.int .i64 m.east, .int .i64 m.north, .int .i64 m.long, .int .i64 m.along, .int .i64 m.shot, .int .i64 m.haul, .int .i64 m.se.lo, .int .i64 m.se.hi, .int .i64 m.sn.lo, .int .i64 m.sn.hi, .int .i64 k], .int .i64 h] w fun x w' => x = .returned (spnV (alone_nF F n m h)) ∧ Ext w w' := by
  unfold alone_nF
  obtain ⟨ne, nn, nl, na, s, nh, nse, nsn⟩ := n
  obtain ⟨me, mn', ml, ma, t, mh, mse, msn⟩ := m
  simp only at hn hm hh hs ⊢
  obtain ⟨s, rfl⟩ : ∃ s' : Nat, s = s' := ⟨s.toNat, by omega⟩
  obtain ⟨t, rfl⟩ : ∃ t' : Nat, t = t' := ⟨t.toNat, by omega⟩
  obtain ⟨u, hu, hsu, hul⟩ : ∃ u : Nat, mx (s : Int) (t : Int) = u ∧ s ≤ u ∧ u ≤ F.north.length := ⟨max s t, by unfold mx; split <;> omega, by omega, by omega⟩
  rw [hu, Int.toNat_natCast, Int.toNat_natCast]
  have hcap := (show F.north.length ≤ nc by obtain ⟨_, _, hv, hc, _⟩ := hT; cases hv; exact hc.1)
  have HP := hid (hT.cut s u (u - s) hsu hul (Nat.le_refl _))
  have HSB := hid (sumSp_bound (l := (F.north.drop s).take (u - s)) (by omega : (0 : Int) ≤ 200 ∧ (200 : Int) ≤ 1000) (fun x hx => hb x (List.mem_of_mem_drop (List.mem_of_mem_take hx))) (by rw [List.length_take, List.length_drop]; omega))
  have HIB : Hid (∀ z ∈ (F.north.drop s).take (u - s), (-1000000 ≤ z.lo ∧ z.lo ≤ 1000000) ∧ (-1000000 ≤ z.hi ∧ z.hi ≤ 1000000)) := fun x hx => by
    have := hb x (List.mem_of_mem_drop (List.mem_of_mem_take hx))
    unfold spIn at this
    omega
  have HLN : Hid (((F.north.drop s).take (u - s)).length ≤ 100) := by
    show ((F.north.drop s).take (u - s)).length ≤ 100
    rw [List.length_take, List.length_drop]; omega
  have HMB := hid (spMul_bound (s := nsn) (n := h - s) (by omega) (by unfold spIn at *; omega))
  have HSI := hid hs
  clear hT hb
  gi_enter Try.func77, Try.ntmps77
  generalize (F.north.drop s).take (u - s) = T at *

  gi_upto_region 1 with fail
  have hW : Ext w (((((w.alloc (.cells #[.slice (some ⟨eb, eo, none⟩) F.east.length ec, .slice (some ⟨nb, no, none⟩) F.north.length nc, .int .i64 F.gap, sv, mv] 108)).alloc (.cells #[.int .i64 1, .func (.func 88) #[] #[], .func (.func 89) #[] #[], .func (.func 90) #[] #[], .func (.func 91) #[] #[]] 133)).alloc (.cells #[.int .i64 ne, .int .i64 nn, .int .i64 nl, .int .i64 na, .int .i64 s, .int .i64 nh, .int .i64 nse.lo, .int .i64 nse.hi, .int .i64 nsn.lo, .int .i64 nsn.hi, .int .i64 i] 125)).alloc (.cells #[.int .i64 me, .int .i64 mn', .int .i64 ml, .int .i64 ma, .int .i64 t, .int .i64 mh, .int .i64 mse.lo, .int .i64 mse.hi, .int .i64 msn.lo, .int .i64 msn.hi, .int .i64 k] 125)).alloc (.cells #[.int .i64 0, .int .i64 0] 56)) := ((((((Ext.refl _).alloc _).alloc _).alloc _).alloc _).alloc _)
  have hW0 : (((((w.alloc (.cells #[.slice (some ⟨eb, eo, none⟩) F.east.length ec, .slice (some ⟨nb, no, none⟩) F.north.length nc, .int .i64 F.gap, sv, mv] 108)).alloc (.cells #[.int .i64 1, .func (.func 88) #[] #[], .func (.func 89) #[] #[], .func (.func 90) #[] #[], .func (.func 91) #[] #[]] 133)).alloc (.cells #[.int .i64 ne, .int .i64 nn, .int .i64 nl, .int .i64 na, .int .i64 s, .int .i64 nh, .int .i64 nse.lo, .int .i64 nse.hi, .int .i64 nsn.lo, .int .i64 nsn.hi, .int .i64 i] 125)).alloc (.cells #[.int .i64 me, .int .i64 mn', .int .i64 ml, .int .i64 ma, .int .i64 t, .int .i64 mh, .int .i64 mse.lo, .int .i64 mse.hi, .int .i64 msn.lo, .int .i64 msn.hi, .int .i64 k] 125)).alloc (.cells #[.int .i64 0, .int .i64 0] 56)).heap[w.heap.size]? = some (.cells #[.slice (some ⟨eb, eo, none⟩) F.east.length ec, .slice (some ⟨nb, no, none⟩) F.north.length nc, .int .i64 F.gap, sv, mv] 108 (0, 0)) := by simp only [alloc_at, World.size_alloc]; (repeat rw [if_neg (by omega)]); first | rfl | rw [if_pos (by omega)] | rw [if_pos trivial]
  have hW1 : (((((w.alloc (.cells #[.slice (some ⟨eb, eo, none⟩) F.east.length ec, .slice (some ⟨nb, no, none⟩) F.north.length nc, .int .i64 F.gap, sv, mv] 108)).alloc (.cells #[.int .i64 1, .func (.func 88) #[] #[], .func (.func 89) #[] #[], .func (.func 90) #[] #[], .func (.func 91) #[] #[]] 133)).alloc (.cells #[.int .i64 ne, .int .i64 nn, .int .i64 nl, .int .i64 na, .int .i64 s, .int .i64 nh, .int .i64 nse.lo, .int .i64 nse.hi, .int .i64 nsn.lo, .int .i64 nsn.hi, .int .i64 i] 125)).alloc (.cells #[.int .i64 me, .int .i64 mn', .int .i64 ml, .int .i64 ma, .int .i64 t, .int .i64 mh, .int .i64 mse.lo, .int .i64 mse.hi, .int .i64 msn.lo, .int .i64 msn.hi, .int .i64 k] 125)).alloc (.cells #[.int .i64 0, .int .i64 0] 56)).heap[w.heap.size + 1]? = some (.cells #[.int .i64 1, .func (.func 88) #[] #[], .func (.func 89) #[] #[], .func (.func 90) #[] #[], .func (.func 91) #[] #[]] 133 (0, 0)) := by simp only [alloc_at, World.size_alloc]; (repeat rw [if_neg (by omega)]); first | rfl | rw [if_pos (by omega)] | rw [if_pos trivial]
  have hW2 : (((((w.alloc (.cells #[.slice (some ⟨eb, eo, none⟩) F.east.length ec, .slice (some ⟨nb, no, none⟩) F.north.length nc, .int .i64 F.gap, sv, mv] 108)).alloc (.cells #[.int .i64 1, .func (.func 88) #[] #[], .func (.func 89) #[] #[], .func (.func 90) #[] #[], .func (.func 91) #[] #[]] 133)).alloc (.cells #[.int .i64 ne, .int .i64 nn, .int .i64 nl, .int .i64 na, .int .i64 s, .int .i64 nh, .int .i64 nse.lo, .int .i64 nse.hi, .int .i64 nsn.lo, .int .i64 nsn.hi, .int .i64 i] 125)).alloc (.cells #[.int .i64 me, .int .i64 mn', .int .i64 ml, .int .i64 ma, .int .i64 t, .int .i64 mh, .int .i64 mse.lo, .int .i64 mse.hi, .int .i64 msn.lo, .int .i64 msn.hi, .int .i64 k] 125)).alloc (.cells #[.int .i64 0, .int .i64 0] 56)).heap[w.heap.size + 1 + 1]? = some (.cells #[.int .i64 ne, .int .i64 nn, .int .i64 nl, .int .i64 na, .int .i64 s, .int .i64 nh, .int .i64 nse.lo, .int .i64 nse.hi, .int .i64 nsn.lo, .int .i64 nsn.hi, .int .i64 i] 125 (0, 0)) := by simp only [alloc_at, World.size_alloc]; (repeat rw [if_neg (by omega)]); first | rfl | rw [if_pos (by omega)] | rw [if_pos trivial]
  have hW3 : (((((w.alloc (.cells #[.slice (some ⟨eb, eo, none⟩) F.east.length ec, .slice (some ⟨nb, no, none⟩) F.north.length nc, .int .i64 F.gap, sv, mv] 108)).alloc (.cells #[.int .i64 1, .func (.func 88) #[] #[], .func (.func 89) #[] #[], .func (.func 90) #[] #[], .func (.func 91) #[] #[]] 133)).alloc (.cells #[.int .i64 ne, .int .i64 nn, .int .i64 nl, .int .i64 na, .int .i64 s, .int .i64 nh, .int .i64 nse.lo, .int .i64 nse.hi, .int .i64 nsn.lo, .int .i64 nsn.hi, .int .i64 i] 125)).alloc (.cells #[.int .i64 me, .int .i64 mn', .int .i64 ml, .int .i64 ma, .int .i64 t, .int .i64 mh, .int .i64 mse.lo, .int .i64 mse.hi, .int .i64 msn.lo, .int .i64 msn.hi, .int .i64 k] 125)).alloc (.cells #[.int .i64 0, .int .i64 0] 56)).heap[w.heap.size + 1 + 1 + 1]? = some (.cells #[.int .i64 me, .int .i64 mn', .int .i64 ml, .int .i64 ma, .int .i64 t, .int .i64 mh, .int .i64 mse.lo, .int .i64 mse.hi, .int .i64 msn.lo, .int .i64 msn.hi, .int .i64 k] 125 (0, 0)) := by simp only [alloc_at, World.size_alloc]; (repeat rw [if_neg (by omega)]); first | rfl | rw [if_pos (by omega)] | rw [if_pos trivial]
  have hW4 : (((((w.alloc (.cells #[.slice (some ⟨eb, eo, none⟩) F.east.length ec, .slice (some ⟨nb, no, none⟩) F.north.length nc, .int .i64 F.gap, sv, mv] 108)).alloc (.cells #[.int .i64 1, .func (.func 88) #[] #[], .func (.func 89) #[] #[], .func (.func 90) #[] #[], .func (.func 91) #[] #[]] 133)).alloc (.cells #[.int .i64 ne, .int .i64 nn, .int .i64 nl, .int .i64 na, .int .i64 s, .int .i64 nh, .int .i64 nse.lo, .int .i64 nse.hi, .int .i64 nsn.lo, .int .i64 nsn.hi, .int .i64 i] 125)).alloc (.cells #[.int .i64 me, .int .i64 mn', .int .i64 ml, .int .i64 ma, .int .i64 t, .int .i64 mh, .int .i64 mse.lo, .int .i64 mse.hi, .int .i64 msn.lo, .int .i64 msn.hi, .int .i64 k] 125)).alloc (.cells #[.int .i64 0, .int .i64 0] 56)).heap[w.heap.size + 1 + 1 + 1 + 1]? = some (.cells #[.int .i64 0, .int .i64 0] 56 (0, 0)) := by simp only [alloc_at, World.size_alloc]; (repeat rw [if_neg (by omega)]); first | rfl | rw [if_pos (by omega)] | rw [if_pos trivial]
  generalize (((((w.alloc (.cells #[.slice (some ⟨eb, eo, none⟩) F.east.length ec, .slice (some ⟨nb, no, none⟩) F.north.length nc, .int .i64 F.gap, sv, mv] 108)).alloc (.cells #[.int .i64 1, .func (.func 88) #[] #[], .func (.func 89) #[] #[], .func (.func 90) #[] #[], .func (.func 91) #[] #[]] 133)).alloc (.cells #[.int .i64 ne, .int .i64 nn, .int .i64 nl, .int .i64 na, .int .i64 s, .int .i64 nh, .int .i64 nse.lo, .int .i64 nse.hi, .int .i64 nsn.lo, .int .i64 nsn.hi, .int .i64 i] 125)).alloc (.cells #[.int .i64 me, .int .i64 mn', .int .i64 ml, .int .i64 ma, .int .i64 t, .int .i64 mh, .int .i64 mse.lo, .int .i64 mse.hi, .int .i64 msn.lo, .int .i64 msn.hi, .int .i64 k] 125)).alloc (.cells #[.int .i64 0, .int .i64 0] 56)) = W at *
  have q0 := cell_of hW0
  have q1 := cell_of hW1
  have q2 := cell_of hW2
  have q3 := cell_of hW3
  gi_upto_region 2 with (gi_at_call 97; ((with_reducible refine (ends_one (s : Int) (t : Int) _ _ _ (by first | go_simp | simp [World.cell?, World.alloc])).mono ?_); rw [hu]; rintro e w1 ⟨rfl, rfl⟩))
  have hWa : Ext W (W.alloc (.cells #[.int .i64 (t : Int)] 3)) := (Ext.refl _).alloc _
  generalize W.alloc (.cells #[.int .i64 (t : Int)] 3) = W1 at *
  have hX1 := hid (hW.trans hWa)
  have HB0 := hid (hWa.block hW0)
  have HB1 := hid (hWa.block hW1)
  have HB2 := hid (hWa.block hW2)
  have HB3 := hid (hWa.block hW3)
  have HB4 := hid (hWa.block hW4)
  clear hW hWa hW0 hW1 hW2 hW3 hW4 q0 q1 q2 q3
  have HT := hid (fun (u : World) => tide_n (.slice (some ⟨eb, eo, none⟩) F.east.length ec) (.slice (some ⟨nb, no, none⟩) F.north.length nc) sv F.gap u)
  refine quiet_wide 11 (by kernel_rfl) (by kernel_rfl) ?_
  simp only [List.take_succ_cons, List.take_zero, List.drop_succ_cons, List.drop_zero]
  have q0 := fun e : Later W1 => cell_of (Ext.block e.grown HB0.out)
  have q1 := fun e : Later W1 => cell_of (Ext.block e.grown HB1.out)
  have q2 := fun e : Later W1 => cell_of (Ext.block e.grown HB2.out)
  repeat (any_goals (first | go_big_quiet_step ((go_at_call 88; with_reducible exact Cal.quiet (HT.out _))) | quiet_step ((go_at_call 88; with_reducible exact Cal.quiet (HT.out _)))))
  refine wpQuiet_nil ?_
  rintro w5 ⟨⟨w5q, hx5⟩, he5⟩
  obtain rfl : w5 = w5q := he5
  have hx5 : Ext W1 w5 := hx5
  clear q0 q1 q2
  clear HT
  have HWR : Hid (IntKind.i64.wrap (h - (s : Int)) = h - s) := by show IntKind.i64.wrap _ = _; rw [IntKind.wrap_i64]; omega
  obtain ⟨tv, htv⟩ : ∃ v, v = Value.slice (if u = s then some ⟨nb, no, none⟩ else some ⟨nb, no + s * 2, none⟩) (u - s) (u - s) := ⟨_, rfl⟩
  rw [← htv] at HP ⊢
  clear htv
  have HB1 := hid (hx5.block HB1.out)
  have HB2 := hid (hx5.block HB2.out)
  have HB4 := hid (hx5.block HB4.out)
  have HX := hid (hX1.out.trans hx5)
  have HP := hid (HP.out.mono HX.out)
  clear HB0 HB3 hX1 hx5
  gi_wp2_with fail
  refine lex_wide 14 [(12, pSp [sumSp T, spMul (↑h - ↑s) nsn])] (by kernel_rfl) (by kernel_rfl) (nStab_cons (pSp_s _) nStab_nil) ?_
  simp only [List.take_succ_cons, List.take_zero, List.drop_succ_cons, List.drop_zero]
  apply lex_fun (rfl : psAt _ _ = none)
  · intro x u hR hf
    clear hR hf
    go_simp
    exact ⟨rfl, Ext.refl _⟩
  simp only [Act.put, List.setIfInBounds_toArray, List.set_cons_succ, List.set_cons_zero]
  refine lex_fun (v := spnV (sumSp T)) (rfl : psAt _ _ = none) ?_ ?_
  · intro x u hR hf
    have hcal := hid (sum_any _ _ u (HP.out.mono hR) HIB.out HLN.out)
    clear hR hf
    go_simp
    exact hcal.out.mono fun e w'' ⟨he, hx'⟩ => ⟨_, he, rfl, hx'⟩
  simp only [Act.put, List.setIfInBounds_toArray, List.set_cons_succ, List.set_cons_zero]
  apply lex_fun (rfl : psAt _ _ = none)
  · intro x u hR hf
    clear hR hf
    go_simp
    exact ⟨rfl, Ext.refl _⟩
  simp only [Act.put, List.setIfInBounds_toArray, List.set_cons_succ, List.set_cons_zero]
  apply lex_fun (rfl : psAt _ _ = none)
  · intro x u hR hf
    have c1 := cell_of (hR.block HB1.out)
    clear hR hf
    go_simp
    exact ⟨rfl, Ext.refl _⟩
  simp only [Act.put, List.setIfInBounds_toArray, List.set_cons_succ, List.set_cons_zero]
  apply lex_fun (rfl : psAt _ _ = none)
  · intro x u hR hf
    have c2 := cell_of (hR.block HB2.out)
    clear hR hf
    go_simp
    exact ⟨rfl, Ext.refl _⟩
  simp only [Act.put, List.setIfInBounds_toArray, List.set_cons_succ, List.set_cons_zero]
  refine lex_fun (v := .agg #[.int .i64 nsn.lo, .int .i64 nsn.hi]) (rfl : psAt _ _ = none) ?_ ?_
  · intro x u hR hf
    have hcal := hid (slip_n ⟨ne, nn, nl, na, (s : Int), nh, nse, nsn⟩ i u)
    clear hR hf
    go_simp
    exact hcal.out.mono fun e w'' ⟨he, hx'⟩ => ⟨_, he, rfl, hx'⟩
  simp only [Act.put, List.setIfInBounds_toArray, List.set_cons_succ, List.set_cons_zero]
  iterate 2 (
    apply lex_fun (rfl : psAt _ _ = none)
    · intro x u hR hf
      clear hR hf
      go_simp
      exact ⟨rfl, Ext.refl _⟩
    simp only [Act.put, List.setIfInBounds_toArray, List.set_cons_succ, List.set_cons_zero])
  apply lex_fun (rfl : psAt _ _ = none)
  · intro x u hR hf
    clear hR hf
    go_simp
    exact ⟨rfl, Ext.refl _⟩
  simp only [Act.put, List.setIfInBounds_toArray, List.set_cons_succ, List.set_cons_zero]
  apply lex_fun (rfl : psAt _ _ = none)
  · intro x u hR hf
    have c2 := cell_of (hR.block HB2.out)
    clear hR hf
    go_simp
    exact ⟨rfl, Ext.refl _⟩
  simp only [Act.put, List.setIfInBounds_toArray, List.set_cons_succ, List.set_cons_zero]
  refine lex_fun (v := .int .i64 (h - (s : Int))) (rfl : psAt _ _ = none) ?_ ?_
  · intro x u hR hf
    clear hR hf
    go_simp
    exact ⟨by simp [HWR.out], Ext.refl _⟩
  simp only [Act.put, List.setIfInBounds_toArray, List.set_cons_succ, List.set_cons_zero]
  refine lex_fun (v := spnV (spMul (h - s) nsn)) (rfl : psAt _ _ = none) ?_ ?_
  · intro x u hR hf
    have hcal := hid (times_any nsn.lo nsn.hi (h - s) (by omega) (by have := HSI.out; unfold spIn at this; omega) (by have := HSI.out; unfold spIn at this; omega) u)
    clear hR hf
    go_simp
    exact hcal.out.mono fun e w'' ⟨he, hx'⟩ => ⟨_, he, rfl, hx'⟩
  simp only [Act.put, List.setIfInBounds_toArray, List.set_cons_succ, List.set_cons_zero]
  refine lex_pred (p := pSp [sumSp T, spMul (h - s) nsn]) rfl ?_ ?_
  · intro x u hR hf
    clear hR hf
    simp only [spnV]
    go_simp
    exact ⟨spans_two (sumSp T) (spMul (h - s) nsn) (Ext.refl _), (Ext.refl _).alloc _⟩
  simp only [Act.put, List.setIfInBounds_toArray, List.set_cons_succ, List.set_cons_zero]
  refine lex_fun (v := spnV (sumSp [sumSp T, spMul (h - s) nsn])) (rfl : psAt _ _ = none) ?_ ?_
  · intro x u hR hf
    have h12 := (hf.1 rfl : pSp _ (x 12) u)
    have hcal := hid (sum_any _ _ u h12 (by intro z hz; have h1 := HSB.out; have h2 := HMB.out; unfold spIn at h1 h2; simp only [List.mem_cons, List.not_mem_nil, or_false] at hz; rcases hz with rfl | rfl <;> omega) (by simp))
    clear hR hf
    go_simp
    exact hcal.out.mono fun e w'' ⟨he, hx'⟩ => ⟨_, he, rfl, hx'⟩
  simp only [Act.put, List.setIfInBounds_toArray, List.set_cons_succ, List.set_cons_zero]
  refine lex_nil fun x w6 hE hfacts => ?_
  clear hfacts
  generalize x 12 = x12
  clear x
  rw [sumSp_two]
  have hc := cell_of (hE.block HB4.out)
  have hf := free_of (hE.block HB4.out)
  simp only [spnV]
  gi_wp2
  refine bodyPost_ret (v := spnV (spAdd (sumSp T) (spMul (h - s) nsn))) (by simp [results, Try.results77, go_sem, spnV, hc]) rfl ⟨rfl, ?_⟩
  exact ((HX.out.trans hE).set (by omega) _ _).set (by omega) _ _




structure NetOk (n : NetD) (H : Nat) : Prop where
  east : -10000 ≤ n.east ∧ n.east ≤ 10000
  north : -10000 ≤ n.north ∧ n.north ≤ 10000
  long : 0 ≤ n.long ∧ n.long ≤ 2000
  along : n.along = 0 ∨ n.along = 1
  shot : 0 ≤ n.shot ∧ n.shot ≤ (H : Int) - 1
  haul : n.shot ≤ n.haul ∧ n.haul ≤ H
  se : spIn 50 n.se
  sn : spIn 50 n.sn
  seo : n.se.lo ≤ n.se.hi
  sno : n.sn.lo ≤ n.sn.hi
structure FleetOk (F : FleetD) : Prop where
  hours : 1 ≤ F.east.length ∧ F.east.length ≤ 24
  same : F.north.length = F.east.length
  east : ∀ s ∈ F.east, spIn 200 s
  north : ∀ s ∈ F.north, spIn 200 s
  easto : ∀ s ∈ F.east, s.lo ≤ s.hi
  northo : ∀ s ∈ F.north, s.lo ≤ s.hi
  gap : 0 ≤ F.gap ∧ F.gap ≤ 500
  count : 1 ≤ F.nets.length ∧ F.nets.length ≤ 6
  nets : ∀ n ∈ F.nets, NetOk n F.east.length
theorem spAdd_in {a b : Spn} {M N : Int} (ha : spIn M a) (hb : spIn N b) : spIn (M + N) (spAdd a b) := by
  unfold spIn spAdd at *
  simp only
  omega
theorem spNeg_in {a : Spn} {M : Int} (ha : spIn M a) : spIn M (spNeg a) := by
  unfold spIn spNeg at *
  simp only
  omega
theorem spIn_le {a : Spn} {M N : Int} (ha : spIn M a) (h : M ≤ N) : spIn N a := by
  unfold spIn at *
  omega
theorem mx_le {x y M : Int} (hx : x ≤ M) (hy : y ≤ M) : mx x y ≤ M := by unfold mx; split <;> omega
theorem le_mx (x y : Int) : x ≤ mx x y ∧ y ≤ mx x y := by unfold mx; split <;> omega

theorem alone_e_in {F : FleetD} (hF : FleetOk F) {n m : NetD} (hn : NetOk n F.east.length) {h : Int} (hh : n.shot ≤ h ∧ h ≤ 24) : spIn 200000 (alone_eF F n m h) := by
  unfold alone_eF
  have h1 := sumSp_bound (l := (F.east.drop n.shot.toNat).take ((mx n.shot m.shot).toNat - n.shot.toNat)) (by omega : (0 : Int) ≤ 200 ∧ (200 : Int) ≤ 1000) (fun x hx => hF.east x (List.mem_of_mem_drop (List.mem_of_mem_take hx))) (by rw [List.length_take, List.length_drop]; have := hF.hours; have := hF.same; omega)
  have h2 := spMul_bound (s := n.se) (n := h - n.shot) (by have := hn.shot; omega) (spIn_le hn.se (by omega))
  exact spAdd_in h1 h2
def apart_eF (F : FleetD) (n m : NetD) (h : Int) : Spn := spAdd ⟨n.east - m.east, n.east - m.east⟩ (spAdd (alone_eF F n m h) (spNeg (alone_eF F m n h)))
set_option maxRecDepth 100000 in
set_option maxHeartbeats 1000000 in
theorem apart_e (F : FleetD) (hF : FleetOk F) (eb eo ec nb no nc : Nat) (sv mv : Value) (n m : NetD) (hn : NetOk n F.east.length) (hm : NetOk m F.east.length) (i k h : Int) (hh : mx n.shot m.shot ≤ h ∧ h ≤ 24) (w : World) (hT : SpansAt w (.slice (some ⟨eb, eo, none⟩) F.east.length ec) F.east) :
    Cal 53 #[.agg #[.slice (some ⟨eb, eo, none⟩) F.east.length ec, .slice (some ⟨nb, no, none⟩) F.north.length nc, .int .i64 F.gap, sv, mv], .agg #[.int .i64 0, .func (.func 84) #[] #[], .func (.func 85) #[] #[], .func (.func 86) #[] #[], .func (.func 87) #[] #[]], .agg #[.int .i64 n.east, .int .i64 n.north, .int .i64 n.long, .int .i64 n.along, .int .i64 n.shot, .int .i64 n.haul, .int .i64 n.se.lo, .int .i64 n.se.hi, .int .i64 n.sn.lo, .int .i64 n.sn.hi, .int .i64 i, .int .i64 m.east, .int .i64 m.north, .int .i64 m.long, .int .i64 m.along, .int .i64 m.shot, .int .i64 m.haul, .int .i64 m.se.lo, .int .i64 m.se.hi, .int .i64 m.sn.lo, .int .i64 m.sn.hi, .int .i64 k], .int .i64 h] w fun x w' => x = .returned (spnV (apart_eF F n m h)) ∧ Ext w w' := by
  have hlm := le_mx n.shot m.shot
  have HF := hid (show FleetOk F ∧ F.east.length ≤ 24 ∧ (0 ≤ n.shot ∧ n.shot ≤ F.east.length) ∧ (0 ≤ m.shot ∧ m.shot ≤ F.east.length) ∧ (n.shot ≤ h ∧ h ≤ 24) ∧ (m.shot ≤ h ∧ h ≤ 24) from
    ⟨hF, hF.hours.2, (by have := hn.shot; omega), (by have := hm.shot; omega), by omega, by omega⟩)
  have HFm := hid (show FleetOk F ∧ F.east.length ≤ 24 ∧ (0 ≤ m.shot ∧ m.shot ≤ F.east.length) ∧ (0 ≤ n.shot ∧ n.shot ≤ F.east.length) ∧ (m.shot ≤ h ∧ h ≤ 24) ∧ (n.shot ≤ h ∧ h ≤ 24) from
    ⟨hF, hF.hours.2, (by have := hm.shot; omega), (by have := hn.shot; omega), by omega, by omega⟩)
  have HA := hid (alone_e_in hF (m := m) hn (h := h) (by omega))
  have HM := hid (alone_e_in hF (m := n) hm (h := h) (by omega))
  have HD : Hid (-20000 ≤ n.east - m.east ∧ n.east - m.east ≤ 20000) := by have h1 := hn.east; have h2 := hm.east; show _ ∧ _; omega
  have HWR : Hid (IntKind.i64.wrap (n.east - m.east) = n.east - m.east) := by show IntKind.i64.wrap _ = _; have := HD.out; rw [IntKind.wrap_i64]; omega
  have HWQ : Hid (wrap64 (n.east - m.east) = n.east - m.east) := by show wrap64 _ = _; have := HD.out; unfold wrap64; omega
  have HN := hid (hn.se)
  have HMS := hid (hm.se)
  have HT0 := hid hT
  clear hF hh hT hlm hn hm
  gi_enter Try.func53, Try.ntmps53
  gi_upto_region 1 with fail
  have hW : Ext w ((((w.alloc (.cells #[.slice (some ⟨eb, eo, none⟩) F.east.length ec, .slice (some ⟨nb, no, none⟩) F.north.length nc, .int .i64 F.gap, sv, mv] 108)).alloc (.cells #[.int .i64 0, .func (.func 84) #[] #[], .func (.func 85) #[] #[], .func (.func 86) #[] #[], .func (.func 87) #[] #[]] 133)).alloc (.cells #[.int .i64 n.east, .int .i64 n.north, .int .i64 n.long, .int .i64 n.along, .int .i64 n.shot, .int .i64 n.haul, .int .i64 n.se.lo, .int .i64 n.se.hi, .int .i64 n.sn.lo, .int .i64 n.sn.hi, .int .i64 i, .int .i64 m.east, .int .i64 m.north, .int .i64 m.long, .int .i64 m.along, .int .i64 m.shot, .int .i64 m.haul, .int .i64 m.se.lo, .int .i64 m.se.hi, .int .i64 m.sn.lo, .int .i64 m.sn.hi, .int .i64 k] 127)).alloc (.cells #[.int .i64 0, .int .i64 0] 56)) := ((((Ext.refl _).alloc _).alloc _).alloc _).alloc _
  have hW0 : ((((w.alloc (.cells #[.slice (some ⟨eb, eo, none⟩) F.east.length ec, .slice (some ⟨nb, no, none⟩) F.north.length nc, .int .i64 F.gap, sv, mv] 108)).alloc (.cells #[.int .i64 0, .func (.func 84) #[] #[], .func (.func 85) #[] #[], .func (.func 86) #[] #[], .func (.func 87) #[] #[]] 133)).alloc (.cells #[.int .i64 n.east, .int .i64 n.north, .int .i64 n.long, .int .i64 n.along, .int .i64 n.shot, .int .i64 n.haul, .int .i64 n.se.lo, .int .i64 n.se.hi, .int .i64 n.sn.lo, .int .i64 n.sn.hi, .int .i64 i, .int .i64 m.east, .int .i64 m.north, .int .i64 m.long, .int .i64 m.along, .int .i64 m.shot, .int .i64 m.haul, .int .i64 m.se.lo, .int .i64 m.se.hi, .int .i64 m.sn.lo, .int .i64 m.sn.hi, .int .i64 k] 127)).alloc (.cells #[.int .i64 0, .int .i64 0] 56)).heap[w.heap.size]? = some (.cells #[.slice (some ⟨eb, eo, none⟩) F.east.length ec, .slice (some ⟨nb, no, none⟩) F.north.length nc, .int .i64 F.gap, sv, mv] 108 (0, 0)) := by simp only [alloc_at, World.size_alloc]; (repeat rw [if_neg (by omega)]); first | rfl | rw [if_pos (by omega)] | rw [if_pos trivial]
  have hW1 : ((((w.alloc (.cells #[.slice (some ⟨eb, eo, none⟩) F.east.length ec, .slice (some ⟨nb, no, none⟩) F.north.length nc, .int .i64 F.gap, sv, mv] 108)).alloc (.cells #[.int .i64 0, .func (.func 84) #[] #[], .func (.func 85) #[] #[], .func (.func 86) #[] #[], .func (.func 87) #[] #[]] 133)).alloc (.cells #[.int .i64 n.east, .int .i64 n.north, .int .i64 n.long, .int .i64 n.along, .int .i64 n.shot, .int .i64 n.haul, .int .i64 n.se.lo, .int .i64 n.se.hi, .int .i64 n.sn.lo, .int .i64 n.sn.hi, .int .i64 i, .int .i64 m.east, .int .i64 m.north, .int .i64 m.long, .int .i64 m.along, .int .i64 m.shot, .int .i64 m.haul, .int .i64 m.se.lo, .int .i64 m.se.hi, .int .i64 m.sn.lo, .int .i64 m.sn.hi, .int .i64 k] 127)).alloc (.cells #[.int .i64 0, .int .i64 0] 56)).heap[w.heap.size + 1]? = some (.cells #[.int .i64 0, .func (.func 84) #[] #[], .func (.func 85) #[] #[], .func (.func 86) #[] #[], .func (.func 87) #[] #[]] 133 (0, 0)) := by simp only [alloc_at, World.size_alloc]; (repeat rw [if_neg (by omega)]); first | rfl | rw [if_pos (by omega)] | rw [if_pos trivial]
  have hW2 : ((((w.alloc (.cells #[.slice (some ⟨eb, eo, none⟩) F.east.length ec, .slice (some ⟨nb, no, none⟩) F.north.length nc, .int .i64 F.gap, sv, mv] 108)).alloc (.cells #[.int .i64 0, .func (.func 84) #[] #[], .func (.func 85) #[] #[], .func (.func 86) #[] #[], .func (.func 87) #[] #[]] 133)).alloc (.cells #[.int .i64 n.east, .int .i64 n.north, .int .i64 n.long, .int .i64 n.along, .int .i64 n.shot, .int .i64 n.haul, .int .i64 n.se.lo, .int .i64 n.se.hi, .int .i64 n.sn.lo, .int .i64 n.sn.hi, .int .i64 i, .int .i64 m.east, .int .i64 m.north, .int .i64 m.long, .int .i64 m.along, .int .i64 m.shot, .int .i64 m.haul, .int .i64 m.se.lo, .int .i64 m.se.hi, .int .i64 m.sn.lo, .int .i64 m.sn.hi, .int .i64 k] 127)).alloc (.cells #[.int .i64 0, .int .i64 0] 56)).heap[w.heap.size + 1 + 1]? = some (.cells #[.int .i64 n.east, .int .i64 n.north, .int .i64 n.long, .int .i64 n.along, .int .i64 n.shot, .int .i64 n.haul, .int .i64 n.se.lo, .int .i64 n.se.hi, .int .i64 n.sn.lo, .int .i64 n.sn.hi, .int .i64 i, .int .i64 m.east, .int .i64 m.north, .int .i64 m.long, .int .i64 m.along, .int .i64 m.shot, .int .i64 m.haul, .int .i64 m.se.lo, .int .i64 m.se.hi, .int .i64 m.sn.lo, .int .i64 m.sn.hi, .int .i64 k] 127 (0, 0)) := by simp only [alloc_at, World.size_alloc]; (repeat rw [if_neg (by omega)]); first | rfl | rw [if_pos (by omega)] | rw [if_pos trivial]
  have hW3 : ((((w.alloc (.cells #[.slice (some ⟨eb, eo, none⟩) F.east.length ec, .slice (some ⟨nb, no, none⟩) F.north.length nc, .int .i64 F.gap, sv, mv] 108)).alloc (.cells #[.int .i64 0, .func (.func 84) #[] #[], .func (.func 85) #[] #[], .func (.func 86) #[] #[], .func (.func 87) #[] #[]] 133)).alloc (.cells #[.int .i64 n.east, .int .i64 n.north, .int .i64 n.long, .int .i64 n.along, .int .i64 n.shot, .int .i64 n.haul, .int .i64 n.se.lo, .int .i64 n.se.hi, .int .i64 n.sn.lo, .int .i64 n.sn.hi, .int .i64 i, .int .i64 m.east, .int .i64 m.north, .int .i64 m.long, .int .i64 m.along, .int .i64 m.shot, .int .i64 m.haul, .int .i64 m.se.lo, .int .i64 m.se.hi, .int .i64 m.sn.lo, .int .i64 m.sn.hi, .int .i64 k] 127)).alloc (.cells #[.int .i64 0, .int .i64 0] 56)).heap[w.heap.size + 1 + 1 + 1]? = some (.cells #[.int .i64 0, .int .i64 0] 56 (0, 0)) := by simp only [alloc_at, World.size_alloc]; (repeat rw [if_neg (by omega)]); first | rfl | rw [if_pos (by omega)] | rw [if_pos trivial]
  generalize (((w.alloc (.cells #[.slice (some ⟨eb, eo, none⟩) F.east.length ec, .slice (some ⟨nb, no, none⟩) F.north.length nc, .int .i64 F.gap, sv, mv] 108)).alloc (.cells #[.int .i64 0, .func (.func 84) #[] #[], .func (.func 85) #[] #[], .func (.func 86) #[] #[], .func (.func 87) #[] #[]] 133)).alloc (.cells #[.int .i64 n.east, .int .i64 n.north, .int .i64 n.long, .int .i64 n.along, .int .i64 n.shot, .int .i64 n.haul, .int .i64 n.se.lo, .int .i64 n.se.hi, .int .i64 n.sn.lo, .int .i64 n.sn.hi, .int .i64 i, .int .i64 m.east, .int .i64 m.north, .int .i64 m.long, .int .i64 m.along, .int .i64 m.shot, .int .i64 m.haul, .int .i64 m.se.lo, .int .i64 m.se.hi, .int .i64 m.sn.lo, .int .i64 m.sn.hi, .int .i64 k] 127)).alloc (.cells #[.int .i64 0, .int .i64 0] 56) = W at *
  have HB0 := hid hW0
  have HB1 := hid hW1
  have HB2 := hid hW2
  have HB3 := hid hW3
  have HX := hid hW
  clear hW hW0 hW1 hW2 hW3
  have HP1 := hid (fun (u : World) => place_e n.east n.north u)
  have HP2 := hid (fun (u : World) => place_e m.east m.north u)
  refine quiet_wide 16 (by kernel_rfl) (by kernel_rfl) ?_
  simp only [List.take_succ_cons, List.take_zero, List.drop_succ_cons, List.drop_zero]
  have q1 := fun e : Later W => cell_of (Ext.block e.grown HB1.out)
  have q2 := fun e : Later W => cell_of (Ext.block e.grown HB2.out)
  repeat (any_goals (first | go_big_quiet_step ((first | (go_at_call 85; with_reducible exact Cal.quiet (HP1.out _)) | (go_at_call 85; with_reducible exact Cal.quiet (HP2.out _)))) | quiet_step ((first | (go_at_call 85; with_reducible exact Cal.quiet (HP1.out _)) | (go_at_call 85; with_reducible exact Cal.quiet (HP2.out _))))))
  refine wpQuiet_nil ?_
  rintro w5 ⟨⟨w5q, hx5⟩, hew5⟩
  obtain rfl : w5 = w5q := hew5
  have hx5 : Ext W w5 := hx5
  clear q1 q2
  clear HP1 HP2
  have HB0 := hid (hx5.block HB0.out)
  have HB1 := hid (hx5.block HB1.out)
  have HB2 := hid (hx5.block HB2.out)
  have HB3 := hid (hx5.block HB3.out)
  have HX := hid (HX.out.trans hx5)
  clear hx5
  have HT := hid (fun (u : World) (hu : Ext w5 u) => HT0.out.mono (HX.out.trans hu))
  clear HT0
  rw [HWQ.out]
  gi_wp2_with fail
  refine lex_wide 21 [(19, pSp [⟨n.east - m.east, n.east - m.east⟩, alone_eF F n m h, spNeg (alone_eF F m n h)])] (by kernel_rfl) (by kernel_rfl) (nStab_cons (pSp_s _) nStab_nil) ?_
  simp only [List.take_succ_cons, List.take_zero, List.drop_succ_cons, List.drop_zero]
  apply lex_fun (rfl : psAt _ _ = none)
  · intro x u hR hf
    clear hR hf
    go_simp
    exact ⟨rfl, Ext.refl _⟩
  simp only [Act.put, List.setIfInBounds_toArray, List.set_cons_succ, List.set_cons_zero]
  refine lex_fun (v := spnV ⟨n.east - m.east, n.east - m.east⟩) (rfl : psAt _ _ = none) ?_ ?_
  · intro x u hR hf
    have hcal := hid (only_any (n.east - m.east) u)
    clear hR hf
    go_simp
    exact hcal.out.mono fun e w'' ⟨he, hx'⟩ => ⟨_, he, rfl, hx'⟩
  simp only [Act.put, List.setIfInBounds_toArray, List.set_cons_succ, List.set_cons_zero]
  apply lex_fun (rfl : psAt _ _ = none)
  · intro x u hR hf
    have c0 := cell_of (hR.block HB0.out)
    clear hR hf
    go_simp
    exact ⟨rfl, Ext.refl _⟩
  simp only [Act.put, List.setIfInBounds_toArray, List.set_cons_succ, List.set_cons_zero]
  apply lex_fun (rfl : psAt _ _ = none)
  · intro x u hR hf
    have c1 := cell_of (hR.block HB1.out)
    clear hR hf
    go_simp
    exact ⟨rfl, Ext.refl _⟩
  simp only [Act.put, List.setIfInBounds_toArray, List.set_cons_succ, List.set_cons_zero]
  apply lex_fun (rfl : psAt _ _ = none)
  · intro x u hR hf
    clear hR hf
    go_simp
    exact ⟨rfl, Ext.refl _⟩
  simp only [Act.put, List.setIfInBounds_toArray, List.set_cons_succ, List.set_cons_zero]
  apply lex_fun (rfl : psAt _ _ = none)
  · intro x u hR hf
    have c2 := cell_of (hR.block HB2.out)
    clear hR hf
    go_simp
    exact ⟨rfl, Ext.refl _⟩
  simp only [Act.put, List.setIfInBounds_toArray, List.set_cons_succ, List.set_cons_zero]
  apply lex_fun (rfl : psAt _ _ = none)
  · intro x u hR hf
    clear hR hf
    go_simp
    exact ⟨rfl, Ext.refl _⟩
  simp only [Act.put, List.setIfInBounds_toArray, List.set_cons_succ, List.set_cons_zero]
  apply lex_fun (rfl : psAt _ _ = none)
  · intro x u hR hf
    have c2 := cell_of (hR.block HB2.out)
    clear hR hf
    go_simp
    exact ⟨rfl, Ext.refl _⟩
  simp only [Act.put, List.setIfInBounds_toArray, List.set_cons_succ, List.set_cons_zero]
  apply lex_fun (rfl : psAt _ _ = none)
  · intro x u hR hf
    clear hR hf
    go_simp
    exact ⟨rfl, Ext.refl _⟩
  simp only [Act.put, List.setIfInBounds_toArray, List.set_cons_succ, List.set_cons_zero]
  refine lex_fun (v := spnV (alone_eF F n m h)) (rfl : psAt _ _ = none) ?_ ?_
  · intro x u hR hf
    have hcal := hid (alone_e F eb eo ec nb no nc sv mv n m i k h u (HT.out u hR) HF.out.2.1 HF.out.1.east HF.out.2.2.1 HF.out.2.2.2.1 HF.out.2.2.2.2.1 HN.out)
    clear hR hf
    go_simp
    exact hcal.out.mono fun e w'' ⟨he, hx'⟩ => ⟨_, he, rfl, hx'⟩
  simp only [Act.put, List.setIfInBounds_toArray, List.set_cons_succ, List.set_cons_zero]
  apply lex_fun (rfl : psAt _ _ = none)
  · intro x u hR hf
    have c0 := cell_of (hR.block HB0.out)
    clear hR hf
    go_simp
    exact ⟨rfl, Ext.refl _⟩
  simp only [Act.put, List.setIfInBounds_toArray, List.set_cons_succ, List.set_cons_zero]
  apply lex_fun (rfl : psAt _ _ = none)
  · intro x u hR hf
    have c1 := cell_of (hR.block HB1.out)
    clear hR hf
    go_simp
    exact ⟨rfl, Ext.refl _⟩
  simp only [Act.put, List.setIfInBounds_toArray, List.set_cons_succ, List.set_cons_zero]
  apply lex_fun (rfl : psAt _ _ = none)
  · intro x u hR hf
    clear hR hf
    go_simp
    exact ⟨rfl, Ext.refl _⟩
  simp only [Act.put, List.setIfInBounds_toArray, List.set_cons_succ, List.set_cons_zero]
  apply lex_fun (rfl : psAt _ _ = none)
  · intro x u hR hf
    have c2 := cell_of (hR.block HB2.out)
    clear hR hf
    go_simp
    exact ⟨rfl, Ext.refl _⟩
  simp only [Act.put, List.setIfInBounds_toArray, List.set_cons_succ, List.set_cons_zero]
  apply lex_fun (rfl : psAt _ _ = none)
  · intro x u hR hf
    clear hR hf
    go_simp
    exact ⟨rfl, Ext.refl _⟩
  simp only [Act.put, List.setIfInBounds_toArray, List.set_cons_succ, List.set_cons_zero]
  apply lex_fun (rfl : psAt _ _ = none)
  · intro x u hR hf
    have c2 := cell_of (hR.block HB2.out)
    clear hR hf
    go_simp
    exact ⟨rfl, Ext.refl _⟩
  simp only [Act.put, List.setIfInBounds_toArray, List.set_cons_succ, List.set_cons_zero]
  apply lex_fun (rfl : psAt _ _ = none)
  · intro x u hR hf
    clear hR hf
    go_simp
    exact ⟨rfl, Ext.refl _⟩
  simp only [Act.put, List.setIfInBounds_toArray, List.set_cons_succ, List.set_cons_zero]
  refine lex_fun (v := spnV (alone_eF F m n h)) (rfl : psAt _ _ = none) ?_ ?_
  · intro x u hR hf
    have hcal := hid (alone_e F eb eo ec nb no nc sv mv m n k i h u (HT.out u hR) HFm.out.2.1 HFm.out.1.east HFm.out.2.2.1 HFm.out.2.2.2.1 HFm.out.2.2.2.2.1 HMS.out)
    clear hR hf
    go_simp
    exact hcal.out.mono fun e w'' ⟨he, hx'⟩ => ⟨_, he, rfl, hx'⟩
  simp only [Act.put, List.setIfInBounds_toArray, List.set_cons_succ, List.set_cons_zero]
  refine lex_fun (v := spnV (spNeg (alone_eF F m n h))) (rfl : psAt _ _ = none) ?_ ?_
  · intro x u hR hf
    have hcal := hid (minus_any (alone_eF F m n h).lo (alone_eF F m n h).hi (by have := HM.out; unfold spIn at this; omega) (by have := HM.out; unfold spIn at this; omega) u)
    clear hR hf
    simp only [spnV]
    go_simp
    exact hcal.out.mono fun e w'' ⟨he, hx'⟩ => ⟨_, he, rfl, hx'⟩
  simp only [Act.put, List.setIfInBounds_toArray, List.set_cons_succ, List.set_cons_zero]
  refine lex_pred (p := pSp [⟨n.east - m.east, n.east - m.east⟩, alone_eF F n m h, spNeg (alone_eF F m n h)]) rfl ?_ ?_
  · intro x u hR hf
    clear hR hf
    simp only [spnV]
    go_simp
    exact ⟨spans_three ⟨n.east - m.east, n.east - m.east⟩ (alone_eF F n m h) (spNeg (alone_eF F m n h)) (Ext.refl _), (Ext.refl _).alloc _⟩
  simp only [Act.put, List.setIfInBounds_toArray, List.set_cons_succ, List.set_cons_zero]
  refine lex_fun (v := spnV (sumSp [⟨n.east - m.east, n.east - m.east⟩, alone_eF F n m h, spNeg (alone_eF F m n h)])) (rfl : psAt _ _ = none) ?_ ?_
  · intro x u hR hf
    have h19 : pSp [⟨n.east - m.east, n.east - m.east⟩, alone_eF F n m h, spNeg (alone_eF F m n h)] (x 19) u := by first | exact hf.1 rfl | exact hf.2.1 rfl
    have hcal := hid (sum_any _ _ u h19 (by intro z hz; have h1 := HA.out; have h2 := spNeg_in HM.out; have h3 := HD.out; unfold spIn at h1 h2; simp only [List.mem_cons, List.not_mem_nil, or_false] at hz; rcases hz with rfl | rfl | rfl <;> (try simp only) <;> omega) (by simp))
    clear hR hf
    go_simp
    exact hcal.out.mono fun e w'' ⟨he, hx'⟩ => ⟨_, he, rfl, hx'⟩
  simp only [Act.put, List.setIfInBounds_toArray, List.set_cons_succ, List.set_cons_zero]
  refine lex_nil fun x w6 hE hfacts => ?_
  clear hfacts
  generalize x 19 = x19
  clear x
  rw [sumSp_three]
  have hc := cell_of (hE.block HB3.out)
  have hf := free_of (hE.block HB3.out)
  simp only [spnV]
  gi_wp2
  refine bodyPost_ret (v := spnV (apart_eF F n m h)) (by simp [results, Try.results53, go_sem, spnV, hc, apart_eF]) rfl ⟨rfl, ?_⟩
  exact ((HX.out.trans hE).set (by omega) _ _).set (by omega) _ _

theorem alone_n_in {F : FleetD} (hF : FleetOk F) {n m : NetD} (hn : NetOk n F.east.length) {h : Int} (hh : n.shot ≤ h ∧ h ≤ 24) : spIn 200000 (alone_nF F n m h) := by
  unfold alone_nF
  have h1 := sumSp_bound (l := (F.north.drop n.shot.toNat).take ((mx n.shot m.shot).toNat - n.shot.toNat)) (by omega : (0 : Int) ≤ 200 ∧ (200 : Int) ≤ 1000) (fun x hx => hF.north x (List.mem_of_mem_drop (List.mem_of_mem_take hx))) (by rw [List.length_take, List.length_drop]; have := hF.hours; have := hF.same; omega)
  have h2 := spMul_bound (s := n.sn) (n := h - n.shot) (by have := hn.shot; omega) (spIn_le hn.sn (by omega))
  exact spAdd_in h1 h2
def apart_nF (F : FleetD) (n m : NetD) (h : Int) : Spn := spAdd ⟨n.north - m.north, n.north - m.north⟩ (spAdd (alone_nF F n m h) (spNeg (alone_nF F m n h)))
set_option maxRecDepth 100000 in
set_option maxHeartbeats 1000000 in
theorem apart_n (F : FleetD) (hF : FleetOk F) (eb eo ec nb no nc : Nat) (sv mv : Value) (n m : NetD) (hn : NetOk n F.east.length) (hm : NetOk m F.east.length) (i k h : Int) (hh : mx n.shot m.shot ≤ h ∧ h ≤ 24) (w : World) (hT : SpansAt w (.slice (some ⟨nb, no, none⟩) F.north.length nc) F.north) :
    Cal 53 #[.agg #[.slice (some ⟨eb, eo, none⟩) F.east.length ec, .slice (some ⟨nb, no, none⟩) F.north.length nc, .int .i64 F.gap, sv, mv], .agg #[.int .i64 1, .func (.func 88) #[] #[], .func (.func 89) #[] #[], .func (.func 90) #[] #[], .func (.func 91) #[] #[]], .agg #[.int .i64 n.east, .int .i64 n.north, .int .i64 n.long, .int .i64 n.along, .int .i64 n.shot, .int .i64 n.haul, .int .i64 n.se.lo, .int .i64 n.se.hi, .int .i64 n.sn.lo, .int .i64 n.sn.hi, .int .i64 i, .int .i64 m.east, .int .i64 m.north, .int .i64 m.long, .int .i64 m.along, .int .i64 m.shot, .int .i64 m.haul, .int .i64 m.se.lo, .int .i64 m.se.hi, .int .i64 m.sn.lo, .int .i64 m.sn.hi, .int .i64 k], .int .i64 h] w fun x w' => x = .returned (spnV (apart_nF F n m h)) ∧ Ext w w' := by
  have hlm := le_mx n.shot m.shot
  have HF := hid (show FleetOk F ∧ F.north.length ≤ 24 ∧ (0 ≤ n.shot ∧ n.shot ≤ F.north.length) ∧ (0 ≤ m.shot ∧ m.shot ≤ F.north.length) ∧ (n.shot ≤ h ∧ h ≤ 24) ∧ (m.shot ≤ h ∧ h ≤ 24) from
    ⟨hF, (by rw [hF.same]; exact hF.hours.2), (by have := hn.shot; rw [hF.same]; omega), (by have := hm.shot; rw [hF.same]; omega), by omega, by omega⟩)
  have HFm := hid (show FleetOk F ∧ F.north.length ≤ 24 ∧ (0 ≤ m.shot ∧ m.shot ≤ F.north.length) ∧ (0 ≤ n.shot ∧ n.shot ≤ F.north.length) ∧ (m.shot ≤ h ∧ h ≤ 24) ∧ (n.shot ≤ h ∧ h ≤ 24) from
    ⟨hF, (by rw [hF.same]; exact hF.hours.2), (by have := hm.shot; rw [hF.same]; omega), (by have := hn.shot; rw [hF.same]; omega), by omega, by omega⟩)
  have HA := hid (alone_n_in hF (m := m) hn (h := h) (by omega))
  have HM := hid (alone_n_in hF (m := n) hm (h := h) (by omega))
  have HD : Hid (-20000 ≤ n.north - m.north ∧ n.north - m.north ≤ 20000) := by have h1 := hn.north; have h2 := hm.north; show _ ∧ _; omega
  have HWR : Hid (IntKind.i64.wrap (n.north - m.north) = n.north - m.north) := by show IntKind.i64.wrap _ = _; have := HD.out; rw [IntKind.wrap_i64]; omega
  have HWQ : Hid (wrap64 (n.north - m.north) = n.north - m.north) := by show wrap64 _ = _; have := HD.out; unfold wrap64; omega
  have HN := hid (hn.sn)
  have HMS := hid (hm.sn)
  have HT0 := hid hT
  clear hF hh hT hlm hn hm
  gi_enter Try.func53, Try.ntmps53
  gi_upto_region 1 with fail
  have hW : Ext w ((((w.alloc (.cells #[.slice (some ⟨eb, eo, none⟩) F.east.length ec, .slice (some ⟨nb, no, none⟩) F.north.length nc, .int .i64 F.gap, sv, mv] 108)).alloc (.cells #[.int .i64 1, .func (.func 88) #[] #[], .func (.func 89) #[] #[], .func (.func 90) #[] #[], .func (.func 91) #[] #[]] 133)).alloc (.cells #[.int .i64 n.east, .int .i64 n.north, .int .i64 n.long, .int .i64 n.along, .int .i64 n.shot, .int .i64 n.haul, .int .i64 n.se.lo, .int .i64 n.se.hi, .int .i64 n.sn.lo, .int .i64 n.sn.hi, .int .i64 i, .int .i64 m.east, .int .i64 m.north, .int .i64 m.long, .int .i64 m.along, .int .i64 m.shot, .int .i64 m.haul, .int .i64 m.se.lo, .int .i64 m.se.hi, .int .i64 m.sn.lo, .int .i64 m.sn.hi, .int .i64 k] 127)).alloc (.cells #[.int .i64 0, .int .i64 0] 56)) := ((((Ext.refl _).alloc _).alloc _).alloc _).alloc _
  have hW0 : ((((w.alloc (.cells #[.slice (some ⟨eb, eo, none⟩) F.east.length ec, .slice (some ⟨nb, no, none⟩) F.north.length nc, .int .i64 F.gap, sv, mv] 108)).alloc (.cells #[.int .i64 1, .func (.func 88) #[] #[], .func (.func 89) #[] #[], .func (.func 90) #[] #[], .func (.func 91) #[] #[]] 133)).alloc (.cells #[.int .i64 n.east, .int .i64 n.north, .int .i64 n.long, .int .i64 n.along, .int .i64 n.shot, .int .i64 n.haul, .int .i64 n.se.lo, .int .i64 n.se.hi, .int .i64 n.sn.lo, .int .i64 n.sn.hi, .int .i64 i, .int .i64 m.east, .int .i64 m.north, .int .i64 m.long, .int .i64 m.along, .int .i64 m.shot, .int .i64 m.haul, .int .i64 m.se.lo, .int .i64 m.se.hi, .int .i64 m.sn.lo, .int .i64 m.sn.hi, .int .i64 k] 127)).alloc (.cells #[.int .i64 0, .int .i64 0] 56)).heap[w.heap.size]? = some (.cells #[.slice (some ⟨eb, eo, none⟩) F.east.length ec, .slice (some ⟨nb, no, none⟩) F.north.length nc, .int .i64 F.gap, sv, mv] 108 (0, 0)) := by simp only [alloc_at, World.size_alloc]; (repeat rw [if_neg (by omega)]); first | rfl | rw [if_pos (by omega)] | rw [if_pos trivial]
  have hW1 : ((((w.alloc (.cells #[.slice (some ⟨eb, eo, none⟩) F.east.length ec, .slice (some ⟨nb, no, none⟩) F.north.length nc, .int .i64 F.gap, sv, mv] 108)).alloc (.cells #[.int .i64 1, .func (.func 88) #[] #[], .func (.func 89) #[] #[], .func (.func 90) #[] #[], .func (.func 91) #[] #[]] 133)).alloc (.cells #[.int .i64 n.east, .int .i64 n.north, .int .i64 n.long, .int .i64 n.along, .int .i64 n.shot, .int .i64 n.haul, .int .i64 n.se.lo, .int .i64 n.se.hi, .int .i64 n.sn.lo, .int .i64 n.sn.hi, .int .i64 i, .int .i64 m.east, .int .i64 m.north, .int .i64 m.long, .int .i64 m.along, .int .i64 m.shot, .int .i64 m.haul, .int .i64 m.se.lo, .int .i64 m.se.hi, .int .i64 m.sn.lo, .int .i64 m.sn.hi, .int .i64 k] 127)).alloc (.cells #[.int .i64 0, .int .i64 0] 56)).heap[w.heap.size + 1]? = some (.cells #[.int .i64 1, .func (.func 88) #[] #[], .func (.func 89) #[] #[], .func (.func 90) #[] #[], .func (.func 91) #[] #[]] 133 (0, 0)) := by simp only [alloc_at, World.size_alloc]; (repeat rw [if_neg (by omega)]); first | rfl | rw [if_pos (by omega)] | rw [if_pos trivial]
  have hW2 : ((((w.alloc (.cells #[.slice (some ⟨eb, eo, none⟩) F.east.length ec, .slice (some ⟨nb, no, none⟩) F.north.length nc, .int .i64 F.gap, sv, mv] 108)).alloc (.cells #[.int .i64 1, .func (.func 88) #[] #[], .func (.func 89) #[] #[], .func (.func 90) #[] #[], .func (.func 91) #[] #[]] 133)).alloc (.cells #[.int .i64 n.east, .int .i64 n.north, .int .i64 n.long, .int .i64 n.along, .int .i64 n.shot, .int .i64 n.haul, .int .i64 n.se.lo, .int .i64 n.se.hi, .int .i64 n.sn.lo, .int .i64 n.sn.hi, .int .i64 i, .int .i64 m.east, .int .i64 m.north, .int .i64 m.long, .int .i64 m.along, .int .i64 m.shot, .int .i64 m.haul, .int .i64 m.se.lo, .int .i64 m.se.hi, .int .i64 m.sn.lo, .int .i64 m.sn.hi, .int .i64 k] 127)).alloc (.cells #[.int .i64 0, .int .i64 0] 56)).heap[w.heap.size + 1 + 1]? = some (.cells #[.int .i64 n.east, .int .i64 n.north, .int .i64 n.long, .int .i64 n.along, .int .i64 n.shot, .int .i64 n.haul, .int .i64 n.se.lo, .int .i64 n.se.hi, .int .i64 n.sn.lo, .int .i64 n.sn.hi, .int .i64 i, .int .i64 m.east, .int .i64 m.north, .int .i64 m.long, .int .i64 m.along, .int .i64 m.shot, .int .i64 m.haul, .int .i64 m.se.lo, .int .i64 m.se.hi, .int .i64 m.sn.lo, .int .i64 m.sn.hi, .int .i64 k] 127 (0, 0)) := by simp only [alloc_at, World.size_alloc]; (repeat rw [if_neg (by omega)]); first | rfl | rw [if_pos (by omega)] | rw [if_pos trivial]
  have hW3 : ((((w.alloc (.cells #[.slice (some ⟨eb, eo, none⟩) F.east.length ec, .slice (some ⟨nb, no, none⟩) F.north.length nc, .int .i64 F.gap, sv, mv] 108)).alloc (.cells #[.int .i64 1, .func (.func 88) #[] #[], .func (.func 89) #[] #[], .func (.func 90) #[] #[], .func (.func 91) #[] #[]] 133)).alloc (.cells #[.int .i64 n.east, .int .i64 n.north, .int .i64 n.long, .int .i64 n.along, .int .i64 n.shot, .int .i64 n.haul, .int .i64 n.se.lo, .int .i64 n.se.hi, .int .i64 n.sn.lo, .int .i64 n.sn.hi, .int .i64 i, .int .i64 m.east, .int .i64 m.north, .int .i64 m.long, .int .i64 m.along, .int .i64 m.shot, .int .i64 m.haul, .int .i64 m.se.lo, .int .i64 m.se.hi, .int .i64 m.sn.lo, .int .i64 m.sn.hi, .int .i64 k] 127)).alloc (.cells #[.int .i64 0, .int .i64 0] 56)).heap[w.heap.size + 1 + 1 + 1]? = some (.cells #[.int .i64 0, .int .i64 0] 56 (0, 0)) := by simp only [alloc_at, World.size_alloc]; (repeat rw [if_neg (by omega)]); first | rfl | rw [if_pos (by omega)] | rw [if_pos trivial]
  generalize (((w.alloc (.cells #[.slice (some ⟨eb, eo, none⟩) F.east.length ec, .slice (some ⟨nb, no, none⟩) F.north.length nc, .int .i64 F.gap, sv, mv] 108)).alloc (.cells #[.int .i64 1, .func (.func 88) #[] #[], .func (.func 89) #[] #[], .func (.func 90) #[] #[], .func (.func 91) #[] #[]] 133)).alloc (.cells #[.int .i64 n.east, .int .i64 n.north, .int .i64 n.long, .int .i64 n.along, .int .i64 n.shot, .int .i64 n.haul, .int .i64 n.se.lo, .int .i64 n.se.hi, .int .i64 n.sn.lo, .int .i64 n.sn.hi, .int .i64 i, .int .i64 m.east, .int .i64 m.north, .int .i64 m.long, .int .i64 m.along, .int .i64 m.shot, .int .i64 m.haul, .int .i64 m.se.lo, .int .i64 m.se.hi, .int .i64 m.sn.lo, .int .i64 m.sn.hi, .int .i64 k] 127)).alloc (.cells #[.int .i64 0, .int .i64 0] 56) = W at *
  have HB0 := hid hW0
  have HB1 := hid hW1
  have HB2 := hid hW2
  have HB3 := hid hW3
  have HX := hid hW
  clear hW hW0 hW1 hW2 hW3
  have HP1 := hid (fun (u : World) => place_n n.east n.north u)
  have HP2 := hid (fun (u : World) => place_n m.east m.north u)
  refine quiet_wide 16 (by kernel_rfl) (by kernel_rfl) ?_
  simp only [List.take_succ_cons, List.take_zero, List.drop_succ_cons, List.drop_zero]
  have q1 := fun e : Later W => cell_of (Ext.block e.grown HB1.out)
  have q2 := fun e : Later W => cell_of (Ext.block e.grown HB2.out)
  repeat (any_goals (first | go_big_quiet_step ((first | (go_at_call 89; with_reducible exact Cal.quiet (HP1.out _)) | (go_at_call 89; with_reducible exact Cal.quiet (HP2.out _)))) | quiet_step ((first | (go_at_call 89; with_reducible exact Cal.quiet (HP1.out _)) | (go_at_call 89; with_reducible exact Cal.quiet (HP2.out _))))))
  refine wpQuiet_nil ?_
  rintro w5 ⟨⟨w5q, hx5⟩, hew5⟩
  obtain rfl : w5 = w5q := hew5
  have hx5 : Ext W w5 := hx5
  clear q1 q2
  clear HP1 HP2
  have HB0 := hid (hx5.block HB0.out)
  have HB1 := hid (hx5.block HB1.out)
  have HB2 := hid (hx5.block HB2.out)
  have HB3 := hid (hx5.block HB3.out)
  have HX := hid (HX.out.trans hx5)
  clear hx5
  have HT := hid (fun (u : World) (hu : Ext w5 u) => HT0.out.mono (HX.out.trans hu))
  clear HT0
  rw [HWQ.out]
  gi_wp2_with fail
  refine lex_wide 21 [(19, pSp [⟨n.north - m.north, n.north - m.north⟩, alone_nF F n m h, spNeg (alone_nF F m n h)])] (by kernel_rfl) (by kernel_rfl) (nStab_cons (pSp_s _) nStab_nil) ?_
  simp only [List.take_succ_cons, List.take_zero, List.drop_succ_cons, List.drop_zero]
  apply lex_fun (rfl : psAt _ _ = none)
  · intro x u hR hf
    clear hR hf
    go_simp
    exact ⟨rfl, Ext.refl _⟩
  simp only [Act.put, List.setIfInBounds_toArray, List.set_cons_succ, List.set_cons_zero]
  refine lex_fun (v := spnV ⟨n.north - m.north, n.north - m.north⟩) (rfl : psAt _ _ = none) ?_ ?_
  · intro x u hR hf
    have hcal := hid (only_any (n.north - m.north) u)
    clear hR hf
    go_simp
    exact hcal.out.mono fun e w'' ⟨he, hx'⟩ => ⟨_, he, rfl, hx'⟩
  simp only [Act.put, List.setIfInBounds_toArray, List.set_cons_succ, List.set_cons_zero]
  apply lex_fun (rfl : psAt _ _ = none)
  · intro x u hR hf
    have c0 := cell_of (hR.block HB0.out)
    clear hR hf
    go_simp
    exact ⟨rfl, Ext.refl _⟩
  simp only [Act.put, List.setIfInBounds_toArray, List.set_cons_succ, List.set_cons_zero]
  apply lex_fun (rfl : psAt _ _ = none)
  · intro x u hR hf
    have c1 := cell_of (hR.block HB1.out)
    clear hR hf
    go_simp
    exact ⟨rfl, Ext.refl _⟩
  simp only [Act.put, List.setIfInBounds_toArray, List.set_cons_succ, List.set_cons_zero]
  apply lex_fun (rfl : psAt _ _ = none)
  · intro x u hR hf
    clear hR hf
    go_simp
    exact ⟨rfl, Ext.refl _⟩
  simp only [Act.put, List.setIfInBounds_toArray, List.set_cons_succ, List.set_cons_zero]
  apply lex_fun (rfl : psAt _ _ = none)
  · intro x u hR hf
    have c2 := cell_of (hR.block HB2.out)
    clear hR hf
    go_simp
    exact ⟨rfl, Ext.refl _⟩
  simp only [Act.put, List.setIfInBounds_toArray, List.set_cons_succ, List.set_cons_zero]
  apply lex_fun (rfl : psAt _ _ = none)
  · intro x u hR hf
    clear hR hf
    go_simp
    exact ⟨rfl, Ext.refl _⟩
  simp only [Act.put, List.setIfInBounds_toArray, List.set_cons_succ, List.set_cons_zero]
  apply lex_fun (rfl : psAt _ _ = none)
  · intro x u hR hf
    have c2 := cell_of (hR.block HB2.out)
    clear hR hf
    go_simp
    exact ⟨rfl, Ext.refl _⟩
  simp only [Act.put, List.setIfInBounds_toArray, List.set_cons_succ, List.set_cons_zero]
  apply lex_fun (rfl : psAt _ _ = none)
  · intro x u hR hf
    clear hR hf
    go_simp
    exact ⟨rfl, Ext.refl _⟩
  simp only [Act.put, List.setIfInBounds_toArray, List.set_cons_succ, List.set_cons_zero]
  refine lex_fun (v := spnV (alone_nF F n m h)) (rfl : psAt _ _ = none) ?_ ?_
  · intro x u hR hf
    have hcal := hid (alone_n F eb eo ec nb no nc sv mv n m i k h u (HT.out u hR) HF.out.2.1 HF.out.1.north HF.out.2.2.1 HF.out.2.2.2.1 HF.out.2.2.2.2.1 HN.out)
    clear hR hf
    go_simp
    exact hcal.out.mono fun e w'' ⟨he, hx'⟩ => ⟨_, he, rfl, hx'⟩
  simp only [Act.put, List.setIfInBounds_toArray, List.set_cons_succ, List.set_cons_zero]
  apply lex_fun (rfl : psAt _ _ = none)
  · intro x u hR hf
    have c0 := cell_of (hR.block HB0.out)
    clear hR hf
    go_simp
    exact ⟨rfl, Ext.refl _⟩
  simp only [Act.put, List.setIfInBounds_toArray, List.set_cons_succ, List.set_cons_zero]
  apply lex_fun (rfl : psAt _ _ = none)
  · intro x u hR hf
    have c1 := cell_of (hR.block HB1.out)
    clear hR hf
    go_simp
    exact ⟨rfl, Ext.refl _⟩
  simp only [Act.put, List.setIfInBounds_toArray, List.set_cons_succ, List.set_cons_zero]
  apply lex_fun (rfl : psAt _ _ = none)
  · intro x u hR hf
    clear hR hf
    go_simp
    exact ⟨rfl, Ext.refl _⟩
  simp only [Act.put, List.setIfInBounds_toArray, List.set_cons_succ, List.set_cons_zero]
  apply lex_fun (rfl : psAt _ _ = none)
  · intro x u hR hf
    have c2 := cell_of (hR.block HB2.out)
    clear hR hf
    go_simp
    exact ⟨rfl, Ext.refl _⟩
  simp only [Act.put, List.setIfInBounds_toArray, List.set_cons_succ, List.set_cons_zero]
  apply lex_fun (rfl : psAt _ _ = none)
  · intro x u hR hf
    clear hR hf
    go_simp
    exact ⟨rfl, Ext.refl _⟩
  simp only [Act.put, List.setIfInBounds_toArray, List.set_cons_succ, List.set_cons_zero]
  apply lex_fun (rfl : psAt _ _ = none)
  · intro x u hR hf
    have c2 := cell_of (hR.block HB2.out)
    clear hR hf
    go_simp
    exact ⟨rfl, Ext.refl _⟩
  simp only [Act.put, List.setIfInBounds_toArray, List.set_cons_succ, List.set_cons_zero]
  apply lex_fun (rfl : psAt _ _ = none)
  · intro x u hR hf
    clear hR hf
    go_simp
    exact ⟨rfl, Ext.refl _⟩
  simp only [Act.put, List.setIfInBounds_toArray, List.set_cons_succ, List.set_cons_zero]
  refine lex_fun (v := spnV (alone_nF F m n h)) (rfl : psAt _ _ = none) ?_ ?_
  · intro x u hR hf
    have hcal := hid (alone_n F eb eo ec nb no nc sv mv m n k i h u (HT.out u hR) HFm.out.2.1 HFm.out.1.north HFm.out.2.2.1 HFm.out.2.2.2.1 HFm.out.2.2.2.2.1 HMS.out)
    clear hR hf
    go_simp
    exact hcal.out.mono fun e w'' ⟨he, hx'⟩ => ⟨_, he, rfl, hx'⟩
  simp only [Act.put, List.setIfInBounds_toArray, List.set_cons_succ, List.set_cons_zero]
  refine lex_fun (v := spnV (spNeg (alone_nF F m n h))) (rfl : psAt _ _ = none) ?_ ?_
  · intro x u hR hf
    have hcal := hid (minus_any (alone_nF F m n h).lo (alone_nF F m n h).hi (by have := HM.out; unfold spIn at this; omega) (by have := HM.out; unfold spIn at this; omega) u)
    clear hR hf
    simp only [spnV]
    go_simp
    exact hcal.out.mono fun e w'' ⟨he, hx'⟩ => ⟨_, he, rfl, hx'⟩
  simp only [Act.put, List.setIfInBounds_toArray, List.set_cons_succ, List.set_cons_zero]
  refine lex_pred (p := pSp [⟨n.north - m.north, n.north - m.north⟩, alone_nF F n m h, spNeg (alone_nF F m n h)]) rfl ?_ ?_
  · intro x u hR hf
    clear hR hf
    simp only [spnV]
    go_simp
    exact ⟨spans_three ⟨n.north - m.north, n.north - m.north⟩ (alone_nF F n m h) (spNeg (alone_nF F m n h)) (Ext.refl _), (Ext.refl _).alloc _⟩
  simp only [Act.put, List.setIfInBounds_toArray, List.set_cons_succ, List.set_cons_zero]
  refine lex_fun (v := spnV (sumSp [⟨n.north - m.north, n.north - m.north⟩, alone_nF F n m h, spNeg (alone_nF F m n h)])) (rfl : psAt _ _ = none) ?_ ?_
  · intro x u hR hf
    have h19 : pSp [⟨n.north - m.north, n.north - m.north⟩, alone_nF F n m h, spNeg (alone_nF F m n h)] (x 19) u := by first | exact hf.1 rfl | exact hf.2.1 rfl
    have hcal := hid (sum_any _ _ u h19 (by intro z hz; have h1 := HA.out; have h2 := spNeg_in HM.out; have h3 := HD.out; unfold spIn at h1 h2; simp only [List.mem_cons, List.not_mem_nil, or_false] at hz; rcases hz with rfl | rfl | rfl <;> (try simp only) <;> omega) (by simp))
    clear hR hf
    go_simp
    exact hcal.out.mono fun e w'' ⟨he, hx'⟩ => ⟨_, he, rfl, hx'⟩
  simp only [Act.put, List.setIfInBounds_toArray, List.set_cons_succ, List.set_cons_zero]
  refine lex_nil fun x w6 hE hfacts => ?_
  clear hfacts
  generalize x 19 = x19
  clear x
  rw [sumSp_three]
  have hc := cell_of (hE.block HB3.out)
  have hf := free_of (hE.block HB3.out)
  simp only [spnV]
  gi_wp2
  refine bodyPost_ret (v := spnV (apart_nF F n m h)) (by simp [results, Try.results53, go_sem, spnV, hc, apart_nF]) rfl ⟨rfl, ?_⟩
  exact ((HX.out.trans hE).set (by omega) _ _).set (by omega) _ _

end Go.Proofs.Ytmjelgonhpgmbaa
