/- Whether baskets are a lot. -/
import Derived.Test.YtfkehbhlagpmcaaCH
set_option linter.unusedSimpArgs false
set_option linter.unusedVariables false
namespace Go.Proofs.Ytfkehbhlagpmcaa
open Go Go.RowKit Go.Shelf
open Au
/-- What is common to the first of them. -/
def comF (l : List Spn) : Nat → Spn
  | 0 => l.getD 0 noSpn
  | k + 1 => com (comF l k) (l.getD (k + 1) noSpn)
theorem comF_is (l : List Spn) : ∀ k, Is l 0 (k + 1) (comF l k)
  | 0 => Is.one l 0
  | k + 1 => (comF_is l k).com (Nat.zero_le _)
def lotB (m : List Spn) : Bool := decide ((comF m (m.length - 1)).lo ≤ (comF m (m.length - 1)).hi)
theorem lotB_iff {m : List Spn} (h : 0 < m.length) : lotB m = true ↔ OneGrade m 0 m.length := by
  unfold lotB
  rw [decide_eq_true_eq, ← (comF_is m (m.length - 1)).grade, show m.length - 1 + 1 = m.length from by omega]
set_option maxHeartbeats 4000000 in
theorem isLot_any (v : Value) (m : List Spn) (w : World) (hv : SpansAt w v m) (hm : 0 < m.length) :
    Cal 85 #[v] w fun e w' => e = .returned (.bool (lotB m)) ∧ Ext w w' := by
  obtain ⟨a, cap, rfl, ⟨hcap, hlen⟩, hc⟩ := hv
  have HC := hid hc
  obtain ⟨b, off, rfl, hbb, hc0, hc1⟩ := hc 0 hm
  have HG0 : Hid (comF m 0 = m[0]) := hid (getD_of hm)
  clear hc
  generalize m[0] = x at *
  obtain ⟨lo, hi⟩ := x
  simp only [Nat.zero_mul, Nat.add_zero] at hc0 hc1
  gi_enter Try.func85, Try.ntmps85
  gi_upto_region 3 with fail
  · have HB0 : Hid ((w.alloc (.cells #[.int .i64 lo, .int .i64 hi] 66)).heap[w.heap.size]? = some (.cells #[.int .i64 (comF m 0).lo, .int .i64 (comF m 0).hi] 66 (0, 0))) := hid (by rw [HG0.out]; exact Ext.new (Ext.refl _))
    have HX0 : Hid (Ext w (w.alloc (.cells #[.int .i64 lo, .int .i64 hi] 66))) := hid ((Ext.refl _).alloc _)
    clear hc0 hc1
    generalize w.alloc (.cells #[.int .i64 lo, .int .i64 hi] 66) = W at *
    gi_loopw [12] (fun i wr => ∃ k : Nat, k ≤ m.length - 1 ∧ i = .int .i64 k ∧ Hid (Ext w wr ∧ wr.heap[w.heap.size]? = some (.cells #[.int .i64 (comF m k).lo, .int .i64 (comF m k).hi] 66 (0, 0)))) (fun i _ => m.length - 1 - (intOf i).toNat)
    case atStart => exact ⟨0, Nat.zero_le _, rfl, hid ⟨HX0.out, HB0.out⟩⟩
    case round =>
      obtain ⟨k, hk, rfl, HI⟩ := hrel
      clear HB0 HX0
      by_cases hlt : k < m.length - 1
      · exfalso; omega
      · have HK : Hid (lotB m = decide ((comF m k).lo ≤ (comF m k).hi)) := hid (by unfold lotB; rw [show m.length - 1 = k from by omega])
        have hb := HI.out.2
        have HX := hid HI.out.1
        clear HI
        generalize comF m k = g at *
        obtain ⟨gl, gh⟩ := g
        simp only at hb HK
        have cb := cell_of hb
        clear hb
        gi_wp2_with (gi_at_call 82; ((with_reducible refine (isSpan_any _ _ _).mono ?_); rintro e w1 ⟨rfl, hx1⟩))
        go_ret
        exact ⟨by rw [HK.out]; rfl, HX.out.trans hx1⟩
  · have HB0 : Hid ((w.alloc (.cells #[.int .i64 lo, .int .i64 hi] 66)).heap[w.heap.size]? = some (.cells #[.int .i64 (comF m 0).lo, .int .i64 (comF m 0).hi] 66 (0, 0))) := hid (by rw [HG0.out]; exact Ext.new (Ext.refl _))
    have HX0 : Hid (Ext w (w.alloc (.cells #[.int .i64 lo, .int .i64 hi] 66))) := hid ((Ext.refl _).alloc _)
    clear hc0 hc1
    generalize w.alloc (.cells #[.int .i64 lo, .int .i64 hi] 66) = W at *
    gi_loopw [12] (fun i wr => ∃ k : Nat, k ≤ m.length - 1 ∧ i = .int .i64 k ∧ Hid (Ext w wr ∧ wr.heap[w.heap.size]? = some (.cells #[.int .i64 (comF m k).lo, .int .i64 (comF m k).hi] 66 (0, 0)))) (fun i _ => m.length - 1 - (intOf i).toNat)
    case atStart => exact ⟨0, Nat.zero_le _, rfl, hid ⟨HX0.out, HB0.out⟩⟩
    case round =>
      obtain ⟨k, hk, rfl, HI⟩ := hrel
      clear HB0 HX0
      by_cases hlt : k < m.length - 1
      · obtain ⟨b', off', e, hbb', hc0, hc1⟩ := HC.out (k + 1) (by omega)
        cases e
        rw [← HI.out.1.cell (p := ⟨b, _, none⟩) hbb'] at hc0 hc1
        rw [show off + (k + 1) * 2 = off + 2 + k * 2 from by omega] at hc0 hc1
        have HN : Hid (comF m (k + 1) = com (comF m k) m[k + 1]) := hid (by show com (comF m k) (m.getD (k + 1) noSpn) = _; rw [getD_of (show k + 1 < m.length by omega)])
        generalize m[k + 1]'(by omega) = x at *
        obtain ⟨p, q⟩ := x
        simp only at hc0 hc1
        have hb := HI.out.2
        have HX := hid HI.out.1
        generalize hg : comF m k = g at *
        clear HI hg
        obtain ⟨gl, gh⟩ := g
        simp only at hb
        have HB := hid hb
        have cb := cell_of hb
        have fb := free_of hb
        have hlb := lt_of_block hb
        clear hb
        gi_wp2_with (gi_at_call 83; ((with_reducible refine (common_any _ _ _ _ _).mono ?_); rintro e w1 ⟨rfl, hx1⟩; have hx2 := ((Ext.refl wr).alloc (.cells #[.int .i64 p, .int .i64 q] 66)).trans hx1; have HB2 := hid (hx2.block HB.out); have cb2 := cell_of HB2.out; have fb2 := free_of HB2.out))
        have e1 := set_same HB2.out 0 (.int .i64 (max gl p))
        have e2 := set_same e1 1 (.int .i64 (min gh q))
        simp only [List.setIfInBounds_toArray, List.set_cons_succ, List.set_cons_zero] at e2
        have hE := ((HX.out.trans hx2).set (b := w.heap.size) (Nat.le_refl _) 0 (.int .i64 (max gl p))).set (b := w.heap.size) (Nat.le_refl _) 1 (.int .i64 (min gh q))
        have HE := hid (And.intro hE e2)
        clear e1 e2 hE
        go_roundw
        case rel => exact ⟨k + 1, by omega, by go_num, hid ⟨HE.out.1, by rw [HN.out]; exact HE.out.2⟩⟩
        case measure => simp [intOf]; omega
      · have HK : Hid (lotB m = decide ((comF m k).lo ≤ (comF m k).hi)) := hid (by unfold lotB; rw [show m.length - 1 = k from by omega])
        have hb := HI.out.2
        have HX := hid HI.out.1
        clear HI
        generalize comF m k = g at *
        obtain ⟨gl, gh⟩ := g
        simp only at hb HK
        have cb := cell_of hb
        clear hb
        gi_wp2_with (gi_at_call 82; ((with_reducible refine (isSpan_any _ _ _).mono ?_); rintro e w1 ⟨rfl, hx1⟩))
        go_ret
        exact ⟨by rw [HK.out]; rfl, HX.out.trans hx1⟩

end Go.Proofs.Ytfkehbhlagpmcaa
