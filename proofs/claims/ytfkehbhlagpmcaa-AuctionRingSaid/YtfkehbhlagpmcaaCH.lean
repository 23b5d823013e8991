/- Baskets in memory: whether they are some; spans in common. -/
import Derived.Test.YtfkehbhlagpmcaaCA
import Derived.Test.YtfkehbhlagpmcaaMe
import Derived.Test.YtfkehbhlagpmcaaMl
set_option linter.unusedSimpArgs false
set_option linter.unusedVariables false
namespace Go.Proofs.Ytfkehbhlagpmcaa
open Go Go.RowKit Go.Shelf
open Au
def spnV (s : Spn) : Value := .agg #[.int .i64 s.lo, .int .i64 s.hi]
def SpansAt (w : World) (v : Value) (l : List Spn) : Prop :=
  ∃ a cap, v = .slice a l.length cap ∧ (l.length ≤ cap ∧ l.length ≤ 1000000000000000) ∧ ∀ i (h : i < l.length), ∃ b off, a = some ⟨b, off, none⟩ ∧ b < w.heap.size ∧
    w.cell? ⟨b, off + i * 2, none⟩ = some (.int .i64 l[i].lo) ∧ w.cell? ⟨b, off + i * 2 + 1, none⟩ = some (.int .i64 l[i].hi)
theorem SpansAt.mono {w w' : World} {v : Value} {l : List Spn} (h : SpansAt w v l) (hx : Ext w w') : SpansAt w' v l := by
  obtain ⟨a, cap, hv, hl, hc⟩ := h
  refine ⟨a, cap, hv, hl, fun i hi => ?_⟩
  obtain ⟨b, off, ha, hb, h0, h1⟩ := hc i hi
  exact ⟨b, off, ha, Nat.lt_of_lt_of_le hb hx.size, by rw [hx.cell (p := ⟨b, _, none⟩) hb]; exact h0, by rw [hx.cell (p := ⟨b, _, none⟩) hb]; exact h1⟩
set_option maxHeartbeats 400000 in
theorem isSpan_any (a b : Int) (w : World) : Cal 82 #[.agg #[.int .i64 a, .int .i64 b]] w fun e w' => e = .returned (.bool (decide (a ≤ b))) ∧ Ext w w' := by
  gi_enter Try.func82, Try.ntmps82
  gi_wp2
  go_ret; exact ⟨rfl, (Ext.refl _).alloc _⟩
theorem isSpan_b (a b : Int) (v : Bool) (w : World) (h : decide (a ≤ b) = v) : Cal 82 #[.agg #[.int .i64 a, .int .i64 b]] w fun e w' => e = .returned (.bool v) ∧ Ext w w' := by
  subst h; exact isSpan_any a b w
set_option maxHeartbeats 400000 in
theorem common_any (a b c d : Int) (w : World) : Cal 83 #[.agg #[.int .i64 a, .int .i64 b], .agg #[.int .i64 c, .int .i64 d]] w fun e w' => e = .returned (.agg #[.int .i64 (max a c), .int .i64 (min b d)]) ∧ Ext w w' := by
  gi_enter Try.func83, Try.ntmps83
  gi_wp2
  · have e1 : max a c = c := by omega
    have e2 : min b d = d := by omega
    have c4 := cell_of (show (((w.alloc (.cells #[.int .i64 a, .int .i64 b] 66)).alloc (.cells #[.int .i64 c, .int .i64 d] 66)).alloc (.cells #[.int .i64 c, .int .i64 d] 66)).heap[w.heap.size + 1 + 1]? = some (.cells #[.int .i64 c, .int .i64 d] 66 (0, 0)) from three_top)
    refine bodyPost_ret (v := .agg #[.int .i64 c, .int .i64 d]) (by simp [results, Try.results83, go_sem, c4]) rfl ⟨by rw [e1, e2], (((Ext.refl _).alloc _).alloc _).alloc _⟩
  · have e1 : max a c = c := by omega
    have e2 : min b d = b := by omega
    have c4 := cell_of (show (((w.alloc (.cells #[.int .i64 a, .int .i64 b] 66)).alloc (.cells #[.int .i64 c, .int .i64 d] 66)).alloc (.cells #[.int .i64 c, .int .i64 b] 66)).heap[w.heap.size + 1 + 1]? = some (.cells #[.int .i64 c, .int .i64 b] 66 (0, 0)) from three_top)
    refine bodyPost_ret (v := .agg #[.int .i64 c, .int .i64 b]) (by simp [results, Try.results83, go_sem, c4]) rfl ⟨by rw [e1, e2], (((Ext.refl _).alloc _).alloc _).alloc _⟩
  · have e1 : max a c = a := by omega
    have e2 : min b d = d := by omega
    have c4 := cell_of (show (((w.alloc (.cells #[.int .i64 a, .int .i64 b] 66)).alloc (.cells #[.int .i64 c, .int .i64 d] 66)).alloc (.cells #[.int .i64 a, .int .i64 d] 66)).heap[w.heap.size + 1 + 1]? = some (.cells #[.int .i64 a, .int .i64 d] 66 (0, 0)) from three_top)
    refine bodyPost_ret (v := .agg #[.int .i64 a, .int .i64 d]) (by simp [results, Try.results83, go_sem, c4]) rfl ⟨by rw [e1, e2], (((Ext.refl _).alloc _).alloc _).alloc _⟩
  · have e1 : max a c = a := by omega
    have e2 : min b d = b := by omega
    have c4 := cell_of (show (((w.alloc (.cells #[.int .i64 a, .int .i64 b] 66)).alloc (.cells #[.int .i64 c, .int .i64 d] 66)).alloc (.cells #[.int .i64 a, .int .i64 b] 66)).heap[w.heap.size + 1 + 1]? = some (.cells #[.int .i64 a, .int .i64 b] 66 (0, 0)) from three_top)
    refine bodyPost_ret (v := .agg #[.int .i64 a, .int .i64 b]) (by simp [results, Try.results83, go_sem, c4]) rfl ⟨by rw [e1, e2], (((Ext.refl _).alloc _).alloc _).alloc _⟩
/-- Whether a span is that of a basket. -/
def spanG (s : Spn) : Bool := decide (s.lo ≤ s.hi) && (decide (0 ≤ s.lo) && decide (s.hi ≤ 1000))
def spanI (l : List Spn) (i : Nat) : Bool := spanG (l.getD i noSpn)
def basketsB (l : List Spn) : Bool := inB (l.length : Int) 1 40 && allTo (spanI l) l.length
theorem baskets_ok {l : List Spn} (h : basketsB l = true) : 0 < l.length ∧ l.length ≤ 40 ∧ (∀ i, i < l.length → (l.getD i noSpn).lo ≤ (l.getD i noSpn).hi ∧ 0 ≤ (l.getD i noSpn).lo ∧ (l.getD i noSpn).hi ≤ 1000) := by
  unfold basketsB at h
  rw [Bool.and_eq_true] at h
  have h1 := inB_spec h.1
  refine ⟨by omega, by omega, fun i hi => ?_⟩
  have h2 := h.2
  unfold allTo at h2
  rw [List.all_eq_true] at h2
  have := h2 i (List.mem_range.2 hi)
  unfold spanI spanG at this
  simp only [Bool.and_eq_true, decide_eq_true_eq] at this
  exact this
theorem span_ok {l : List Spn} (h : basketsB l = true) : ∀ i, i < l.length → (l.getD i noSpn).lo ≤ (l.getD i noSpn).hi := fun i hi => ((baskets_ok h).2.2 i hi).1
set_option maxHeartbeats 2000000 in
theorem areBaskets_any (v : Value) (l : List Spn) (w : World) (hv : SpansAt w v l) :
    Cal 62 #[v] w fun e w' => e = .returned (.bool (basketsB l)) ∧ Ext w w' := by
  obtain ⟨a, cap, rfl, ⟨hcap, hlen⟩, hc⟩ := hv
  have HC := hid hc
  clear hc
  cases h1 : inB (l.length : Int) 1 40 with
  | false =>
    have HE : Hid (basketsB l = false) := hid (by unfold basketsB; rw [h1]; rfl)
    have HI := hid h1
    clear h1
    gi_enter Try.func62, Try.ntmps62
    gi_wp2_with (gi_at_call 60; ((with_reducible refine (isIn_b _ _ _ false _ HI.out).mono ?_); rintro e w1 ⟨rfl, rfl⟩))
    go_ret
    exact ⟨by rw [HE.out]; rfl, Ext.refl _⟩
  | true =>
    have HE : Hid (basketsB l = allTo (spanI l) l.length) := hid (by unfold basketsB; rw [h1]; rfl)
    have HI := hid h1
    clear h1
    gi_enter Try.func62, Try.ntmps62
    gi_wp2_with (gi_at_call 60; ((with_reducible refine (isIn_b _ _ _ true _ HI.out).mono ?_); rintro e w1 ⟨rfl, rfl⟩))
    gi_loopw [11] (fun i wr => ∃ k : Nat, k ≤ l.length ∧ i = .int .i64 k ∧ Hid (Ext w wr ∧ ∀ j, j < k → spanI l j = true)) (fun i _ => l.length - (intOf i).toNat)
    case atStart => exact ⟨0, Nat.zero_le _, rfl, hid ⟨Ext.refl _, fun _ h => absurd h (by omega)⟩⟩
    case round =>
      obtain ⟨k, hk, rfl, HG⟩ := hrel
      by_cases hlt : k < l.length
      · obtain ⟨b, off, rfl, hbb, hc0, hc1⟩ := HC.out k hlt
        rw [← HG.out.1.cell (p := ⟨b, _, none⟩) hbb] at hc0 hc1
        have HSG : Hid (spanI l k = spanG l[k]) := hid (by unfold spanI; rw [getD_of hlt])
        have HT : Hid (spanI l k = true → ∀ j, j < k + 1 → spanI l j = true) := hid (upTo_succ HG.out.2)
        have HF : Hid (spanI l k = false → basketsB l = false) := hid fun h => by rw [HE.out]; exact allTo_no hlt h
        have HX := hid HG.out.1
        clear HG
        generalize l[k] = x at *
        obtain ⟨lo, hi⟩ := x
        simp only at hc0 hc1
        by_cases h1 : lo ≤ hi
        · by_cases h2 : 0 ≤ lo
          · by_cases h3 : hi ≤ 1000
            · have HT2 := hid (HT.out (by rw [HSG.out]; unfold spanG; simp [h1, h2, h3]))
              have HS := hid (show decide (lo ≤ hi) = true by simpa using h1)
              clear h1
              gi_wp2_with (gi_at_call 82; ((with_reducible refine (isSpan_b _ _ true _ HS.out).mono ?_); rintro e w1 ⟨rfl, hx1⟩; have c1 := cell_of (hx1.block (Ext.new (Ext.refl _)))))
              go_roundw
              case rel => exact ⟨k + 1, by omega, by go_num, hid ⟨(HX.out.alloc _).trans hx1, HT2.out⟩⟩
              case measure => simp [intOf]; omega
            · have HF2 := hid (HF.out (by rw [HSG.out]; unfold spanG; simp [h3]))
              have HS := hid (show decide (lo ≤ hi) = true by simpa using h1)
              clear h1
              gi_wp2_with (gi_at_call 82; ((with_reducible refine (isSpan_b _ _ true _ HS.out).mono ?_); rintro e w1 ⟨rfl, hx1⟩; have c1 := cell_of (hx1.block (Ext.new (Ext.refl _)))))
              go_ret
              exact ⟨by rw [HF2.out]; rfl, (HX.out.alloc _).trans hx1⟩
          · have HF2 := hid (HF.out (by rw [HSG.out]; unfold spanG; simp [h2]))
            have HS := hid (show decide (lo ≤ hi) = true by simpa using h1)
            clear h1
            gi_wp2_with (gi_at_call 82; ((with_reducible refine (isSpan_b _ _ true _ HS.out).mono ?_); rintro e w1 ⟨rfl, hx1⟩; have c1 := cell_of (hx1.block (Ext.new (Ext.refl _)))))
            go_ret
            exact ⟨by rw [HF2.out]; rfl, (HX.out.alloc _).trans hx1⟩
        · have HF2 := hid (HF.out (by rw [HSG.out]; unfold spanG; simp [h1]))
          have HS := hid (show decide (lo ≤ hi) = false by simpa using h1)
          clear h1
          gi_wp2_with (gi_at_call 82; ((with_reducible refine (isSpan_b _ _ false _ HS.out).mono ?_); rintro e w1 ⟨rfl, hx1⟩; have c1 := cell_of (hx1.block (Ext.new (Ext.refl _)))))
          go_ret
          exact ⟨by rw [HF2.out]; rfl, (HX.out.alloc _).trans hx1⟩
      · obtain rfl : k = l.length := by omega
        have HT : Hid (basketsB l = true) := hid (by rw [HE.out]; exact allTo_yes HG.out.2)
        have HX := hid HG.out.1
        clear HG
        gi_wp2
        go_ret
        exact ⟨by rw [HT.out]; rfl, HX.out⟩

end Go.Proofs.Ytfkehbhlagpmcaa
