/- What is taken at a price. -/
import Derived.Test.YtfkehbhlagpmcaaCS
set_option linter.unusedSimpArgs false
set_option linter.unusedVariables false
namespace Go.Proofs.Ytfkehbhlagpmcaa
open Go Go.RowKit Go.Shelf
open Au
set_option maxRecDepth 100000 in
set_option maxHeartbeats 8000000 in
theorem taken_any (v ov : Value) (s : Sal) (o : List Nat) (p : Int) (w : World) (hv : ListsAt w v s.offers) (hov : IntsAt w ov (o.map fun i : Nat => (i : Int))) (ho : Ok s) (hr : Order s.offers.length o) (hp : s.least ≤ p ∧ p ≤ 10000) :
    Cal 61 #[callV s v ov, .int .i64 p] w fun e w' => e = .returned (.agg (a8 (tk s o (10001 - p).toNat))) ∧ Ext w w' := by
  have HIT := hid (fun (bx : Nat) => clock_iter v ov s o bx w hv hov ho hr)
  have HLM := hid (clkE_length s o)
  have HGE := hid (fun (k : Nat) (h : k < clkN s) => clkE_get s o h)
  have hle := ho.least
  have hcn : clkN s = (10001 - s.least).toNat := rfl
  obtain ⟨K, hK⟩ : ∃ K, K = (10001 - p).toNat := ⟨_, rfl⟩
  rw [← hK]
  have HKK := hid hK
  clear hK
  obtain ⟨a, cap, rfl, ⟨hcap, hlen⟩, _⟩ := hv
  obtain ⟨ao, co, rfl, ⟨hco, hlo⟩, _⟩ := hov
  simp only [List.length_map] at HIT
  unfold callV
  simp only [List.length_map]
  have HCK := hid (fun (u : World) => clock_any (.int .i64 s.crans) (.int .i64 s.least) (.slice a s.offers.length cap) (.slice ao o.length co) u ⟨_, rfl⟩ ⟨_, rfl⟩ ⟨_, _, _, rfl⟩ ⟨_, _, _, rfl⟩)
  clear ho hr
  refine callsIn_of_wp_marks Try.func61 rfl trivial ?_
  simp only [Try.ntmps61, List.size_toArray, List.length_cons, List.length_nil, Nat.reduceAdd, Nat.reduceSub, Array.replicate_succ, Array.replicate_zero, List.push_toArray, List.append_toArray, List.nil_append, List.cons_append]
  gi_wp2_with (gi_at_call 80; ((with_reducible refine (HCK.out _).mono ?_); rintro e w1 ⟨rfl, rfl⟩))
  have hW : Ext w (((((w.alloc (.cells #[.int .i64 s.crans, .int .i64 s.least, .slice a s.offers.length cap, fnV 68, .slice ao o.length co] 84)).alloc (.cells #[.int .i64 p] 3)).alloc (.cells #[.int .i64 0, .int .i64 0, .int .i64 0, .int .i64 0, .int .i64 0, .int .i64 0, .int .i64 0, .int .i64 0] 90)).alloc (.cells #[.int .i64 0, .int .i64 0, .int .i64 0, .int .i64 0, .int .i64 0, .int .i64 0, .int .i64 0, .int .i64 0] 90)).alloc (.cells #[.int .i64 s.crans, .int .i64 s.least, .slice a s.offers.length cap, fnV 68, .slice ao o.length co] 84)) := (((((Ext.refl _).alloc _).alloc _).alloc _).alloc _).alloc _
  have hB3 : (((((w.alloc (.cells #[.int .i64 s.crans, .int .i64 s.least, .slice a s.offers.length cap, fnV 68, .slice ao o.length co] 84)).alloc (.cells #[.int .i64 p] 3)).alloc (.cells #[.int .i64 0, .int .i64 0, .int .i64 0, .int .i64 0, .int .i64 0, .int .i64 0, .int .i64 0, .int .i64 0] 90)).alloc (.cells #[.int .i64 0, .int .i64 0, .int .i64 0, .int .i64 0, .int .i64 0, .int .i64 0, .int .i64 0, .int .i64 0] 90)).alloc (.cells #[.int .i64 s.crans, .int .i64 s.least, .slice a s.offers.length cap, fnV 68, .slice ao o.length co] 84)).heap[w.heap.size + 1]? = some (.cells #[.int .i64 p] 3 (0, 0)) := (((Ext.refl _).alloc _).alloc _).block three_mid
  have hB4 : (((((w.alloc (.cells #[.int .i64 s.crans, .int .i64 s.least, .slice a s.offers.length cap, fnV 68, .slice ao o.length co] 84)).alloc (.cells #[.int .i64 p] 3)).alloc (.cells #[.int .i64 0, .int .i64 0, .int .i64 0, .int .i64 0, .int .i64 0, .int .i64 0, .int .i64 0, .int .i64 0] 90)).alloc (.cells #[.int .i64 0, .int .i64 0, .int .i64 0, .int .i64 0, .int .i64 0, .int .i64 0, .int .i64 0, .int .i64 0] 90)).alloc (.cells #[.int .i64 s.crans, .int .i64 s.least, .slice a s.offers.length cap, fnV 68, .slice ao o.length co] 84)).heap[w.heap.size + 1 + 1]? = some (.cells #[.int .i64 0, .int .i64 0, .int .i64 0, .int .i64 0, .int .i64 0, .int .i64 0, .int .i64 0, .int .i64 0] 90 (0, 0)) := (((Ext.refl _).alloc _).alloc _).block three_top
  have hB5 : (((((w.alloc (.cells #[.int .i64 s.crans, .int .i64 s.least, .slice a s.offers.length cap, fnV 68, .slice ao o.length co] 84)).alloc (.cells #[.int .i64 p] 3)).alloc (.cells #[.int .i64 0, .int .i64 0, .int .i64 0, .int .i64 0, .int .i64 0, .int .i64 0, .int .i64 0, .int .i64 0] 90)).alloc (.cells #[.int .i64 0, .int .i64 0, .int .i64 0, .int .i64 0, .int .i64 0, .int .i64 0, .int .i64 0, .int .i64 0] 90)).alloc (.cells #[.int .i64 s.crans, .int .i64 s.least, .slice a s.offers.length cap, fnV 68, .slice ao o.length co] 84)).heap[w.heap.size + 1 + 1 + 1]? = some (.cells (a8 (tk s o 0)) 90 (0, 0)) := ((Ext.refl _).alloc _).block (by
    rw [tk_zero]
    have := Ext.new (w := (((w.alloc (.cells #[.int .i64 s.crans, .int .i64 s.least, .slice a s.offers.length cap, fnV 68, .slice ao o.length co] 84)).alloc (.cells #[.int .i64 p] 3)).alloc (.cells #[.int .i64 0, .int .i64 0, .int .i64 0, .int .i64 0, .int .i64 0, .int .i64 0, .int .i64 0, .int .i64 0] 90))) (o := .cells #[.int .i64 0, .int .i64 0, .int .i64 0, .int .i64 0, .int .i64 0, .int .i64 0, .int .i64 0, .int .i64 0] 90) (Ext.refl _)
    rwa [World.size_alloc, World.size_alloc, World.size_alloc] at this)
  have hBX : (((((w.alloc (.cells #[.int .i64 s.crans, .int .i64 s.least, .slice a s.offers.length cap, fnV 68, .slice ao o.length co] 84)).alloc (.cells #[.int .i64 p] 3)).alloc (.cells #[.int .i64 0, .int .i64 0, .int .i64 0, .int .i64 0, .int .i64 0, .int .i64 0, .int .i64 0, .int .i64 0] 90)).alloc (.cells #[.int .i64 0, .int .i64 0, .int .i64 0, .int .i64 0, .int .i64 0, .int .i64 0, .int .i64 0, .int .i64 0] 90)).alloc (.cells #[.int .i64 s.crans, .int .i64 s.least, .slice a s.offers.length cap, fnV 68, .slice ao o.length co] 84)).heap[w.heap.size + 1 + 1 + 1 + 1]? = some (.cells #[.int .i64 s.crans, .int .i64 s.least, .slice a s.offers.length cap, fnV 68, .slice ao o.length co] 84 (0, 0)) := by
    have := Ext.new (w := ((((w.alloc (.cells #[.int .i64 s.crans, .int .i64 s.least, .slice a s.offers.length cap, fnV 68, .slice ao o.length co] 84)).alloc (.cells #[.int .i64 p] 3)).alloc (.cells #[.int .i64 0, .int .i64 0, .int .i64 0, .int .i64 0, .int .i64 0, .int .i64 0, .int .i64 0, .int .i64 0] 90)).alloc (.cells #[.int .i64 0, .int .i64 0, .int .i64 0, .int .i64 0, .int .i64 0, .int .i64 0, .int .i64 0, .int .i64 0] 90))) (o := .cells #[.int .i64 s.crans, .int .i64 s.least, .slice a s.offers.length cap, fnV 68, .slice ao o.length co] 84) (Ext.refl _)
    rwa [World.size_alloc, World.size_alloc, World.size_alloc, World.size_alloc] at this
  generalize (((((w.alloc (.cells #[.int .i64 s.crans, .int .i64 s.least, .slice a s.offers.length cap, fnV 68, .slice ao o.length co] 84)).alloc (.cells #[.int .i64 p] 3)).alloc (.cells #[.int .i64 0, .int .i64 0, .int .i64 0, .int .i64 0, .int .i64 0, .int .i64 0, .int .i64 0, .int .i64 0] 90)).alloc (.cells #[.int .i64 0, .int .i64 0, .int .i64 0, .int .i64 0, .int .i64 0, .int .i64 0, .int .i64 0, .int .i64 0] 90)).alloc (.cells #[.int .i64 s.crans, .int .i64 s.least, .slice a s.offers.length cap, fnV 68, .slice ao o.length co] 84)) = W at *
  have HWS := hid (show w.heap.size + 5 ≤ W.heap.size by have h := lt_of_block hBX; omega)
  have hbel : Below w.heap.size w W := hW
  refine range_boxedR rfl (enters_of Try.func92 (by kernel_rfl) rfl) (HIT.out (w.heap.size + 1 + 1 + 1 + 1))
    (fun r W' => Below w.heap.size w W' ∧ W'.heap[w.heap.size + 1 + 1 + 1 + 1]? = some (.cells #[.int .i64 s.crans, .int .i64 s.least, .slice a s.offers.length cap, fnV 68, .slice ao o.length co] 84 (0, 0)) ∧ Hid (r ≤ K ∧ W'.heap[w.heap.size + 1]? = some (.cells #[.int .i64 p] 3 (0, 0)) ∧ W'.heap[w.heap.size + 1 + 1]? = some (.cells #[.int .i64 0, .int .i64 0, .int .i64 0, .int .i64 0, .int .i64 0, .int .i64 0, .int .i64 0, .int .i64 0] 90 (0, 0)) ∧ W'.heap[w.heap.size + 1 + 1 + 1]? = some (.cells (a8 (tk s o r)) 90 (0, 0))))
    (fun c _ W' => c = .exit 0 ∧ Below w.heap.size w W' ∧ Hid (W'.heap[w.heap.size + 1 + 1]? = some (.cells #[.int .i64 0, .int .i64 0, .int .i64 0, .int .i64 0, .int .i64 0, .int .i64 0, .int .i64 0, .int .i64 0] 90 (0, 0)) ∧ W'.heap[w.heap.size + 1 + 1 + 1]? = some (.cells (a8 (tk s o K)) 90 (0, 0))))
    (fun r W' W'' h hp => ⟨hp.below h.1 hbel.size (Nat.le_refl _), hp.block _ _ (by have := HWS.out; omega) h.2.1, hid ⟨h.2.2.out.1, hp.block _ _ (by have := HWS.out; omega) h.2.2.out.2.1, hp.block _ _ (by have := HWS.out; omega) h.2.2.out.2.2.1, hp.block _ _ (by have := HWS.out; omega) h.2.2.out.2.2.2⟩⟩)
    (fun c r W' W'' h hp => ⟨h.1, hp.below h.2.1 hbel.size (Nat.le_refl _), hid ⟨hp.block _ _ (by have := HWS.out; omega) h.2.2.out.1, hp.block _ _ (by have := HWS.out; omega) h.2.2.out.2⟩⟩)
    (fun r W' h => ⟨h.1, h.2.1⟩) (fun r h => by rw [HGE.out r (by rw [← HLM.out]; exact h)]; rfl) ⟨hbel, hBX, hid ⟨Nat.zero_le _, hB3, hB4, hB5⟩⟩
    (fun r Bx => { tmps := #[.agg #[.int .i64 s.crans, .int .i64 s.least, .slice a s.offers.length cap, fnV 68, .slice ao o.length co], .int .i64 p, .pointer (some ⟨w.heap.size, 0, none⟩), .pointer (some ⟨w.heap.size + 1, 0, none⟩), .pointer (some ⟨w.heap.size + 1 + 1, 0, none⟩), .pointer (some ⟨w.heap.size + 1 + 1 + 1, 0, none⟩), .int .i64 (10000 - (r : Int)), .pointer (some ⟨Bx, 0, none⟩), .agg #[.int .i64 s.crans, .int .i64 s.least, .slice a s.offers.length cap, fnV 68, .slice ao o.length co], .func (.func 92) #[] #[.pointer (some ⟨w.heap.size + 1 + 1 + 1 + 1, 0, none⟩)], .int .i64 (10000 - (r : Int)), .agg (a8 (tk s o (r + 1))), undef, undef, undef, undef, undef], defers := [] })
    (fun r => a8 (tk s o (r + 1))) 90 ?assign ?body ?done ?stop
  case assign =>
    intro l0 r h W1 K' hK
    rw [HGE.out r (by rw [← HLM.out]; exact h)]
    generalize tk s o (r + 1) = F at *
    gi_wp2_with (refine wpIn_store_fresh (fun _ => trivial) 90 (.tmp 7) (.tmp 11) rfl (W := W1) (c' := a8 F) rfl rfl rfl size90 rfl (by simp [a8, Value.oneCell']) ?_)
    exact hK
  case body =>
    rintro l0 r Bx W2 hi hl0 hrr ⟨hbelW, hbx84, HI⟩ hBx hbx
    obtain ⟨hrk, h3, h4, h5⟩ := HI.out
    have hws := HWS.out
    have HB := hid hbelW
    have HBX := hid hbx84
    have H3 := hid h3
    have H4 := hid h4
    have H5 := hid h5
    have c3 := cell_of h3
    have c5 := cell_of h5
    have f5 := free_of h5
    have c7 := cell_of hbx
    by_cases hlt : r < K
    · have hpp : ¬ 10000 - (r : Int) < p := by have := HKK.out; omega
      unfold a8 at c5 c7 ⊢
      clear h3 h4 h5 HI hbelW hbx84 hbx hrr
      gi_wp2
      have e5 := fill8_same H5.out (tk s o (r + 1))
      have e3 := H3.out
      have e4 := H4.out
      have ex := HBX.out
      rw [← fill8_other (g := w.heap.size + 1 + 1 + 1) (by omega) (tk s o (r + 1))] at e3 e4 ex
      refine ⟨⟨keepsFrom_fill8 _ _ _, fill8_ext HB.out (by omega) _, ex, hid ⟨by omega, e3, e4, e5⟩⟩, keepQ_fill8 (by omega) _ _⟩
    · have hpp : 10000 - (r : Int) < p := by have := HKK.out; omega
      obtain rfl : r = K := by omega
      clear c5 f5 c7
      gi_wp2
      exact ⟨⟨keepsFrom_extS (Ext.refl _), rfl, HB.out, hid ⟨H4.out, H5.out⟩⟩, KeepQ.refl _ _⟩
  case done =>
    rintro D W2 hD ⟨hbelW, _, HI⟩ hK
    rw [HLM.out] at HI
    obtain ⟨hrk, _, h4, h5⟩ := HI.out
    rw [show clkN s = K from by have := HKK.out; omega] at h5
    clear HI
    have c5 := cell_of h5
    have c4 := cell_of h4
    have f4 := free_of h4
    have H4 := hid h4
    have HB := hid (show Ext w W2 from hbelW)
    have hws := HWS.out
    unfold a8 at c5
    clear hbelW h4 h5
    gi_wp2
    have e4 := fill8_same (G := zero8) H4.out (tk s o K)
    have hx := fill8_ext HB.out (g := w.heap.size + 1 + 1) (by omega) (tk s o K)
    have HX := hid ((put_past (B := w.heap.size) (fill8 W2 (w.heap.size + 1 + 1) (tk s o K)) (.deferred none) (show w.heap.size ≤ D by omega)).below hx (Nat.le_refl _) (Nat.le_refl _))
    have hkd : (fill8 W2 (w.heap.size + 1 + 1) (tk s o K)).heap[D]? = some (.deferred (some [])) := by rw [fill8_other (by omega)]; exact hK
    have ce : ∀ i, ((fill8 W2 (w.heap.size + 1 + 1) (tk s o K)).putObj D (.deferred none)).cell? ⟨w.heap.size + 1 + 1, i, none⟩ = (a8 (tk s o K))[i]? := fun i => put_cell e4 (by omega) i
    clear c4 c5 f4 e4 hx H4 hK
    unfold a8 at ce
    unfold fill8 at ce hkd HX
    generalize ((((((((W2.setCell ⟨w.heap.size + 1 + 1, 0, none⟩ (.int .i64 (tk s o K 0))).setCell ⟨w.heap.size + 1 + 1, 1, none⟩ (.int .i64 (tk s o K 1))).setCell ⟨w.heap.size + 1 + 1, 2, none⟩ (.int .i64 (tk s o K 2))).setCell ⟨w.heap.size + 1 + 1, 3, none⟩ (.int .i64 (tk s o K 3))).setCell ⟨w.heap.size + 1 + 1, 4, none⟩ (.int .i64 (tk s o K 4))).setCell ⟨w.heap.size + 1 + 1, 5, none⟩ (.int .i64 (tk s o K 5))).setCell ⟨w.heap.size + 1 + 1, 6, none⟩ (.int .i64 (tk s o K 6))).setCell ⟨w.heap.size + 1 + 1, 7, none⟩ (.int .i64 (tk s o K 7))) = W7 at *
    refine leave_mark hkd (v := .agg (a8 (tk s o K))) (by simp [results, Try.results61, go_sem, ce, a8]) ⟨rfl, HX.out⟩
  case stop =>
    rintro D r c W2 hD hi ⟨rfl, hbelW, HI⟩ hK
    obtain ⟨h4, h5⟩ := HI.out
    clear HI
    have c5 := cell_of h5
    have c4 := cell_of h4
    have f4 := free_of h4
    have H4 := hid h4
    have HB := hid (show Ext w W2 from hbelW)
    have hws := HWS.out
    unfold a8 at c5
    clear hbelW h4 h5
    gi_wp2
    have e4 := fill8_same (G := zero8) H4.out (tk s o K)
    have hx := fill8_ext HB.out (g := w.heap.size + 1 + 1) (by omega) (tk s o K)
    have HX := hid ((put_past (B := w.heap.size) (fill8 W2 (w.heap.size + 1 + 1) (tk s o K)) (.deferred none) (show w.heap.size ≤ D by omega)).below hx (Nat.le_refl _) (Nat.le_refl _))
    have hkd : (fill8 W2 (w.heap.size + 1 + 1) (tk s o K)).heap[D]? = some (.deferred (some [])) := by rw [fill8_other (by omega)]; exact hK
    have ce : ∀ i, ((fill8 W2 (w.heap.size + 1 + 1) (tk s o K)).putObj D (.deferred none)).cell? ⟨w.heap.size + 1 + 1, i, none⟩ = (a8 (tk s o K))[i]? := fun i => put_cell e4 (by omega) i
    clear c4 c5 f4 e4 hx H4 hK
    unfold a8 at ce
    unfold fill8 at ce hkd HX
    generalize ((((((((W2.setCell ⟨w.heap.size + 1 + 1, 0, none⟩ (.int .i64 (tk s o K 0))).setCell ⟨w.heap.size + 1 + 1, 1, none⟩ (.int .i64 (tk s o K 1))).setCell ⟨w.heap.size + 1 + 1, 2, none⟩ (.int .i64 (tk s o K 2))).setCell ⟨w.heap.size + 1 + 1, 3, none⟩ (.int .i64 (tk s o K 3))).setCell ⟨w.heap.size + 1 + 1, 4, none⟩ (.int .i64 (tk s o K 4))).setCell ⟨w.heap.size + 1 + 1, 5, none⟩ (.int .i64 (tk s o K 5))).setCell ⟨w.heap.size + 1 + 1, 6, none⟩ (.int .i64 (tk s o K 6))).setCell ⟨w.heap.size + 1 + 1, 7, none⟩ (.int .i64 (tk s o K 7))) = W7 at *
    refine leave_mark hkd (v := .agg (a8 (tk s o K))) (by simp [results, Try.results61, go_sem, ce, a8]) ⟨rfl, HX.out⟩

end Go.Proofs.Ytfkehbhlagpmcaa
