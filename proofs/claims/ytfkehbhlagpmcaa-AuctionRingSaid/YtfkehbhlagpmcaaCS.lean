/- The price of a sale, and what is taken at a price. -/
import Derived.Test.YtfkehbhlagpmcaaCR
import Derived.ChangeKeysEq
set_option linter.unusedSimpArgs false
set_option linter.unusedVariables false
namespace Go.Proofs.Ytfkehbhlagpmcaa
open Go Go.RowKit Go.Shelf
open Au
def eq8 (F G : Nat → Int) : Bool := (List.range 8).all fun k => F k == G k
theorem eq8_iff {F G : Nat → Int} : eq8 F G = true ↔ ∀ k, k < 8 → F k = G k := by
  unfold eq8
  rw [List.all_eq_true]
  simp only [List.mem_range, beq_iff_eq]
theorem eqItems_all {d : Nat} {e : TypeId} {c : Nat} {xs ys : Array Value} {w : World} (f : Nat → Bool) : ∀ l : List Nat, (∀ i ∈ l, ∃ a b, (part e xs (i * c)).run Try.prog w = .ok a w ∧ (part e ys (i * c)).run Try.prog w = .ok b w ∧ (Op.equalIn d e a b).run Try.prog w = .ok (f i) w) →
    (Op.eqItems d e c xs ys l).run Try.prog w = .ok (l.all f) w
  | [], _ => by simp [Op.eqItems]
  | i :: l, h => by
    obtain ⟨a, b, h1, h2, h3⟩ := h i (by simp)
    have ih := eqItems_all f l fun j hj => h j (by simp [hj])
    simp only [Op.eqItems, Sem.run_bind, h1, h2, h3, Result.andThen_ok, List.all_cons]
    cases f i with
    | false => simp
    | true => simpa using ih
theorem info3 : (Try.prog.info? 3).map (fun i => (i.zero, i.size, i.bytes)) = some (some (.int .i64 0), 1, 8) := by kernel_rfl
theorem cells3 : Try.prog.cellsOf 3 = 1 := by kernel_rfl
theorem part_a8 (F : Nat → Int) {i : Nat} (hi : i < 8) (w : World) : (part 3 (a8 F) (i * 1)).run Try.prog w = .ok (.int .i64 (F i)) w := by
  rcases (by omega : i = 0 ∨ i = 1 ∨ i = 2 ∨ i = 3 ∨ i = 4 ∨ i = 5 ∨ i = 6 ∨ i = 7) with rfl | rfl | rfl | rfl | rfl | rfl | rfl | rfl <;> simp [part, isAgg, run_underlying Try.underlying3, a8]
theorem eq_a8 (F G : Nat → Int) (w : World) : (Op.equalIn 10000 90 (.agg (a8 F)) (.agg (a8 G))).run Try.prog w = .ok (eq8 F G) w := by
  obtain ⟨inf, hinf, hz0, hz1, hz2⟩ := info_parts info3
  rw [run_equalIn_array w 9999 _ _ Try.underlying90 hinf, cells3]
  rw [eqItems_all (fun i => F i == G i) (List.range 8) fun i hi => ?_]
  · rfl
  · have hi := List.mem_range.1 hi
    exact ⟨.int .i64 (F i), .int .i64 (G i), part_a8 F hi w, part_a8 G hi w, by simp [go_sem]⟩
set_option maxHeartbeats 1000000 in
theorem clock_any (c l v o : Value) (w : World) (hc : ∃ x, c = .int .i64 x) (hl : ∃ x, l = .int .i64 x) (hv : ∃ a n m, v = .slice a n m) (ho : ∃ a n m, o = .slice a n m) :
    Cal 80 #[.agg #[c, l, v, fnV 68, o]] w fun e w' => e = .returned (.func (.func 92) #[] #[.pointer (some ⟨w.heap.size, 0, none⟩)]) ∧ w' = w.alloc (.cells #[c, l, v, fnV 68, o] 84) := by
  obtain ⟨c, rfl⟩ := hc
  obtain ⟨l, rfl⟩ := hl
  obtain ⟨a1, n1, m1, rfl⟩ := hv
  obtain ⟨a2, n2, m2, rfl⟩ := ho
  gi_enter Try.func80, Try.ntmps80
  gi_wp2
  go_ret
  exact ⟨rfl, rfl⟩
theorem keepsFrom_fill8 {B : Nat} (u : World) (g : Nat) (F : Nat → Int) : KeepsFrom B u (fill8 u g F) :=
  ((KeepsOthers.setCell _ _ _).from _).trans (((KeepsOthers.setCell _ _ _).from _).trans (((KeepsOthers.setCell _ _ _).from _).trans (((KeepsOthers.setCell _ _ _).from _).trans (((KeepsOthers.setCell _ _ _).from _).trans (((KeepsOthers.setCell _ _ _).from _).trans (((KeepsOthers.setCell _ _ _).from _).trans ((KeepsOthers.setCell _ _ _).from _)))))))
theorem keepQ_fill8 {B g : Nat} (hg : g < B) (u : World) (F : Nat → Int) : KeepQ B u (fill8 u g F) := fun k cs t hk hb => by
  rw [fill8_other (by omega)]; exact hb
/-- The last price at which more was taken than before. -/
def lastK (s : Sal) (o : List Nat) : Nat → Int
  | 0 => -1
  | k + 1 => if eq8 (tk s o (k + 1)) (tk s o k) = true then lastK s o k else 10000 - (k : Int)
def priceF (s : Sal) (o : List Nat) : Int := lastK s o (clkN s)
theorem size90 : (Try.prog.info? 90).map (·.size) = some 8 := by kernel_rfl
set_option maxRecDepth 100000 in
set_option maxHeartbeats 8000000 in
theorem price_any (v ov : Value) (s : Sal) (o : List Nat) (w : World) (hv : ListsAt w v s.offers) (hov : IntsAt w ov (o.map fun i : Nat => (i : Int))) (ho : Ok s) (hr : Order s.offers.length o) :
    Cal 57 #[callV s v ov] w fun e w' => e = .returned (.int .i64 (priceF s o)) ∧ Ext w w' := by
  have HIT := hid (fun (bx : Nat) => clock_iter v ov s o bx w hv hov ho hr)
  have HLM := hid (clkE_length s o)
  have HGE := hid (fun (k : Nat) (h : k < clkN s) => clkE_get s o h)
  obtain ⟨a, cap, rfl, ⟨hcap, hlen⟩, _⟩ := hv
  obtain ⟨ao, co, rfl, ⟨hco, hlo⟩, _⟩ := hov
  simp only [List.length_map] at HIT
  unfold callV
  simp only [List.length_map]
  have HCK := hid (fun (u : World) => clock_any (.int .i64 s.crans) (.int .i64 s.least) (.slice a s.offers.length cap) (.slice ao o.length co) u ⟨_, rfl⟩ ⟨_, rfl⟩ ⟨_, _, _, rfl⟩ ⟨_, _, _, rfl⟩)
  clear ho hr
  refine callsIn_of_wp_marks Try.func57 rfl trivial ?_
  simp only [Try.ntmps57, List.size_toArray, List.length_cons, List.length_nil, Nat.reduceAdd, Nat.reduceSub, Array.replicate_succ, Array.replicate_zero, List.push_toArray, List.append_toArray, List.nil_append, List.cons_append]
  gi_wp2_with (gi_at_call 80; ((with_reducible refine (HCK.out _).mono ?_); rintro e w1 ⟨rfl, rfl⟩))
  have hW : Ext w ((((w.alloc (.cells #[.int .i64 s.crans, .int .i64 s.least, .slice a s.offers.length cap, fnV 68, .slice ao o.length co] 84)).alloc (.cells #[.int .i64 (-1)] 3)).alloc (.cells #[.int .i64 0, .int .i64 0, .int .i64 0, .int .i64 0, .int .i64 0, .int .i64 0, .int .i64 0, .int .i64 0] 90)).alloc (.cells #[.int .i64 s.crans, .int .i64 s.least, .slice a s.offers.length cap, fnV 68, .slice ao o.length co] 84)) := ((((Ext.refl _).alloc _).alloc _).alloc _).alloc _
  have hB3 : ((((w.alloc (.cells #[.int .i64 s.crans, .int .i64 s.least, .slice a s.offers.length cap, fnV 68, .slice ao o.length co] 84)).alloc (.cells #[.int .i64 (-1)] 3)).alloc (.cells #[.int .i64 0, .int .i64 0, .int .i64 0, .int .i64 0, .int .i64 0, .int .i64 0, .int .i64 0, .int .i64 0] 90)).alloc (.cells #[.int .i64 s.crans, .int .i64 s.least, .slice a s.offers.length cap, fnV 68, .slice ao o.length co] 84)).heap[w.heap.size + 1]? = some (.cells #[.int .i64 (lastK s o 0)] 3 (0, 0)) := ((Ext.refl _).alloc _).block three_mid
  have hB4 : ((((w.alloc (.cells #[.int .i64 s.crans, .int .i64 s.least, .slice a s.offers.length cap, fnV 68, .slice ao o.length co] 84)).alloc (.cells #[.int .i64 (-1)] 3)).alloc (.cells #[.int .i64 0, .int .i64 0, .int .i64 0, .int .i64 0, .int .i64 0, .int .i64 0, .int .i64 0, .int .i64 0] 90)).alloc (.cells #[.int .i64 s.crans, .int .i64 s.least, .slice a s.offers.length cap, fnV 68, .slice ao o.length co] 84)).heap[w.heap.size + 1 + 1]? = some (.cells (a8 (tk s o 0)) 90 (0, 0)) := ((Ext.refl _).alloc _).block (by rw [tk_zero]; exact three_top)
  have hBX : ((((w.alloc (.cells #[.int .i64 s.crans, .int .i64 s.least, .slice a s.offers.length cap, fnV 68, .slice ao o.length co] 84)).alloc (.cells #[.int .i64 (-1)] 3)).alloc (.cells #[.int .i64 0, .int .i64 0, .int .i64 0, .int .i64 0, .int .i64 0, .int .i64 0, .int .i64 0, .int .i64 0] 90)).alloc (.cells #[.int .i64 s.crans, .int .i64 s.least, .slice a s.offers.length cap, fnV 68, .slice ao o.length co] 84)).heap[w.heap.size + 1 + 1 + 1]? = some (.cells #[.int .i64 s.crans, .int .i64 s.least, .slice a s.offers.length cap, fnV 68, .slice ao o.length co] 84 (0, 0)) := by
    have := Ext.new (w := ((w.alloc (.cells #[.int .i64 s.crans, .int .i64 s.least, .slice a s.offers.length cap, fnV 68, .slice ao o.length co] 84)).alloc (.cells #[.int .i64 (-1)] 3)).alloc (.cells #[.int .i64 0, .int .i64 0, .int .i64 0, .int .i64 0, .int .i64 0, .int .i64 0, .int .i64 0, .int .i64 0] 90)) (o := .cells #[.int .i64 s.crans, .int .i64 s.least, .slice a s.offers.length cap, fnV 68, .slice ao o.length co] 84) (Ext.refl _)
    rwa [World.size_alloc, World.size_alloc, World.size_alloc] at this
  generalize ((((w.alloc (.cells #[.int .i64 s.crans, .int .i64 s.least, .slice a s.offers.length cap, fnV 68, .slice ao o.length co] 84)).alloc (.cells #[.int .i64 (-1)] 3)).alloc (.cells #[.int .i64 0, .int .i64 0, .int .i64 0, .int .i64 0, .int .i64 0, .int .i64 0, .int .i64 0, .int .i64 0] 90)).alloc (.cells #[.int .i64 s.crans, .int .i64 s.least, .slice a s.offers.length cap, fnV 68, .slice ao o.length co] 84)) = W at *
  have HWS := hid (show w.heap.size + 4 ≤ W.heap.size by have h := lt_of_block hBX; omega)
  have hbel : Below w.heap.size w W := hW
  refine range_boxedR rfl (enters_of Try.func92 (by kernel_rfl) rfl) (HIT.out (w.heap.size + 1 + 1 + 1))
    (fun r W' => Below w.heap.size w W' ∧ W'.heap[w.heap.size + 1 + 1 + 1]? = some (.cells #[.int .i64 s.crans, .int .i64 s.least, .slice a s.offers.length cap, fnV 68, .slice ao o.length co] 84 (0, 0)) ∧ Hid (W'.heap[w.heap.size + 1]? = some (.cells #[.int .i64 (lastK s o r)] 3 (0, 0)) ∧ W'.heap[w.heap.size + 1 + 1]? = some (.cells (a8 (tk s o r)) 90 (0, 0))))
    (fun _ _ _ => False)
    (fun r W' W'' h hp => ⟨hp.below h.1 hbel.size (Nat.le_refl _), hp.block _ _ (by have := HWS.out; omega) h.2.1, hid ⟨hp.block _ _ (by have := HWS.out; omega) h.2.2.out.1, hp.block _ _ (by have := HWS.out; omega) h.2.2.out.2⟩⟩)
    (fun _ _ _ _ h _ => h) (fun r W' h => ⟨h.1, h.2.1⟩) (fun r h => by rw [HGE.out r (by rw [← HLM.out]; exact h)]; rfl) ⟨hbel, hBX, hid ⟨hB3, hB4⟩⟩
    (fun r Bx => { tmps := #[.agg #[.int .i64 s.crans, .int .i64 s.least, .slice a s.offers.length cap, fnV 68, .slice ao o.length co], .pointer (some ⟨w.heap.size, 0, none⟩), .int .i64 0, .pointer (some ⟨w.heap.size + 1, 0, none⟩), .pointer (some ⟨w.heap.size + 1 + 1, 0, none⟩), .int .i64 (10000 - (r : Int)), .pointer (some ⟨Bx, 0, none⟩), .agg #[.int .i64 s.crans, .int .i64 s.least, .slice a s.offers.length cap, fnV 68, .slice ao o.length co], .func (.func 92) #[] #[.pointer (some ⟨w.heap.size + 1 + 1 + 1, 0, none⟩)], .int .i64 (10000 - (r : Int)), .agg (a8 (tk s o (r + 1))), undef, undef, undef, undef, undef, undef], defers := [] })
    (fun r => a8 (tk s o (r + 1))) 90 ?assign ?body ?done ?stop
  case assign =>
    intro l0 r h W1 K' hK
    rw [HGE.out r (by rw [← HLM.out]; exact h)]
    generalize tk s o (r + 1) = F at *
    gi_wp2_with (refine wpIn_store_fresh (fun _ => trivial) 90 (.tmp 6) (.tmp 10) rfl (W := W1) (c' := a8 F) rfl rfl rfl size90 rfl (by simp [a8, Value.oneCell']) ?_)
    exact hK
  case stop =>
    rintro D r c W2 hD hi hf hK
    exact hf.elim
  case body =>
    rintro l0 r Bx W2 hi hl0 hrr ⟨hbelW, hbx84, HI⟩ hBx hbx
    obtain ⟨h3, h4⟩ := HI.out
    have hws := HWS.out
    have HQ := hid (eq_a8 (tk s o (r + 1)) (tk s o r))
    have HLK : Hid (lastK s o (r + 1) = if eq8 (tk s o (r + 1)) (tk s o r) = true then lastK s o r else 10000 - (r : Int)) := hid rfl
    have HB := hid hbelW
    have HBX := hid hbx84
    have H3 := hid h3
    have H4 := hid h4
    have c3 := cell_of h3
    have f3 := free_of h3
    have c4 := cell_of h4
    have f4 := free_of h4
    have c6 := cell_of hbx
    have hlt3 := lt_of_block h3
    cases hq : eq8 (tk s o (r + 1)) (tk s o r) with
    | true =>
      rw [hq] at HQ HLK
      have hqr := fun (u : World) => HQ.out u
      unfold a8 at hqr c4 c6 ⊢
      clear h3 h4 HI hbelW hbx84 hbx hrr hq
      gi_wp2
      have e4 := fill8_same H4.out (tk s o (r + 1))
      have e3 := H3.out
      have ex := HBX.out
      rw [← fill8_other (g := w.heap.size + 1 + 1) (by omega) (tk s o (r + 1))] at e3 ex
      refine ⟨⟨keepsFrom_fill8 _ _ _, fill8_ext HB.out (by omega) _, ex, hid ⟨by rw [HLK.out]; exact e3, e4⟩⟩, keepQ_fill8 (by omega) _ _⟩
    | false =>
      rw [hq] at HQ HLK
      have hqr := fun (u : World) => HQ.out u
      unfold a8 at hqr c4 c6 ⊢
      clear h3 h4 HI hbelW hbx84 hbx hrr hq
      gi_wp2
      have e3 := set_same H3.out 0 (.int .i64 (10000 - (r : Int)))
      have ex := HBX.out
      have e4a := H4.out
      rw [← set_other (w := W2) (g := w.heap.size + 1) (by omega) 0 (.int .i64 (10000 - (r : Int)))] at ex e4a
      have HB2 := hid (Ext.set HB.out (b := w.heap.size + 1) (by omega) 0 (.int .i64 (10000 - (r : Int))))
      have k1 : KeepsFrom W.heap.size W2 (W2.setCell ⟨w.heap.size + 1, 0, none⟩ (.int .i64 (10000 - (r : Int)))) := (KeepsOthers.setCell _ _ _).from _
      have k2 : KeepQ W.heap.size W2 (W2.setCell ⟨w.heap.size + 1, 0, none⟩ (.int .i64 (10000 - (r : Int)))) := KeepQ.set (by omega) _ _
      generalize W2.setCell ⟨w.heap.size + 1, 0, none⟩ (.int .i64 (10000 - (r : Int))) = W3 at *
      have e4 := fill8_same e4a (tk s o (r + 1))
      rw [← fill8_other (g := w.heap.size + 1 + 1) (by omega) (tk s o (r + 1))] at e3 ex
      refine ⟨⟨k1.trans (keepsFrom_fill8 _ _ _), fill8_ext HB2.out (by omega) _, ex, hid ⟨by rw [HLK.out]; exact e3, e4⟩⟩, k2.trans (keepQ_fill8 (by omega) _ _)⟩
  case done =>
    rintro D W2 hD ⟨hbelW, _, HI⟩ hK
    rw [HLM.out] at HI
    have c3 := cell_of HI.out.1
    have HB := hid (show Ext w W2 from hbelW)
    clear hbelW HI
    gi_wp2_with fail
    have hws := HWS.out
    refine leave_mark hK (v := .int .i64 (priceF s o)) (by simp [results, Try.results57, go_sem, priceF]) ⟨rfl, (put_past (B := w.heap.size) _ _ (by omega)).below HB.out (Nat.le_refl _) (Nat.le_refl _)⟩

end Go.Proofs.Ytfkehbhlagpmcaa
