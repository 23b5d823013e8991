/- The sort of the bids. -/
import Derived.Test.YtfkehbhlagpmcaaCC
import Derived.Test.YtfkehbhlagpmcaaSh
set_option linter.unusedSimpArgs false
set_option linter.unusedVariables false
namespace Go.Proofs.Ytfkehbhlagpmcaa
open Go Go.RowKit Go.Shelf Go.Lib Go.Sort
open Au
/-- New blocks and draws alone. -/
def Gr (u v : World) : Prop := ∃ q os, v = grow (u.drewN q) os
theorem Gr.refl (u : World) : Gr u u := ⟨0, #[], by simp [World.drewN_zero]⟩
theorem Gr.trans {u v w : World} (h : Gr u v) (k : Gr v w) : Gr u w := by
  obtain ⟨q, os, rfl⟩ := h
  obtain ⟨r, os', rfl⟩ := k
  refine ⟨q + r, os ++ os', ?_⟩
  rw [← grow_grow, ← World.drewN_drewN]; rfl
theorem Gr.alloc (u : World) (o : Obj) : Gr u (u.alloc o) := ⟨0, #[o], by rw [World.drewN_zero, alloc_eq_grow]⟩
theorem Gr.drawn (u : World) : Gr u { u with drawn := u.drawn + 1 } := ⟨1, #[], by simp [World.drewN]⟩
theorem Gr.ext {u v : World} (h : Gr u v) : Ext u v := by
  obtain ⟨q, os, rfl⟩ := h
  refine ⟨rfl, rfl, rfl, by simp [World.drewN], fun k hk => ?_⟩
  show ((u.drewN q).heap ++ os)[k]? = _
  rw [Array.getElem?_append_left (by simpa [World.drewN] using hk)]; rfl
/-- Which of two bids comes first: below 0, the first one. -/
def offC (a b : Bd) : Int := orL [cmpI b.offer a.offer, cmpI (a.buyer : Int) (b.buyer : Int), cmpI (a.place : Int) (b.place : Int)]
set_option maxRecDepth 100000 in
set_option maxHeartbeats 2000000 in
theorem byOffer_gr0 (a1 a2 a3 b1 b2 b3 : Int) (w : World) : Cal 68 #[.agg #[.int .i64 a1, .int .i64 a2, .int .i64 a3], .agg #[.int .i64 b1, .int .i64 b2, .int .i64 b3]] w fun e w' => e = .returned (.int .i64 (orL [cmpI b3 a3, cmpI a1 b1, cmpI a2 b2])) ∧ Gr w w' := by
  gi_enter Try.func68, Try.ntmps68
  gi_wp2_with fail
  have hW : Gr w ((w.alloc (.cells #[.int .i64 a1, .int .i64 a2, .int .i64 a3] 102)).alloc (.cells #[.int .i64 b1, .int .i64 b2, .int .i64 b3] 102)) := (Gr.alloc _ _).trans (Gr.alloc _ _)
  have HA := hid (two_new (w := w) (o1 := .cells #[.int .i64 a1, .int .i64 a2, .int .i64 a3] 102) (o2 := .cells #[.int .i64 b1, .int .i64 b2, .int .i64 b3] 102))
  have HB : Hid (((w.alloc (.cells #[.int .i64 a1, .int .i64 a2, .int .i64 a3] 102)).alloc (.cells #[.int .i64 b1, .int .i64 b2, .int .i64 b3] 102)).heap[w.heap.size + 1]? = some (.cells #[.int .i64 b1, .int .i64 b2, .int .i64 b3] 102 (0, 0))) := hid (by
    have := Ext.new (w := w.alloc (.cells #[.int .i64 a1, .int .i64 a2, .int .i64 a3] 102)) (o := .cells #[.int .i64 b1, .int .i64 b2, .int .i64 b3] 102) (Ext.refl _); rwa [World.size_alloc] at this)
  generalize (w.alloc (.cells #[.int .i64 a1, .int .i64 a2, .int .i64 a3] 102)).alloc (.cells #[.int .i64 b1, .int .i64 b2, .int .i64 b3] 102) = W at *
  refine lex_own 17 [(15, pI [cmpI b3 a3, cmpI a1 b1, cmpI a2 b2])] (fun _ => Gr) (fun _ w' => Gr W w') (Gr W) (by kernel_rfl) (by kernel_rfl) (fun _ => Gr.drawn _) (Gr.drawn _) (fun _ _ _ _ _ h k => h.trans k) (fun _ _ _ h k => h.trans k) (fun i _ p _ hp v u u' hv hg => nStab_cons (pI_s _) nStab_nil i p hp v u u' hv hg.ext) ?_
  simp only [List.take_succ_cons, List.take_zero, List.drop_succ_cons, List.drop_zero]
  apply lex_fun (rfl : psAt _ _ = none)
  · intro x u hR hf
    clear hR hf
    go_simp
    exact ⟨rfl, Gr.refl _⟩
  simp only [Act.put, List.setIfInBounds_toArray, List.set_cons_succ, List.set_cons_zero]
  apply lex_fun (rfl : psAt _ _ = none)
  · intro x u hR hf
    have c1 := cell_of ((Gr.ext hR).block HB.out)
    clear hR hf
    go_simp
    exact ⟨rfl, Gr.refl _⟩
  simp only [Act.put, List.setIfInBounds_toArray, List.set_cons_succ, List.set_cons_zero]
  apply lex_fun (rfl : psAt _ _ = none)
  · intro x u hR hf
    clear hR hf
    go_simp
    exact ⟨rfl, Gr.refl _⟩
  simp only [Act.put, List.setIfInBounds_toArray, List.set_cons_succ, List.set_cons_zero]
  apply lex_fun (rfl : psAt _ _ = none)
  · intro x u hR hf
    have c0 := cell_of ((Gr.ext hR).block HA.out)
    clear hR hf
    go_simp
    exact ⟨rfl, Gr.refl _⟩
  simp only [Act.put, List.setIfInBounds_toArray, List.set_cons_succ, List.set_cons_zero]
  refine lex_fun (v := .int .i64 (cmpI b3 a3)) (rfl : psAt _ _ = none) ?_ ?_
  · intro x u hR hf
    have hcal := hid (cmpI_any b3 a3 u)
    clear hR hf
    go_simp
    exact hcal.out.mono fun e w'' ⟨he, hx'⟩ => ⟨_, he, rfl, by subst hx'; exact Gr.refl _⟩
  simp only [Act.put, List.setIfInBounds_toArray, List.set_cons_succ, List.set_cons_zero]
  apply lex_fun (rfl : psAt _ _ = none)
  · intro x u hR hf
    clear hR hf
    go_simp
    exact ⟨rfl, Gr.refl _⟩
  simp only [Act.put, List.setIfInBounds_toArray, List.set_cons_succ, List.set_cons_zero]
  apply lex_fun (rfl : psAt _ _ = none)
  · intro x u hR hf
    have c0 := cell_of ((Gr.ext hR).block HA.out)
    clear hR hf
    go_simp
    exact ⟨rfl, Gr.refl _⟩
  simp only [Act.put, List.setIfInBounds_toArray, List.set_cons_succ, List.set_cons_zero]
  apply lex_fun (rfl : psAt _ _ = none)
  · intro x u hR hf
    clear hR hf
    go_simp
    exact ⟨rfl, Gr.refl _⟩
  simp only [Act.put, List.setIfInBounds_toArray, List.set_cons_succ, List.set_cons_zero]
  apply lex_fun (rfl : psAt _ _ = none)
  · intro x u hR hf
    have c1 := cell_of ((Gr.ext hR).block HB.out)
    clear hR hf
    go_simp
    exact ⟨rfl, Gr.refl _⟩
  simp only [Act.put, List.setIfInBounds_toArray, List.set_cons_succ, List.set_cons_zero]
  refine lex_fun (v := .int .i64 (cmpI a1 b1)) (rfl : psAt _ _ = none) ?_ ?_
  · intro x u hR hf
    have hcal := hid (cmpI_any a1 b1 u)
    clear hR hf
    go_simp
    exact hcal.out.mono fun e w'' ⟨he, hx'⟩ => ⟨_, he, rfl, by subst hx'; exact Gr.refl _⟩
  simp only [Act.put, List.setIfInBounds_toArray, List.set_cons_succ, List.set_cons_zero]
  apply lex_fun (rfl : psAt _ _ = none)
  · intro x u hR hf
    clear hR hf
    go_simp
    exact ⟨rfl, Gr.refl _⟩
  simp only [Act.put, List.setIfInBounds_toArray, List.set_cons_succ, List.set_cons_zero]
  apply lex_fun (rfl : psAt _ _ = none)
  · intro x u hR hf
    have c0 := cell_of ((Gr.ext hR).block HA.out)
    clear hR hf
    go_simp
    exact ⟨rfl, Gr.refl _⟩
  simp only [Act.put, List.setIfInBounds_toArray, List.set_cons_succ, List.set_cons_zero]
  apply lex_fun (rfl : psAt _ _ = none)
  · intro x u hR hf
    clear hR hf
    go_simp
    exact ⟨rfl, Gr.refl _⟩
  simp only [Act.put, List.setIfInBounds_toArray, List.set_cons_succ, List.set_cons_zero]
  apply lex_fun (rfl : psAt _ _ = none)
  · intro x u hR hf
    have c1 := cell_of ((Gr.ext hR).block HB.out)
    clear hR hf
    go_simp
    exact ⟨rfl, Gr.refl _⟩
  simp only [Act.put, List.setIfInBounds_toArray, List.set_cons_succ, List.set_cons_zero]
  refine lex_fun (v := .int .i64 (cmpI a2 b2)) (rfl : psAt _ _ = none) ?_ ?_
  · intro x u hR hf
    have hcal := hid (cmpI_any a2 b2 u)
    clear hR hf
    go_simp
    exact hcal.out.mono fun e w'' ⟨he, hx'⟩ => ⟨_, he, rfl, by subst hx'; exact Gr.refl _⟩
  simp only [Act.put, List.setIfInBounds_toArray, List.set_cons_succ, List.set_cons_zero]
  refine lex_pred (p := pI [cmpI b3 a3, cmpI a1 b1, cmpI a2 b2]) rfl ?_ ?_
  · intro x u hR hf
    clear hR hf
    go_simp
    exact ⟨ints_three _ _ _ (Ext.refl _), Gr.alloc _ _⟩
  simp only [Act.put, List.setIfInBounds_toArray, List.set_cons_succ, List.set_cons_zero]
  refine lex_fun (v := .int .i64 (orL [cmpI b3 a3, cmpI a1 b1, cmpI a2 b2])) (rfl : psAt _ _ = none) ?_ ?_
  · intro x u hR hf
    have h12 := (hf.1 rfl : pI _ (x 15) u)
    have hcal := hid (or_any _ _ u h12)
    clear hR hf
    go_simp
    exact hcal.out.mono fun e w'' ⟨he, hx'⟩ => ⟨_, he, rfl, by subst hx'; exact Gr.refl _⟩
  simp only [Act.put, List.setIfInBounds_toArray, List.set_cons_succ, List.set_cons_zero]
  refine lex_nil fun x w6 hE hfacts => ?_
  clear hfacts
  generalize x 15 = x15
  clear x
  gi_wp2
  go_ret
  exact ⟨rfl, hW.trans hE⟩
theorem byOffer_gr (a b : Bd) (w : World) : Cal 68 #[bidV a, bidV b] w fun e w' => e = .returned (.int .i64 (offC a b)) ∧ Gr w w' := byOffer_gr0 _ _ _ _ _ _ w
theorem offC_lt (a b : Bd) : decide (offC a b < 0) = bLt a b := by
  unfold offC bLt cmpI
  rcases Int.lt_trichotomy b.offer a.offer with h | h | h
  · simp [h, orL]
  · have e1 : ¬ b.offer < a.offer := by omega
    have e2 : ¬ a.offer < b.offer := by omega
    rw [if_neg e1, if_neg e2]
    rcases Nat.lt_trichotomy a.buyer b.buyer with k | k | k
    · have k1 : (a.buyer : Int) < (b.buyer : Int) := by omega
      simp [k1, k, orL, h]
    · have k1 : ¬ (a.buyer : Int) < (b.buyer : Int) := by omega
      have k2 : ¬ (b.buyer : Int) < (a.buyer : Int) := by omega
      rw [if_neg k1, if_neg k2]
      rcases Nat.lt_trichotomy a.place b.place with m | m | m
      · have m1 : (a.place : Int) < (b.place : Int) := by omega
        simp [m1, m, k, orL, h]
      · have m1 : ¬ (a.place : Int) < (b.place : Int) := by omega
        have m2 : ¬ (b.place : Int) < (a.place : Int) := by omega
        have m3 : ¬ a.place < b.place := by omega
        rw [if_neg m1, if_neg m2]
        simp [m3, k, orL, h]
      · have m1 : ¬ (a.place : Int) < (b.place : Int) := by omega
        have m2 : (b.place : Int) < (a.place : Int) := by omega
        have m3 : ¬ a.place < b.place := by omega
        rw [if_neg m1, if_pos m2]
        simp [m3, k, orL, h]
    · have k1 : ¬ (a.buyer : Int) < (b.buyer : Int) := by omega
      have k2 : (b.buyer : Int) < (a.buyer : Int) := by omega
      have k3 : ¬ a.buyer < b.buyer := by omega
      have k4 : ¬ a.buyer = b.buyer := by omega
      rw [if_neg k1, if_pos k2]
      simp [k3, k4, orL, h]
  · have e1 : ¬ b.offer < a.offer := by omega
    have e3 : ¬ a.offer = b.offer := by omega
    simp [e1, h, orL, e3]
theorem ltOff (x y : Bd) : ltOf offC x y = bLt x y := by rw [← offC_lt]; rfl
theorem swoOff : SWO (ltOf offC) where
  irrefl x := by rw [ltOff]; exact bLt_irr x
  trans x y z h1 h2 := by rw [ltOff] at *; exact bLt_tr h1 h2
  ntrans x y z h1 h2 := by rw [ltOff] at *; exact bLt_ntr h1 h2
theorem Try.isAgg102' : ∀ w, (isAgg 102).run Try.prog w = .ok true w := fun w => by simp [isAgg, go_sem, Try.underlying102]
theorem Try.sizeOf102' : ∀ w, (Go.sizeOf 102).run Try.prog w = .ok 3 w := fun w => by
  obtain ⟨i, hi, hs⟩ := Option.map_eq_some_iff.1 size102
  simp [Go.sizeOf, go_sem]
  first | rfl | decide | kernel_rfl
theorem cmpLays68 (blk off size : Nat) (w : World) : CmpLays Try.prog 68 #[] bidCells 3 offC blk off size w :=
  fun _ _ _ _ x y => (byOffer_gr x y _).calls
/-- The bids as cells. -/
def flatB (l : List Bd) (k : Nat) : List Value := (List.range k).flatMap fun i => bidCells (l.getD i noBd)
theorem flatB_succ (l : List Bd) {k : Nat} (h : k < l.length) : flatB l (k + 1) = flatB l k ++ bidCells l[k] := by
  unfold flatB; rw [List.range_succ, List.flatMap_append]; simp [List.getElem?_eq_getElem h]
/-- Shares in a block of their own. -/
def BdB (w : World) (v : Value) (l : List Bd) : Prop := BidsAt w v l ∧ ((v = .slice none 0 0 ∧ l = []) ∨ ∃ g n cap cs, v = .slice (some ⟨g, 0, none⟩) n cap ∧ w.heap[g]? = some (.cells cs 102 (0, 0)))
theorem BdB.keep {W W' : World} {v : Value} {l : List Bd} (h : BdB W v l) (hk : ∀ (k : Nat) (cs : Array Value), W.heap[k]? = some (.cells cs 102 (0, 0)) → W'.heap[k]? = some (.cells cs 102 (0, 0))) : BdB W' v l := by
  obtain ⟨⟨a, cap, rfl, hl, hc⟩, h2⟩ := h
  rcases h2 with ⟨e, rfl⟩ | ⟨g, n, cap', cs, e, hg⟩
  · cases e
    exact ⟨⟨none, 0, rfl, hl, fun i hi => by simp at hi⟩, .inl ⟨rfl, rfl⟩⟩
  · cases e
    have hg' := hk g cs hg
    refine ⟨⟨_, _, rfl, hl, fun i hi => ?_⟩, .inr ⟨g, _, _, cs, rfl, hg'⟩⟩
    obtain ⟨b, off, e, hb, h0, h1, h2⟩ := hc i hi
    cases e
    rw [cell_of hg] at h0 h1 h2
    exact ⟨g, 0, rfl, lt_of_block hg', by rw [cell_of hg']; exact h0, by rw [cell_of hg']; exact h1, by rw [cell_of hg']; exact h2⟩
theorem BdB.mono {w w' : World} {v : Value} {l : List Bd} (h : BdB w v l) (hx : Ext w w') : BdB w' v l := h.keep fun _ _ hb => hx.block hb
theorem flatB_get (l : List Bd) {k : Nat} (hk : k ≤ l.length) {i : Nat} (h : i < k) (j : Nat) (hj : j < 3) : (flatB l k)[i * 3 + j]? = (bidCells (l[i]'(by omega)))[j]? := by
  have := (flat_get (sz := 3) (fun i => bidCells (l.getD i noBd)) (fun _ => rfl) k).2 i j h hj
  unfold flatB
  rw [this, getD_of (by omega)]
theorem BidsAt.of_row {w : World} {v : Value} {l : List Bd} (h : Row w 102 3 v l.length (flatB l l.length)) (hl : l.length ≤ 1000) : BidsAt w v l := by
  obtain ⟨_, h⟩ := h
  rcases h with ⟨rfl, h0⟩ | ⟨g, cap, cur, rfl, hg, h1, h2, h3, h4⟩
  · exact ⟨none, 0, by rw [h0], ⟨by omega, by omega⟩, fun i hi => by omega⟩
  · refine ⟨_, cap, rfl, ⟨h1, by omega⟩, fun i hi => ⟨g, 0, rfl, lt_of_block hg, ?_⟩⟩
    have key : ∀ j, j < 3 → w.cell? ⟨g, 0 + i * 3 + j, none⟩ = (bidCells l[i])[j]? := fun j hj => by
      rw [cell_of hg, Nat.zero_add, ← flatB_get l (Nat.le_refl _) hi j hj, ← h4, List.getElem?_take, if_pos (by omega), Array.getElem?_toList]
    exact ⟨key 0 (by omega), key 1 (by omega), key 2 (by omega)⟩
theorem holds_rowS {w : World} {l : List Bd} {g : Nat} {cur : Array Value} (hg : w.heap[g]? = some (.cells cur 102 (0, 0))) (ht : cur.toList.take (l.length * 3) = flatB l l.length) : HoldsK bidCells 3 w g 0 l.toArray := by
  intro j hj
  rw [size_flatK] at hj
  rw [get_flatK _ _ _ _ hj, Nat.zero_add]
  refine ⟨?_, free_of hg j⟩
  simp only [List.size_toArray] at hj
  have hjl : j / 3 < l.length := by omega
  have h1 := flatB_get l (Nat.le_refl _) hjl (j % 3) (by omega)
  rw [show j / 3 * 3 + j % 3 = j from by omega] at h1
  rw [cell_of hg, id, ← Array.getElem?_toList]
  have h2 : cur.toList[j]? = (flatB l l.length)[j]? := by rw [← ht, List.getElem?_take, if_pos hj]
  rw [h2, h1]
  simp only [List.getElem!_toArray, List.getElem!_eq_getElem?_getD, List.getElem?_eq_getElem hjl, Option.getD_some]
  rcases (by omega : j % 3 = 0 ∨ j % 3 = 1 ∨ j % 3 = 2) with h | h | h <;> rw [h] <;> rfl
theorem bids_held {w : World} {g cap : Nat} {d : Array Bd} (h : HoldsK bidCells 3 w g 0 d) (hg : g < w.heap.size) (hc : d.size ≤ cap) (hl : d.size ≤ 1000000) : BidsAt w (.slice (some ⟨g, 0, none⟩) d.toList.length cap) d.toList := by
  refine ⟨_, cap, rfl, ⟨by simpa using hc, by simp; omega⟩, fun i hi => ⟨g, 0, rfl, hg, ?_⟩⟩
  have hi' : i < d.size := by simpa using hi
  have key : ∀ j, j < 3 → w.cell? ⟨g, 0 + i * 3 + j, none⟩ = some (bidCells d.toList[i])[j]! := fun j hj => by
    have h1 := (h (i * 3 + j) (by rw [size_flatK]; omega)).1
    rw [get_flatK _ _ _ _ (by omega), show (i * 3 + j) / 3 = i from by omega, show (i * 3 + j) % 3 = j from by omega] at h1
    rw [Nat.add_assoc, h1]
    simp [hi']
  exact ⟨key 0 (by omega), key 1 (by omega), key 2 (by omega)⟩
theorem grown_sortS {w : World} (g n : Nat) (d : Array Bd) (os : Array Obj) : w.grownBy (sortWorldK bidCells 3 w g 0 n d os) (some g) := by
  refine ⟨rfl, rfl, rfl, ?_, fun k hk hne => ?_⟩
  · unfold sortWorldK; rw [size_grow, size_putRowK]; exact Nat.le_add_right _ _
  · unfold sortWorldK putRowK putRow mapBlock grow
    have hkb : ¬ g = k := fun e => hne (by rw [e])
    rw [Array.getElem?_append_left (by simpa using hk)]
    show (w.heap.modify g _)[k]? = _
    rw [Array.getElem?_modify, if_neg hkb]
theorem sorted_block {w : World} {g : Nat} {cur : Array Value} (h : w.heap[g]? = some (.cells cur 102 (0, 0))) (n : Nat) (d : Array Bd) (os : Array Obj) : ∃ cs, (sortWorldK bidCells 3 w g 0 n d os).heap[g]? = some (.cells cs 102 (0, 0)) := by
  have hlt := lt_of_block h
  unfold sortWorldK putRowK putRow mapBlock grow
  rw [Array.getElem?_append_left (by simpa using hlt)]
  refine ⟨putCells id 0 (flatK bidCells 3 d) cur, ?_⟩
  show ((Sort.ahead w n).heap.modify g (onCells (putCells id 0 (flatK bidCells 3 d))))[g]? = _
  rw [Array.getElem?_modify, if_pos rfl]
  show Option.map _ w.heap[g]? = _
  rw [h]; rfl
theorem Ext.grown {u v : World} (h : Ext u v) (ob : Option Nat) : u.grownBy v ob := ⟨h.os, h.tape, h.output, h.size, fun k hk _ => Below.block h k hk⟩
theorem sorted_pair {d : Array Bd} (h : SortedIn (ltOf offC) 0 d.size d) : sorted d.toList := by
  unfold sorted
  rw [List.pairwise_iff_getElem]
  intro i j hi hj hij
  have h1 := h i j (Nat.zero_le _) hij (by simpa using hj)
  rw [ltOff] at h1
  have hi' : i < d.size := by simpa using hi
  have hj' : j < d.size := by simpa using hj
  simpa [hi', hj'] using h1
theorem perm_of {l : List Bd} {d : Array Bd} (h : PermIn 0 l.toArray.size l.toArray d) : d.toList.Perm l := by
  have h2 := h.2.2
  rw [show d.extract 0 l.toArray.size = d from by rw [← h.1]; simp, show l.toArray.extract 0 l.toArray.size = l.toArray from by simp] at h2
  first | exact h2.toList | exact h2.symm.toList | simpa using h2
set_option maxRecDepth 100000 in
set_option maxHeartbeats 4000000 in
theorem insS_nil (w : World) : Cal 98 #[.slice none 0 0, .int .i64 0, .int .i64 0, fnV 68] w fun e w' => e = .returned (.tuple #[]) ∧ Ext w w' := by
  gi_enter Try.func98, Try.ntmps98
  gi_wp2_with fail
  gi_loopw [8] (fun i wr => i = .int .i64 1 ∧ Ext w wr) (fun _ _ => 0)
  case atStart => exact ⟨rfl, Ext.refl _⟩
  case round =>
    obtain ⟨rfl, hx⟩ := hrel
    gi_wp2_with fail
    go_end0
    exact ⟨rfl, hx⟩
theorem pdqS_nil (k : Int) (w : World) : Cal 95 #[.slice none 0 0, .int .i64 0, .int .i64 0, .int .i64 k, fnV 68] w fun e w' => e = .returned (.tuple #[]) ∧ Ext w w' := by
  gi_enter Try.func95, Try.ntmps95
  gi_wp2_with fail
  gi_loopw [1, 2] (fun i j wr => i = .int .i64 0 ∧ j = .int .i64 0 ∧ Ext w wr) (fun _ _ _ => 0)
  case atStart => exact ⟨rfl, rfl, Ext.refl _⟩
  case round =>
    obtain ⟨rfl, rfl, hx⟩ := hrel
    have HX := hid hx
    clear hx
    gi_wp2_with (gi_at_call 98; ((with_reducible refine (insS_nil _).mono ?_); rintro e w1 ⟨rfl, hx1⟩))
    exact bodyPost_ret (v := .tuple #[]) (by simp [results, Try.results95, go_sem]) rfl ⟨rfl, HX.out.trans hx1⟩
theorem sortS_nil (w : World) : Cal 90 #[.slice none 0 0, fnV 68] w fun e w' => e = .returned (.tuple #[]) ∧ Ext w w' := by
  have h := Any.bits_Len (SlLaysF0.n15.bits (P := Try.prog) (ρ := Try.sortSp_ren) { Try.sortSp with }) (0 : Int) w (by omega) (by omega)
  change Calls Try.prog 96 _ _ _ at h
  have HB := hid (show Cal 96 #[.int .u64 0] w fun e w' => e = .returned (.int .i64 (Lib.bitLen (0 : Int).toNat : Nat)) ∧ w' = w from callsIn_wide.2 h)
  clear h
  generalize ((Lib.bitLen (0 : Int).toNat : Nat) : Int) = kk at *
  gi_enter Try.func90, Try.ntmps90
  gi_wp2_with (first | (gi_at_call 96; ((with_reducible refine HB.out.mono ?_); rintro e w1 ⟨rfl, rfl⟩)) | (gi_at_call 95; ((with_reducible refine (pdqS_nil _ _).mono ?_); rintro e w1 ⟨rfl, hx1⟩)))
  go_end0
  exact ⟨rfl, hx1⟩
/-- The sort of a row of bids. -/
theorem sortS_any (l : List Bd) (hlen : l.length ≤ 1000) (v : Value) (u : World) (hr : Row u 102 3 v l.length (flatB l l.length)) :
    Cal 90 #[v, fnV 68] u fun e w' => e = .returned (.tuple #[]) ∧ u.grownBy w' v.ownBlock ∧ ∃ m : List Bd, m.Perm l ∧ sorted m ∧ BdB w' v m := by
  rcases hr.2 with ⟨rfl, h0⟩ | ⟨g, cap, cur, rfl, hg, hc, hcm, hcs, ht⟩
  · have : l = [] := List.eq_nil_of_length_eq_zero h0
    subst this
    exact ((sortS_nil u).mono fun e w' ⟨he, hb⟩ => ⟨he, Ext.grown hb _, [], .refl _, .nil, ⟨none, 0, rfl, ⟨by simp, by simp⟩, fun i hi => by simp at hi⟩, .inl ⟨rfl, rfl⟩⟩)
  · have hH := holds_rowS hg ht
    have hlt := lt_of_block hg
    have hcon := AnyQ.slices_SortFunc Try.sortSp 3 Try.isAgg102' Try.sizeOf102' bidCells (fun _ => rfl) (fun x v hv => by simp [bidCells] at hv; rcases hv with rfl | rfl | rfl <;> rfl) offC swoOff 68 #[] g 0 cap l.toArray u (enters_of Try.func68 (by kernel_rfl) rfl) (cmpLays68 g 0 l.toArray.size u) hH hlt (by simp; omega)
    change Calls Try.prog 90 _ _ _ at hcon
    refine callsIn_wide.2 (hcon.mono fun e w' ⟨he, d', n, os, hp, hs, hw⟩ => ?_)
    subst hw
    have hsz : d'.size = l.length := by simpa using hp.1
    refine ⟨he, grown_sortS g n d' os, d'.toList, perm_of hp, sorted_pair (by rw [hp.1]; exact hs), ?_⟩
    have hh := holdsK_sortWorldK_c bidCells 3 u g 0 l.toArray d' n os hH hlt (by simpa using hp.1)
    have := bids_held hh (Nat.lt_of_lt_of_le hlt (size_sortWorldK_c bidCells 3 u g 0 n d' os)) (by rw [hsz]; exact hc) (by omega)
    rw [show d'.toList.length = l.length from by simpa using hsz] at this
    obtain ⟨cs, hcs'⟩ := sorted_block hg n d' os
    exact ⟨this, .inr ⟨g, _, _, cs, rfl, hcs'⟩⟩

end Go.Proofs.Ytfkehbhlagpmcaa
