/- The shares in the order in which they get a penny more: the sort. -/
import Derived.Test.YtjocoadhalimjaaGreatRAC
import Derived.Test.YtjocoadhalimjaaGreatSh
set_option linter.unusedSimpArgs false
set_option linter.unusedVariables false
namespace Go.Proofs.YtjocoadhalimjaaGreat
section
open Go Go.RowKit Go.Shelf Go.Lib Go.Sort

/-- New blocks and draws alone. -/
def Gr (u v : World) : Prop := ∃ q os, v = grow (u.drewN q) os
theorem Gr.refl (u : World) : Gr u u := ⟨0, #[], by simp [World.drewN_zero]⟩
theorem Gr.trans {u v w : World} (h : Gr u v) (k : Gr v w) : Gr u w := by
  obtain ⟨q, os, rfl⟩ := h
  obtain ⟨r, os', rfl⟩ := k
  refine ⟨q + r, os ++ os', ?_⟩
  rw [← grow_grow, ← World.drewN_drewN]; rfl
theorem Gr.alloc (u : World) (o : Obj) : Gr u (u.alloc o) := ⟨0, #[o], by rw [World.drewN_zero, alloc_eq_grow]⟩
theorem Gr.drawn (u : World) : Gr u { u with drawn := u.drawn + 1 } := ⟨1, #[], by simp [World.drewN]⟩
theorem Gr.ext {u v : World} (h : Gr u v) : Ext u v := by
  obtain ⟨q, os, rfl⟩ := h
  refine ⟨rfl, rfl, rfl, by simp [World.drewN], fun k hk => ?_⟩
  show ((u.drewN q).heap ++ os)[k]? = _
  rw [Array.getElem?_append_left (by simpa [World.drewN] using hk)]; rfl
set_option maxRecDepth 100000 in
set_option maxHeartbeats 1000000 in
theorem byRest_gr (a b : Shr) (w : World) : Cal 92 #[shrV a, shrV b] w fun e w' => e = .returned (.int .i64 (restC a b)) ∧ Gr w w' := by
  unfold shrV restC
  gi_enter Tryz.func92, Tryz.ntmps92
  gi_wp2_with fail
  have hW : Gr w ((w.alloc (.cells #[.string a.name, .int .i64 a.weight, .int .i64 a.pence, .int .i64 a.rest] 146)).alloc (.cells #[.string b.name, .int .i64 b.weight, .int .i64 b.pence, .int .i64 b.rest] 146)) := (Gr.alloc _ _).trans (Gr.alloc _ _)
  have HA := hid (two_new (w := w) (o1 := .cells #[.string a.name, .int .i64 a.weight, .int .i64 a.pence, .int .i64 a.rest] 146) (o2 := .cells #[.string b.name, .int .i64 b.weight, .int .i64 b.pence, .int .i64 b.rest] 146))
  have HB : Hid (((w.alloc (.cells #[.string a.name, .int .i64 a.weight, .int .i64 a.pence, .int .i64 a.rest] 146)).alloc (.cells #[.string b.name, .int .i64 b.weight, .int .i64 b.pence, .int .i64 b.rest] 146)).heap[w.heap.size + 1]? = some (.cells #[.string b.name, .int .i64 b.weight, .int .i64 b.pence, .int .i64 b.rest] 146 (0, 0))) := hid (by
    have := Ext.new (w := w.alloc (.cells #[.string a.name, .int .i64 a.weight, .int .i64 a.pence, .int .i64 a.rest] 146)) (o := .cells #[.string b.name, .int .i64 b.weight, .int .i64 b.pence, .int .i64 b.rest] 146) (Ext.refl _); rwa [World.size_alloc] at this)
  generalize (w.alloc (.cells #[.string a.name, .int .i64 a.weight, .int .i64 a.pence, .int .i64 a.rest] 146)).alloc (.cells #[.string b.name, .int .i64 b.weight, .int .i64 b.pence, .int .i64 b.rest] 146) = W at *
  refine lex_own 14 [(12, pI [cmpI b.rest a.rest, cmpS a.name b.name])] (fun _ => Gr) (fun _ w' => Gr W w') (Gr W) (by kernel_rfl) (by kernel_rfl) (fun _ => Gr.drawn _) (Gr.drawn _) (fun _ _ _ _ _ h k => h.trans k) (fun _ _ _ h k => h.trans k) (fun i _ p _ hp v u u' hv hg => nStab_cons (pI_s _) nStab_nil i p hp v u u' hv hg.ext) ?_
  simp only [List.take_succ_cons, List.take_zero, List.drop_succ_cons, List.drop_zero]
  apply lex_fun (rfl : psAt _ _ = none)
  · intro x u hR hf
    clear hR hf
    go_simp
    exact ⟨rfl, Gr.refl _⟩
  simp only [Act.put, List.setIfInBounds_toArray, List.set_cons_succ, List.set_cons_zero]
  apply lex_fun (rfl : psAt _ _ = none)
  · intro x u hR hf
    have c1 := cell_of ((Gr.ext hR).block HB.out)
    clear hR hf
    go_simp
    exact ⟨rfl, Gr.refl _⟩
  simp only [Act.put, List.setIfInBounds_toArray, List.set_cons_succ, List.set_cons_zero]
  apply lex_fun (rfl : psAt _ _ = none)
  · intro x u hR hf
    clear hR hf
    go_simp
    exact ⟨rfl, Gr.refl _⟩
  simp only [Act.put, List.setIfInBounds_toArray, List.set_cons_succ, List.set_cons_zero]
  apply lex_fun (rfl : psAt _ _ = none)
  · intro x u hR hf
    have c0 := cell_of ((Gr.ext hR).block HA.out)
    clear hR hf
    go_simp
    exact ⟨rfl, Gr.refl _⟩
  simp only [Act.put, List.setIfInBounds_toArray, List.set_cons_succ, List.set_cons_zero]
  refine lex_fun (v := .int .i64 (cmpI b.rest a.rest)) (rfl : psAt _ _ = none) ?_ ?_
  · intro x u hR hf
    have hcal := hid (cmpI_any b.rest a.rest u)
    clear hR hf
    go_simp
    exact hcal.out.mono fun e w'' ⟨he, hx'⟩ => ⟨_, he, rfl, by subst hx'; exact Gr.refl _⟩
  simp only [Act.put, List.setIfInBounds_toArray, List.set_cons_succ, List.set_cons_zero]
  apply lex_fun (rfl : psAt _ _ = none)
  · intro x u hR hf
    clear hR hf
    go_simp
    exact ⟨rfl, Gr.refl _⟩
  simp only [Act.put, List.setIfInBounds_toArray, List.set_cons_succ, List.set_cons_zero]
  apply lex_fun (rfl : psAt _ _ = none)
  · intro x u hR hf
    clear hR hf
    go_simp
    exact ⟨rfl, Gr.refl _⟩
  simp only [Act.put, List.setIfInBounds_toArray, List.set_cons_succ, List.set_cons_zero]
  apply lex_fun (rfl : psAt _ _ = none)
  · intro x u hR hf
    have c0 := cell_of ((Gr.ext hR).block HA.out)
    clear hR hf
    go_simp
    exact ⟨rfl, Gr.refl _⟩
  simp only [Act.put, List.setIfInBounds_toArray, List.set_cons_succ, List.set_cons_zero]
  apply lex_fun (rfl : psAt _ _ = none)
  · intro x u hR hf
    clear hR hf
    go_simp
    exact ⟨rfl, Gr.refl _⟩
  simp only [Act.put, List.setIfInBounds_toArray, List.set_cons_succ, List.set_cons_zero]
  apply lex_fun (rfl : psAt _ _ = none)
  · intro x u hR hf
    clear hR hf
    go_simp
    exact ⟨rfl, Gr.refl _⟩
  simp only [Act.put, List.setIfInBounds_toArray, List.set_cons_succ, List.set_cons_zero]
  apply lex_fun (rfl : psAt _ _ = none)
  · intro x u hR hf
    have c1 := cell_of ((Gr.ext hR).block HB.out)
    clear hR hf
    go_simp
    exact ⟨rfl, Gr.refl _⟩
  simp only [Act.put, List.setIfInBounds_toArray, List.set_cons_succ, List.set_cons_zero]
  refine lex_fun (v := .int .i64 (cmpS a.name b.name)) (rfl : psAt _ _ = none) ?_ ?_
  · intro x u hR hf
    have hcal := hid (cmpS_any a.name b.name u)
    clear hR hf
    go_simp
    exact hcal.out.mono fun e w'' ⟨he, hx'⟩ => ⟨_, he, rfl, by subst hx'; exact Gr.refl _⟩
  simp only [Act.put, List.setIfInBounds_toArray, List.set_cons_succ, List.set_cons_zero]
  refine lex_pred (p := pI [cmpI b.rest a.rest, cmpS a.name b.name]) rfl ?_ ?_
  · intro x u hR hf
    clear hR hf
    go_simp
    exact ⟨ints_two _ _ (Ext.refl _), Gr.alloc _ _⟩
  simp only [Act.put, List.setIfInBounds_toArray, List.set_cons_succ, List.set_cons_zero]
  refine lex_fun (v := .int .i64 (orL [cmpI b.rest a.rest, cmpS a.name b.name])) (rfl : psAt _ _ = none) ?_ ?_
  · intro x u hR hf
    have h12 := (hf.1 rfl : pI _ (x 12) u)
    have hcal := hid (or_any _ _ u h12)
    clear hR hf
    go_simp
    exact hcal.out.mono fun e w'' ⟨he, hx'⟩ => ⟨_, he, rfl, by subst hx'; exact Gr.refl _⟩
  simp only [Act.put, List.setIfInBounds_toArray, List.set_cons_succ, List.set_cons_zero]
  refine lex_nil fun x w6 hE hfacts => ?_
  clear hfacts
  generalize x 12 = x12
  clear x
  gi_wp2
  go_ret
  exact ⟨rfl, hW.trans hE⟩
theorem nmLt_eq (a b : ByteArray) : nmLt a b = decide (a.toList < b.toList) := bytesLess_eq _ _
theorem nmLt_irr (a : ByteArray) : nmLt a a = false := by rw [nmLt_eq]; simp [List.lt_irrefl]
theorem nmLt_tr {a b c : ByteArray} (h : nmLt a b = true) (k : nmLt b c = true) : nmLt a c = true := by
  rw [nmLt_eq, decide_eq_true_eq] at *; exact List.lt_trans h k
theorem nmLt_tot {a b : ByteArray} (h : nmLt a b = false) (k : nmLt b a = false) : a.toList = b.toList := by
  rw [nmLt_eq, decide_eq_false_iff_not] at h k
  exact List.le_antisymm (List.not_lt.1 k) (List.not_lt.1 h)
/-- Whether one of two shares comes first. -/
def restLt (a b : Shr) : Bool := decide (b.rest < a.rest) || (a.rest == b.rest && nmLt a.name b.name)
theorem restC_lt (a b : Shr) : decide (restC a b < 0) = restLt a b := by
  unfold restC restLt cmpI
  rcases Int.lt_trichotomy b.rest a.rest with h | h | h
  · simp [h, orL]
  · have e1 : ¬ b.rest < a.rest := by omega
    have e2 : ¬ a.rest < b.rest := by omega
    rw [if_neg e1, if_neg e2]
    cases hn : nmLt a.name b.name with
    | true => simp [orL, cmpS, hn, h]
    | false =>
      have : ¬ orL [0, cmpS a.name b.name] < 0 := by
        unfold cmpS
        rw [hn]
        simp only [Bool.false_eq_true, if_false, orL, if_true]
        split <;> split <;> omega
      simp [this, e1]
  · have e1 : ¬ b.rest < a.rest := by omega
    have e3 : ¬ a.rest = b.rest := by omega
    simp [e1, h, orL, e3]
theorem ltRest (x y : Shr) : ltOf restC x y = restLt x y := by
  rw [← restC_lt]; rfl
theorem swoRest : SWO (ltOf restC) where
  irrefl x := by rw [ltRest]; simp [restLt, nmLt_irr]
  trans x y z h1 h2 := by
    rw [ltRest] at *
    simp only [restLt, Bool.or_eq_true, Bool.and_eq_true, decide_eq_true_eq, beq_iff_eq] at *
    rcases h1 with h1 | ⟨h1, h1'⟩ <;> rcases h2 with h2 | ⟨h2, h2'⟩
    · left; omega
    · left; omega
    · left; omega
    · right; exact ⟨by omega, nmLt_tr h1' h2'⟩
  ntrans x y z h1 h2 := by
    rw [ltRest] at *
    simp only [restLt, Bool.or_eq_false_iff, Bool.and_eq_false_iff, decide_eq_false_iff_not, beq_eq_false_iff_ne] at *
    refine ⟨by omega, ?_⟩
    by_cases e1 : x.rest = z.rest
    · right
      have e2 : x.rest = y.rest := by omega
      have e3 : y.rest = z.rest := by omega
      have n1 : nmLt x.name y.name = false := h1.2.resolve_left (fun h => h e2)
      have n2 : nmLt y.name z.name = false := h2.2.resolve_left (fun h => h e3)
      cases hn : nmLt x.name z.name with
      | false => rfl
      | true =>
        cases hn1 : nmLt y.name x.name with
        | true => rw [nmLt_tr hn1 hn] at n2; cases n2
        | false =>
          have e4 := nmLt_tot n1 hn1
          rw [nmLt_eq, e4, ← nmLt_eq] at hn
          rw [hn] at n2; cases n2
    · left; exact e1
theorem Tryz.isAgg146 : ∀ w, (isAgg 146).run Tryz.prog w = .ok true w := fun w => by simp [isAgg, go_sem, Tryz.underlying146]
theorem Tryz.sizeOf146 : ∀ w, (Go.sizeOf 146).run Tryz.prog w = .ok 4 w := fun w => by
  obtain ⟨i, hi, hs⟩ := Option.map_eq_some_iff.1 size146
  simp [Go.sizeOf, go_sem]
  first | rfl | decide | kernel_rfl
theorem cmpLays92 (blk off size : Nat) (w : World) : CmpLays Tryz.prog 92 #[] shrCells 4 restC blk off size w :=
  fun _ _ _ _ x y => (byRest_gr x y _).calls
end
section
open Go Go.RowKit Go.Shelf Go.Lib Go.Sort

def SharesAt (w : World) (v : Value) (l : List Shr) : Prop :=
  ∃ a cap, v = .slice a l.length cap ∧ (l.length ≤ cap ∧ l.length ≤ 1000000000000000) ∧ ∀ i (h : i < l.length), ∃ b off, a = some ⟨b, off, none⟩ ∧ b < w.heap.size ∧
    w.cell? ⟨b, off + i * 4, none⟩ = some (.string l[i].name) ∧ w.cell? ⟨b, off + i * 4 + 1, none⟩ = some (.int .i64 l[i].weight) ∧ w.cell? ⟨b, off + i * 4 + 2, none⟩ = some (.int .i64 l[i].pence) ∧ w.cell? ⟨b, off + i * 4 + 3, none⟩ = some (.int .i64 l[i].rest)
theorem SharesAt.mono {w w' : World} {v : Value} {l : List Shr} (h : SharesAt w v l) (hx : Ext w w') : SharesAt w' v l := by
  obtain ⟨a, cap, hv, hl, hc⟩ := h
  refine ⟨a, cap, hv, hl, fun i hi => ?_⟩
  obtain ⟨b, off, ha, hb, h0, h1, h2, h3⟩ := hc i hi
  exact ⟨b, off, ha, Nat.lt_of_lt_of_le hb hx.size, by rw [hx.cell (p := ⟨b, _, none⟩) hb]; exact h0, by rw [hx.cell (p := ⟨b, _, none⟩) hb]; exact h1, by rw [hx.cell (p := ⟨b, _, none⟩) hb]; exact h2, by rw [hx.cell (p := ⟨b, _, none⟩) hb]; exact h3⟩
/-- Shares in a block of their own. -/
def ShB (w : World) (v : Value) (l : List Shr) : Prop := SharesAt w v l ∧ ((v = .slice none 0 0 ∧ l = []) ∨ ∃ g n cap cs, v = .slice (some ⟨g, 0, none⟩) n cap ∧ w.heap[g]? = some (.cells cs 146 (0, 0)))
theorem ShB.keep {W W' : World} {v : Value} {l : List Shr} (h : ShB W v l) (hk : ∀ (k : Nat) (cs : Array Value), W.heap[k]? = some (.cells cs 146 (0, 0)) → W'.heap[k]? = some (.cells cs 146 (0, 0))) : ShB W' v l := by
  obtain ⟨⟨a, cap, rfl, hl, hc⟩, h2⟩ := h
  rcases h2 with ⟨e, rfl⟩ | ⟨g, n, cap', cs, e, hg⟩
  · cases e
    exact ⟨⟨none, 0, rfl, hl, fun i hi => by simp at hi⟩, .inl ⟨rfl, rfl⟩⟩
  · cases e
    have hg' := hk g cs hg
    refine ⟨⟨_, _, rfl, hl, fun i hi => ?_⟩, .inr ⟨g, _, _, cs, rfl, hg'⟩⟩
    obtain ⟨b, off, e, hb, h0, h1, h2, h3⟩ := hc i hi
    cases e
    rw [cell_of hg] at h0 h1 h2 h3
    exact ⟨g, 0, rfl, lt_of_block hg', by rw [cell_of hg']; exact h0, by rw [cell_of hg']; exact h1, by rw [cell_of hg']; exact h2, by rw [cell_of hg']; exact h3⟩
theorem ShB.mono {w w' : World} {v : Value} {l : List Shr} (h : ShB w v l) (hx : Ext w w') : ShB w' v l := h.keep fun _ _ hb => hx.block hb
theorem flatS_get (l : List Shr) {k : Nat} (hk : k ≤ l.length) {i : Nat} (h : i < k) (j : Nat) (hj : j < 4) : (flatS l k)[i * 4 + j]? = (shrCells (l[i]'(by omega)))[j]? := by
  have := (flat_get (sz := 4) (fun i => shrCells (l.getD i noShr)) (fun _ => rfl) k).2 i j h hj
  unfold flatS
  rw [this, getD_of (by omega)]
theorem SharesAt.of_row {w : World} {v : Value} {l : List Shr} (h : Row w 146 4 v l.length (flatS l l.length)) (hl : l.length ≤ 1000) : SharesAt w v l := by
  obtain ⟨_, h⟩ := h
  rcases h with ⟨rfl, h0⟩ | ⟨g, cap, cur, rfl, hg, h1, h2, h3, h4⟩
  · exact ⟨none, 0, by rw [h0], ⟨by omega, by omega⟩, fun i hi => by omega⟩
  · refine ⟨_, cap, rfl, ⟨h1, by omega⟩, fun i hi => ⟨g, 0, rfl, lt_of_block hg, ?_⟩⟩
    have key : ∀ j, j < 4 → w.cell? ⟨g, 0 + i * 4 + j, none⟩ = (shrCells l[i])[j]? := fun j hj => by
      rw [cell_of hg, Nat.zero_add, ← flatS_get l (Nat.le_refl _) hi j hj, ← h4, List.getElem?_take, if_pos (by omega), Array.getElem?_toList]
    exact ⟨key 0 (by omega), key 1 (by omega), key 2 (by omega), key 3 (by omega)⟩
theorem holds_rowS {w : World} {l : List Shr} {g : Nat} {cur : Array Value} (hg : w.heap[g]? = some (.cells cur 146 (0, 0))) (ht : cur.toList.take (l.length * 4) = flatS l l.length) : HoldsK shrCells 4 w g 0 l.toArray := by
  intro j hj
  rw [size_flatK] at hj
  rw [get_flatK _ _ _ _ hj, Nat.zero_add]
  refine ⟨?_, free_of hg j⟩
  simp only [List.size_toArray] at hj
  have hjl : j / 4 < l.length := by omega
  have h1 := flatS_get l (Nat.le_refl _) hjl (j % 4) (by omega)
  rw [show j / 4 * 4 + j % 4 = j from by omega] at h1
  rw [cell_of hg, id, ← Array.getElem?_toList]
  have h2 : cur.toList[j]? = (flatS l l.length)[j]? := by rw [← ht, List.getElem?_take, if_pos hj]
  rw [h2, h1]
  simp only [List.getElem!_toArray, List.getElem!_eq_getElem?_getD, List.getElem?_eq_getElem hjl, Option.getD_some]
  rcases (by omega : j % 4 = 0 ∨ j % 4 = 1 ∨ j % 4 = 2 ∨ j % 4 = 3) with h | h | h | h <;> rw [h] <;> rfl
theorem shares_held {w : World} {g cap : Nat} {d : Array Shr} (h : HoldsK shrCells 4 w g 0 d) (hg : g < w.heap.size) (hc : d.size ≤ cap) (hl : d.size ≤ 1000000) : SharesAt w (.slice (some ⟨g, 0, none⟩) d.toList.length cap) d.toList := by
  refine ⟨_, cap, rfl, ⟨by simpa using hc, by simp; omega⟩, fun i hi => ⟨g, 0, rfl, hg, ?_⟩⟩
  have hi' : i < d.size := by simpa using hi
  have key : ∀ j, j < 4 → w.cell? ⟨g, 0 + i * 4 + j, none⟩ = some (shrCells d.toList[i])[j]! := fun j hj => by
    have h1 := (h (i * 4 + j) (by rw [size_flatK]; omega)).1
    rw [get_flatK _ _ _ _ (by omega), show (i * 4 + j) / 4 = i from by omega, show (i * 4 + j) % 4 = j from by omega] at h1
    rw [Nat.add_assoc, h1]
    simp [hi']
  exact ⟨key 0 (by omega), key 1 (by omega), key 2 (by omega), key 3 (by omega)⟩
theorem grown_sortS {w : World} (g n : Nat) (d : Array Shr) (os : Array Obj) : w.grownBy (sortWorldK shrCells 4 w g 0 n d os) (some g) := by
  refine ⟨rfl, rfl, rfl, ?_, fun k hk hne => ?_⟩
  · unfold sortWorldK; rw [size_grow, size_putRowK]; exact Nat.le_add_right _ _
  · unfold sortWorldK putRowK putRow mapBlock grow
    have hkb : ¬ g = k := fun e => hne (by rw [e])
    rw [Array.getElem?_append_left (by simpa using hk)]
    show (w.heap.modify g _)[k]? = _
    rw [Array.getElem?_modify, if_neg hkb]
theorem sorted_block {w : World} {g : Nat} {cur : Array Value} (h : w.heap[g]? = some (.cells cur 146 (0, 0))) (n : Nat) (d : Array Shr) (os : Array Obj) : ∃ cs, (sortWorldK shrCells 4 w g 0 n d os).heap[g]? = some (.cells cs 146 (0, 0)) := by
  have hlt := lt_of_block h
  unfold sortWorldK putRowK putRow mapBlock grow
  rw [Array.getElem?_append_left (by simpa using hlt)]
  refine ⟨putCells id 0 (flatK shrCells 4 d) cur, ?_⟩
  show ((Sort.ahead w n).heap.modify g (onCells (putCells id 0 (flatK shrCells 4 d))))[g]? = _
  rw [Array.getElem?_modify, if_pos rfl]
  show Option.map _ w.heap[g]? = _
  rw [h]; rfl
theorem Ext.grown {u v : World} (h : Ext u v) (ob : Option Nat) : u.grownBy v ob := ⟨h.os, h.tape, h.output, h.size, fun k hk _ => Below.block h k hk⟩
/-- In the order in which they get a penny more. -/
def byRests (m : List Shr) : Prop := m.Pairwise fun a b => restLt b a = false
theorem sorted_pair {d : Array Shr} (h : SortedIn (ltOf restC) 0 d.size d) : byRests d.toList := by
  unfold byRests
  rw [List.pairwise_iff_getElem]
  intro i j hi hj hij
  have h1 := h i j (Nat.zero_le _) hij (by simpa using hj)
  rw [ltRest] at h1
  have hi' : i < d.size := by simpa using hi
  have hj' : j < d.size := by simpa using hj
  simpa [hi', hj'] using h1
theorem perm_of {l : List Shr} {d : Array Shr} (h : PermIn 0 l.toArray.size l.toArray d) : d.toList.Perm l := by
  have h2 := h.2.2
  rw [show d.extract 0 l.toArray.size = d from by rw [← h.1]; simp, show l.toArray.extract 0 l.toArray.size = l.toArray from by simp] at h2
  first | exact h2.toList | exact h2.symm.toList | simpa using h2
set_option maxRecDepth 100000 in
set_option maxHeartbeats 4000000 in
theorem insS_nil (w : World) : Cal 141 #[.slice none 0 0, .int .i64 0, .int .i64 0, fnV 92] w fun e w' => e = .returned (.tuple #[]) ∧ Ext w w' := by
  gi_enter Tryz.func141, Tryz.ntmps141
  gi_wp2_with fail
  gi_loopw [8] (fun i wr => i = .int .i64 1 ∧ Ext w wr) (fun _ _ => 0)
  case atStart => exact ⟨rfl, Ext.refl _⟩
  case round =>
    obtain ⟨rfl, hx⟩ := hrel
    gi_wp2_with fail
    go_end0
    exact ⟨rfl, hx⟩
theorem pdqS_nil (k : Int) (w : World) : Cal 135 #[.slice none 0 0, .int .i64 0, .int .i64 0, .int .i64 k, fnV 92] w fun e w' => e = .returned (.tuple #[]) ∧ Ext w w' := by
  gi_enter Tryz.func135, Tryz.ntmps135
  gi_wp2_with fail
  gi_loopw [1, 2] (fun i j wr => i = .int .i64 0 ∧ j = .int .i64 0 ∧ Ext w wr) (fun _ _ _ => 0)
  case atStart => exact ⟨rfl, rfl, Ext.refl _⟩
  case round =>
    obtain ⟨rfl, rfl, hx⟩ := hrel
    have HX := hid hx
    clear hx
    gi_wp2_with (gi_at_call 141; ((with_reducible refine (insS_nil _).mono ?_); rintro e w1 ⟨rfl, hx1⟩))
    exact bodyPost_ret (v := .tuple #[]) (by simp [results, Tryz.results135, go_sem]) rfl ⟨rfl, HX.out.trans hx1⟩
theorem sortS_nil (w : World) : Cal 121 #[.slice none 0 0, fnV 92] w fun e w' => e = .returned (.tuple #[]) ∧ Ext w w' := by
  have h := Any.bits_Len (SlLaysF0.n15.bits (P := Tryz.prog) (ρ := Tryz.sortSp_ren) { Tryz.sortSp with }) (0 : Int) w (by omega) (by omega)
  change Calls Tryz.prog 117 _ _ _ at h
  have HB := hid (show Cal 117 #[.int .u64 0] w fun e w' => e = .returned (.int .i64 (Lib.bitLen (0 : Int).toNat : Nat)) ∧ w' = w from callsIn_wide.2 h)
  clear h
  generalize ((Lib.bitLen (0 : Int).toNat : Nat) : Int) = kk at *
  gi_enter Tryz.func121, Tryz.ntmps121
  gi_wp2_with (first | (gi_at_call 117; ((with_reducible refine HB.out.mono ?_); rintro e w1 ⟨rfl, rfl⟩)) | (gi_at_call 135; ((with_reducible refine (pdqS_nil _ _).mono ?_); rintro e w1 ⟨rfl, hx1⟩)))
  go_end0
  exact ⟨rfl, hx1⟩
/-- The sort of a row of shares. -/
theorem sortS_any (l : List Shr) (hlen : l.length ≤ 1000) (v : Value) (u : World) (hr : Row u 146 4 v l.length (flatS l l.length)) :
    Cal 121 #[v, fnV 92] u fun e w' => e = .returned (.tuple #[]) ∧ u.grownBy w' v.ownBlock ∧ ∃ m : List Shr, m.Perm l ∧ byRests m ∧ ShB w' v m := by
  rcases hr.2 with ⟨rfl, h0⟩ | ⟨g, cap, cur, rfl, hg, hc, hcm, hcs, ht⟩
  · have : l = [] := List.eq_nil_of_length_eq_zero h0
    subst this
    exact ((sortS_nil u).mono fun e w' ⟨he, hb⟩ => ⟨he, Ext.grown hb _, [], .refl _, .nil, ⟨none, 0, rfl, ⟨by simp, by simp⟩, fun i hi => by simp at hi⟩, .inl ⟨rfl, rfl⟩⟩)
  · have hH := holds_rowS hg ht
    have hlt := lt_of_block hg
    have hcon := AnyQ.slices_SortFunc Tryz.sortSp 4 Tryz.isAgg146 Tryz.sizeOf146 shrCells (fun _ => rfl) (fun x v hv => by simp [shrCells] at hv; rcases hv with rfl | rfl | rfl | rfl <;> rfl) restC swoRest 92 #[] g 0 cap l.toArray u (enters_of Tryz.func92 (by kernel_rfl) rfl) (cmpLays92 g 0 l.toArray.size u) hH hlt (by simp; omega)
    change Calls Tryz.prog 121 _ _ _ at hcon
    refine callsIn_wide.2 (hcon.mono fun e w' ⟨he, d', n, os, hp, hs, hw⟩ => ?_)
    subst hw
    have hsz : d'.size = l.length := by simpa using hp.1
    refine ⟨he, grown_sortS g n d' os, d'.toList, perm_of hp, sorted_pair (by rw [hp.1]; exact hs), ?_⟩
    have hh := holdsK_sortWorldK_c shrCells 4 u g 0 l.toArray d' n os hH hlt (by simpa using hp.1)
    have := shares_held hh (Nat.lt_of_lt_of_le hlt (size_sortWorldK_c shrCells 4 u g 0 n d' os)) (by rw [hsz]; exact hc) (by omega)
    rw [show d'.toList.length = l.length from by simpa using hsz] at this
    obtain ⟨cs, hcs'⟩ := sorted_block hg n d' os
    exact ⟨this, .inr ⟨g, _, _, cs, rfl, hcs'⟩⟩
end
section
open Go Go.RowKit Go.Shelf

/-- The boxes of some types lie as they lay. -/
def KeepP (p : TypeId → Prop) (W W' : World) : Prop := ∀ (k : Nat) (cs : Array Value) (t : TypeId), p t → W.heap[k]? = some (.cells cs t (0, 0)) → W'.heap[k]? = some (.cells cs t (0, 0))
section
variable {p : TypeId → Prop}
theorem KeepP.nothing (W W' : World) : KeepP (fun _ => False) W W' := fun _ _ _ h => h.elim
theorem KeepP.refl (W : World) : KeepP p W W := fun _ _ _ _ h => h
theorem KeepP.trans {u v w : World} (h : KeepP p u v) (k : KeepP p v w) : KeepP p u w := fun _ _ _ ht hb => k _ _ _ ht (h _ _ _ ht hb)
theorem KeepP.of_ext {W W' : World} (h : Ext W W') : KeepP p W W' := fun _ _ _ _ hb => h.block hb
theorem KeepP.put {W : World} {L : Nat} {r : Loop} (h : W.heap[L]? = some (.loop r)) (o : Obj) : KeepP p W (W.putObj L o) := fun k cs t _ hb => by
  rw [World.putObj_heap_other (by rintro rfl; rw [h] at hb; cases hb)]; exact hb
theorem KeepP.set {W : World} {g : Nat} {cs : Array Value} {t : TypeId} (h : W.heap[g]? = some (.cells cs t (0, 0))) (h1 : ¬ p t) (o : Nat) (v : Value) : KeepP p W (W.setCell ⟨g, o, none⟩ v) := fun k cs' t' ht hb => by
  rw [set_other (by rintro rfl; rw [h] at hb; cases hb; exact h1 ht)]; exact hb
end
/-- What an iterator does: its rounds leave the boxes of some types be. -/
def IterP (p : TypeId → Prop) (gf : Nat) (fst lb : Array Value) (elems : List (Array Value)) (Foot : World → Prop) : Prop :=
  ∀ (l : Nat) (J Jx : Nat → World → Prop) (W : World), (∀ i W, J i W → Foot W) → (∀ i W W', J i W → Ext W W' → J i W') → (∀ i W W', Jx i W → Ext W W' → Jx i W') →
    (∀ i (h : i < elems.length) W1, J i W1 → YieldAt Fence.wide 0 Tryz.prog l elems[i] W1 fun e W' =>
      KeepP p W1 W' ∧ ((e = .returned (.bool true) ∧ J (i + 1) W') ∨ (e = .returned (.bool false) ∧ Jx i W'))) →
    J 0 W → Cal gf (fst ++ #[.func (.yield l) #[] #[]] ++ lb) W fun e W' => (∃ v, e = .returned v) ∧ (J elems.length W' ∨ ∃ i, i < elems.length ∧ Jx i W')

/-- Of what lies below B, and of what cells hold, nothing has turned. -/
structure PastC (B : Nat) (W W' : World) : Prop where
  os : W'.os = W.os
  tape : W'.tape = W.tape
  output : W'.output = W.output
  size : W.heap.size ≤ W'.heap.size
  block : ∀ k o, (k < B ∨ o.isCells = true) → W.heap[k]? = some o → W'.heap[k]? = some o
theorem PastC.of_ext {B : Nat} {W W' : World} (h : Ext W W') : PastC B W W' := ⟨h.os, h.tape, h.output, h.size, fun _ _ _ hk => h.block hk⟩
theorem PastC.put {B L : Nat} {Y : World} (hL : B ≤ L) {r : Loop} (hr : Y.heap[L]? = some (.loop r)) (o : Obj) : PastC B Y (Y.putObj L o) :=
  ⟨rfl, rfl, rfl, by simp, fun k o' hk ho => by
    rw [World.putObj_heap_other (by rintro rfl; rcases hk with hk | hk; omega; rw [hr] at ho; cases ho; cases hk)]; exact ho⟩
theorem PastC.past {B : Nat} {W W' : World} (h : PastC B W W') : Past B W W' := ⟨h.os, h.tape, h.output, h.size, fun k o hk ho => h.block k o (.inl hk) ho⟩
theorem PastC.cells {B : Nat} {W W' : World} (h : PastC B W W') {k : Nat} {cs : Array Value} {T : TypeId} {fz : Nat × Nat} (ho : W.heap[k]? = some (.cells cs T fz)) : W'.heap[k]? = some (.cells cs T fz) := h.block _ _ (.inr rfl) ho
theorem Row.pastC {B : Nat} {w w' : World} {T : TypeId} {sz : Nat} {v : Value} {n : Nat} {xs : List Value} (h : Row w T sz v n xs) (hp : PastC B w w') : Row w' T sz v n xs := h.kept fun k o hk ho => hp.block k o (.inr (h.isCells hk ho)) ho
/-- All rounds, behind the record that has been laid at L. -/
theorem rounds_coreC {p : TypeId → Prop} {ps : Array Tmp} {assign body : Code} {tmps : Array Value} {gf fn : Nat} {fst lb : Array Value} {elems : List (Array Value)} {Foot : World → Prop} (hit : IterP p gf fst lb elems Foot)
    (B L D : Nat) (hL : B ≤ L) (rec : LoopState → Option Code → Loop) (hrec : rec = fun st pe => { state := st, pending := pe, fn, tmps, params := ps, assign, body, defers := D })
    (X : World → Prop) (hX : ∀ W W', X W → Past L W W' → X W') (hXk : ∀ W W', X W → KeepsFrom B W W' → X W')
    (I : Nat → World → Prop) (Ix : Code → Nat → World → Prop) (hI : ∀ s W W', I s W → PastC B W W' → I s W') (hIx : ∀ c s W W', Ix c s W → PastC B W W' → Ix c s W') (hFoot : ∀ i W, I i W → Foot W)
    (hps : ∀ (i : Nat) (h : i < elems.length), elems[i].size = ps.size)
    (fr : Nat → Nat → Act) (bx : Nat → Array Value) (T : TypeId)
    (hassign : ∀ (l i : Nat) (h : i < elems.length) (W : World) (K' : Act → World → Prop), K' (fr i W.heap.size) (W.alloc (.cells (bx i) T)) →
      assign.wpIn (Fence.wide.inRound l) 0 Tryz.prog (Exit.then K' (fun _ _ _ => False)) { tmps := (ps.zip elems[i]).foldl (fun t (p, v) => t.setIfInBounds p v) tmps, defers := [] } W)
    (hbody : ∀ (l i Bx : Nat) (W : World), i < elems.length → B ≤ l → (∃ r, W.heap[l]? = some (.loop r)) → I i W → B ≤ Bx → W.heap[Bx]? = some (.cells (bx i) T (0, 0)) →
      body.wpIn (Fence.wide.inRound l) 0 Tryz.prog (fun e a W' => roundEnd B I Ix i W e a W' ∧ KeepP p W W') (fr i Bx) W)
    (W1 : World) (hB : B ≤ W1.heap.size) (h0 : I 0 W1) (hX0 : X W1) (hL1 : W1.heap[L]? = some (.loop (rec .ready none))) :
    Cal gf (fst ++ #[.func (.yield L) #[] #[]] ++ lb) W1 fun e W2 => (∃ v, e = .returned v) ∧
      ((I elems.length W2 ∧ X W2 ∧ W2.heap[L]? = some (.loop (rec .ready none))) ∨ ∃ i c, i < elems.length ∧ Ix c i W2 ∧ X W2 ∧ W2.heap[L]? = some (.loop (rec .done (some c)))) := by
  refine (hit L (fun i W => I i W ∧ B ≤ W.heap.size ∧ X W ∧ W.heap[L]? = some (.loop (rec .ready none)))
    (fun i W => ∃ c, Ix c i W ∧ X W ∧ W.heap[L]? = some (.loop (rec .done (some c)))) W1 (fun i W h => hFoot i W h.1)
    (fun i W W' h hx => ⟨hI _ _ _ h.1 (PastC.of_ext hx), Nat.le_trans h.2.1 hx.size, hX _ _ h.2.2.1 (Past.of_ext hx), hx.block h.2.2.2⟩)
    (fun i W W' h hx => by obtain ⟨c, h1, h2, h3⟩ := h; exact ⟨c, hIx _ _ _ _ h1 (PastC.of_ext hx), hX _ _ h2 (Past.of_ext hx), hx.block h3⟩) ?_ ⟨h0, hB, hX0, hL1⟩).mono ?_
  · rintro i hi W ⟨hIW, hBW, hXW, hl⟩
    have hy := run_yield (P := Tryz.prog) (args := elems[i]) hl (by rw [hrec]; exact hps i hi)
    rw [hrec] at hy
    refine ⟨fn, _, assign, body, hy, roundIn_of_wpIn trivial (hassign _ i hi W _ ?_)⟩
    clear hy
    -- behind the box, the record is made busy
    have hxa : Ext W (W.alloc (.cells (bx i) T)) := (Ext.refl W).alloc _
    have hla := hxa.block hl
    have hlt := lt_of_block hla
    have hbx : (W.alloc (.cells (bx i) T)).heap[W.heap.size]? = some (.cells (bx i) T (0, 0)) := Ext.new (Ext.refl _)
    have hne : W.heap.size ≠ L := fun e => by have := lt_of_block hl; omega
    refine ⟨_, run_beginRound hla (by rw [hrec]), ?_⟩
    have hpast : ∀ (Y : World) (o : Obj), Past L Y (Y.putObj L o) := fun Y o => ⟨rfl, rfl, rfl, by simp, fun k o' hk ho => by rw [World.putObj_heap_other (by omega)]; exact ho⟩
    have hpastB : ∀ (Y : World) (o : Obj) (r : Loop), Y.heap[L]? = some (.loop r) → PastC B Y (Y.putObj L o) := fun Y o r hr => PastC.put hL hr o
    have hl2 : ((W.alloc (.cells (bx i) T)).putObj L (.loop { rec .ready none with state := .busy })).heap[L]? = some (.loop { rec .ready none with state := .busy }) := World.putObj_heap_same hlt
    refine wpIn_mono (hbody L i W.heap.size _ hi hL ⟨_, hl2⟩ (hI _ _ _ (hI _ _ _ hIW (PastC.of_ext hxa)) (hpastB _ _ _ hla)) hBW (by rw [World.putObj_heap_other hne]; exact hbx)) ?_
    have hX2 : X ((W.alloc (.cells (bx i) T)).putObj L (.loop { rec .ready none with state := .busy })) := hX _ _ (hX _ _ hXW (Past.of_ext hxa)) (hpast _ _)
    have hB2 : B ≤ ((W.alloc (.cells (bx i) T)).putObj L (.loop { rec .ready none with state := .busy })).heap.size := by simp; omega
    have fin : ∀ (jump : Option Code) (W3 : World), KeepsFrom B ((W.alloc (.cells (bx i) T)).putObj L (.loop { rec .ready none with state := .busy })) W3 →
        (Instr.endRound L jump).run Tryz.prog W3 = .ok (.bool jump.isNone) (W3.putObj L (.loop (rec (if jump.isNone then .ready else .done) jump))) ∧
        X (W3.putObj L (.loop (rec (if jump.isNone then .ready else .done) jump))) ∧
        (W3.putObj L (.loop (rec (if jump.isNone then .ready else .done) jump))).heap[L]? = some (.loop (rec (if jump.isNone then .ready else .done) jump)) ∧ B ≤ W3.heap.size ∧ KeepP p W3 (W3.putObj L (.loop (rec (if jump.isNone then .ready else .done) jump))) ∧ PastC B W3 (W3.putObj L (.loop (rec (if jump.isNone then .ready else .done) jump))) := fun jump W3 hk3 => by
      have hl3 := hk3.same _ _ hL hl2 rfl
      have := run_endRound (P := Tryz.prog) jump hl3
      rw [hrec] at this ⊢
      exact ⟨this, hX _ _ (hXk _ _ hX2 hk3) (hpast _ _), World.putObj_heap_same (lt_of_block hl3), Nat.le_trans hB2 hk3.size, KeepP.put hl3 _, hpastB _ _ _ hl3⟩
    have hk0 : KeepP p W ((W.alloc (.cells (bx i) T)).putObj L (.loop { rec .ready none with state := .busy })) := (KeepP.of_ext hxa).trans (KeepP.put hla _)
    rintro e a3 W3 ⟨hp, hkt⟩
    cases e with
    | normal =>
      obtain ⟨hr, hx3, hl4, hb3, hk4, hpc⟩ := fin none W3 hp.1
      exact ⟨_, _, hr, hk0.trans (hkt.trans hk4), .inl ⟨rfl, hI _ _ _ hp.2 hpc, by simp; omega, hx3, hl4⟩⟩
    | ret =>
      obtain ⟨hr, hx3, hl4, hb3, hk4, hpc⟩ := fin (some .ret) W3 hp.1
      exact ⟨_, _, hr, hk0.trans (hkt.trans hk4), .inr ⟨rfl, .ret, hIx _ _ _ _ hp.2 hpc, hx3, hl4⟩⟩
    | exit id =>
      obtain ⟨hr, hx3, hl4, hb3, hk4, hpc⟩ := fin (some (.exit id)) W3 hp.1
      exact ⟨_, _, hr, hk0.trans (hkt.trans hk4), .inr ⟨rfl, .exit id, hIx _ _ _ _ hp.2 hpc, hx3, hl4⟩⟩
    | goto t =>
      obtain ⟨hr, hx3, hl4, hb3, hk4, hpc⟩ := fin (some (.goto t)) W3 hp.1
      exact ⟨_, _, hr, hk0.trans (hkt.trans hk4), .inr ⟨rfl, .goto t, hIx _ _ _ _ hp.2 hpc, hx3, hl4⟩⟩
    | panic ch => exact hp.elim
    | outgrown => exact hp.elim
  · rintro e W2 ⟨hv, h⟩
    refine ⟨hv, ?_⟩
    rcases h with ⟨h1, _, h2, h3⟩ | ⟨i, hi, c, h1, h2, h3⟩
    · exact .inl ⟨h1, h2, h3⟩
    · exact .inr ⟨i, c, hi, h1, h2, h3⟩


section
variable {g : Operand} {ps : Array Tmp} {assign body : Code} {Q : Exit → Act → World → Prop} {a : Act} {w : World} {gf : Nat} {fst lb : Array Value} {elems : List (Array Value)} {Foot : World → Prop} {p : TypeId → Prop}

/-- A RANGE OVER A FUNCTION, one of whose loop variables lies in a box of its own. -/
theorem range_boxedC (hg : a.eval g = .func (.func gf) fst lb) (eg : ∀ args w, (callFunc gf args).run Tryz.prog w = .ok (.enter gf args) w) (hit : IterP p gf fst lb elems Foot)
    (I : Nat → World → Prop) (Ix : Code → Nat → World → Prop) (hI : ∀ s W W', I s W → PastC w.heap.size W W' → I s W') (hIx : ∀ c s W W', Ix c s W → PastC w.heap.size W W' → Ix c s W') (hFoot : ∀ i W, I i W → Foot W)
    (hps : ∀ (i : Nat) (h : i < elems.length), elems[i].size = ps.size) (h0 : I 0 w)
    (fr : Nat → Nat → Act) (bx : Nat → Array Value) (T : TypeId)
    (hassign : ∀ (l i : Nat) (h : i < elems.length) (W : World) (K' : Act → World → Prop), K' (fr i W.heap.size) (W.alloc (.cells (bx i) T)) →
      assign.wpIn (Fence.wide.inRound l) 0 Tryz.prog (Exit.then K' (fun _ _ _ => False)) { tmps := (ps.zip elems[i]).foldl (fun t (p, v) => t.setIfInBounds p v) a.tmps, defers := [] } W)
    (hbody : ∀ (l i Bx : Nat) (W : World), i < elems.length → w.heap.size ≤ l → (∃ r, W.heap[l]? = some (.loop r)) → I i W → w.heap.size ≤ Bx → W.heap[Bx]? = some (.cells (bx i) T (0, 0)) →
      body.wpIn (Fence.wide.inRound l) 0 Tryz.prog (fun e a W' => roundEnd w.heap.size I Ix i W e a W' ∧ KeepP p W W') (fr i Bx) W)
    (hdone : ∀ (D : Nat) (W : World), w.heap.size ≤ D → I elems.length W → W.heap[D]? = some (.deferred (some [])) → Q .normal { a with defers := { target := .collected D, args := #[] } :: a.defers } W)
    (hstop : ∀ (D i : Nat) (c : Code) (W : World), w.heap.size ≤ D → i < elems.length → Ix c i W → W.heap[D]? = some (.deferred (some [])) → c.wpIn Fence.wide 0 Tryz.prog Q { a with defers := { target := .collected D, args := #[] } :: a.defers } W) :
    (Code.rangeFunc g ps assign body).wpIn Fence.wide 0 Tryz.prog Q a w := by
  refine wpIn_rangeFunc fun fn _ => ?_
  obtain ⟨rec, hrec⟩ : ∃ rec : LoopState → Option Code → Loop, rec = fun st pe => { state := st, pending := pe, fn, tmps := a.tmps, params := ps, assign, body, defers := w.heap.size } := ⟨_, rfl⟩
  have hx1 : Ext w (w.alloc (.deferred (some []))) := (Ext.refl w).alloc _
  have hx2 : Ext w ((w.alloc (.deferred (some []))).alloc (.loop (rec .ready none))) := hx1.alloc _
  have hL1 : ((w.alloc (.deferred (some []))).alloc (.loop (rec .ready none))).heap[w.heap.size + 1]? = some (.loop (rec .ready none)) := by
    have := World.alloc_heap_new (w.alloc (.deferred (some []))) (.loop (rec .ready none)); rwa [World.size_alloc] at this
  have hcore := rounds_coreC (fn := fn) (tmps := a.tmps) hit w.heap.size (w.heap.size + 1) w.heap.size (by omega) rec hrec (fun W => W.heap[w.heap.size]? = some (.deferred (some [])))
    (fun W W' h hp => hp.block _ _ (by omega) h) (fun W W' h hk => hk.same _ _ (Nat.le_refl _) h rfl) I Ix hI hIx hFoot hps fr bx T hassign hbody
    ((w.alloc (.deferred (some []))).alloc (.loop (rec .ready none))) hx2.size (hI _ _ _ h0 (PastC.of_ext hx2)) two_new hL1
  refine ⟨w.heap.size + 1, [{ target := .collected w.heap.size, args := #[] }], (w.alloc (.deferred (some []))).alloc (.loop (rec .ready none)), { target := .fn (.func gf) lb, args := fst ++ #[.func (.yield (w.heap.size + 1)) #[] #[]] },
    (w.alloc (.deferred (some []))).alloc (.loop (rec .ready none)), gf, fst ++ #[.func (.yield (w.heap.size + 1)) #[] #[]] ++ lb, (w.alloc (.deferred (some []))).alloc (.loop (rec .ready none)), ?_, ?_, fun f' _ => trivial, ?_, fun h => (by cases h), ?_⟩
  · rw [hrec]; exact run_enterLoop_outer _ _ _ _ _
  · simp only [resolve, hg]
    simp [go_sem]
  · simp [invoke, go_sem, eg]
  · refine hcore.mono ?_
    rintro e W2 ⟨⟨v, rfl⟩, h⟩
    have hput : ∀ (Y : World) (o : Obj) (r : Loop), Y.heap[w.heap.size + 1]? = some (.loop r) → PastC w.heap.size Y (Y.putObj (w.heap.size + 1) o) := fun Y o r hr => PastC.put (by omega) hr o
    rcases h with ⟨h1, h2, h3⟩ | ⟨i, c, hi, h1, h2, h3⟩
    · exact ⟨none, _, by have := run_endLoop (P := Tryz.prog) h3 (by rw [hrec]; simp); rw [hrec] at this; exact this, hdone _ _ (Nat.le_refl _) (hI _ _ _ h1 (hput _ _ _ h3)) ((World.putObj_heap_other (by omega)).trans h2)⟩
    · exact ⟨some c, _, by have := run_endLoop (P := Tryz.prog) h3 (by rw [hrec]; simp); rw [hrec] at this; exact this, hstop _ i c _ (Nat.le_refl _) hi (hIx _ _ _ _ h1 (hput _ _ _ h3)) ((World.putObj_heap_other (by omega)).trans h2)⟩

end
end
end Go.Proofs.YtjocoadhalimjaaGreat
