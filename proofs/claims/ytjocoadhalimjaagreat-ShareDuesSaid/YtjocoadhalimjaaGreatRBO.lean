/- Stakes copied in another order, exchanged, appended. -/
import Derived.Test.YtjocoadhalimjaaGreatRBZ
set_option linter.unusedSimpArgs false
set_option linter.unusedVariables false
namespace Go.Proofs.YtjocoadhalimjaaGreat
open Go Go.RowKit Go.Shelf

theorem stkF_app (a b : List Stk) : stkF (a ++ b) = stkF a ++ stkF b := by simp [stkF]
theorem stkF_one (l : List Stk) : ∀ u ∈ stkF l, u.oneCell' = true := by
  intro u hu
  obtain ⟨p, _, h⟩ := List.mem_flatMap.1 hu
  simp [stkC] at h
  rcases h with rfl | rfl <;> rfl
theorem stkF_set : ∀ (l : List Stk) (k : Nat) (q : Stk), k < l.length → stkF (l.set k q) = (stkF l).take (k * 2) ++ [.string q.name, .int .i64 q.weight] ++ (stkF l).drop (k * 2 + 2)
  | [], k, q, h => by simp at h
  | p :: l, 0, q, h => by
    have e : stkF (p :: l) = [.string p.name, .int .i64 p.weight] ++ stkF l := rfl
    rw [e]; rfl
  | p :: l, k + 1, q, h => by
    have e : stkF (p :: l) = [.string p.name, .int .i64 p.weight] ++ stkF l := rfl
    have ih := stkF_set l k q (by simpa using h)
    have e2 : stkF ((p :: l).set (k + 1) q) = [.string p.name, .int .i64 p.weight] ++ stkF (l.set k q) := rfl
    rw [e2, e, ih, show (k + 1) * 2 = k * 2 + 2 by omega]
    simp only [List.cons_append, List.nil_append, List.take_succ_cons, List.drop_succ_cons]
theorem stk_cells {w : World} {b o c : Nat} {l : List Stk} (h : StakesAt w (.slice (some ⟨b, o, none⟩) l.length c) l) (j : Nat) (u : Value) (hj : (stkF l)[j]? = some u) : w.cell? ⟨b, o + j, none⟩ = some u := by
  obtain ⟨a, cap, e, _, hc⟩ := h
  cases e
  have hj2 : j < l.length * 2 := by rw [← stkF_len]; exact (List.getElem?_eq_some_iff.1 hj).1
  obtain ⟨i, hi⟩ : ∃ i, i = j / 2 := ⟨_, rfl⟩
  have hil : i < l.length := by omega
  have hji : j = i * 2 ∨ j = i * 2 + 1 := by omega
  clear hi
  obtain ⟨b', o', e, _, c0, c1⟩ := hc i hil
  cases e
  obtain ⟨k0, k1⟩ := stkF_get l i hil
  rcases hji with h | h
  · subst h
    rw [k0] at hj; cases hj
    exact c0
  · subst h
    rw [k1] at hj; cases hj
    rw [← Nat.add_assoc]; exact c1
theorem app_stks {w : World} {v : Value} {n : Nat} {xs : List Value} (h : Row w 49 2 v n xs) (p : Addr) (c : Nat) (m : List Stk) (hn : n + m.length ≤ 1000000) (hnews : ∀ j u, (stkF m)[j]? = some u → w.cell? (p.add j) = some u) :
    ∃ v' w', (Builtin.append_ #[22, 22] 22 #[v, .slice (some p) m.length c]).run Tryz.prog w = .ok v' w' ∧ Row w' 49 2 v' (n + m.length) (xs ++ stkF m) ∧ w.grownBy w' v.ownBlock ∧ (v'.ownBlock = v.ownBlock ∨ v'.ownBlock = some w.heap.size) := by
  obtain ⟨i, hi, hz0, hz1, hz2⟩ := info_parts info49
  rcases Nat.eq_zero_or_pos m.length with h0 | h0
  · have hm : m = [] := List.eq_nil_of_length_eq_zero h0
    subst hm
    obtain ⟨sa, sc, rfl⟩ := h.isSliceN
    have hc : n ≤ sc := by
      rcases h.2 with ⟨e, h0⟩ | ⟨g, cap, cur, e, _, h1, _⟩
      · omega
      · cases e; exact h1
    exact ⟨_, w, append_none Tryz.underlying22 hi hc (some p) c, by simpa [stkF] using h, ⟨rfl, rfl, rfl, Nat.le_refl _, fun _ _ _ => rfl⟩, .inl rfl⟩
  · exact append_rows (sz := 2) (bytes := 24) (t := 22) (ty := 22) Tryz.underlying22 hi hz0 hz1 hz2 (by simp [Value.cells]) (by omega) h0 h p c (stkF m) (stkF_len m) hnews (stkF_one m) (by omega) (by omega)
/-- Stakes turned round. -/
theorem turn_stks {w0 w : World} {b o : Nat} {sc c1 c2 : Nat} {l : List Stk} (hx : Ext w0 w) (h : StakesAt w0 (.slice (some ⟨b, o, none⟩) l.length sc) l) {f : Nat} (hf : f < l.length) (h0 : l.length ≤ 1000) :
    ∃ v1 w1, (Builtin.append_ #[22, 22] 22 #[.slice (some ⟨w.heap.size, 0, none⟩) 0 0, .slice (some ⟨b, o + f * 2, none⟩) (l.length - f) c1]).run Tryz.prog (w.alloc (.cells #[] 49)) = .ok v1 w1 ∧ Ext w w1 ∧
      ∃ v2 w2, (Builtin.append_ #[22, 22] 22 #[v1, .slice (some ⟨b, o, none⟩) f c2]).run Tryz.prog w1 = .ok v2 w2 ∧
      Row w2 49 2 v2 l.length (stkF (l.drop f ++ l.take f)) ∧ (∀ g, v2.ownBlock = some g → w.heap.size ≤ g) ∧ Ext w w2 := by
  have e1 : (l.drop f).length = l.length - f := by simp
  have e2 : (l.take f).length = f := by simp; omega
  have ea : stkF l = stkF (l.take f) ++ stkF (l.drop f) := by rw [← stkF_app, List.take_append_drop]
  obtain ⟨v1, w1, hrun1, hrow1, hgr1, how1⟩ := app_stks (row_empty w 49 2) ⟨b, o + f * 2, none⟩ c1 (l.drop f) (by omega) (fun j u hj => by
    rw [Addr.add_mid]
    have := stk_cells (h.mono (hx.alloc (.cells #[] 49))) (f * 2 + j) u (by
      rw [ea, List.getElem?_append_right (by rw [stkF_len]; omega), stkF_len, e2, Nat.add_sub_cancel_left]; exact hj)
    rw [← Nat.add_assoc] at this; exact this)
  have hx1 : Ext w w1 := ext_grown ((Ext.refl w).alloc _) hgr1 fun g' hg' => by cases hg'; exact Nat.le_refl _
  rw [e1] at hrun1
  rw [Nat.zero_add, List.nil_append, e1] at hrow1
  obtain ⟨v2, w2, hrun2, hrow2, hgr2, how2⟩ := app_stks hrow1 ⟨b, o, none⟩ c2 (l.take f) (by omega) (fun j u hj => by
    rw [Addr.add_mid]
    exact stk_cells (h.mono (hx.trans hx1)) j u (by rw [ea, List.getElem?_append_left (List.getElem?_eq_some_iff.1 hj).1]; exact hj))
  rw [e2] at hrun2
  rw [e2, show l.length - f + f = l.length by omega, ← stkF_app] at hrow2
  have ho1 : ∀ g, v1.ownBlock = some g → w.heap.size ≤ g := fun g hg => by
    rcases how1 with e | e <;> rw [hg] at e <;> cases e <;> simp
  refine ⟨v1, w1, hrun1, hx1, v2, w2, hrun2, hrow2, fun g hg => ?_, ext_grown hx1 hgr2 ho1⟩
  rcases how2 with e | e
  · exact ho1 g (by rw [← e]; exact hg)
  · rw [hg] at e; cases e; exact hx1.size
def stC (cur : Array Value) (off : Nat) (cells : Array Value) : Array Value := (cur.toList.take off ++ cells.toList ++ cur.toList.drop (off + cells.size)).toArray
/-- A row's cells, when a stake of it is changed. -/
structure SRow (cur : Array Value) (n cap : Nat) (l : List Stk) : Prop where
  len : l.length = n
  capb : n ≤ cap ∧ cap ≤ maxLen
  size : cur.size = cap * 2
  cells : cur.toList.take (n * 2) = stkF l
theorem SRow.of_row {w : World} {g cap n : Nat} {l : List Stk} (h : Row w 49 2 (.slice (some ⟨g, 0, none⟩) n cap) n (stkF l)) : ∃ cur, w.heap[g]? = some (.cells cur 49 (0, 0)) ∧ SRow cur n cap l := by
  obtain ⟨hl, h⟩ := h
  rcases h with ⟨e, _⟩ | ⟨g', cap', cur, e, hg, h1, h2, h3, h4⟩
  · cases e
  · cases e
    exact ⟨cur, hg, by rw [stkF_len] at hl; omega, ⟨h1, h2⟩, h3, h4⟩
theorem SRow.row {w : World} {g cap n : Nat} {l : List Stk} {cur : Array Value} (h : SRow cur n cap l) (hg : w.heap[g]? = some (.cells cur 49 (0, 0))) : Row w 49 2 (.slice (some ⟨g, 0, none⟩) n cap) n (stkF l) :=
  ⟨by rw [stkF_len, h.len], .inr ⟨g, cap, cur, rfl, hg, h.capb.1, h.capb.2, h.size, h.cells⟩⟩
theorem SRow.set {cur : Array Value} {n cap : Nat} {l : List Stk} (h : SRow cur n cap l) {k : Nat} (hk : k < n) (q : Stk) : SRow (stC cur (k * 2) #[.string q.name, .int .i64 q.weight]) n cap (l.set k q) ∧ k * 2 + 2 ≤ cur.size := by
  have hle : n * 2 ≤ cur.size := by rw [h.size]; exact Nat.mul_le_mul_right _ h.capb.1
  refine ⟨⟨by rw [List.length_set, h.len], h.capb, ?_, ?_⟩, by omega⟩
  · have h2 := h.size
    unfold stC
    simp only [List.size_toArray, List.length_append, List.length_take, List.length_drop, Array.length_toList, List.length_cons, List.length_nil]
    omega
  · rw [stkF_set l k q (by rw [h.len]; exact hk), ← h.cells]
    unfold stC
    refine List.ext_getElem? fun j => ?_
    simp only [List.getElem?_take, List.getElem?_append, List.length_append, List.length_take, List.length_cons, List.length_nil, Array.length_toList, List.getElem?_drop, List.size_toArray]
    have e1 : min (k * 2) cur.size = k * 2 := by omega
    have e2 : min (k * 2) (min (n * 2) cur.size) = k * 2 := by omega
    rw [e1, e2]
    by_cases c0 : j < n * 2
    · rw [if_pos c0]
      by_cases c1 : j < k * 2 + (0 + 1 + 1)
      · rw [if_pos c1, if_pos c1]
        by_cases c2 : j < k * 2
        · rw [if_pos c2, if_pos c2, if_pos c2, if_pos c2, if_pos c0]
        · rw [if_neg c2, if_neg c2]
      · rw [if_neg c1, if_neg c1, if_pos (by omega)]
    · rw [if_neg c0]
      rw [if_neg (show ¬ j < k * 2 + (0 + 1 + 1) by omega), if_neg (by omega)]
theorem SRow.get {cur : Array Value} {n cap : Nat} {l : List Stk} (h : SRow cur n cap l) {k : Nat} (hk : k < l.length) : cur[k * 2]? = some (.string l[k].name) ∧ cur[k * 2 + 1]? = some (.int .i64 l[k].weight) := by
  have hn := h.len
  obtain ⟨k0, k1⟩ := stkF_get l k hk
  rw [← h.cells, List.getElem?_take, if_pos (by omega), Array.getElem?_toList] at k0 k1
  exact ⟨k0, k1⟩
/-- Two stakes are exchanged: the loads come before the stores. -/
def swJ (w0 : World) (g : Nat) (c0 cA cB : Array Value) : InvJ := fun L x u => Ext w0 u ∧ u.heap[g]? = some (.cells (if L 17 then cB else if L 15 then cA else c0) 49 (0, 0)) ∧ (L 15 = true → L 9 = true ∧ L 13 = true) ∧ (L 17 = true → L 15 = true)
/-- A list that is made, and then appended. -/
def stJ (wd wa w1 : World) (i j : Nat) : InvJ := fun L x u => (L i = false → u = wd) ∧ (L i = true → L j = false → u = wa) ∧ (L j = true → u = w1) ∧ (L j = true → L i = true)
section
variable {wd wa w1 u : World} {L : Nat → Bool} {x : Nat → Value} {i j : Nat}
theorem stJ_start : stJ wd wa w1 i j (fun _ => false) (fun _ => undef) wd := by refine ⟨fun _ => rfl, ?_, ?_, ?_⟩ <;> intro h <;> cases h
theorem stJ_ext (h : stJ wd wa w1 i j L x u) (hj : L j = false) (ha : Ext wd wa) : Ext wd u := by
  obtain ⟨a, b, c, d⟩ := h
  cases hi : L i with
  | false => rw [a hi]; exact Ext.refl _
  | true => rw [b hi hj]; exact ha
theorem stJ_make (h : stJ wd wa w1 i j L x u) (hL : L i = false) (hj : j ≠ i) : u = wd ∧ stJ wd wa w1 i j (updL L i) x wa := by
  obtain ⟨a, b, c, d⟩ := h
  have hLj : L j = false := by cases hh : L j with | false => rfl | true => rw [d hh] at hL; cases hL
  refine ⟨a hL, ?_⟩
  unfold stJ updL
  rw [if_pos rfl, if_neg hj, hLj]
  exact ⟨fun h => (by cases h), fun _ _ => rfl, fun h => (by cases h), fun h => (by cases h)⟩
theorem stJ_app (h : stJ wd wa w1 i j L x u) (hi : L i = true) (hL : L j = false) (hj : i ≠ j) : u = wa ∧ stJ wd wa w1 i j (updL L j) x w1 := by
  obtain ⟨a, b, c, d⟩ := h
  refine ⟨b hi hL, ?_⟩
  unfold stJ updL
  rw [if_pos rfl, if_neg hj, hi]
  exact ⟨fun h => (by cases h), fun _ h => (by cases h), fun _ => rfl, fun _ => rfl⟩
end

end Go.Proofs.YtjocoadhalimjaaGreat
