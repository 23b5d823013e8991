/- Whole lists appended, and cells of them stored: for NetsFewer. -/
import Derived.Test.YtmjelgonhpgmbaaMX
import Derived.Test.YtmjelgonhpgmbaaInv
set_option linter.unusedSimpArgs false
set_option linter.unusedVariables false
namespace Go.Proofs.Ytmjelgonhpgmbaa
open Go Go.RowKit Go.Shelf

def ntCells (n : NetD) : List Value := [.int .i64 n.east, .int .i64 n.north, .int .i64 n.long, .int .i64 n.along, .int .i64 n.shot, .int .i64 n.haul, .int .i64 n.se.lo, .int .i64 n.se.hi, .int .i64 n.sn.lo, .int .i64 n.sn.hi]
def ntFlat (l : List NetD) : List Value := l.flatMap ntCells
theorem ntFlat_app (a b : List NetD) : ntFlat (a ++ b) = ntFlat a ++ ntFlat b := by unfold ntFlat; rw [List.flatMap_append]
theorem ntFlat_len : ∀ l : List NetD, (ntFlat l).length = l.length * 10
  | [] => rfl
  | a :: l => by
    have := ntFlat_len l
    unfold ntFlat at this ⊢
    rw [List.flatMap_cons, List.length_append, this, List.length_cons]
    simp [ntCells]; omega
theorem ntFlat_get : ∀ (l : List NetD) (i : Nat) (h : i < l.length) (j : Nat), j < 10 → (ntFlat l)[i * 10 + j]? = (ntCells l[i])[j]?
  | a :: l, 0, _, j, hj => by
    unfold ntFlat
    rw [List.flatMap_cons, List.getElem?_append_left (by simp [ntCells]; omega)]
    simp
  | a :: l, i + 1, h, j, hj => by
    have := ntFlat_get l i (by simpa using h) j hj
    unfold ntFlat at this ⊢
    rw [List.flatMap_cons, List.getElem?_append_right (by simp [ntCells]; omega), List.getElem_cons_succ, ← this]
    congr 1
    simp [ntCells]
    omega
theorem nets_row {w : World} {v : Value} {l : List NetD} (h : Row w 58 10 v l.length (ntFlat l)) (hl : l.length ≤ 1000) : ShotsAt w v l := by
  obtain ⟨_, h⟩ := h
  rcases h with ⟨rfl, h0⟩ | ⟨g, cap, cur, rfl, hg, h1, h2, h3, h4⟩
  · exact ⟨none, 0, by rw [h0], ⟨by omega, by omega⟩, fun i hi => by omega⟩
  · have key : ∀ i (hi : i < l.length) j, j < 10 → w.cell? ⟨g, 0 + i * 10 + j, none⟩ = (ntCells l[i])[j]? := fun i hi j hj => by
      rw [cell_of hg, Nat.zero_add, ← ntFlat_get l i hi j hj, ← h4, List.getElem?_take, if_pos (by omega), Array.getElem?_toList]
    refine ⟨_, cap, rfl, ⟨h1, by omega⟩, fun i hi => ⟨g, 0, rfl, lt_of_block hg, ?_⟩⟩
    have k := key i hi
    exact ⟨k 0 (by omega), k 1 (by omega), k 2 (by omega), k 3 (by omega), k 4 (by omega), k 5 (by omega), k 6 (by omega), k 7 (by omega), k 8 (by omega), k 9 (by omega)⟩
theorem inf56 : (Try.prog.info? 56).map (fun i => (i.zero, i.size, i.bytes)) = some (some (.agg #[.int .i64 0, .int .i64 0]), 2, 16) := by kernel_rfl
theorem inf58 : (Try.prog.info? 58).map (fun i => (i.zero, i.size, i.bytes)) = some (some (.agg #[.int .i64 0, .int .i64 0, .int .i64 0, .int .i64 0, .int .i64 0, .int .i64 0, .int .i64 0, .int .i64 0, .int .i64 0, .int .i64 0]), 10, 80) := by kernel_rfl
theorem spans_cells {w : World} {p : Addr} {sc : Nat} {l : List Spn} (h : SpansAt w (.slice (some p) l.length sc) l) (j : Nat) (u : Value) (hj : (spFlat l)[j]? = some u) : w.cell? (p.add j) = some u := by
  obtain ⟨a, c, e, _, hc⟩ := h
  cases e
  have hj2 : j < l.length * 2 := by rw [← spFlat_len]; exact (List.getElem?_eq_some_iff.1 hj).1
  obtain ⟨b, o, e, _, c0, c1⟩ := hc (j / 2) (by omega)
  cases e
  rw [Addr.add_mid]
  have h1 := spFlat_get l (j / 2) (by omega)
  rcases (by omega : j = j / 2 * 2 ∨ j = j / 2 * 2 + 1) with h | h
  · rw [h] at hj ⊢; rw [h1.1] at hj; cases hj; exact c0
  · rw [h] at hj ⊢; rw [h1.2] at hj; cases hj; rw [← Nat.add_assoc]; exact c1
theorem shots_cells {w : World} {p : Addr} {sc : Nat} {l : List NetD} (h : ShotsAt w (.slice (some p) l.length sc) l) (j : Nat) (u : Value) (hj : (ntFlat l)[j]? = some u) : w.cell? (p.add j) = some u := by
  obtain ⟨a, c, e, _, hc⟩ := h
  cases e
  have hj2 : j < l.length * 10 := by rw [← ntFlat_len]; exact (List.getElem?_eq_some_iff.1 hj).1
  obtain ⟨b, o, e, _, c0, c1, c2, c3, c4, c5, c6, c7, c8, c9⟩ := hc (j / 10) (by omega)
  cases e
  rw [Addr.add_mid]
  have h1 := ntFlat_get l (j / 10) (by omega) (j % 10) (by omega)
  rw [show j / 10 * 10 + j % 10 = j by omega, hj] at h1
  rw [show o + j = o + j / 10 * 10 + j % 10 by omega]
  obtain ⟨r, hr⟩ : ∃ r, r = j % 10 := ⟨_, rfl⟩
  rw [← hr] at h1 ⊢
  have hr10 : r < 10 := by omega
  rcases (by omega : r = 0 ∨ r = 1 ∨ r = 2 ∨ r = 3 ∨ r = 4 ∨ r = 5 ∨ r = 6 ∨ r = 7 ∨ r = 8 ∨ r = 9) with h | h | h | h | h | h | h | h | h | h
  all_goals
    rw [h] at h1 ⊢
    simp only [ntCells, List.getElem?_cons_succ, List.getElem?_cons_zero] at h1
    cases h1
    assumption
/-- The part of a list from one place to another, at its own address. -/
theorem shots_part {w : World} {p : Addr} {sc : Nat} {l : List NetD} (h : ShotsAt w (.slice (some p) l.length sc) l) {a : Nat} {m : List NetD} (hm : ∀ j, j < m.length → m[j]? = l[a + j]?) (j : Nat) (u : Value) (hj : (ntFlat m)[j]? = some u) : w.cell? ((p.add (a * 10)).add j) = some u := by
  have hj2 : j < m.length * 10 := by rw [← ntFlat_len]; exact (List.getElem?_eq_some_iff.1 hj).1
  have hk : j / 10 < m.length := by omega
  have e := hm _ hk
  rw [List.getElem?_eq_getElem hk] at e
  obtain ⟨h2, e2⟩ := List.getElem?_eq_some_iff.1 e.symm
  have h1 := ntFlat_get m (j / 10) hk (j % 10) (by omega)
  have h3 := ntFlat_get l (a + j / 10) h2 (j % 10) (by omega)
  rw [e2, ← h1, show j / 10 * 10 + j % 10 = j by omega, hj] at h3
  have := shots_cells h _ u h3
  obtain ⟨_, _, e, _, hc⟩ := h
  cases e
  obtain ⟨b, o, e, _⟩ := hc (a + j / 10) h2
  cases e
  rw [Addr.add_mid] at this
  rw [Addr.add_mid, Addr.add_mid, ← this, show o + a * 10 + j = o + ((a + j / 10) * 10 + j % 10) by omega]
/-- A span's low end is stored. -/
theorem spans_set {w : World} {g cap n : Nat} {l : List Spn} (h : Row w 56 2 (.slice (some ⟨g, 0, none⟩) n cap) l.length (spFlat l)) {i : Nat} (hi : i < l.length) (x : Int) : Row (w.setCell ⟨g, i * 2, none⟩ (.int .i64 x)) 56 2 (.slice (some ⟨g, 0, none⟩) n cap) (l.set i ⟨x, (l.getD i ⟨0, 0⟩).hi⟩).length (spFlat (l.set i ⟨x, (l.getD i ⟨0, 0⟩).hi⟩)) := by
  obtain ⟨h1, h2⟩ := h
  rcases h2 with ⟨e, _⟩ | ⟨g', cap', cur, e, hg, h3, h4, h5, h6⟩
  · cases e
  · cases e
    refine ⟨by rw [spFlat_len], .inr ⟨g, cap, _, by rw [List.length_set], set_same hg _ _, by rw [List.length_set]; exact h3, h4, by simpa using h5, ?_⟩⟩
    rw [List.length_set, Array.toList_setIfInBounds, List.take_set, h6, getD_of hi]
    clear h1 h3 h4 h5 h6 hg
    induction l generalizing i with
    | nil => simp at hi
    | cons a l ih =>
      cases i with
      | zero => simp [spFlat, spCells]
      | succ i =>
        have := ih (i := i) (by simpa using hi)
        simp only [List.set_cons_succ, List.getElem_cons_succ]
        unfold spFlat at this ⊢
        rw [List.flatMap_cons, List.flatMap_cons, ← this, show (i + 1) * 2 = i * 2 + 1 + 1 by omega]
        simp [spCells]
theorem spans56_row {w : World} {v : Value} {l : List Spn} (h : Row w 56 2 v l.length (spFlat l)) (hl : l.length ≤ 1000) : SpansAt w v l := by
  obtain ⟨_, h⟩ := h
  rcases h with ⟨rfl, h0⟩ | ⟨g, cap, cur, rfl, hg, h1, h2, h3, h4⟩
  · exact ⟨none, 0, by rw [h0], ⟨by omega, by omega⟩, fun i hi => by omega⟩
  · refine ⟨_, cap, rfl, ⟨h1, by omega⟩, fun i hi => ⟨g, 0, rfl, lt_of_block hg, ?_⟩⟩
    have k := spFlat_get l i hi
    rw [← k.1, ← k.2, cell_of hg, cell_of hg, Nat.zero_add, ← h4, List.getElem?_take, List.getElem?_take, if_pos (by omega), if_pos (by omega), Array.getElem?_toList, Array.getElem?_toList]
    exact ⟨rfl, rfl⟩
theorem spFlat_one (l : List Spn) : ∀ u ∈ spFlat l, u.oneCell' = true := by
  intro u hu
  unfold spFlat at hu
  obtain ⟨s, _, hs⟩ := List.mem_flatMap.1 hu
  simp [spCells] at hs
  rcases hs with rfl | rfl <;> rfl
theorem ntFlat_one (l : List NetD) : ∀ u ∈ ntFlat l, u.oneCell' = true := by
  intro u hu
  unfold ntFlat at hu
  obtain ⟨s, _, hs⟩ := List.mem_flatMap.1 hu
  simp [ntCells] at hs
  rcases hs with rfl | rfl | rfl | rfl | rfl | rfl | rfl | rfl | rfl | rfl <;> rfl
theorem ext_grown {w0 w w' : World} {ob : Option Nat} (hx : Ext w0 w) (h : w.grownBy w' ob) (hob : ∀ g, ob = some g → w0.heap.size ≤ g) : Ext w0 w' :=
  Below.trans hx ⟨h.os, h.tape, h.output, h.size, fun j hj => h.block j (by have := hx.size; omega) (fun e => by have := hob j e.symm; omega)⟩
theorem row_empty (w : World) (T : TypeId) (sz : Nat) : Row (w.alloc (.cells #[] T)) T sz (.slice (some ⟨w.heap.size, 0, none⟩) 0 0) 0 [] :=
  ⟨by simp, .inr ⟨_, 0, #[], rfl, Ext.new (Ext.refl _), by omega, by unfold maxLen; omega, by simp, by simp⟩⟩
theorem row_addr {w : World} {T : TypeId} {sz n : Nat} {v : Value} {xs : List Value} (h : Row w T sz v n xs) (hn : 0 < n) : ∃ g cap, v = .slice (some ⟨g, 0, none⟩) n cap := by
  rcases h.2 with ⟨_, h0⟩ | ⟨g, cap, cur, rfl, _⟩
  · omega
  · exact ⟨g, cap, rfl⟩
/-- A whole list of spans, appended to an empty one. -/
theorem whole_spans {w0 w : World} {p : Addr} {sc : Nat} {l : List Spn} (hx : Ext w0 w) (h : SpansAt w0 (.slice (some p) l.length sc) l) (h0 : 0 < l.length ∧ l.length ≤ 1000) :
    ∃ g cap w', (Builtin.append_ #[37, 37] 37 #[.slice (some ⟨w.heap.size, 0, none⟩) 0 0, .slice (some p) l.length sc]).run Try.prog (w.alloc (.cells #[] 56)) = .ok (.slice (some ⟨g, 0, none⟩) l.length cap) w' ∧
      Row w' 56 2 (.slice (some ⟨g, 0, none⟩) l.length cap) l.length (spFlat l) ∧ w.heap.size ≤ g ∧ Ext w w' := by
  obtain ⟨i, hi, hz0, hz1, hz2⟩ := info_parts inf56
  obtain ⟨v, w', hrun, hrow, hgr, how⟩ := append_rows (sz := 2) (bytes := 16) (t := 37) (ty := 37) Try.underlying37 hi hz0 hz1 hz2 (by simp [Value.cells]) (by omega) h0.1 (row_empty w 56 2) p sc (spFlat l) (spFlat_len l) (fun j u hj => spans_cells (h.mono (hx.alloc _)) j u hj) (spFlat_one l) (by omega) (by omega)
  rw [Nat.zero_add, List.nil_append] at hrow
  obtain ⟨g, cap, rfl⟩ := row_addr hrow h0.1
  refine ⟨g, cap, w', hrun, hrow, ?_, ext_grown ((Ext.refl w).alloc _) hgr fun g' hg' => by cases hg'; exact Nat.le_refl _⟩
  rcases how with e | e <;> cases e <;> simp
/-- Nets appended to a list of nets. -/
theorem app_shots {w : World} {v : Value} {n : Nat} {xs : List Value} (h : Row w 58 10 v n xs) (p : Addr) (c : Nat) (m : List NetD) (hn : n + m.length ≤ 1000) (hnews : ∀ j u, (ntFlat m)[j]? = some u → w.cell? (p.add j) = some u) :
    ∃ v' w', (Builtin.append_ #[38, 38] 38 #[v, .slice (some p) m.length c]).run Try.prog w = .ok v' w' ∧ Row w' 58 10 v' (n + m.length) (xs ++ ntFlat m) ∧ w.grownBy w' v.ownBlock ∧ (v'.ownBlock = v.ownBlock ∨ v'.ownBlock = some w.heap.size) := by
  obtain ⟨i, hi, hz0, hz1, hz2⟩ := info_parts inf58
  rcases Nat.eq_zero_or_pos m.length with h0 | h0
  · have e := List.eq_nil_of_length_eq_zero h0
    subst e
    have hs : ∃ sa cap, v = .slice sa n cap ∧ n ≤ cap := by
      rcases h.2 with ⟨rfl, rfl⟩ | ⟨g, cap, cur, rfl, _, hc, _⟩
      · exact ⟨_, _, rfl, Nat.le_refl _⟩
      · exact ⟨_, _, rfl, hc⟩
    obtain ⟨sa, cap, rfl, hc⟩ := hs
    exact ⟨_, w, append_none Try.underlying38 hi hc (some p) c, by simpa [ntFlat] using h, ⟨rfl, rfl, rfl, Nat.le_refl _, fun _ _ _ => rfl⟩, .inl rfl⟩
  · exact append_rows (sz := 10) (bytes := 80) (t := 38) (ty := 38) Try.underlying38 hi hz0 hz1 hz2 (by simp [Value.cells]) (by omega) h0 h p c (ntFlat m) (ntFlat_len m) hnews (ntFlat_one m) (by omega) (by omega)
/-- A whole list of nets, appended to an empty one. -/
theorem whole_shots {w0 w : World} {p : Addr} {sc : Nat} {l : List NetD} (hx : Ext w0 w) (h : ShotsAt w0 (.slice (some p) l.length sc) l) (h0 : 0 < l.length ∧ l.length ≤ 1000) :
    ∃ g cap w', (Builtin.append_ #[38, 38] 38 #[.slice (some ⟨w.heap.size, 0, none⟩) 0 0, .slice (some p) l.length sc]).run Try.prog (w.alloc (.cells #[] 58)) = .ok (.slice (some ⟨g, 0, none⟩) l.length cap) w' ∧
      Row w' 58 10 (.slice (some ⟨g, 0, none⟩) l.length cap) l.length (ntFlat l) ∧ w.heap.size ≤ g ∧ Ext w w' := by
  obtain ⟨v, w', hrun, hrow, hgr, how⟩ := app_shots (row_empty w 58 10) p sc l (by omega) (fun j u hj => shots_cells (h.mono (hx.alloc _)) j u hj)
  rw [Nat.zero_add, List.nil_append] at hrow
  obtain ⟨g, cap, rfl⟩ := row_addr hrow h0.1
  refine ⟨g, cap, w', hrun, hrow, ?_, ext_grown ((Ext.refl w).alloc _) hgr fun g' hg' => by cases hg'; exact Nat.le_refl _⟩
  rcases how with e | e <;> cases e <;> simp
/-- All nets but one. -/
theorem less_shots {w0 w : World} {b o : Nat} {sc c1 c2 : Nat} {p2 : Addr} {l : List NetD} (hx : Ext w0 w) (h : ShotsAt w0 (.slice (some ⟨b, o, none⟩) l.length sc) l) {k : Nat} (hk : k < l.length) (h0 : 1 < l.length ∧ l.length ≤ 1000) (hp : k + 1 < l.length → p2 = ⟨b, o + (k + 1) * 10, none⟩) :
    ∃ v1 w1, (Builtin.append_ #[38, 38] 38 #[.slice (some ⟨w.heap.size, 0, none⟩) 0 0, .slice (some ⟨b, o, none⟩) k c1]).run Try.prog (w.alloc (.cells #[] 58)) = .ok v1 w1 ∧ Ext w w1 ∧
      ∃ g cap w2, (Builtin.append_ #[38, 38] 38 #[v1, .slice (some p2) (l.length - (k + 1)) c2]).run Try.prog w1 = .ok (.slice (some ⟨g, 0, none⟩) (l.length - 1) cap) w2 ∧
      Row w2 58 10 (.slice (some ⟨g, 0, none⟩) (l.length - 1) cap) (l.length - 1) (ntFlat (l.take k ++ l.drop (k + 1))) ∧ w.heap.size ≤ g ∧ Ext w w2 := by
  have e1 : (l.take k).length = k := by simp; omega
  have e2 : (l.drop (k + 1)).length = l.length - (k + 1) := by simp
  obtain ⟨v1, w1, hrun1, hrow1, hgr1, how1⟩ := app_shots (row_empty w 58 10) ⟨b, o, none⟩ c1 (l.take k) (by omega) (fun j u hj => by
    have := shots_part (h.mono (hx.alloc (.cells #[] 58))) (a := 0) (m := l.take k) (fun j hj => by rw [List.getElem?_take, if_pos (by omega), Nat.zero_add]) j u hj
    rw [Addr.add_mid, Addr.add_mid] at this
    rw [Addr.add_mid, ← this]
    simp)
  have hx1 : Ext w w1 := ext_grown ((Ext.refl w).alloc _) hgr1 fun g' hg' => by cases hg'; exact Nat.le_refl _
  rw [e1] at hrun1
  rw [Nat.zero_add, List.nil_append, e1] at hrow1
  obtain ⟨v2, w2, hrun2, hrow2, hgr2, how2⟩ := app_shots hrow1 p2 c2 (l.drop (k + 1)) (by omega) (fun j u hj => by
    have hj2 : j < (l.drop (k + 1)).length * 10 := by rw [← ntFlat_len]; exact (List.getElem?_eq_some_iff.1 hj).1
    rw [hp (by omega)]
    have := shots_part (h.mono (hx.trans hx1)) (a := k + 1) (m := l.drop (k + 1)) (fun j hj => by rw [List.getElem?_drop]) j u hj
    rw [Addr.add_mid] at this
    exact this)
  rw [e2] at hrun2
  rw [e2, show k + (l.length - (k + 1)) = l.length - 1 by omega, ← ntFlat_app] at hrow2
  have ho1 : ∀ g, v1.ownBlock = some g → w.heap.size ≤ g := fun g hg => by
    rcases how1 with e | e <;> rw [hg] at e <;> cases e <;> simp
  obtain ⟨g, cap, rfl⟩ := row_addr hrow2 (by omega)
  refine ⟨v1, w1, hrun1, hx1, g, cap, w2, hrun2, hrow2, ?_, ext_grown hx1 hgr2 ho1⟩
  have := hx1.size
  rcases how2 with e | e
  · exact ho1 g (by rw [← e]; rfl)
  · cases e; exact this
theorem spans_at {w : World} {g cap n : Nat} {l : List Spn} (h : Row w 56 2 (.slice (some ⟨g, 0, none⟩) n cap) l.length (spFlat l)) {i : Nat} (hi : i < l.length) : ∃ cur : Array Value, w.heap[g]? = some (.cells cur 56 (0, 0)) ∧ cur[i * 2]? = some (.int .i64 l[i].lo) := by
  obtain ⟨h1, h2⟩ := h
  rcases h2 with ⟨e, _⟩ | ⟨g', cap', cur, e, hg, h3, h4, h5, h6⟩
  · cases e
  · cases e
    refine ⟨cur, hg, ?_⟩
    rw [← (spFlat_get l i hi).1, ← h6, List.getElem?_take, if_pos (by omega), Array.getElem?_toList]
/-- What a fleet that is less comes to. -/
theorem fewer_facts {F X : FleetD} (hF : fleetB F = true) (ok : FleetOk X) (too : FoulsToo X F) :
    ∃ a b c fe a' b' c' fe', (canV F = #[.int .i64 a, .int .i64 b, .int .i64 c] ∧ canE F = fe) ∧ (canV X = #[.int .i64 a', .int .i64 b', .int .i64 c'] ∧ canE X = fe') ∧
      ((fe' = 4 ∧ (fe = 0 ∨ fe = 4)) ∨ (fe' = 0 ∧ fe = 0 ∧ a ≤ a')) := by
  have hX := fleetB_of ok
  unfold canV canE
  rw [hF, hX]
  simp only [if_true]
  cases hb : (trips X).find? (foulCt X) with
  | none =>
    obtain ⟨a, b, c, hv⟩ := foulV_three ((trips F).find? (foulCt F))
    refine ⟨a, b, c, foulE ((trips F).find? (foulCt F)), 0, 0, 0, 4, ⟨hv, rfl⟩, ⟨rfl, rfl⟩, .inl ⟨rfl, ?_⟩⟩
    cases (trips F).find? (foulCt F)
    · exact .inr rfl
    · exact .inl rfl
  | some t =>
    obtain ⟨t0, ht0, hle⟩ := fouls_first too hb
    rw [ht0]
    exact ⟨_, _, _, _, _, _, _, _, ⟨rfl, rfl⟩, ⟨rfl, rfl⟩, .inr ⟨rfl, rfl, by omega⟩⟩
theorem wpIn_store_at {F : Fence} {n : Nat} {o : Oper} {a : Act} {w : World} {K : Act → World → Prop} {Q : Exit → Act → World → Prop} (ty : TypeId) (x y : Operand) (ho : o.op = .store ty x y) (hF : ∀ f, F.fn f) {g off : Nat} (hx : a.eval x = .pointer (some ⟨g, off, none⟩)) {t : TypeId} {cells cur : Array Value}
    (hy : a.eval y = .agg cells) (hg : w.heap[g]? = some (.cells cur t (0, 0))) (hi : (Try.prog.info? ty).map (·.size) = some cells.size) (hl : off + cells.size ≤ cur.size) (h1 : cells.all (·.oneCell') = true)
    (h : K (a.put o.dst undef) (w.setRow g (cur.toList.take off ++ cells.toList ++ cur.toList.drop (off + cells.size)).toArray)) : o.wpIn F n Try.prog a w K Q := by
  have hl : (storeVar ty ⟨g, off, none⟩ (.agg cells)).run Try.prog w = .ok () (w.setRow g (cur.toList.take off ++ cells.toList ++ cur.toList.drop (off + cells.size)).toArray) := by
    have := run_storeCells_at (P := Try.prog) g off t cells.toList 0 cur w hg (by simpa using hl) (fun v hv => (Array.all_eq_true_iff_forall_mem.1 h1) v (by simpa using hv))
    cases hq : Try.prog.info? ty with
    | none => simp [hq] at hi
    | some i =>
      have hs : cells.size = i.size := by simp [hq] at hi; omega
      simp only [Nat.add_zero, Array.length_toList] at this
      simp [storeVar, sizeOf, typeInfo, hq, Value.cells, hs, this]
  refine ⟨fun f _ => hF f, ?_⟩
  rw [Oper.semAt_eq _ _ _ (by rw [ho]; intro c h; cases h)]
  unfold execOp
  simp only [ho, hx, hy, Instr.storeAt, Instr.sureAddr, Sem.run_bind, Sem.run_pure, Result.andThen_ok, hl]
  exact h
theorem ext_setRow {w0 w : World} {g : Nat} (hx : Ext w0 w) (hg : w0.heap.size ≤ g) (c : Array Value) : Ext w0 (w.setRow g c) :=
  Below.trans hx ⟨rfl, rfl, rfl, by simp, fun j hj => setRow_other w g j c (by have := hx.size; omega)⟩
theorem ntFlat_set (x : NetD) : ∀ (l : List NetD) (i : Nat), i < l.length → ntFlat (l.set i x) = (ntFlat l).take (i * 10) ++ ntCells x ++ (ntFlat l).drop (i * 10 + 10)
  | a :: l, 0, _ => by
    unfold ntFlat
    simp [ntCells]
  | a :: l, i + 1, h => by
    have ih := ntFlat_set x l i (by simpa using h)
    unfold ntFlat at ih ⊢
    rw [List.set_cons_succ, List.flatMap_cons, List.flatMap_cons, ih]
    rw [show (i + 1) * 10 = i * 10 + 1 + 1 + 1 + 1 + 1 + 1 + 1 + 1 + 1 + 1 by omega]
    simp [ntCells]
/-- A net is stored among nets. -/
theorem nets_set {w : World} {g cap n : Nat} {l : List NetD} (h : Row w 58 10 (.slice (some ⟨g, 0, none⟩) n cap) l.length (ntFlat l)) {i : Nat} (hi : i < l.length) :
    ∃ cur : Array Value, w.heap[g]? = some (.cells cur 58 (0, 0)) ∧ i * 10 + 10 ≤ cur.size ∧ ∀ x : NetD, Row (w.setRow g (cur.toList.take (i * 10) ++ ntCells x ++ cur.toList.drop (i * 10 + 10)).toArray) 58 10 (.slice (some ⟨g, 0, none⟩) n cap) (l.set i x).length (ntFlat (l.set i x)) := by
  obtain ⟨h1, h2⟩ := h
  rcases h2 with ⟨e, _⟩ | ⟨g', cap', cur, e, hg, h3, h4, h5, h6⟩
  · cases e
  · cases e
    have hn : i * 10 + 10 ≤ l.length * 10 := by omega
    have hsz : l.length * 10 ≤ cur.size := by rw [h5]; exact Nat.mul_le_mul_right _ h3
    refine ⟨cur, hg, by omega, fun x => ⟨by rw [ntFlat_len], .inr ⟨g, cap, _, by rw [List.length_set], setRow_heap w g cur _ 58 _ hg, by rw [List.length_set]; exact h3, h4, ?_, ?_⟩⟩⟩
    · simp only [List.size_toArray, List.length_append, List.length_take, List.length_drop, Array.length_toList, ntCells, List.length_cons, List.length_nil]
      omega
    · obtain ⟨rest, hr⟩ : ∃ rest, cur.toList = ntFlat l ++ rest := ⟨cur.toList.drop (l.length * 10), by rw [← h6, List.take_append_drop]⟩
      have hfl := ntFlat_len l
      have e1 : (ntFlat l ++ rest).take (i * 10) = (ntFlat l).take (i * 10) := List.take_append_of_le_length (by omega)
      have e2 : (ntFlat l ++ rest).drop (i * 10 + 10) = (ntFlat l).drop (i * 10 + 10) ++ rest := List.drop_append_of_le_length (by omega)
      rw [hr, e1, e2, List.length_set, ← List.append_assoc, ← ntFlat_set x l i hi]
      exact List.take_left' (by rw [ntFlat_len, List.length_set])
theorem siz58 : (Try.prog.info? 58).map (·.size) = some 10 := by kernel_rfl
/-- All nets but one: an empty list by 0, appended to by 5 and by 11. -/
def fewJ (wd wa w1 w2 : World) : InvJ := fun L x u => (L 0 = false → u = wd) ∧ (L 0 = true → L 5 = false → u = wa) ∧ (L 5 = true → L 11 = false → u = w1) ∧ (L 11 = true → u = w2) ∧ (L 5 = true → L 0 = true) ∧ (L 11 = true → L 5 = true)
theorem fewJ_start (wd wa w1 w2 : World) : fewJ wd wa w1 w2 (fun _ => false) (fun _ => undef) wd :=
  ⟨fun _ => rfl, (fun h => by cases h), (fun h => by cases h), (fun h => by cases h), (fun h => by cases h), fun h => by cases h⟩
theorem fewJ_ext {wd wa w1 w2 u : World} {L : Nat → Bool} {x : Nat → Value} (h : fewJ wd wa w1 w2 L x u) (ha : Ext wd wa) (h1 : Ext wd w1) (h2 : Ext wd w2) : Ext wd u := by
  obtain ⟨a0, a1, a2, a3, _, _⟩ := h
  cases q0 : L 0 with
  | false => rw [a0 q0]; exact Ext.refl _
  | true =>
    cases q5 : L 5 with
    | false => rw [a1 q0 q5]; exact ha
    | true =>
      cases q11 : L 11 with
      | false => rw [a2 q5 q11]; exact h1
      | true => rw [a3 q11]; exact h2
theorem fewJ_0 {wd wa w1 w2 u : World} {L : Nat → Bool} {x : Nat → Value} (h : fewJ wd wa w1 w2 L x u) (hL : L 0 = false) : u = wd ∧ fewJ wd wa w1 w2 (updL L 0) x wa := by
  obtain ⟨a0, a1, a2, a3, a4, a5⟩ := h
  have q5 : L 5 = false := by
    cases q : L 5 with
    | false => rfl
    | true => rw [a4 q] at hL; cases hL
  have q11 : L 11 = false := by
    cases q : L 11 with
    | false => rfl
    | true => rw [a5 q] at q5; cases q5
  exact ⟨a0 hL, (fun h => by cases h), fun _ _ => rfl, (fun h => by rw [show updL L 0 5 = L 5 from rfl, q5] at h; cases h), (fun h => by rw [show updL L 0 11 = L 11 from rfl, q11] at h; cases h), fun _ => rfl, fun h => a5 h⟩
theorem fewJ_5 {wd wa w1 w2 u : World} {L : Nat → Bool} {x : Nat → Value} (h : fewJ wd wa w1 w2 L x u) (h0 : L 0 = true) (hL : L 5 = false) : u = wa ∧ fewJ wd wa w1 w2 (updL L 5) x w1 := by
  obtain ⟨a0, a1, a2, a3, a4, a5⟩ := h
  have q11 : L 11 = false := by
    cases q : L 11 with
    | false => rfl
    | true => rw [a5 q] at hL; cases hL
  exact ⟨a1 h0 hL, (fun h => by rw [show updL L 5 0 = L 0 from rfl, h0] at h; cases h), (fun _ h => by cases h), fun _ _ => rfl, (fun h => by rw [show updL L 5 11 = L 11 from rfl, q11] at h; cases h), fun _ => h0, fun _ => rfl⟩
theorem fewJ_11 {wd wa w1 w2 u : World} {L : Nat → Bool} {x : Nat → Value} (h : fewJ wd wa w1 w2 L x u) (h5 : L 5 = true) (hL : L 11 = false) : u = w1 ∧ fewJ wd wa w1 w2 (updL L 11) x w2 := by
  obtain ⟨a0, a1, a2, a3, a4, a5⟩ := h
  exact ⟨a2 h5 hL, (fun h => by rw [show updL L 11 0 = L 0 from rfl, a4 h5] at h; cases h), (fun _ h => by rw [show updL L 11 5 = L 5 from rfl, h5] at h; cases h), (fun _ h => by cases h), fun _ => rfl, fun _ => a4 h5, fun _ => h5⟩

end Go.Proofs.Ytmjelgonhpgmbaa
