/- Whole lists appended, and cells of them stored: for the shifted fleet. -/
import Derived.Test.YtmjelgonhpgmbaaGreatMX
import Derived.Test.YtmjelgonhpgmbaaGreatInv
set_option linter.unusedSimpArgs false
set_option linter.unusedVariables false
namespace Go.Proofs.YtmjelgonhpgmbaaGreat
open Go Go.RowKit Go.Shelf

def ntCells (n : NetD) : List Value := [.int .i64 n.east, .int .i64 n.north, .int .i64 n.long, .int .i64 n.along, .int .i64 n.shot, .int .i64 n.haul, .int .i64 n.se.lo, .int .i64 n.se.hi, .int .i64 n.sn.lo, .int .i64 n.sn.hi]
def ntFlat (l : List NetD) : List Value := l.flatMap ntCells
theorem ntFlat_app (a b : List NetD) : ntFlat (a ++ b) = ntFlat a ++ ntFlat b := by unfold ntFlat; rw [List.flatMap_append]
theorem ntFlat_len : ∀ l : List NetD, (ntFlat l).length = l.length * 10
  | [] => rfl
  | a :: l => by
    have := ntFlat_len l
    unfold ntFlat at this ⊢
    rw [List.flatMap_cons, List.length_append, this, List.length_cons]
    simp [ntCells]; omega
theorem ntFlat_get : ∀ (l : List NetD) (i : Nat) (h : i < l.length) (j : Nat), j < 10 → (ntFlat l)[i * 10 + j]? = (ntCells l[i])[j]?
  | a :: l, 0, _, j, hj => by
    unfold ntFlat
    rw [List.flatMap_cons, List.getElem?_append_left (by simp [ntCells]; omega)]
    simp
  | a :: l, i + 1, h, j, hj => by
    have := ntFlat_get l i (by simpa using h) j hj
    unfold ntFlat at this ⊢
    rw [List.flatMap_cons, List.getElem?_append_right (by simp [ntCells]; omega), List.getElem_cons_succ, ← this]
    congr 1
    simp [ntCells]
    omega
theorem nets_row {w : World} {v : Value} {l : List NetD} (h : Row w 63 10 v l.length (ntFlat l)) (hl : l.length ≤ 1000) : ShotsAt w v l := by
  obtain ⟨_, h⟩ := h
  rcases h with ⟨rfl, h0⟩ | ⟨g, cap, cur, rfl, hg, h1, h2, h3, h4⟩
  · exact ⟨none, 0, by rw [h0], ⟨by omega, by omega⟩, fun i hi => by omega⟩
  · have key : ∀ i (hi : i < l.length) j, j < 10 → w.cell? ⟨g, 0 + i * 10 + j, none⟩ = (ntCells l[i])[j]? := fun i hi j hj => by
      rw [cell_of hg, Nat.zero_add, ← ntFlat_get l i hi j hj, ← h4, List.getElem?_take, if_pos (by omega), Array.getElem?_toList]
    refine ⟨_, cap, rfl, ⟨h1, by omega⟩, fun i hi => ⟨g, 0, rfl, lt_of_block hg, ?_⟩⟩
    have k := key i hi
    exact ⟨k 0 (by omega), k 1 (by omega), k 2 (by omega), k 3 (by omega), k 4 (by omega), k 5 (by omega), k 6 (by omega), k 7 (by omega), k 8 (by omega), k 9 (by omega)⟩
theorem inf58 : (Tryz.prog.info? 63).map (fun i => (i.zero, i.size, i.bytes)) = some (some (.agg #[.int .i64 0, .int .i64 0, .int .i64 0, .int .i64 0, .int .i64 0, .int .i64 0, .int .i64 0, .int .i64 0, .int .i64 0, .int .i64 0]), 10, 80) := by kernel_rfl
theorem shots_cells {w : World} {p : Addr} {sc : Nat} {l : List NetD} (h : ShotsAt w (.slice (some p) l.length sc) l) (j : Nat) (u : Value) (hj : (ntFlat l)[j]? = some u) : w.cell? (p.add j) = some u := by
  obtain ⟨a, c, e, _, hc⟩ := h
  cases e
  have hj2 : j < l.length * 10 := by rw [← ntFlat_len]; exact (List.getElem?_eq_some_iff.1 hj).1
  obtain ⟨b, o, e, _, c0, c1, c2, c3, c4, c5, c6, c7, c8, c9⟩ := hc (j / 10) (by omega)
  cases e
  rw [Addr.add_mid]
  have h1 := ntFlat_get l (j / 10) (by omega) (j % 10) (by omega)
  rw [show j / 10 * 10 + j % 10 = j by omega, hj] at h1
  rw [show o + j = o + j / 10 * 10 + j % 10 by omega]
  obtain ⟨r, hr⟩ : ∃ r, r = j % 10 := ⟨_, rfl⟩
  rw [← hr] at h1 ⊢
  have hr10 : r < 10 := by omega
  rcases (by omega : r = 0 ∨ r = 1 ∨ r = 2 ∨ r = 3 ∨ r = 4 ∨ r = 5 ∨ r = 6 ∨ r = 7 ∨ r = 8 ∨ r = 9) with h | h | h | h | h | h | h | h | h | h
  all_goals
    rw [h] at h1 ⊢
    simp only [ntCells, List.getElem?_cons_succ, List.getElem?_cons_zero] at h1
    cases h1
    assumption
/-- A span's low end is stored. -/
theorem ntFlat_one (l : List NetD) : ∀ u ∈ ntFlat l, u.oneCell' = true := by
  intro u hu
  unfold ntFlat at hu
  obtain ⟨s, _, hs⟩ := List.mem_flatMap.1 hu
  simp [ntCells] at hs
  rcases hs with rfl | rfl | rfl | rfl | rfl | rfl | rfl | rfl | rfl | rfl <;> rfl
theorem ext_grown {w0 w w' : World} {ob : Option Nat} (hx : Ext w0 w) (h : w.grownBy w' ob) (hob : ∀ g, ob = some g → w0.heap.size ≤ g) : Ext w0 w' :=
  Below.trans hx ⟨h.os, h.tape, h.output, h.size, fun j hj => h.block j (by have := hx.size; omega) (fun e => by have := hob j e.symm; omega)⟩
theorem row_empty (w : World) (T : TypeId) (sz : Nat) : Row (w.alloc (.cells #[] T)) T sz (.slice (some ⟨w.heap.size, 0, none⟩) 0 0) 0 [] :=
  ⟨by simp, .inr ⟨_, 0, #[], rfl, Ext.new (Ext.refl _), by omega, by unfold maxLen; omega, by simp, by simp⟩⟩
theorem row_addr {w : World} {T : TypeId} {sz n : Nat} {v : Value} {xs : List Value} (h : Row w T sz v n xs) (hn : 0 < n) : ∃ g cap, v = .slice (some ⟨g, 0, none⟩) n cap := by
  rcases h.2 with ⟨_, h0⟩ | ⟨g, cap, cur, rfl, _⟩
  · omega
  · exact ⟨g, cap, rfl⟩
/-- Nets appended to a list of nets. -/
theorem app_shots {w : World} {v : Value} {n : Nat} {xs : List Value} (h : Row w 63 10 v n xs) (p : Addr) (c : Nat) (m : List NetD) (hn : n + m.length ≤ 1000) (hnews : ∀ j u, (ntFlat m)[j]? = some u → w.cell? (p.add j) = some u) :
    ∃ v' w', (Builtin.append_ #[23, 23] 23 #[v, .slice (some p) m.length c]).run Tryz.prog w = .ok v' w' ∧ Row w' 63 10 v' (n + m.length) (xs ++ ntFlat m) ∧ w.grownBy w' v.ownBlock ∧ (v'.ownBlock = v.ownBlock ∨ v'.ownBlock = some w.heap.size) := by
  obtain ⟨i, hi, hz0, hz1, hz2⟩ := info_parts inf58
  rcases Nat.eq_zero_or_pos m.length with h0 | h0
  · have e := List.eq_nil_of_length_eq_zero h0
    subst e
    have hs : ∃ sa cap, v = .slice sa n cap ∧ n ≤ cap := by
      rcases h.2 with ⟨rfl, rfl⟩ | ⟨g, cap, cur, rfl, _, hc, _⟩
      · exact ⟨_, _, rfl, Nat.le_refl _⟩
      · exact ⟨_, _, rfl, hc⟩
    obtain ⟨sa, cap, rfl, hc⟩ := hs
    exact ⟨_, w, append_none Tryz.underlying23 hi hc (some p) c, by simpa [ntFlat] using h, ⟨rfl, rfl, rfl, Nat.le_refl _, fun _ _ _ => rfl⟩, .inl rfl⟩
  · exact append_rows (sz := 10) (bytes := 80) (t := 23) (ty := 23) Tryz.underlying23 hi hz0 hz1 hz2 (by simp [Value.cells]) (by omega) h0 h p c (ntFlat m) (ntFlat_len m) hnews (ntFlat_one m) (by omega) (by omega)
/-- A whole list of nets, appended to an empty one. -/
theorem whole_shots {w0 w : World} {p : Addr} {sc : Nat} {l : List NetD} (hx : Ext w0 w) (h : ShotsAt w0 (.slice (some p) l.length sc) l) (h0 : 0 < l.length ∧ l.length ≤ 1000) :
    ∃ g cap w', (Builtin.append_ #[23, 23] 23 #[.slice (some ⟨w.heap.size, 0, none⟩) 0 0, .slice (some p) l.length sc]).run Tryz.prog (w.alloc (.cells #[] 63)) = .ok (.slice (some ⟨g, 0, none⟩) l.length cap) w' ∧
      Row w' 63 10 (.slice (some ⟨g, 0, none⟩) l.length cap) l.length (ntFlat l) ∧ w.heap.size ≤ g ∧ Ext w w' := by
  obtain ⟨v, w', hrun, hrow, hgr, how⟩ := app_shots (row_empty w 63 10) p sc l (by omega) (fun j u hj => shots_cells (h.mono (hx.alloc _)) j u hj)
  rw [Nat.zero_add, List.nil_append] at hrow
  obtain ⟨g, cap, rfl⟩ := row_addr hrow h0.1
  refine ⟨g, cap, w', hrun, hrow, ?_, ext_grown ((Ext.refl w).alloc _) hgr fun g' hg' => by cases hg'; exact Nat.le_refl _⟩
  rcases how with e | e <;> cases e <;> simp
/-- What a fleet that is less comes to. -/
theorem wpIn_store_at {F : Fence} {n : Nat} {o : Oper} {a : Act} {w : World} {K : Act → World → Prop} {Q : Exit → Act → World → Prop} (ty : TypeId) (x y : Operand) (ho : o.op = .store ty x y) (hF : ∀ f, F.fn f) {g off : Nat} (hx : a.eval x = .pointer (some ⟨g, off, none⟩)) {t : TypeId} {cells cur : Array Value}
    (hy : a.eval y = .agg cells) (hg : w.heap[g]? = some (.cells cur t (0, 0))) (hi : (Tryz.prog.info? ty).map (·.size) = some cells.size) (hl : off + cells.size ≤ cur.size) (h1 : cells.all (·.oneCell') = true)
    (h : K (a.put o.dst undef) (w.setRow g (cur.toList.take off ++ cells.toList ++ cur.toList.drop (off + cells.size)).toArray)) : o.wpIn F n Tryz.prog a w K Q := by
  have hl : (storeVar ty ⟨g, off, none⟩ (.agg cells)).run Tryz.prog w = .ok () (w.setRow g (cur.toList.take off ++ cells.toList ++ cur.toList.drop (off + cells.size)).toArray) := by
    have := run_storeCells_at (P := Tryz.prog) g off t cells.toList 0 cur w hg (by simpa using hl) (fun v hv => (Array.all_eq_true_iff_forall_mem.1 h1) v (by simpa using hv))
    cases hq : Tryz.prog.info? ty with
    | none => simp [hq] at hi
    | some i =>
      have hs : cells.size = i.size := by simp [hq] at hi; omega
      simp only [Nat.add_zero, Array.length_toList] at this
      simp [storeVar, sizeOf, typeInfo, hq, Value.cells, hs, this]
  refine ⟨fun f _ => hF f, ?_⟩
  rw [Oper.semAt_eq _ _ _ (by rw [ho]; intro c h; cases h)]
  unfold execOp
  simp only [ho, hx, hy, Instr.storeAt, Instr.sureAddr, Sem.run_bind, Sem.run_pure, Result.andThen_ok, hl]
  exact h
theorem ext_setRow {w0 w : World} {g : Nat} (hx : Ext w0 w) (hg : w0.heap.size ≤ g) (c : Array Value) : Ext w0 (w.setRow g c) :=
  Below.trans hx ⟨rfl, rfl, rfl, by simp, fun j hj => setRow_other w g j c (by have := hx.size; omega)⟩
theorem ntFlat_set (x : NetD) : ∀ (l : List NetD) (i : Nat), i < l.length → ntFlat (l.set i x) = (ntFlat l).take (i * 10) ++ ntCells x ++ (ntFlat l).drop (i * 10 + 10)
  | a :: l, 0, _ => by
    unfold ntFlat
    simp [ntCells]
  | a :: l, i + 1, h => by
    have ih := ntFlat_set x l i (by simpa using h)
    unfold ntFlat at ih ⊢
    rw [List.set_cons_succ, List.flatMap_cons, List.flatMap_cons, ih]
    rw [show (i + 1) * 10 = i * 10 + 1 + 1 + 1 + 1 + 1 + 1 + 1 + 1 + 1 + 1 by omega]
    simp [ntCells]
/-- A net is stored among nets. -/
theorem nets_set {w : World} {g cap n : Nat} {l : List NetD} (h : Row w 63 10 (.slice (some ⟨g, 0, none⟩) n cap) l.length (ntFlat l)) {i : Nat} (hi : i < l.length) :
    ∃ cur : Array Value, w.heap[g]? = some (.cells cur 63 (0, 0)) ∧ i * 10 + 10 ≤ cur.size ∧ ∀ x : NetD, Row (w.setRow g (cur.toList.take (i * 10) ++ ntCells x ++ cur.toList.drop (i * 10 + 10)).toArray) 63 10 (.slice (some ⟨g, 0, none⟩) n cap) (l.set i x).length (ntFlat (l.set i x)) := by
  obtain ⟨h1, h2⟩ := h
  rcases h2 with ⟨e, _⟩ | ⟨g', cap', cur, e, hg, h3, h4, h5, h6⟩
  · cases e
  · cases e
    have hn : i * 10 + 10 ≤ l.length * 10 := by omega
    have hsz : l.length * 10 ≤ cur.size := by rw [h5]; exact Nat.mul_le_mul_right _ h3
    refine ⟨cur, hg, by omega, fun x => ⟨by rw [ntFlat_len], .inr ⟨g, cap, _, by rw [List.length_set], setRow_heap w g cur _ 63 _ hg, by rw [List.length_set]; exact h3, h4, ?_, ?_⟩⟩⟩
    · simp only [List.size_toArray, List.length_append, List.length_take, List.length_drop, Array.length_toList, ntCells, List.length_cons, List.length_nil]
      omega
    · obtain ⟨rest, hr⟩ : ∃ rest, cur.toList = ntFlat l ++ rest := ⟨cur.toList.drop (l.length * 10), by rw [← h6, List.take_append_drop]⟩
      have hfl := ntFlat_len l
      have e1 : (ntFlat l ++ rest).take (i * 10) = (ntFlat l).take (i * 10) := List.take_append_of_le_length (by omega)
      have e2 : (ntFlat l ++ rest).drop (i * 10 + 10) = (ntFlat l).drop (i * 10 + 10) ++ rest := List.drop_append_of_le_length (by omega)
      rw [hr, e1, e2, List.length_set, ← List.append_assoc, ← ntFlat_set x l i hi]
      exact List.take_left' (by rw [ntFlat_len, List.length_set])
theorem siz58 : (Tryz.prog.info? 63).map (·.size) = some 10 := by kernel_rfl
end Go.Proofs.YtmjelgonhpgmbaaGreat
