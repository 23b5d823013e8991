/- A list of reports as a slice of its own; how it is copied. -/
import Derived.Test.YtlgcnjcbmihefaaYE
import Derived.ArgAppend
set_option linter.unusedSimpArgs false
set_option linter.unusedVariables false
namespace Go.Proofs.Ytlgcnjcbmihefaa
open Go Go.RowKit Go.Shelf

def flatR (rs : List Rep) : List Value := rs.flatMap fun r => [.int .i64 r.hour, .int .i64 r.cell, .int .i64 r.far, .bool r.there]
theorem flatR_len (rs : List Rep) : (flatR rs).length = rs.length * 4 := by
  unfold flatR
  induction rs with
  | nil => rfl
  | cons r rs ih => rw [List.flatMap_cons, List.length_append, ih]; simp; omega
theorem flatR_app (rs ss : List Rep) : flatR (rs ++ ss) = flatR rs ++ flatR ss := by unfold flatR; rw [List.flatMap_append]
theorem flatR_at : ∀ (rs : List Rep) (i : Nat) (h : i < rs.length), (flatR rs)[i * 4]? = some (.int .i64 rs[i].hour) ∧ (flatR rs)[i * 4 + 1]? = some (.int .i64 rs[i].cell) ∧ (flatR rs)[i * 4 + 2]? = some (.int .i64 rs[i].far) ∧ (flatR rs)[i * 4 + 3]? = some (.bool rs[i].there)
  | [], i, h => absurd h (by simp)
  | r :: rs, 0, _ => ⟨rfl, rfl, rfl, rfl⟩
  | r :: rs, i + 1, h => by
    have ih := flatR_at rs i (by simpa using h)
    have e : flatR (r :: rs) = .int .i64 r.hour :: .int .i64 r.cell :: .int .i64 r.far :: .bool r.there :: flatR rs := rfl
    rw [e, show (i + 1) * 4 = i * 4 + 1 + 1 + 1 + 1 by omega]
    exact ih
theorem ownsRow_row {w : World} {base sz n : Nat} {T : TypeId} {v : Value} {xs : List Value} (h : w.ownsRow base T sz v n xs) : Row w T sz v n xs := by
  obtain ⟨hl, h⟩ := h
  rcases h with h | ⟨g, cap, cur, rfl, _, h2⟩
  · exact ⟨hl, .inl h⟩
  · exact ⟨hl, .inr ⟨g, cap, cur, rfl, h2⟩⟩
theorem Row.reps {w : World} {v : Value} {rs : List Rep} (h : Row w 52 4 v rs.length (flatR rs)) (hl : rs.length ≤ 1000000) : RepsAt w v rs := by
  obtain ⟨a, cap, rfl, hc⟩ := h.at (by decide)
  refine ⟨a, cap, rfl, by omega, fun i hi => ?_⟩
  obtain ⟨g, e, hg, hcell⟩ := hc i hi
  have hf := flatR_at rs i hi
  refine ⟨g, 0, e, hg, ?_, ?_, ?_, ?_⟩
  · rw [Nat.zero_add]; have := hcell 0 (by omega); rw [Nat.add_zero, hf.1] at this; exact this
  · rw [Nat.zero_add]; have := hcell 1 (by omega); rw [hf.2.1] at this; exact this
  · rw [Nat.zero_add]; have := hcell 2 (by omega); rw [hf.2.2.1] at this; exact this
  · rw [Nat.zero_add]; have := hcell 3 (by omega); rw [hf.2.2.2] at this; exact this
theorem info52 : (Try.prog.info? 52).map (fun i => (i.zero, i.size, i.bytes)) = some (some (.agg #[.int .i64 0, .int .i64 0, .int .i64 0, .bool false]), 4, 32) := by kernel_rfl
theorem copy_reps {w : World} {rv : Value} {rs : List Rep} {ty : TypeId} (h : RepsAt w rv rs) (b : Addr) (h0 : 0 < rs.length) (hl : rs.length ≤ 1000) :
    ∃ v' w', (Builtin.append_ #[26, 26] ty #[.slice (some b) 0 0, rv]).run Try.prog w = .ok v' w' ∧ Row w' 52 4 v' rs.length (flatR rs) ∧ w.grownBy w' none ∧ ∀ g, v'.ownBlock = some g → w.heap.size ≤ g := by
  obtain ⟨a, cap, rfl, _, hc⟩ := h
  obtain ⟨bb, off, rfl, hbl, _⟩ := hc 0 h0
  obtain ⟨i0, hi, hz0, hz1, hz2⟩ := info_parts info52
  have hat := flatR_at rs
  have hfl := flatR_len rs
  obtain ⟨v', w', hr, hown, hgr⟩ := run_append_arg_grows (P := Try.prog) (w := w) 26 ty 52 i0 _ 4 32 Try.underlying26 hi hz0 hz1 hz2 (by simp [Value.cells]) (by omega) b 0 0 [] (by simp) (fun j u hj => by simp at hj) ⟨bb, off, none⟩ rs.length cap (flatR rs) hfl (fun j u hj => by
    have hj2 : j < rs.length * 4 := by
      rw [← hfl]
      exact (List.getElem?_eq_some_iff.mp hj).1
    obtain ⟨b2, o2, e, _, c0, c1, c2, c3⟩ := hc (j / 4) (by omega)
    cases e
    have ha := hat (j / 4) (by omega)
    rw [Addr.add_mid]
    have h4 : j % 4 = 0 ∨ j % 4 = 1 ∨ j % 4 = 2 ∨ j % 4 = 3 := by omega
    rcases h4 with h4 | h4 | h4 | h4
    · rw [show off + j = off + j / 4 * 4 by omega, c0]; rw [show j = j / 4 * 4 by omega, ha.1] at hj; exact hj
    · rw [show off + j = off + j / 4 * 4 + 1 by omega, c1]; rw [show j = j / 4 * 4 + 1 by omega, ha.2.1] at hj; exact hj
    · rw [show off + j = off + j / 4 * 4 + 2 by omega, c2]; rw [show j = j / 4 * 4 + 2 by omega, ha.2.2.1] at hj; exact hj
    · rw [show off + j = off + j / 4 * 4 + 3 by omega, c3]; rw [show j = j / 4 * 4 + 3 by omega, ha.2.2.2] at hj; exact hj) (by omega) (by unfold maxLen; omega) (by omega)
  rw [Nat.zero_add, List.nil_append] at hown
  refine ⟨v', w', hr, ownsRow_row hown, hgr, fun g hg => ?_⟩
  obtain ⟨_, hh⟩ := hown
  rcases hh with ⟨rfl, _⟩ | ⟨g', _, _, rfl, hb, _⟩
  · simp [Value.ownBlock] at hg
  · simp [Value.ownBlock] at hg; omega

theorem copy_none {w : World} {rv : Value} {ty : TypeId} (h : RepsAt w rv []) (b : Nat) : (Builtin.append_ #[26, 26] ty #[.slice (some ⟨b, 0, none⟩) 0 0, rv]).run Try.prog w = .ok (.slice (some ⟨b, 0, none⟩) 0 0) w := by
  obtain ⟨a, cap, rfl, _, _⟩ := h
  obtain ⟨i0, hi, hz0, hz1, hz2⟩ := info_parts info52
  cases a with
  | none => simp [Builtin.append_, run_underlying Try.underlying26, sizeOf, typeInfo, hi, Builtin.lenOf, Builtin.firstCells, storeCells]
  | some a =>
    have hfc := run_firstCells_some (P := Try.prog) w i0.size 0 a 0 cap [] (by simp) (fun j u hj => by simp at hj)
    simp [Builtin.append_, run_underlying Try.underlying26, sizeOf, typeInfo, hi, Builtin.lenOf, hfc, storeCells]
theorem copy_any {w : World} {rv : Value} {rs : List Rep} {ty : TypeId} (h : RepsAt w rv rs) (b : Nat) (hb : w.heap[b]? = some (.cells #[] 52 (0, 0))) (hl : rs.length ≤ 1000) :
    ∃ v' w', (Builtin.append_ #[26, 26] ty #[.slice (some ⟨b, 0, none⟩) 0 0, rv]).run Try.prog w = .ok v' w' ∧ Row w' 52 4 v' rs.length (flatR rs) ∧ w.grownBy w' none ∧ (∀ g, v'.ownBlock = some g → g = b ∨ w.heap.size ≤ g) ∧ (rs.length = 0 → v' = .slice (some ⟨b, 0, none⟩) 0 0) := by
  by_cases h0 : 0 < rs.length
  · obtain ⟨v', w', h1, h2, h3, h4⟩ := copy_reps (ty := ty) h ⟨b, 0, none⟩ h0 hl
    exact ⟨v', w', h1, h2, h3, fun g hg => .inr (h4 g hg), fun e => by omega⟩
  · obtain rfl : rs = [] := List.eq_nil_of_length_eq_zero (by omega)
    refine ⟨_, _, copy_none h b, ⟨by simp [flatR], .inr ⟨b, 0, #[], rfl, hb, Nat.le_refl _, by decide, by simp, by simp [flatR]⟩⟩, ⟨rfl, rfl, rfl, Nat.le_refl _, fun k hk _ => rfl⟩, fun g hg => .inl ?_, fun _ => rfl⟩
    simp [Value.ownBlock] at hg
    exact hg.symm
theorem wpIn_copy {F : Fence} {n0 : Nat} (hF : ∀ f, F.fn f) (hn : F.depth = none) {o : Oper} {act : Act} {w : World} {K : Act → World → Prop} {Q : Exit → Act → World → Prop} (s x : Operand)
    (ho : o.op = .call { callee := .builtin .append, args := #[s, x], argTypes := #[26, 26] }) {b : Nat} {rv : Value} {rs : List Rep} (hs : act.eval s = .slice (some ⟨b, 0, none⟩) 0 0) (hx : act.eval x = rv)
    (h : RepsAt w rv rs) (hb : w.heap[b]? = some (.cells #[] 52 (0, 0))) (hl : rs.length ≤ 1000)
    (hK : ∀ v' w', Row w' 52 4 v' rs.length (flatR rs) → w.grownBy w' none → (∀ g, v'.ownBlock = some g → g = b ∨ w.heap.size ≤ g) → K (act.put o.dst v') w') : o.wpIn F n0 Try.prog act w K Q := by
  obtain ⟨v', w', hrun, hrow, hgr, how, _⟩ := copy_any (ty := o.type) h b hb hl
  exact wpIn_of_gives (R := fun u u' => u = w → u' = w') (V := fun u u' => u = v' ∧ u' = w') hF hn (gives_append s x 26 ho hs hx hrun ⟨⟨rfl, rfl⟩, fun _ => rfl⟩) fun u u' hu _ => by
    rw [hu.1, hu.2]; exact hK v' w' hrow hgr how
theorem grown_none {w w' : World} (h : w.grownBy w' none) : Ext w w' := ⟨h.os, h.tape, h.output, h.size, fun j hj => h.block j hj (by simp)⟩
theorem flatR_one (r : Rep) : flatR [r] = [.int .i64 r.hour, .int .i64 r.cell, .int .i64 r.far, .bool r.there] := rfl
end Go.Proofs.Ytlgcnjcbmihefaa
