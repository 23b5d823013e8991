/- A list of reports, copied whole, whatever it holds. -/
import Derived.Test.YtlgcnjcbmihefaaYG
set_option linter.unusedSimpArgs false
set_option linter.unusedVariables false
namespace Go.Proofs.Ytlgcnjcbmihefaa
open Go Go.RowKit Go.Shelf

theorem copy_none {w : World} {rv : Value} {ty : TypeId} (h : RepsAt w rv []) (b : Nat) : (Builtin.append_ #[26, 26] ty #[.slice (some ⟨b, 0, none⟩) 0 0, rv]).run Try.prog w = .ok (.slice (some ⟨b, 0, none⟩) 0 0) w := by
  obtain ⟨a, cap, rfl, _, _⟩ := h
  obtain ⟨i0, hi, hz0, hz1, hz2⟩ := info_parts info52
  cases a with
  | none => simp [Builtin.append_, run_underlying Try.underlying26, sizeOf, typeInfo, hi, Builtin.lenOf, Builtin.firstCells, storeCells]
  | some a =>
    have hfc := run_firstCells_some (P := Try.prog) w i0.size 0 a 0 cap [] (by simp) (fun j u hj => by simp at hj)
    simp [Builtin.append_, run_underlying Try.underlying26, sizeOf, typeInfo, hi, Builtin.lenOf, hfc, storeCells]
theorem copy_any {w : World} {rv : Value} {rs : List Rep} {ty : TypeId} (h : RepsAt w rv rs) (b : Nat) (hb : w.heap[b]? = some (.cells #[] 52 (0, 0))) (hl : rs.length ≤ 1000) :
    ∃ v' w', (Builtin.append_ #[26, 26] ty #[.slice (some ⟨b, 0, none⟩) 0 0, rv]).run Try.prog w = .ok v' w' ∧ Row w' 52 4 v' rs.length (flatR rs) ∧ w.grownBy w' none ∧ (∀ g, v'.ownBlock = some g → g = b ∨ w.heap.size ≤ g) ∧ (rs.length = 0 → v' = .slice (some ⟨b, 0, none⟩) 0 0) := by
  by_cases h0 : 0 < rs.length
  · obtain ⟨v', w', h1, h2, h3, h4⟩ := copy_reps (ty := ty) h ⟨b, 0, none⟩ h0 hl
    exact ⟨v', w', h1, h2, h3, fun g hg => .inr (h4 g hg), fun e => by omega⟩
  · obtain rfl : rs = [] := List.eq_nil_of_length_eq_zero (by omega)
    refine ⟨_, _, copy_none h b, ⟨by simp [flatR], .inr ⟨b, 0, #[], rfl, hb, Nat.le_refl _, by decide, by simp, by simp [flatR]⟩⟩, ⟨rfl, rfl, rfl, Nat.le_refl _, fun k hk _ => rfl⟩, fun g hg => .inl ?_, fun _ => rfl⟩
    simp [Value.ownBlock] at hg
    exact hg.symm
theorem wpIn_copy {F : Fence} {n0 : Nat} (hF : ∀ f, F.fn f) (hn : F.depth = none) {o : Oper} {act : Act} {w : World} {K : Act → World → Prop} {Q : Exit → Act → World → Prop} (s x : Operand)
    (ho : o.op = .call { callee := .builtin .append, args := #[s, x], argTypes := #[26, 26] }) {b : Nat} {rv : Value} {rs : List Rep} (hs : act.eval s = .slice (some ⟨b, 0, none⟩) 0 0) (hx : act.eval x = rv)
    (h : RepsAt w rv rs) (hb : w.heap[b]? = some (.cells #[] 52 (0, 0))) (hl : rs.length ≤ 1000)
    (hK : ∀ v' w', Row w' 52 4 v' rs.length (flatR rs) → w.grownBy w' none → (∀ g, v'.ownBlock = some g → g = b ∨ w.heap.size ≤ g) → K (act.put o.dst v') w') : o.wpIn F n0 Try.prog act w K Q := by
  obtain ⟨v', w', hrun, hrow, hgr, how, _⟩ := copy_any (ty := o.type) h b hb hl
  exact wpIn_of_gives (R := fun u u' => u = w → u' = w') (V := fun u u' => u = v' ∧ u' = w') hF hn (gives_append s x 26 ho hs hx hrun ⟨⟨rfl, rfl⟩, fun _ => rfl⟩) fun u u' hu _ => by
    rw [hu.1, hu.2]; exact hK v' w' hrow hgr how
theorem grown_none {w w' : World} (h : w.grownBy w' none) : Ext w w' := ⟨h.os, h.tape, h.output, h.size, fun j hj => h.block j hj (by simp)⟩
theorem flatR_one (r : Rep) : flatR [r] = [.int .i64 r.hour, .int .i64 r.cell, .int .i64 r.far, .bool r.there] := rfl
end Go.Proofs.Ytlgcnjcbmihefaa
