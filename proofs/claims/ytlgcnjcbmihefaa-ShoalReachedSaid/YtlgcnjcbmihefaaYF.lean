/- A list of reports as a slice of its own; how it is copied. -/
import Derived.Test.YtlgcnjcbmihefaaYE
import Derived.ArgAppend
set_option linter.unusedSimpArgs false
set_option linter.unusedVariables false
namespace Go.Proofs.Ytlgcnjcbmihefaa
open Go Go.RowKit Go.Shelf

def flatR (rs : List Rep) : List Value := rs.flatMap fun r => [.int .i64 r.hour, .int .i64 r.cell, .int .i64 r.far, .bool r.there]
theorem flatR_len (rs : List Rep) : (flatR rs).length = rs.length * 4 := by
  unfold flatR
  induction rs with
  | nil => rfl
  | cons r rs ih => rw [List.flatMap_cons, List.length_append, ih]; simp; omega
theorem flatR_app (rs ss : List Rep) : flatR (rs ++ ss) = flatR rs ++ flatR ss := by unfold flatR; rw [List.flatMap_append]
theorem flatR_at : ∀ (rs : List Rep) (i : Nat) (h : i < rs.length), (flatR rs)[i * 4]? = some (.int .i64 rs[i].hour) ∧ (flatR rs)[i * 4 + 1]? = some (.int .i64 rs[i].cell) ∧ (flatR rs)[i * 4 + 2]? = some (.int .i64 rs[i].far) ∧ (flatR rs)[i * 4 + 3]? = some (.bool rs[i].there)
  | [], i, h => absurd h (by simp)
  | r :: rs, 0, _ => ⟨rfl, rfl, rfl, rfl⟩
  | r :: rs, i + 1, h => by
    have ih := flatR_at rs i (by simpa using h)
    have e : flatR (r :: rs) = .int .i64 r.hour :: .int .i64 r.cell :: .int .i64 r.far :: .bool r.there :: flatR rs := rfl
    rw [e, show (i + 1) * 4 = i * 4 + 1 + 1 + 1 + 1 by omega]
    exact ih
theorem ownsRow_row {w : World} {base sz n : Nat} {T : TypeId} {v : Value} {xs : List Value} (h : w.ownsRow base T sz v n xs) : Row w T sz v n xs := by
  obtain ⟨hl, h⟩ := h
  rcases h with h | ⟨g, cap, cur, rfl, _, h2⟩
  · exact ⟨hl, .inl h⟩
  · exact ⟨hl, .inr ⟨g, cap, cur, rfl, h2⟩⟩
theorem Row.reps {w : World} {v : Value} {rs : List Rep} (h : Row w 52 4 v rs.length (flatR rs)) (hl : rs.length ≤ 1000000) : RepsAt w v rs := by
  obtain ⟨a, cap, rfl, hc⟩ := h.at (by decide)
  refine ⟨a, cap, rfl, by omega, fun i hi => ?_⟩
  obtain ⟨g, e, hg, hcell⟩ := hc i hi
  have hf := flatR_at rs i hi
  refine ⟨g, 0, e, hg, ?_, ?_, ?_, ?_⟩
  · rw [Nat.zero_add]; have := hcell 0 (by omega); rw [Nat.add_zero, hf.1] at this; exact this
  · rw [Nat.zero_add]; have := hcell 1 (by omega); rw [hf.2.1] at this; exact this
  · rw [Nat.zero_add]; have := hcell 2 (by omega); rw [hf.2.2.1] at this; exact this
  · rw [Nat.zero_add]; have := hcell 3 (by omega); rw [hf.2.2.2] at this; exact this
end Go.Proofs.Ytlgcnjcbmihefaa
