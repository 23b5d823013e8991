/- A list of reports, copied. -/
import Derived.Test.YtlgcnjcbmihefaaYF
set_option linter.unusedSimpArgs false
set_option linter.unusedVariables false
namespace Go.Proofs.Ytlgcnjcbmihefaa
open Go Go.RowKit Go.Shelf
theorem info52 : (Try.prog.info? 52).map (fun i => (i.zero, i.size, i.bytes)) = some (some (.agg #[.int .i64 0, .int .i64 0, .int .i64 0, .bool false]), 4, 32) := by kernel_rfl
theorem copy_reps {w : World} {rv : Value} {rs : List Rep} {ty : TypeId} (h : RepsAt w rv rs) (b : Addr) (h0 : 0 < rs.length) (hl : rs.length ≤ 1000) :
    ∃ v' w', (Builtin.append_ #[26, 26] ty #[.slice (some b) 0 0, rv]).run Try.prog w = .ok v' w' ∧ Row w' 52 4 v' rs.length (flatR rs) ∧ w.grownBy w' none ∧ ∀ g, v'.ownBlock = some g → w.heap.size ≤ g := by
  obtain ⟨a, cap, rfl, _, hc⟩ := h
  obtain ⟨bb, off, rfl, hbl, _⟩ := hc 0 h0
  obtain ⟨i0, hi, hz0, hz1, hz2⟩ := info_parts info52
  have hat := flatR_at rs
  have hfl := flatR_len rs
  obtain ⟨v', w', hr, hown, hgr⟩ := run_append_arg_grows (P := Try.prog) (w := w) 26 ty 52 i0 _ 4 32 Try.underlying26 hi hz0 hz1 hz2 (by simp [Value.cells]) (by omega) b 0 0 [] (by simp) (fun j u hj => by simp at hj) ⟨bb, off, none⟩ rs.length cap (flatR rs) hfl (fun j u hj => by
    have hj2 : j < rs.length * 4 := by
      rw [← hfl]
      exact (List.getElem?_eq_some_iff.mp hj).1
    obtain ⟨b2, o2, e, _, c0, c1, c2, c3⟩ := hc (j / 4) (by omega)
    cases e
    have ha := hat (j / 4) (by omega)
    rw [Addr.add_mid]
    have h4 : j % 4 = 0 ∨ j % 4 = 1 ∨ j % 4 = 2 ∨ j % 4 = 3 := by omega
    rcases h4 with h4 | h4 | h4 | h4
    · rw [show off + j = off + j / 4 * 4 by omega, c0]; rw [show j = j / 4 * 4 by omega, ha.1] at hj; exact hj
    · rw [show off + j = off + j / 4 * 4 + 1 by omega, c1]; rw [show j = j / 4 * 4 + 1 by omega, ha.2.1] at hj; exact hj
    · rw [show off + j = off + j / 4 * 4 + 2 by omega, c2]; rw [show j = j / 4 * 4 + 2 by omega, ha.2.2.1] at hj; exact hj
    · rw [show off + j = off + j / 4 * 4 + 3 by omega, c3]; rw [show j = j / 4 * 4 + 3 by omega, ha.2.2.2] at hj; exact hj) (by omega) (by unfold maxLen; omega) (by omega)
  rw [Nat.zero_add, List.nil_append] at hown
  refine ⟨v', w', hr, ownsRow_row hown, hgr, fun g hg => ?_⟩
  obtain ⟨_, hh⟩ := hown
  rcases hh with ⟨rfl, _⟩ | ⟨g', _, _, rfl, hb, _⟩
  · simp [Value.ownBlock] at hg
  · simp [Value.ownBlock] at hg; omega
end Go.Proofs.Ytlgcnjcbmihefaa
