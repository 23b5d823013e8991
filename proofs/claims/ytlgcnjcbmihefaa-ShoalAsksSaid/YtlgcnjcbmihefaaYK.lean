/- More arguments, opened: three numbers, one number, a report. -/
import Derived.Test.YtlgcnjcbmihefaaXK
set_option linter.unusedSimpArgs false
set_option linter.unusedVariables false
namespace Go.Proofs.Ytlgcnjcbmihefaa
open Go Go.RowKit Go.Shelf
open Go.ChangeShapes Go.WideShapes Go.ChangeAt

section
variable {H : Type} {enc : TypeId × Value → H} {W : World} {base fuel : Nat} {spare : Nat → Bool} {held : Bool} {x : DataW H × List MemPlace} {cs : List Value}
theorem threeOf {l : List Value} (h : l.length = 3) : ∃ a b c, l = [a, b, c] := by
  match l, h with
  | [a, b, c], _ => exact ⟨a, b, c, rfl⟩
set_option maxRecDepth 100000 in
theorem nums3_arg {r : Reach} {b0 : Nat} {v : Value} {d : DataW H} {p : List MemPlace} (hv : Value.okWide Try.prog W r b0 55 v) (h : DataW.Trod enc Try.prog W base spare held 55 v d p) : ∃ a b c, v = .agg #[.int .i64 a, .int .i64 b, .int .i64 c] := by
  have hc55 : Try.prog.cellsOf 55 = 3 := by kernel_rfl
  obtain ⟨cs, rfl, hsz⟩ : ∃ cs, v = .agg cs ∧ cs.size = Try.prog.cellsOf 55 := by
    simp only [Value.okWide, Try.underlying55] at hv
    obtain ⟨cs, h1, h2, _⟩ := hv
    exact ⟨cs, h1, h2⟩
  obtain ⟨fuel, hf⟩ := h
  obtain ⟨xs, m, _, _, hlen, hxl, hx⟩ := DataW.trod_array Try.underlying55 hf
  obtain ⟨l, rfl⟩ : ∃ l : List Value, cs = l.toArray := ⟨cs.toList, by simp⟩
  rw [hc55] at hsz
  obtain ⟨c0, c1, c2, rfl⟩ := threeOf (by simpa using hsz)
  have h0 := hx 0 (by omega)
  have h1 := hx 1 (by omega)
  have h2 := hx 2 (by omega)
  rw [cells3] at h0 h1 h2
  obtain ⟨z0, e0, w0⟩ := trod_int3 (x := xs[0]'(by omega)) (h0.trans (by simp [hxl]))
  obtain ⟨z1, e1, w1⟩ := trod_int3 (x := xs[1]'(by omega)) (h1.trans (by simp [hxl]))
  obtain ⟨z2, e2, w2⟩ := trod_int3 (x := xs[2]'(by omega)) (h2.trans (by simp [hxl]))
  simp [Value.cells] at e0 e1 e2
  subst e0; subst e1; subst e2
  exact ⟨z0, z1, z2, rfl⟩
set_option maxRecDepth 100000 in
theorem rep_arg {r : Reach} {b0 : Nat} {v : Value} {d : DataW H} {p : List MemPlace} (hv : Value.okWide Try.prog W r b0 52 v) (h : DataW.Trod enc Try.prog W base spare held 52 v d p) : ∃ q : Rep, v = .agg #[.int .i64 q.hour, .int .i64 q.cell, .int .i64 q.far, .bool q.there] ∧ (Lit.int .i64 q.hour).wf = true ∧ (Lit.int .i64 q.cell).wf = true ∧ (Lit.int .i64 q.far).wf = true := by
  obtain ⟨fs, hfs0⟩ : ∃ fs, Try.prog.underlying 52 = some (.struct fs) := ⟨_, Try.underlying52⟩
  obtain ⟨cs, rfl, hsz⟩ := okWide_struct hfs0 hv
  obtain ⟨fuel, hf⟩ := h
  obtain ⟨m, hlen, hfs⟩ := trod_fields fields52 (by simp) hf
  obtain ⟨y0, h0, gh0⟩ := hfs (3, 0) (by simp)
  obtain ⟨y1, h1, gh1⟩ := hfs (3, 1) (by simp)
  obtain ⟨y2, h2, gh2⟩ := hfs (3, 2) (by simp)
  obtain ⟨y3, h3, gh3⟩ := hfs (4, 3) (by simp)
  obtain ⟨l, rfl⟩ : ∃ l : List Value, cs = l.toArray := ⟨cs.toList, by simp⟩
  rw [cells52] at hsz
  obtain ⟨c0, c1, c2, c3, rfl⟩ := list4 (by simpa using hsz)
  first
  | skip
    rw [cells3] at h0 h1 h2
    rw [cells4] at h3
    obtain ⟨z0, e0, w0⟩ := trod_int3 h0
    obtain ⟨z1, e1, w1⟩ := trod_int3 h1
    obtain ⟨z2, e2, w2⟩ := trod_int3 h2
    obtain ⟨z3, e3⟩ := trod_bool4 h3
    simp [Value.cells] at e0 e1 e2 e3
    subst e0; subst e1; subst e2; subst e3
    exact ⟨⟨z0, z1, z2, z3⟩, rfl, w0, w1, w2⟩
set_option maxRecDepth 100000 in
theorem int_arg {r : Reach} {b0 : Nat} {v : Value} {d : DataW H} {p : List MemPlace} (hv : Value.okWide Try.prog W r b0 3 v) (h : DataW.Trod enc Try.prog W base spare held 3 v d p) : ∃ n, v = .int .i64 n ∧ (Lit.int .i64 n).wf = true := by
  obtain ⟨n, rfl⟩ : ∃ n, v = .int .i64 n := by
    simp only [Value.okWide, Try.underlying3] at hv
    cases v with
    | int k n => exact ⟨n, by rw [hv.1]⟩
    | _ => cases hv
  obtain ⟨fuel, hf⟩ := h
  obtain ⟨z, e, w⟩ := trod_int3 hf
  simp [Value.cells] at e
  subst e
  exact ⟨_, rfl, w⟩
end
end Go.Proofs.Ytlgcnjcbmihefaa
