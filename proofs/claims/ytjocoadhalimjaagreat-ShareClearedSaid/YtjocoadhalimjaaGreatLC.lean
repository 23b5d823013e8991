/- What a statement's arguments are. -/
import Derived.Test.YtjocoadhalimjaaGreatMBF
import Derived.Test.YtjocoadhalimjaaGreatRows
import Derived.ProofKit
import Derived.OpenShut
import Derived.ChangeOld
import Derived.Below
import Derived.Deep.Slices
import Derived.SizedLaws
set_option linter.unusedSimpArgs false
set_option linter.unusedVariables false
namespace Go.Proofs.YtjocoadhalimjaaGreat
open Go Go.RowKit Go.Shelf
open Go.ChangeShapes Go.WideShapes Go.ChangeAt

theorem own : ownKnob Tryz.prog.godebug = none := by kernel_rfl
theorem laidOut : laidOutB Tryz.prog = true := by kernel_rfl
theorem reach_eq : reachBytes = 140737488351232 := by kernel_rfl
theorem bytes3 : Tryz.prog.bytesOf 3 = 8 := by kernel_rfl
section
variable {H : Type} {enc : TypeId × Value → H} {W : World} {base fuel : Nat} {spare : Nat → Bool} {held : Bool} {x : DataW H × List MemPlace} {cs : List Value}
theorem trod_int3 (h : DataW.trod enc Tryz.prog W base spare held fuel 3 cs = some x) : ∃ n, cs = [.int .i64 n] ∧ (Lit.int .i64 n).wf = true := by
  obtain ⟨n, h1, _, h3⟩ := DataW.trod_int Tryz.underlying3 h
  exact ⟨n, h1, h3⟩
theorem trod_slice_at {t e : TypeId} {sz : Nat} (ht : Tryz.prog.underlying t = some (.slice e)) (hc : Tryz.prog.cellsOf e = sz) (hsz : 0 < sz) (h : DataW.trod enc Tryz.prog W base spare held fuel t cs = some x) (hw : ∀ m ∈ x.1.weights Tryz.prog t, m ≤ reachBytes) (hby : 1 ≤ Tryz.prog.bytesOf e) :
    ∃ (a : Option Addr) (len cap : Nat), cs = [.slice a len cap] ∧ (len ≤ cap ∧ len ≤ 1000000000000000) ∧ ∀ i, i < len → ∃ b off n cs' y, a = some ⟨b, off, none⟩ ∧ b < W.heap.size ∧ cs'.length = sz ∧ (∀ j, j < sz → W.cell? ⟨b, off + i * sz + j, none⟩ = cs'[j]?) ∧ DataW.trod enc Tryz.prog W base spare held n e cs' = some y := by
  rcases Go.Deep.open_slice ht h with ⟨rfl, _⟩ | ⟨a, len, cap, m, n, D, Pl, rfl, _, hl, hm, hmm, hxe, hx⟩
  · exact ⟨none, 0, 0, rfl, ⟨by omega, by omega⟩, fun i hi => by omega⟩
  · have hlen : len ≤ 140737488351232 := by
      have h1 := hw ((((List.range len).map D).length + ((List.range (m - len)).map fun j => D (len + j)).length) * Tryz.prog.bytesOf e) (by
        simp only [hxe, DataW.weights, ht]
        exact List.mem_cons_self)
      have h2 : len * 1 ≤ (((List.range len).map D).length + ((List.range (m - len)).map fun j => D (len + j)).length) * Tryz.prog.bytesOf e := Nat.mul_le_mul (by simp) hby
      have h3 := reach_eq
      omega
    refine ⟨some a, len, cap, rfl, ⟨hl, by omega⟩, fun i hi => ?_⟩
    have hlm : len ≤ m := by rw [hmm]; split <;> omega
    rw [hc] at hx
    obtain ⟨cs0, h0, _⟩ := hx 0 (by omega)
    obtain ⟨_, hl0, hc0⟩ := World.cells?_some h0
    obtain ⟨v0, hv0⟩ : ∃ v, cs0[0]? = some v := ⟨cs0[0]'(by omega), by simp [hl0, hsz]⟩
    have hcell0 := (hc0 0 hsz).trans hv0
    have hsp : a.spot = none := by simpa [Addr.add] using World.cell?_spot hcell0
    have hbl : a.block < W.heap.size := by have := World.block_lt_of_cell? W _ hcell0; simpa [Addr.add] using this
    obtain ⟨b, off, spot⟩ := a
    simp only at hsp hbl
    subst hsp
    obtain ⟨cs', h1, h2⟩ := hx i (by omega)
    obtain ⟨_, hl1, hc1⟩ := World.cells?_some h1
    refine ⟨b, off, n, cs', _, rfl, hbl, hl1, fun j hj => ?_, h2⟩
    rw [← hc1 j hj, Go.Deep.add_add, Addr.add_mid, Nat.add_assoc]
theorem choose_list {α : Type} [Inhabited α] {n : Nat} {p : Nat → α → Prop} (h : ∀ i, i < n → ∃ x, p i x) : ∃ l : List α, l.length = n ∧ ∀ i (hi : i < l.length), p i l[i] := by
  obtain ⟨f, hf⟩ := Go.Deep.choose_lt h
  refine ⟨(List.range n).map f, by simp, fun i hi => ?_⟩
  have hi' : i < n := by simpa using hi
  simpa using hf i hi'
theorem ints_open (h : DataW.trod enc Tryz.prog W base spare held fuel 23 cs = some x) (hw : ∀ m ∈ x.1.weights Tryz.prog 23, m ≤ reachBytes) : ∃ v xs, cs = [v] ∧ IntsAt W v xs := by
  obtain ⟨a, len, cap, rfl, hl, hx⟩ := trod_slice_at Tryz.underlying23 cells3 (by omega) h hw (by rw [bytes3]; omega)
  obtain ⟨xs, hxl, hxs⟩ := choose_list (α := Int) (n := len) (p := fun i z => ∃ b off, a = some ⟨b, off, none⟩ ∧ b < W.heap.size ∧ W.cell? ⟨b, off + i, none⟩ = some (.int .i64 z)) fun i hi => by
    obtain ⟨b, off, n, cs', y, ha, hb, hc, hcell, hy⟩ := hx i hi
    obtain ⟨z, rfl, _⟩ := trod_int3 hy
    exact ⟨z, b, off, ha, hb, by have := hcell 0 (by omega); first | exact this | simpa using this⟩
  exact ⟨_, xs, rfl, a, cap, by rw [hxl], by omega, hxs⟩
set_option maxRecDepth 100000 in
theorem ints_arg {r : Reach} {b0 : Nat} {v : Value} {d : DataW H} {p : List MemPlace} (hv : Value.okWide Tryz.prog W r b0 23 v) (h : DataW.Trod enc Tryz.prog W base spare held 23 v d p) (hw : ∀ m ∈ d.weights Tryz.prog 23, m ≤ reachBytes) : ∃ xs, IntsAt W v xs := by
  obtain ⟨a, len, cap, rfl⟩ := okWide_slice Tryz.underlying23 hv
  obtain ⟨fuel, hf⟩ := h
  obtain ⟨v', xs, e, hc⟩ := ints_open hf hw
  simp [Value.cells] at e
  subst e
  exact ⟨xs, hc⟩
set_option maxRecDepth 100000 in
theorem int_arg {r : Reach} {b0 : Nat} {v : Value} {d : DataW H} {p : List MemPlace} (hv : Value.okWide Tryz.prog W r b0 3 v) (h : DataW.Trod enc Tryz.prog W base spare held 3 v d p) : ∃ n, v = .int .i64 n ∧ (Lit.int .i64 n).wf = true := by
  obtain ⟨n, rfl⟩ : ∃ n, v = .int .i64 n := by
    simp only [Value.okWide, Tryz.underlying3] at hv
    cases v with
    | int k n => exact ⟨n, by rw [hv.1]⟩
    | _ => cases hv
  obtain ⟨fuel, hf⟩ := h
  obtain ⟨z, e, w⟩ := trod_int3 hf
  simp [Value.cells] at e
  subst e
  exact ⟨_, rfl, w⟩
theorem weights_of {ts : List TypeId} {ds : List (DataW H)} (hsz : (DataW.weightsEach Tryz.prog ts ds).all (· ≤ reachBytes) = true) (j : Nat) {t : TypeId} {d : DataW H} (ht : ts[j]? = some t) (hd : ds[j]? = some d) : ∀ m ∈ d.weights Tryz.prog t, m ≤ reachBytes := fun m hm => by
  have := List.all_eq_true.1 hsz m (DataW.weights_mem_each ht hd m hm)
  simpa using this
end
end Go.Proofs.YtjocoadhalimjaaGreat
