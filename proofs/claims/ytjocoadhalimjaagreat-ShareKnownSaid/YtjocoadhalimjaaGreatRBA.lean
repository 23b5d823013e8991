/- What a statement's arguments are. -/
import Derived.Test.YtjocoadhalimjaaGreatRAY
import Derived.Test.YtjocoadhalimjaaGreatRows
import Derived.ProofKit
import Derived.OpenShut
import Derived.ChangeOld
import Derived.Below
import Derived.Deep.Slices
import Derived.SizedLaws
import Derived.Test.YtjocoadhalimjaaGreatRAM
set_option linter.unusedSimpArgs false
set_option linter.unusedVariables false
namespace Go.Proofs.YtjocoadhalimjaaGreat
section
open Go Go.RowKit Go.Shelf
open Go.ChangeShapes Go.WideShapes Go.ChangeAt

theorem own : ownKnob Tryz.prog.godebug = none := by kernel_rfl
theorem laidOut : laidOutB Tryz.prog = true := by kernel_rfl
theorem reach_eq : reachBytes = 140737488351232 := by kernel_rfl
theorem bytes3 : Tryz.prog.bytesOf 3 = 8 := by kernel_rfl
section
variable {H : Type} {enc : TypeId × Value → H} {W : World} {base fuel : Nat} {spare : Nat → Bool} {held : Bool} {x : DataW H × List MemPlace} {cs : List Value}
theorem trod_int3 (h : DataW.trod enc Tryz.prog W base spare held fuel 3 cs = some x) : ∃ n, cs = [.int .i64 n] ∧ (Lit.int .i64 n).wf = true := by
  obtain ⟨n, h1, _, h3⟩ := DataW.trod_int Tryz.underlying3 h
  exact ⟨n, h1, h3⟩
theorem trod_slice_at {t e : TypeId} {sz : Nat} (ht : Tryz.prog.underlying t = some (.slice e)) (hc : Tryz.prog.cellsOf e = sz) (hsz : 0 < sz) (h : DataW.trod enc Tryz.prog W base spare held fuel t cs = some x) (hw : ∀ m ∈ x.1.weights Tryz.prog t, m ≤ reachBytes) (hby : 1 ≤ Tryz.prog.bytesOf e) :
    ∃ (a : Option Addr) (len cap : Nat), cs = [.slice a len cap] ∧ (len ≤ cap ∧ len ≤ 1000000000000000) ∧ ∀ i, i < len → ∃ b off n cs' y, a = some ⟨b, off, none⟩ ∧ b < W.heap.size ∧ cs'.length = sz ∧ (∀ j, j < sz → W.cell? ⟨b, off + i * sz + j, none⟩ = cs'[j]?) ∧ DataW.trod enc Tryz.prog W base spare held n e cs' = some y := by
  rcases Go.Deep.open_slice ht h with ⟨rfl, _⟩ | ⟨a, len, cap, m, n, D, Pl, rfl, _, hl, hm, hmm, hxe, hx⟩
  · exact ⟨none, 0, 0, rfl, ⟨by omega, by omega⟩, fun i hi => by omega⟩
  · have hlen : len ≤ 140737488351232 := by
      have h1 := hw ((((List.range len).map D).length + ((List.range (m - len)).map fun j => D (len + j)).length) * Tryz.prog.bytesOf e) (by
        simp only [hxe, DataW.weights, ht]
        exact List.mem_cons_self)
      have h2 : len * 1 ≤ (((List.range len).map D).length + ((List.range (m - len)).map fun j => D (len + j)).length) * Tryz.prog.bytesOf e := Nat.mul_le_mul (by simp) hby
      have h3 := reach_eq
      omega
    refine ⟨some a, len, cap, rfl, ⟨hl, by omega⟩, fun i hi => ?_⟩
    have hlm : len ≤ m := by rw [hmm]; split <;> omega
    rw [hc] at hx
    obtain ⟨cs0, h0, _⟩ := hx 0 (by omega)
    obtain ⟨_, hl0, hc0⟩ := World.cells?_some h0
    obtain ⟨v0, hv0⟩ : ∃ v, cs0[0]? = some v := ⟨cs0[0]'(by omega), by simp [hl0, hsz]⟩
    have hcell0 := (hc0 0 hsz).trans hv0
    have hsp : a.spot = none := by simpa [Addr.add] using World.cell?_spot hcell0
    have hbl : a.block < W.heap.size := by have := World.block_lt_of_cell? W _ hcell0; simpa [Addr.add] using this
    obtain ⟨b, off, spot⟩ := a
    simp only at hsp hbl
    subst hsp
    obtain ⟨cs', h1, h2⟩ := hx i (by omega)
    obtain ⟨_, hl1, hc1⟩ := World.cells?_some h1
    refine ⟨b, off, n, cs', _, rfl, hbl, hl1, fun j hj => ?_, h2⟩
    rw [← hc1 j hj, Go.Deep.add_add, Addr.add_mid, Nat.add_assoc]
theorem choose_list {α : Type} [Inhabited α] {n : Nat} {p : Nat → α → Prop} (h : ∀ i, i < n → ∃ x, p i x) : ∃ l : List α, l.length = n ∧ ∀ i (hi : i < l.length), p i l[i] := by
  obtain ⟨f, hf⟩ := Go.Deep.choose_lt h
  refine ⟨(List.range n).map f, by simp, fun i hi => ?_⟩
  have hi' : i < n := by simpa using hi
  simpa using hf i hi'
theorem ints_open (h : DataW.trod enc Tryz.prog W base spare held fuel 23 cs = some x) (hw : ∀ m ∈ x.1.weights Tryz.prog 23, m ≤ reachBytes) : ∃ v xs, cs = [v] ∧ IntsAt W v xs := by
  obtain ⟨a, len, cap, rfl, hl, hx⟩ := trod_slice_at Tryz.underlying23 cells3 (by omega) h hw (by rw [bytes3]; omega)
  obtain ⟨xs, hxl, hxs⟩ := choose_list (α := Int) (n := len) (p := fun i z => ∃ b off, a = some ⟨b, off, none⟩ ∧ b < W.heap.size ∧ W.cell? ⟨b, off + i, none⟩ = some (.int .i64 z)) fun i hi => by
    obtain ⟨b, off, n, cs', y, ha, hb, hc, hcell, hy⟩ := hx i hi
    obtain ⟨z, rfl, _⟩ := trod_int3 hy
    exact ⟨z, b, off, ha, hb, by have := hcell 0 (by omega); first | exact this | simpa using this⟩
  exact ⟨_, xs, rfl, a, cap, by rw [hxl], by omega, hxs⟩
set_option maxRecDepth 100000 in
theorem ints_arg {r : Reach} {b0 : Nat} {v : Value} {d : DataW H} {p : List MemPlace} (hv : Value.okWide Tryz.prog W r b0 23 v) (h : DataW.Trod enc Tryz.prog W base spare held 23 v d p) (hw : ∀ m ∈ d.weights Tryz.prog 23, m ≤ reachBytes) : ∃ xs, IntsAt W v xs := by
  obtain ⟨a, len, cap, rfl⟩ := okWide_slice Tryz.underlying23 hv
  obtain ⟨fuel, hf⟩ := h
  obtain ⟨v', xs, e, hc⟩ := ints_open hf hw
  simp [Value.cells] at e
  subst e
  exact ⟨xs, hc⟩
set_option maxRecDepth 100000 in
theorem int_arg {r : Reach} {b0 : Nat} {v : Value} {d : DataW H} {p : List MemPlace} (hv : Value.okWide Tryz.prog W r b0 3 v) (h : DataW.Trod enc Tryz.prog W base spare held 3 v d p) : ∃ n, v = .int .i64 n ∧ (Lit.int .i64 n).wf = true := by
  obtain ⟨n, rfl⟩ : ∃ n, v = .int .i64 n := by
    simp only [Value.okWide, Tryz.underlying3] at hv
    cases v with
    | int k n => exact ⟨n, by rw [hv.1]⟩
    | _ => cases hv
  obtain ⟨fuel, hf⟩ := h
  obtain ⟨z, e, w⟩ := trod_int3 hf
  simp [Value.cells] at e
  subst e
  exact ⟨_, rfl, w⟩
theorem weights_of {ts : List TypeId} {ds : List (DataW H)} (hsz : (DataW.weightsEach Tryz.prog ts ds).all (· ≤ reachBytes) = true) (j : Nat) {t : TypeId} {d : DataW H} (ht : ts[j]? = some t) (hd : ds[j]? = some d) : ∀ m ∈ d.weights Tryz.prog t, m ≤ reachBytes := fun m hm => by
  have := List.all_eq_true.1 hsz m (DataW.weights_mem_each ht hd m hm)
  simpa using this
end
end
section
open Go Go.RowKit Go.Shelf
open Go.ChangeShapes Go.WideShapes Go.ChangeAt

theorem fields49 : (Tryz.prog.underlying 49).map (fun d => match d with | .struct fs => fs.toList.map (fun f => (f.type, f.offset)) | _ => []) = some [(9, 0), (3, 1)] := by kernel_rfl
theorem fields58 : (Tryz.prog.underlying 58).map (fun d => match d with | .struct fs => fs.toList.map (fun f => (f.type, f.offset)) | _ => []) = some [(9, 0), (9, 1), (3, 2), (3, 3)] := by kernel_rfl
theorem fields59 : (Tryz.prog.underlying 59).map (fun d => match d with | .struct fs => fs.toList.map (fun f => (f.type, f.offset)) | _ => []) = some [(9, 0), (9, 1), (3, 2), (3, 3)] := by kernel_rfl
theorem fields32 : (Tryz.prog.underlying 32).map (fun d => match d with | .struct fs => fs.toList.map (fun f => (f.type, f.offset)) | _ => []) = some [(3, 0), (23, 1), (3, 2), (3, 3), (3, 4), (22, 5), (22, 6), (22, 7), (30, 8)] := by kernel_rfl
theorem cells49 : Tryz.prog.cellsOf 49 = 2 := by kernel_rfl
theorem cells59 : Tryz.prog.cellsOf 59 = 4 := by kernel_rfl
theorem cells9 : Tryz.prog.cellsOf 9 = 1 := by kernel_rfl
theorem cells22 : Tryz.prog.cellsOf 22 = 1 := by kernel_rfl
theorem cells23 : Tryz.prog.cellsOf 23 = 1 := by kernel_rfl
theorem cells30 : Tryz.prog.cellsOf 30 = 1 := by kernel_rfl
theorem cells32 : Tryz.prog.cellsOf 32 = 9 := by kernel_rfl
theorem bytes49 : Tryz.prog.bytesOf 49 = 24 := by kernel_rfl
theorem bytes59 : Tryz.prog.bytesOf 59 = 48 := by kernel_rfl
theorem lst2 {l : List Value} (h : l.length = 2) : ∃ c0 c1, l = [c0, c1] := by
  match l, h with
  | [a, b], _ => exact ⟨a, b, rfl⟩
theorem lst4 {l : List Value} (h : l.length = 4) : ∃ c0 c1 c2 c3, l = [c0, c1, c2, c3] := by
  match l, h with
  | [a, b, c, d], _ => exact ⟨a, b, c, d, rfl⟩
theorem lst9 {l : List Value} (h : l.length = 9) : ∃ c0 c1 c2 c3 c4 c5 c6 c7 c8, l = [c0, c1, c2, c3, c4, c5, c6, c7, c8] := by
  match l, h with
  | [a, b, c, d, e, f, g, i, j], _ => exact ⟨a, b, c, d, e, f, g, i, j, rfl⟩
section
variable {H : Type} {enc : TypeId × Value → H} {W : World} {base fuel : Nat} {spare : Nat → Bool} {held : Bool} {x : DataW H × List MemPlace} {cs : List Value}
theorem trod_fields {t : TypeId} {l : List (TypeId × Nat)} (hf : (Tryz.prog.underlying t).map (fun d => match d with | .struct fs => fs.toList.map (fun f => (f.type, f.offset)) | _ => []) = some l) (hl : l ≠ []) (h : DataW.trod enc Tryz.prog W base spare held fuel t cs = some x) :
    ∃ n, cs.length = Tryz.prog.cellsOf t ∧ ∀ p ∈ l, ∃ y, DataW.trod enc Tryz.prog W base spare held n p.1 ((cs.drop p.2).take (Tryz.prog.cellsOf p.1)) = some y ∧ ∀ m ∈ y.1.weights Tryz.prog p.1, m ∈ x.1.weights Tryz.prog t := by
  cases hu : Tryz.prog.underlying t with
  | none => rw [hu] at hf; cases hf
  | some d =>
    rw [hu] at hf
    cases d with
    | struct fs =>
      simp only [Option.map_some, Option.some.injEq] at hf
      obtain ⟨xs, n, _, hxe, hlen, hxl, hx⟩ := DataW.trod_struct hu h
      refine ⟨n, hlen, fun p hp => ?_⟩
      rw [← hf] at hp
      obtain ⟨f, hfm, rfl⟩ := List.mem_map.1 hp
      obtain ⟨i, hi, hfi⟩ := List.getElem_of_mem hfm
      have hi' : i < fs.size := by simpa using hi
      have h1 := hx i f (by rw [← hfi]; simp [hi'])
      have hi2 : i < xs.length := by omega
      refine ⟨xs[i], by rw [h1]; simp [hi2], fun m hm => ?_⟩
      simp only [hxe, DataW.weights, hu]
      exact DataW.weights_mem_each (j := i) (t := f.type) (d := xs[i].1) (by rw [List.getElem?_map, Array.getElem?_toList, ← hfi]; simp [hi']) (by simp [hi2]) m hm
    | _ => simp at hf; first | exact absurd hf hl | exact absurd hf.symm hl

theorem trod_str (h : DataW.trod enc Tryz.prog W base spare held fuel 9 cs = some x) : ∃ s : ByteArray, cs = [.string s] ∧ s.size ≤ maxLen := by
  obtain ⟨s, h1, _, h2⟩ := DataW.trod_string Tryz.underlying9 h
  exact ⟨s, h1, h2⟩
theorem stake_open (h : DataW.trod enc Tryz.prog W base spare held fuel 49 cs = some x) : ∃ z : Stk, cs = [.string z.name, .int .i64 z.weight] ∧ z.name.size ≤ maxLen := by
  obtain ⟨m, hlen, hfs⟩ := trod_fields fields49 (by simp) h
  rw [cells49] at hlen
  obtain ⟨y0, h0, gh0⟩ := hfs (9, 0) (by simp)
  obtain ⟨y1, h1, gh1⟩ := hfs (3, 1) (by simp)
  obtain ⟨c0, c1, rfl⟩ := lst2 hlen
  rw [cells9] at h0
  rw [cells3] at h1
  obtain ⟨z0, e0, w0⟩ := trod_str h0
  obtain ⟨z1, e1, _⟩ := trod_int3 h1
  simp at e0 e1
  subst e0; subst e1
  exact ⟨⟨z0, z1⟩, rfl, w0⟩
theorem loan_open (h : DataW.trod enc Tryz.prog W base spare held fuel 59 cs = some x) : ∃ z : Ln, cs = [.string z.f, .string z.g, .int .i64 z.n, .int .i64 z.r] := by
  obtain ⟨m, hlen, hfs⟩ := trod_fields fields59 (by simp) h
  rw [cells59] at hlen
  obtain ⟨y0, h0, gh0⟩ := hfs (9, 0) (by simp)
  obtain ⟨y1, h1, gh1⟩ := hfs (9, 1) (by simp)
  obtain ⟨y2, h2, gh2⟩ := hfs (3, 2) (by simp)
  obtain ⟨y3, h3, gh3⟩ := hfs (3, 3) (by simp)
  obtain ⟨c0, c1, c2, c3, rfl⟩ := lst4 hlen
  rw [cells9] at h0 h1
  rw [cells3] at h2 h3
  obtain ⟨z0, e0, _⟩ := trod_str h0
  obtain ⟨z1, e1, _⟩ := trod_str h1
  obtain ⟨z2, e2, _⟩ := trod_int3 h2
  obtain ⟨z3, e3, _⟩ := trod_int3 h3
  simp at e0 e1 e2 e3
  subst e0; subst e1; subst e2; subst e3
  exact ⟨⟨z0, z1, z2, z3⟩, rfl⟩
theorem stakes_open (h : DataW.trod enc Tryz.prog W base spare held fuel 22 cs = some x) (hw : ∀ m ∈ x.1.weights Tryz.prog 22, m ≤ reachBytes) : ∃ v xs, cs = [v] ∧ StakesAt W v xs ∧ nmOk xs := by
  obtain ⟨a, len, cap, rfl, hl, hx⟩ := trod_slice_at Tryz.underlying22 cells49 (by omega) h hw (by rw [bytes49]; omega)
  obtain ⟨xs, hxl, hxs⟩ := choose_list (α := Stk) (n := len) (p := fun i z => (∃ b off, a = some ⟨b, off, none⟩ ∧ b < W.heap.size ∧ W.cell? ⟨b, off + i * 2, none⟩ = some (.string z.name) ∧ W.cell? ⟨b, off + i * 2 + 1, none⟩ = some (.int .i64 z.weight)) ∧ z.name.size ≤ maxLen) fun i hi => by
    obtain ⟨b, off, n, cs', y, ha, hb, hc, hcell, hy⟩ := hx i hi
    obtain ⟨z, rfl, hz⟩ := stake_open hy
    exact ⟨z, ⟨b, off, ha, hb, by have := hcell 0 (by omega); first | exact this | simpa using this, by have := hcell 1 (by omega); first | exact this | simpa using this⟩, hz⟩
  exact ⟨_, xs, rfl, ⟨a, cap, by rw [hxl], by omega, fun i hi => (hxs i hi).1⟩, fun s hs => by obtain ⟨i, hi, rfl⟩ := List.getElem_of_mem hs; exact (hxs i hi).2⟩
theorem loans_open (h : DataW.trod enc Tryz.prog W base spare held fuel 30 cs = some x) (hw : ∀ m ∈ x.1.weights Tryz.prog 30, m ≤ reachBytes) : ∃ v xs, cs = [v] ∧ LoansAt W v xs := by
  obtain ⟨a, len, cap, rfl, hl, hx⟩ := trod_slice_at Tryz.underlying30 cells59 (by omega) h hw (by rw [bytes59]; omega)
  obtain ⟨xs, hxl, hxs⟩ := choose_list (α := Ln) (n := len) (p := fun i z => ∃ b off, a = some ⟨b, off, none⟩ ∧ b < W.heap.size ∧ W.cell? ⟨b, off + i * 4, none⟩ = some (.string z.f) ∧ W.cell? ⟨b, off + i * 4 + 1, none⟩ = some (.string z.g) ∧ W.cell? ⟨b, off + i * 4 + 2, none⟩ = some (.int .i64 z.n) ∧ W.cell? ⟨b, off + i * 4 + 3, none⟩ = some (.int .i64 z.r)) fun i hi => by
    obtain ⟨b, off, n, cs', y, ha, hb, hc, hcell, hy⟩ := hx i hi
    obtain ⟨z, rfl⟩ := loan_open hy
    exact ⟨z, b, off, ha, hb, by have := hcell 0 (by omega); first | exact this | simpa using this, by have := hcell 1 (by omega); first | exact this | simpa using this, by have := hcell 2 (by omega); first | exact this | simpa using this, by have := hcell 3 (by omega); first | exact this | simpa using this⟩
  exact ⟨_, xs, rfl, a, cap, by rw [hxl], by omega, hxs⟩
set_option maxRecDepth 100000 in
theorem stakes_arg {r : Reach} {b0 : Nat} {v : Value} {d : DataW H} {p : List MemPlace} (hv : Value.okWide Tryz.prog W r b0 22 v) (h : DataW.Trod enc Tryz.prog W base spare held 22 v d p) (hw : ∀ m ∈ d.weights Tryz.prog 22, m ≤ reachBytes) : ∃ xs, StakesAt W v xs ∧ nmOk xs := by
  obtain ⟨a, len, cap, rfl⟩ := okWide_slice Tryz.underlying22 hv
  obtain ⟨fuel, hf⟩ := h
  obtain ⟨v', xs, e, hc⟩ := stakes_open hf hw
  simp [Value.cells] at e
  subst e
  exact ⟨xs, hc⟩
/-- A voyage, as a value, is what it holds. -/
def VArg (w : World) (v : Value) (V : Voy) : Prop := ∃ s : VS, v = .agg (voyA V s) ∧ VoyAt w V s
set_option maxRecDepth 100000 in
theorem voyage_arg {r : Reach} {b0 : Nat} {v : Value} {d : DataW H} {p : List MemPlace} (hv : Value.okWide Tryz.prog W r b0 32 v) (h : DataW.Trod enc Tryz.prog W base spare held 32 v d p) (hw : ∀ m ∈ d.weights Tryz.prog 32, m ≤ reachBytes) : ∃ V, VArg W v V := by
  obtain ⟨fs, hfs0⟩ : ∃ fs, Tryz.prog.underlying 32 = some (.struct fs) := ⟨_, Tryz.underlying32⟩
  obtain ⟨cs, rfl, hsz⟩ := okWide_struct hfs0 hv
  obtain ⟨fuel, hf⟩ := h
  obtain ⟨m, hlen, hfs⟩ := trod_fields fields32 (by simp) hf
  obtain ⟨y0, h0, gh0⟩ := hfs (3, 0) (by simp)
  obtain ⟨y1, h1, gh1⟩ := hfs (23, 1) (by simp)
  obtain ⟨y2, h2, gh2⟩ := hfs (3, 2) (by simp)
  obtain ⟨y3, h3, gh3⟩ := hfs (3, 3) (by simp)
  obtain ⟨y4, h4, gh4⟩ := hfs (3, 4) (by simp)
  obtain ⟨y5, h5, gh5⟩ := hfs (22, 5) (by simp)
  obtain ⟨y6, h6, gh6⟩ := hfs (22, 6) (by simp)
  obtain ⟨y7, h7, gh7⟩ := hfs (22, 7) (by simp)
  obtain ⟨y8, h8, gh8⟩ := hfs (30, 8) (by simp)
  obtain ⟨l, rfl⟩ : ∃ l : List Value, cs = l.toArray := ⟨cs.toList, by simp⟩
  rw [cells32] at hsz
  obtain ⟨c0, c1, c2, c3, c4, c5, c6, c7, c8, rfl⟩ := lst9 (by simpa using hsz)
  rw [cells3] at h0 h2 h3 h4
  rw [cells23] at h1
  rw [cells22] at h5 h6 h7
  rw [cells30] at h8
  obtain ⟨z0, e0, _⟩ := trod_int3 h0
  obtain ⟨v1, l1, e1, k1⟩ := ints_open h1 (fun m hm => hw m (gh1 m hm))
  obtain ⟨z2, e2, _⟩ := trod_int3 h2
  obtain ⟨z3, e3, _⟩ := trod_int3 h3
  obtain ⟨z4, e4, _⟩ := trod_int3 h4
  obtain ⟨v5, l5, e5, k5, n5⟩ := stakes_open h5 (fun m hm => hw m (gh5 m hm))
  obtain ⟨v6, l6, e6, k6, n6⟩ := stakes_open h6 (fun m hm => hw m (gh6 m hm))
  obtain ⟨v7, l7, e7, k7, n7⟩ := stakes_open h7 (fun m hm => hw m (gh7 m hm))
  obtain ⟨v8, l8, e8, k8⟩ := loans_open h8 (fun m hm => hw m (gh8 m hm))
  simp [Value.cells] at e0 e1 e2 e3 e4 e5 e6 e7 e8
  subst e0; subst e1; subst e2; subst e3; subst e4; subst e5; subst e6; subst e7; subst e8
  obtain ⟨a1, p1, q1, _⟩ := id k1
  obtain ⟨a5, p5, q5, _⟩ := id k5
  obtain ⟨a6, p6, q6, _⟩ := id k6
  obtain ⟨a7, p7, q7, _⟩ := id k7
  obtain ⟨a8, p8, q8, _⟩ := id k8
  subst q1; subst q5; subst q6; subst q7; subst q8
  exact ⟨⟨z0, z2, z3, z4, l1, l5, l6, l7, l8⟩, ⟨a1, a5, a6, a7, a8, p1, p5, p6, p7, p8⟩, rfl, ⟨k1, k5, k6, k7, k8, n5, n6, n7⟩⟩
set_option maxRecDepth 100000 in
theorem nums2_arg {r : Reach} {b0 : Nat} {v : Value} {d : DataW H} {p : List MemPlace} (hv : Value.okWide Tryz.prog W r b0 46 v) (h : DataW.Trod enc Tryz.prog W base spare held 46 v d p) : ∃ z0 z1, v = .agg #[.int .i64 z0, .int .i64 z1] := by
  have hc46 : Tryz.prog.cellsOf 46 = 2 := by kernel_rfl
  obtain ⟨cs, rfl, hsz⟩ : ∃ cs, v = .agg cs ∧ cs.size = Tryz.prog.cellsOf 46 := by
    simp only [Value.okWide, Tryz.underlying46] at hv
    obtain ⟨cs, h1, h2, _⟩ := hv
    exact ⟨cs, h1, h2⟩
  obtain ⟨fuel, hf⟩ := h
  obtain ⟨xs, m, _, _, hlen, hxl, hx⟩ := DataW.trod_array Tryz.underlying46 hf
  obtain ⟨l, rfl⟩ : ∃ l : List Value, cs = l.toArray := ⟨cs.toList, by simp⟩
  rw [hc46] at hsz
  obtain ⟨c0, c1, rfl⟩ := lst2 (by simpa using hsz)
  have h0 := hx 0 (by omega)
  have h1 := hx 1 (by omega)
  rw [cells3] at h0 h1
  obtain ⟨z0, e0, w0⟩ := trod_int3 (x := xs[0]'(by omega)) (h0.trans (by simp [hxl]))
  obtain ⟨z1, e1, w1⟩ := trod_int3 (x := xs[1]'(by omega)) (h1.trans (by simp [hxl]))
  simp [Value.cells] at e0 e1
  subst e0; subst e1
  exact ⟨z0, z1, rfl⟩
set_option maxRecDepth 100000 in
theorem nums4_arg {r : Reach} {b0 : Nat} {v : Value} {d : DataW H} {p : List MemPlace} (hv : Value.okWide Tryz.prog W r b0 56 v) (h : DataW.Trod enc Tryz.prog W base spare held 56 v d p) : ∃ z0 z1 z2 z3, v = .agg #[.int .i64 z0, .int .i64 z1, .int .i64 z2, .int .i64 z3] := by
  have hc56 : Tryz.prog.cellsOf 56 = 4 := by kernel_rfl
  obtain ⟨cs, rfl, hsz⟩ : ∃ cs, v = .agg cs ∧ cs.size = Tryz.prog.cellsOf 56 := by
    simp only [Value.okWide, Tryz.underlying56] at hv
    obtain ⟨cs, h1, h2, _⟩ := hv
    exact ⟨cs, h1, h2⟩
  obtain ⟨fuel, hf⟩ := h
  obtain ⟨xs, m, _, _, hlen, hxl, hx⟩ := DataW.trod_array Tryz.underlying56 hf
  obtain ⟨l, rfl⟩ : ∃ l : List Value, cs = l.toArray := ⟨cs.toList, by simp⟩
  rw [hc56] at hsz
  obtain ⟨c0, c1, c2, c3, rfl⟩ := lst4 (by simpa using hsz)
  have h0 := hx 0 (by omega)
  have h1 := hx 1 (by omega)
  have h2 := hx 2 (by omega)
  have h3 := hx 3 (by omega)
  rw [cells3] at h0 h1 h2 h3
  obtain ⟨z0, e0, w0⟩ := trod_int3 (x := xs[0]'(by omega)) (h0.trans (by simp [hxl]))
  obtain ⟨z1, e1, w1⟩ := trod_int3 (x := xs[1]'(by omega)) (h1.trans (by simp [hxl]))
  obtain ⟨z2, e2, w2⟩ := trod_int3 (x := xs[2]'(by omega)) (h2.trans (by simp [hxl]))
  obtain ⟨z3, e3, w3⟩ := trod_int3 (x := xs[3]'(by omega)) (h3.trans (by simp [hxl]))
  simp [Value.cells] at e0 e1 e2 e3
  subst e0; subst e1; subst e2; subst e3
  exact ⟨z0, z1, z2, z3, rfl⟩
end
end
end Go.Proofs.YtjocoadhalimjaaGreat
