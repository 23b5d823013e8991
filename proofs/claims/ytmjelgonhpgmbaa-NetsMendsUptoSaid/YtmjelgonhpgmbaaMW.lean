/- What a statement's arguments are. -/
import Derived.Test.YtmjelgonhpgmbaaMV
import Derived.Test.YtmjelgonhpgmbaaRows
import Derived.ProofKit
import Derived.OpenShut
import Derived.ChangeOld
import Derived.Below
import Derived.Deep.Slices
import Derived.SizedLaws
set_option linter.unusedSimpArgs false
set_option linter.unusedVariables false
namespace Go.Proofs.Ytmjelgonhpgmbaa
open Go Go.RowKit Go.Shelf
open Go.ChangeShapes Go.WideShapes Go.ChangeAt

theorem own : ownKnob Try.prog.godebug = none := by kernel_rfl
theorem laidOut : laidOutB Try.prog = true := by kernel_rfl
theorem reach_eq : reachBytes = 140737488351232 := by kernel_rfl
theorem fields56 : (Try.prog.underlying 56).map (fun d => match d with | .struct fs => fs.toList.map (fun f => (f.type, f.offset)) | _ => []) = some [(3, 0), (3, 1)] := by kernel_rfl
theorem fields54 : (Try.prog.underlying 54).map (fun d => match d with | .struct fs => fs.toList.map (fun f => (f.type, f.offset)) | _ => []) = some [(3, 0), (3, 1)] := by kernel_rfl
theorem fields86 : (Try.prog.underlying 86).map (fun d => match d with | .struct fs => fs.toList.map (fun f => (f.type, f.offset)) | _ => []) = some [(3, 0), (3, 1)] := by kernel_rfl
theorem fields58 : (Try.prog.underlying 58).map (fun d => match d with | .struct fs => fs.toList.map (fun f => (f.type, f.offset)) | _ => []) = some [(54, 0), (3, 2), (3, 3), (3, 4), (3, 5), (56, 6), (56, 8)] := by kernel_rfl
theorem fields40 : (Try.prog.underlying 40).map (fun d => match d with | .struct fs => fs.toList.map (fun f => (f.type, f.offset)) | _ => []) = some [(37, 0), (37, 1), (3, 2), (38, 3)] := by kernel_rfl
theorem fields24 : (Try.prog.underlying 24).map (fun d => match d with | .struct fs => fs.toList.map (fun f => (f.type, f.offset)) | _ => []) = some [(3, 0), (3, 1), (22, 2), (3, 3), (3, 4)] := by kernel_rfl
theorem fields50 : (Try.prog.underlying 50).map (fun d => match d with | .struct fs => fs.toList.map (fun f => (f.type, f.offset)) | _ => []) = some [(41, 0), (41, 1), (41, 2), (41, 3)] := by kernel_rfl
theorem cells3 : Try.prog.cellsOf 3 = 1 := by kernel_rfl
theorem cells4 : Try.prog.cellsOf 4 = 1 := by kernel_rfl
theorem cells41 : Try.prog.cellsOf 41 = 1 := by kernel_rfl
theorem cells37 : Try.prog.cellsOf 37 = 1 := by kernel_rfl
theorem cells38 : Try.prog.cellsOf 38 = 1 := by kernel_rfl
theorem cells22 : Try.prog.cellsOf 22 = 1 := by kernel_rfl
theorem cells25 : Try.prog.cellsOf 25 = 1 := by kernel_rfl
theorem cells56 : Try.prog.cellsOf 56 = 2 := by kernel_rfl
theorem cells54 : Try.prog.cellsOf 54 = 2 := by kernel_rfl
theorem cells86 : Try.prog.cellsOf 86 = 2 := by kernel_rfl
theorem cells58 : Try.prog.cellsOf 58 = 10 := by kernel_rfl
theorem cells40 : Try.prog.cellsOf 40 = 4 := by kernel_rfl
theorem cells24 : Try.prog.cellsOf 24 = 5 := by kernel_rfl
theorem cells50 : Try.prog.cellsOf 50 = 4 := by kernel_rfl
theorem bytes3 : Try.prog.bytesOf 3 = 8 := by kernel_rfl
theorem bytes56 : Try.prog.bytesOf 56 = 16 := by kernel_rfl
theorem bytes86 : Try.prog.bytesOf 86 = 16 := by kernel_rfl
theorem bytes58 : Try.prog.bytesOf 58 = 80 := by kernel_rfl
theorem bytes41 : Try.prog.bytesOf 41 = 24 := by kernel_rfl
theorem list2 {l : List Value} (h : l.length = 2) : ∃ c0 c1, l = [c0, c1] := by
  match l, h with
  | [c0, c1], _ => exact ⟨c0, c1, rfl⟩
theorem list3 {l : List Value} (h : l.length = 3) : ∃ c0 c1 c2, l = [c0, c1, c2] := by
  match l, h with
  | [c0, c1, c2], _ => exact ⟨c0, c1, c2, rfl⟩
theorem list4 {l : List Value} (h : l.length = 4) : ∃ c0 c1 c2 c3, l = [c0, c1, c2, c3] := by
  match l, h with
  | [c0, c1, c2, c3], _ => exact ⟨c0, c1, c2, c3, rfl⟩
theorem list5 {l : List Value} (h : l.length = 5) : ∃ c0 c1 c2 c3 c4, l = [c0, c1, c2, c3, c4] := by
  match l, h with
  | [c0, c1, c2, c3, c4], _ => exact ⟨c0, c1, c2, c3, c4, rfl⟩
theorem list10 {l : List Value} (h : l.length = 10) : ∃ c0 c1 c2 c3 c4 c5 c6 c7 c8 c9, l = [c0, c1, c2, c3, c4, c5, c6, c7, c8, c9] := by
  match l, h with
  | [c0, c1, c2, c3, c4, c5, c6, c7, c8, c9], _ => exact ⟨c0, c1, c2, c3, c4, c5, c6, c7, c8, c9, rfl⟩
section
variable {H : Type} {enc : TypeId × Value → H} {W : World} {base fuel : Nat} {spare : Nat → Bool} {held : Bool} {x : DataW H × List MemPlace} {cs : List Value}

/-- A struct's fields, one after the other. -/
theorem trod_fields {t : TypeId} {l : List (TypeId × Nat)} (hf : (Try.prog.underlying t).map (fun d => match d with | .struct fs => fs.toList.map (fun f => (f.type, f.offset)) | _ => []) = some l) (hl : l ≠ []) (h : DataW.trod enc Try.prog W base spare held fuel t cs = some x) :
    ∃ n, cs.length = Try.prog.cellsOf t ∧ ∀ p ∈ l, ∃ y, DataW.trod enc Try.prog W base spare held n p.1 ((cs.drop p.2).take (Try.prog.cellsOf p.1)) = some y ∧ ∀ m ∈ y.1.weights Try.prog p.1, m ∈ x.1.weights Try.prog t := by
  cases hu : Try.prog.underlying t with
  | none => rw [hu] at hf; cases hf
  | some d =>
    rw [hu] at hf
    cases d with
    | struct fs =>
      simp only [Option.map_some, Option.some.injEq] at hf
      obtain ⟨xs, n, _, hxe, hlen, hxl, hx⟩ := DataW.trod_struct hu h
      refine ⟨n, hlen, fun p hp => ?_⟩
      rw [← hf] at hp
      obtain ⟨f, hfm, rfl⟩ := List.mem_map.1 hp
      obtain ⟨i, hi, hfi⟩ := List.getElem_of_mem hfm
      have hi' : i < fs.size := by simpa using hi
      have h1 := hx i f (by rw [← hfi]; simp [hi'])
      have hi2 : i < xs.length := by omega
      refine ⟨xs[i], by rw [h1]; simp [hi2], fun m hm => ?_⟩
      simp only [hxe, DataW.weights, hu]
      exact DataW.weights_mem_each (j := i) (t := f.type) (d := xs[i].1) (by rw [List.getElem?_map, Array.getElem?_toList, ← hfi]; simp [hi']) (by simp [hi2]) m hm
    | _ => simp at hf; first | exact absurd hf hl | exact absurd hf.symm hl
theorem trod_int3 (h : DataW.trod enc Try.prog W base spare held fuel 3 cs = some x) : ∃ n, cs = [.int .i64 n] ∧ (Lit.int .i64 n).wf = true := by
  obtain ⟨n, h1, _, h3⟩ := DataW.trod_int Try.underlying3 h
  exact ⟨n, h1, h3⟩
theorem trod_bool4 (h : DataW.trod enc Try.prog W base spare held fuel 4 cs = some x) : ∃ n, cs = [.bool n] := by
  obtain ⟨n, h1, _⟩ := DataW.trod_bool Try.underlying4 h
  exact ⟨n, h1⟩

/-- A slice, element by element: the cells of each, and how each reads. -/
theorem trod_slice_at {t e : TypeId} {sz : Nat} (ht : Try.prog.underlying t = some (.slice e)) (hc : Try.prog.cellsOf e = sz) (hsz : 0 < sz) (h : DataW.trod enc Try.prog W base spare held fuel t cs = some x) (hw : ∀ m ∈ x.1.weights Try.prog t, m ≤ reachBytes) (hby : 1 ≤ Try.prog.bytesOf e) :
    ∃ (a : Option Addr) (len cap : Nat), cs = [.slice a len cap] ∧ (len ≤ cap ∧ len ≤ 1000000000000000) ∧ ∀ i, i < len → ∃ b off n cs' y, a = some ⟨b, off, none⟩ ∧ b < W.heap.size ∧ cs'.length = sz ∧ (∀ j, j < sz → W.cell? ⟨b, off + i * sz + j, none⟩ = cs'[j]?) ∧ DataW.trod enc Try.prog W base spare held n e cs' = some y := by
  rcases Go.Deep.open_slice ht h with ⟨rfl, _⟩ | ⟨a, len, cap, m, n, D, Pl, rfl, _, hl, hm, hmm, hxe, hx⟩
  · exact ⟨none, 0, 0, rfl, ⟨by omega, by omega⟩, fun i hi => by omega⟩
  · have hlen : len ≤ 140737488351232 := by
      have h1 := hw ((((List.range len).map D).length + ((List.range (m - len)).map fun j => D (len + j)).length) * Try.prog.bytesOf e) (by
        simp only [hxe, DataW.weights, ht]
        exact List.mem_cons_self)
      have h2 : len * 1 ≤ (((List.range len).map D).length + ((List.range (m - len)).map fun j => D (len + j)).length) * Try.prog.bytesOf e := Nat.mul_le_mul (by simp) hby
      have h3 := reach_eq
      omega
    refine ⟨some a, len, cap, rfl, ⟨hl, by omega⟩, fun i hi => ?_⟩
    have hlm : len ≤ m := by rw [hmm]; split <;> omega
    rw [hc] at hx
    obtain ⟨cs0, h0, _⟩ := hx 0 (by omega)
    obtain ⟨_, hl0, hc0⟩ := World.cells?_some h0
    obtain ⟨v0, hv0⟩ : ∃ v, cs0[0]? = some v := ⟨cs0[0]'(by omega), by simp [hl0, hsz]⟩
    have hcell0 := (hc0 0 hsz).trans hv0
    have hsp : a.spot = none := by simpa [Addr.add] using World.cell?_spot hcell0
    have hbl : a.block < W.heap.size := by have := World.block_lt_of_cell? W _ hcell0; simpa [Addr.add] using this
    obtain ⟨b, off, spot⟩ := a
    simp only at hsp hbl
    subst hsp
    obtain ⟨cs', h1, h2⟩ := hx i (by omega)
    obtain ⟨_, hl1, hc1⟩ := World.cells?_some h1
    refine ⟨b, off, n, cs', _, rfl, hbl, hl1, fun j hj => ?_, h2⟩
    rw [← hc1 j hj, Go.Deep.add_add, Addr.add_mid, Nat.add_assoc]
/-- One function for all the elements. -/
theorem choose_list {α : Type} [Inhabited α] {n : Nat} {p : Nat → α → Prop} (h : ∀ i, i < n → ∃ x, p i x) : ∃ l : List α, l.length = n ∧ ∀ i (hi : i < l.length), p i l[i] := by
  obtain ⟨f, hf⟩ := Go.Deep.choose_lt h
  refine ⟨(List.range n).map f, by simp, fun i hi => ?_⟩
  have hi' : i < n := by simpa using hi
  simpa using hf i hi'
theorem ints_open (h : DataW.trod enc Try.prog W base spare held fuel 41 cs = some x) (hw : ∀ m ∈ x.1.weights Try.prog 41, m ≤ reachBytes) : ∃ v xs, cs = [v] ∧ IntsAt W v xs := by
  obtain ⟨a, len, cap, rfl, hl, hx⟩ := trod_slice_at Try.underlying41 cells3 (by omega) h hw (by rw [bytes3]; omega)
  obtain ⟨xs, hxl, hxs⟩ := choose_list (α := Int) (n := len) (p := fun i z => ∃ b off, a = some ⟨b, off, none⟩ ∧ b < W.heap.size ∧ W.cell? ⟨b, off + i, none⟩ = some (.int .i64 z)) fun i hi => by
    obtain ⟨b, off, n, cs', y, ha, hb, hc, hcell, hy⟩ := hx i hi
    obtain ⟨z, rfl, _⟩ := trod_int3 hy
    exact ⟨z, b, off, ha, hb, by have := hcell 0 (by omega); first | exact this | simpa using this⟩
  exact ⟨_, xs, rfl, a, cap, by rw [hxl], by omega, hxs⟩
instance : Inhabited NetD := ⟨netZ⟩
theorem span_open (h : DataW.trod enc Try.prog W base spare held fuel 56 cs = some x) : ∃ z : Spn, cs = [.int .i64 z.lo, .int .i64 z.hi] := by
  obtain ⟨m, hlen, hfs⟩ := trod_fields fields56 (by simp) h
  rw [cells56] at hlen
  obtain ⟨y0, h0, gh0⟩ := hfs (3, 0) (by simp)
  obtain ⟨y1, h1, gh1⟩ := hfs (3, 1) (by simp)
  obtain ⟨c0, c1, rfl⟩ := list2 hlen
  rw [cells3] at h0 h1
  obtain ⟨z0, e0, _⟩ := trod_int3 h0
  obtain ⟨z1, e1, _⟩ := trod_int3 h1
  simp at e0 e1
  subst e0; subst e1
  exact ⟨⟨z0, z1⟩, rfl⟩
theorem spot_open (h : DataW.trod enc Try.prog W base spare held fuel 54 cs = some x) : ∃ z : Spn, cs = [.int .i64 z.lo, .int .i64 z.hi] := by
  obtain ⟨m, hlen, hfs⟩ := trod_fields fields54 (by simp) h
  rw [cells54] at hlen
  obtain ⟨y0, h0, gh0⟩ := hfs (3, 0) (by simp)
  obtain ⟨y1, h1, gh1⟩ := hfs (3, 1) (by simp)
  obtain ⟨c0, c1, rfl⟩ := list2 hlen
  rw [cells3] at h0 h1
  obtain ⟨z0, e0, _⟩ := trod_int3 h0
  obtain ⟨z1, e1, _⟩ := trod_int3 h1
  simp at e0 e1
  subst e0; subst e1
  exact ⟨⟨z0, z1⟩, rfl⟩
theorem bar_open (h : DataW.trod enc Try.prog W base spare held fuel 86 cs = some x) : ∃ z : Spn, cs = [.int .i64 z.lo, .int .i64 z.hi] := by
  obtain ⟨m, hlen, hfs⟩ := trod_fields fields86 (by simp) h
  rw [cells86] at hlen
  obtain ⟨y0, h0, gh0⟩ := hfs (3, 0) (by simp)
  obtain ⟨y1, h1, gh1⟩ := hfs (3, 1) (by simp)
  obtain ⟨c0, c1, rfl⟩ := list2 hlen
  rw [cells3] at h0 h1
  obtain ⟨z0, e0, _⟩ := trod_int3 h0
  obtain ⟨z1, e1, _⟩ := trod_int3 h1
  simp at e0 e1
  subst e0; subst e1
  exact ⟨⟨z0, z1⟩, rfl⟩
theorem spans_open (h : DataW.trod enc Try.prog W base spare held fuel 37 cs = some x) (hw : ∀ m ∈ x.1.weights Try.prog 37, m ≤ reachBytes) : ∃ v xs, cs = [v] ∧ SpansAt W v xs := by
  obtain ⟨a, len, cap, rfl, hl, hx⟩ := trod_slice_at Try.underlying37 cells56 (by omega) h hw (by rw [bytes56]; omega)
  obtain ⟨xs, hxl, hxs⟩ := choose_list (α := Spn) (n := len) (p := fun i z => ∃ b off, a = some ⟨b, off, none⟩ ∧ b < W.heap.size ∧ W.cell? ⟨b, off + i * 2, none⟩ = some (.int .i64 z.lo) ∧ W.cell? ⟨b, off + i * 2 + 1, none⟩ = some (.int .i64 z.hi)) fun i hi => by
    obtain ⟨b, off, n, cs', y, ha, hb, hc, hcell, hy⟩ := hx i hi
    obtain ⟨z, rfl⟩ := span_open hy
    exact ⟨z, b, off, ha, hb, by have := hcell 0 (by omega); first | exact this | simpa using this, by have := hcell 1 (by omega); first | exact this | simpa using this⟩
  exact ⟨_, xs, rfl, a, cap, by rw [hxl], by omega, hxs⟩
theorem bars_open (h : DataW.trod enc Try.prog W base spare held fuel 22 cs = some x) (hw : ∀ m ∈ x.1.weights Try.prog 22, m ≤ reachBytes) : ∃ v xs, cs = [v] ∧ SpansAt W v xs := by
  obtain ⟨a, len, cap, rfl, hl, hx⟩ := trod_slice_at Try.underlying22 cells86 (by omega) h hw (by rw [bytes86]; omega)
  obtain ⟨xs, hxl, hxs⟩ := choose_list (α := Spn) (n := len) (p := fun i z => ∃ b off, a = some ⟨b, off, none⟩ ∧ b < W.heap.size ∧ W.cell? ⟨b, off + i * 2, none⟩ = some (.int .i64 z.lo) ∧ W.cell? ⟨b, off + i * 2 + 1, none⟩ = some (.int .i64 z.hi)) fun i hi => by
    obtain ⟨b, off, n, cs', y, ha, hb, hc, hcell, hy⟩ := hx i hi
    obtain ⟨z, rfl⟩ := bar_open hy
    exact ⟨z, b, off, ha, hb, by have := hcell 0 (by omega); first | exact this | simpa using this, by have := hcell 1 (by omega); first | exact this | simpa using this⟩
  exact ⟨_, xs, rfl, a, cap, by rw [hxl], by omega, hxs⟩
theorem shot_open (h : DataW.trod enc Try.prog W base spare held fuel 58 cs = some x) : ∃ z : NetD, cs = [.int .i64 z.east, .int .i64 z.north, .int .i64 z.long, .int .i64 z.along, .int .i64 z.shot, .int .i64 z.haul, .int .i64 z.se.lo, .int .i64 z.se.hi, .int .i64 z.sn.lo, .int .i64 z.sn.hi] := by
  obtain ⟨m, hlen, hfs⟩ := trod_fields fields58 (by simp) h
  rw [cells58] at hlen
  obtain ⟨y0, h0, gh0⟩ := hfs (54, 0) (by simp)
  obtain ⟨y1, h1, gh1⟩ := hfs (3, 2) (by simp)
  obtain ⟨y2, h2, gh2⟩ := hfs (3, 3) (by simp)
  obtain ⟨y3, h3, gh3⟩ := hfs (3, 4) (by simp)
  obtain ⟨y4, h4, gh4⟩ := hfs (3, 5) (by simp)
  obtain ⟨y5, h5, gh5⟩ := hfs (56, 6) (by simp)
  obtain ⟨y6, h6, gh6⟩ := hfs (56, 8) (by simp)
  obtain ⟨c0, c1, c2, c3, c4, c5, c6, c7, c8, c9, rfl⟩ := list10 hlen
  rw [cells54] at h0
  rw [cells3] at h1 h2 h3 h4
  rw [cells56] at h5 h6
  obtain ⟨z0, e0⟩ := spot_open h0
  obtain ⟨z1, e1, _⟩ := trod_int3 h1
  obtain ⟨z2, e2, _⟩ := trod_int3 h2
  obtain ⟨z3, e3, _⟩ := trod_int3 h3
  obtain ⟨z4, e4, _⟩ := trod_int3 h4
  obtain ⟨z5, e5⟩ := span_open h5
  obtain ⟨z6, e6⟩ := span_open h6
  simp at e0 e1 e2 e3 e4 e5 e6
  obtain ⟨rfl, rfl⟩ := e0
  subst e1; subst e2; subst e3; subst e4
  obtain ⟨rfl, rfl⟩ := e5
  obtain ⟨rfl, rfl⟩ := e6
  exact ⟨⟨z0.lo, z0.hi, z1, z2, z3, z4, z5, z6⟩, rfl⟩
theorem shots_open (h : DataW.trod enc Try.prog W base spare held fuel 38 cs = some x) (hw : ∀ m ∈ x.1.weights Try.prog 38, m ≤ reachBytes) : ∃ v xs, cs = [v] ∧ ShotsAt W v xs := by
  obtain ⟨a, len, cap, rfl, hl, hx⟩ := trod_slice_at Try.underlying38 cells58 (by omega) h hw (by rw [bytes58]; omega)
  obtain ⟨xs, hxl, hxs⟩ := choose_list (α := NetD) (n := len) (p := fun i z => ∃ b off, a = some ⟨b, off, none⟩ ∧ b < W.heap.size ∧ W.cell? ⟨b, off + i * 10, none⟩ = some (.int .i64 z.east) ∧ W.cell? ⟨b, off + i * 10 + 1, none⟩ = some (.int .i64 z.north) ∧ W.cell? ⟨b, off + i * 10 + 2, none⟩ = some (.int .i64 z.long) ∧ W.cell? ⟨b, off + i * 10 + 3, none⟩ = some (.int .i64 z.along) ∧ W.cell? ⟨b, off + i * 10 + 4, none⟩ = some (.int .i64 z.shot) ∧ W.cell? ⟨b, off + i * 10 + 5, none⟩ = some (.int .i64 z.haul) ∧ W.cell? ⟨b, off + i * 10 + 6, none⟩ = some (.int .i64 z.se.lo) ∧ W.cell? ⟨b, off + i * 10 + 7, none⟩ = some (.int .i64 z.se.hi) ∧ W.cell? ⟨b, off + i * 10 + 8, none⟩ = some (.int .i64 z.sn.lo) ∧ W.cell? ⟨b, off + i * 10 + 9, none⟩ = some (.int .i64 z.sn.hi)) fun i hi => by
    obtain ⟨b, off, n, cs', y, ha, hb, hc, hcell, hy⟩ := hx i hi
    obtain ⟨z, rfl⟩ := shot_open hy
    exact ⟨z, b, off, ha, hb, by have := hcell 0 (by omega); first | exact this | simpa using this, by have := hcell 1 (by omega); first | exact this | simpa using this, by have := hcell 2 (by omega); first | exact this | simpa using this, by have := hcell 3 (by omega); first | exact this | simpa using this, by have := hcell 4 (by omega); first | exact this | simpa using this, by have := hcell 5 (by omega); first | exact this | simpa using this, by have := hcell 6 (by omega); first | exact this | simpa using this, by have := hcell 7 (by omega); first | exact this | simpa using this, by have := hcell 8 (by omega); first | exact this | simpa using this, by have := hcell 9 (by omega); first | exact this | simpa using this⟩
  exact ⟨_, xs, rfl, a, cap, by rw [hxl], by omega, hxs⟩
set_option maxRecDepth 100000 in
theorem fleet_open {r : Reach} {b0 : Nat} {v : Value} {d : DataW H} {p : List MemPlace} (hv : Value.okWide Try.prog W r b0 40 v) (h : DataW.Trod enc Try.prog W base spare held 40 v d p) (hw : ∀ m ∈ d.weights Try.prog 40, m ≤ reachBytes) : ∃ F, FlAt W v F := by
  obtain ⟨fs, hfs0⟩ : ∃ fs, Try.prog.underlying 40 = some (.struct fs) := ⟨_, Try.underlying40⟩
  obtain ⟨cs, rfl, hsz⟩ := okWide_struct hfs0 hv
  obtain ⟨fuel, hf⟩ := h
  obtain ⟨m, hlen, hfs⟩ := trod_fields fields40 (by simp) hf
  obtain ⟨y0, h0, gh0⟩ := hfs (37, 0) (by simp)
  obtain ⟨y1, h1, gh1⟩ := hfs (37, 1) (by simp)
  obtain ⟨y2, h2, gh2⟩ := hfs (3, 2) (by simp)
  obtain ⟨y3, h3, gh3⟩ := hfs (38, 3) (by simp)
  obtain ⟨l, rfl⟩ : ∃ l : List Value, cs = l.toArray := ⟨cs.toList, by simp⟩
  rw [cells40] at hsz
  obtain ⟨c0, c1, c2, c3, rfl⟩ := list4 (by simpa using hsz)
  rw [cells37] at h0 h1
  rw [cells3] at h2
  rw [cells38] at h3
  obtain ⟨v0, l0, e0, k0⟩ := spans_open h0 (fun m hm => hw m (gh0 m hm))
  obtain ⟨v1, l1, e1, k1⟩ := spans_open h1 (fun m hm => hw m (gh1 m hm))
  obtain ⟨z2, e2, _⟩ := trod_int3 h2
  obtain ⟨v3, l3, e3, k3⟩ := shots_open h3 (fun m hm => hw m (gh3 m hm))
  simp [Value.cells] at e0 e1 e2 e3
  subst e0; subst e1; subst e2; subst e3
  exact ⟨⟨l0, l1, z2, l3⟩, _, _, _, rfl, k0, k1, k3⟩
set_option maxRecDepth 100000 in
theorem torn_open {r : Reach} {b0 : Nat} {v : Value} {d : DataW H} {p : List MemPlace} (hv : Value.okWide Try.prog W r b0 24 v) (h : DataW.Trod enc Try.prog W base spare held 24 v d p) (hw : ∀ m ∈ d.weights Try.prog 24, m ≤ reachBytes) : ∃ T, TnAt W v T := by
  obtain ⟨fs, hfs0⟩ : ∃ fs, Try.prog.underlying 24 = some (.struct fs) := ⟨_, Try.underlying24⟩
  obtain ⟨cs, rfl, hsz⟩ := okWide_struct hfs0 hv
  obtain ⟨fuel, hf⟩ := h
  obtain ⟨m, hlen, hfs⟩ := trod_fields fields24 (by simp) hf
  obtain ⟨y0, h0, gh0⟩ := hfs (3, 0) (by simp)
  obtain ⟨y1, h1, gh1⟩ := hfs (3, 1) (by simp)
  obtain ⟨y2, h2, gh2⟩ := hfs (22, 2) (by simp)
  obtain ⟨y3, h3, gh3⟩ := hfs (3, 3) (by simp)
  obtain ⟨y4, h4, gh4⟩ := hfs (3, 4) (by simp)
  obtain ⟨l, rfl⟩ : ∃ l : List Value, cs = l.toArray := ⟨cs.toList, by simp⟩
  rw [cells24] at hsz
  obtain ⟨c0, c1, c2, c3, c4, rfl⟩ := list5 (by simpa using hsz)
  rw [cells3] at h0 h1 h3 h4
  rw [cells22] at h2
  obtain ⟨z0, e0, _⟩ := trod_int3 h0
  obtain ⟨z1, e1, _⟩ := trod_int3 h1
  obtain ⟨v2, l2, e2, k2⟩ := bars_open h2 (fun m hm => hw m (gh2 m hm))
  obtain ⟨z3, e3, _⟩ := trod_int3 h3
  obtain ⟨z4, e4, _⟩ := trod_int3 h4
  simp [Value.cells] at e0 e1 e2 e3 e4
  subst e0; subst e1; subst e2; subst e3; subst e4
  exact ⟨⟨z0, z1, l2, z3, z4⟩, _, rfl, k2⟩
set_option maxRecDepth 100000 in
theorem ints_arg {r : Reach} {b0 : Nat} {v : Value} {d : DataW H} {p : List MemPlace} (hv : Value.okWide Try.prog W r b0 41 v) (h : DataW.Trod enc Try.prog W base spare held 41 v d p) (hw : ∀ m ∈ d.weights Try.prog 41, m ≤ reachBytes) : ∃ xs, IntsAt W v xs := by
  obtain ⟨a, len, cap, rfl⟩ := okWide_slice Try.underlying41 hv
  obtain ⟨fuel, hf⟩ := h
  obtain ⟨v', xs, e, hc⟩ := ints_open hf hw
  simp [Value.cells] at e
  subst e
  exact ⟨xs, hc⟩
set_option maxRecDepth 100000 in
theorem int_arg {r : Reach} {b0 : Nat} {v : Value} {d : DataW H} {p : List MemPlace} (hv : Value.okWide Try.prog W r b0 3 v) (h : DataW.Trod enc Try.prog W base spare held 3 v d p) : ∃ n, v = .int .i64 n ∧ (Lit.int .i64 n).wf = true := by
  obtain ⟨n, rfl⟩ : ∃ n, v = .int .i64 n := by
    simp only [Value.okWide, Try.underlying3] at hv
    cases v with
    | int k n => exact ⟨n, by rw [hv.1]⟩
    | _ => cases hv
  obtain ⟨fuel, hf⟩ := h
  obtain ⟨z, e, w⟩ := trod_int3 hf
  simp [Value.cells] at e
  subst e
  exact ⟨_, rfl, w⟩
set_option maxRecDepth 100000 in
theorem nums2_arg {r : Reach} {b0 : Nat} {v : Value} {d : DataW H} {p : List MemPlace} (hv : Value.okWide Try.prog W r b0 72 v) (h : DataW.Trod enc Try.prog W base spare held 72 v d p) : ∃ z0 z1, v = .agg #[.int .i64 z0, .int .i64 z1] := by
  have hc72 : Try.prog.cellsOf 72 = 2 := by kernel_rfl
  obtain ⟨cs, rfl, hsz⟩ : ∃ cs, v = .agg cs ∧ cs.size = Try.prog.cellsOf 72 := by
    simp only [Value.okWide, Try.underlying72] at hv
    obtain ⟨cs, h1, h2, _⟩ := hv
    exact ⟨cs, h1, h2⟩
  obtain ⟨fuel, hf⟩ := h
  obtain ⟨xs, m, _, _, hlen, hxl, hx⟩ := DataW.trod_array Try.underlying72 hf
  obtain ⟨l, rfl⟩ : ∃ l : List Value, cs = l.toArray := ⟨cs.toList, by simp⟩
  rw [hc72] at hsz
  obtain ⟨c0, c1, rfl⟩ := list2 (by simpa using hsz)
  have h0 := hx 0 (by omega)
  have h1 := hx 1 (by omega)
  rw [cells3] at h0 h1
  obtain ⟨z0, e0, w0⟩ := trod_int3 (x := xs[0]'(by omega)) (h0.trans (by simp [hxl]))
  obtain ⟨z1, e1, w1⟩ := trod_int3 (x := xs[1]'(by omega)) (h1.trans (by simp [hxl]))
  simp [Value.cells] at e0 e1
  subst e0; subst e1
  exact ⟨z0, z1, rfl⟩
set_option maxRecDepth 100000 in
theorem nums3_arg {r : Reach} {b0 : Nat} {v : Value} {d : DataW H} {p : List MemPlace} (hv : Value.okWide Try.prog W r b0 60 v) (h : DataW.Trod enc Try.prog W base spare held 60 v d p) : ∃ z0 z1 z2, v = .agg #[.int .i64 z0, .int .i64 z1, .int .i64 z2] := by
  have hc60 : Try.prog.cellsOf 60 = 3 := by kernel_rfl
  obtain ⟨cs, rfl, hsz⟩ : ∃ cs, v = .agg cs ∧ cs.size = Try.prog.cellsOf 60 := by
    simp only [Value.okWide, Try.underlying60] at hv
    obtain ⟨cs, h1, h2, _⟩ := hv
    exact ⟨cs, h1, h2⟩
  obtain ⟨fuel, hf⟩ := h
  obtain ⟨xs, m, _, _, hlen, hxl, hx⟩ := DataW.trod_array Try.underlying60 hf
  obtain ⟨l, rfl⟩ : ∃ l : List Value, cs = l.toArray := ⟨cs.toList, by simp⟩
  rw [hc60] at hsz
  obtain ⟨c0, c1, c2, rfl⟩ := list3 (by simpa using hsz)
  have h0 := hx 0 (by omega)
  have h1 := hx 1 (by omega)
  have h2 := hx 2 (by omega)
  rw [cells3] at h0 h1 h2
  obtain ⟨z0, e0, w0⟩ := trod_int3 (x := xs[0]'(by omega)) (h0.trans (by simp [hxl]))
  obtain ⟨z1, e1, w1⟩ := trod_int3 (x := xs[1]'(by omega)) (h1.trans (by simp [hxl]))
  obtain ⟨z2, e2, w2⟩ := trod_int3 (x := xs[2]'(by omega)) (h2.trans (by simp [hxl]))
  simp [Value.cells] at e0 e1 e2
  subst e0; subst e1; subst e2
  exact ⟨z0, z1, z2, rfl⟩
set_option maxRecDepth 100000 in
theorem nums4_arg {r : Reach} {b0 : Nat} {v : Value} {d : DataW H} {p : List MemPlace} (hv : Value.okWide Try.prog W r b0 78 v) (h : DataW.Trod enc Try.prog W base spare held 78 v d p) : ∃ z0 z1 z2 z3, v = .agg #[.int .i64 z0, .int .i64 z1, .int .i64 z2, .int .i64 z3] := by
  have hc78 : Try.prog.cellsOf 78 = 4 := by kernel_rfl
  obtain ⟨cs, rfl, hsz⟩ : ∃ cs, v = .agg cs ∧ cs.size = Try.prog.cellsOf 78 := by
    simp only [Value.okWide, Try.underlying78] at hv
    obtain ⟨cs, h1, h2, _⟩ := hv
    exact ⟨cs, h1, h2⟩
  obtain ⟨fuel, hf⟩ := h
  obtain ⟨xs, m, _, _, hlen, hxl, hx⟩ := DataW.trod_array Try.underlying78 hf
  obtain ⟨l, rfl⟩ : ∃ l : List Value, cs = l.toArray := ⟨cs.toList, by simp⟩
  rw [hc78] at hsz
  obtain ⟨c0, c1, c2, c3, rfl⟩ := list4 (by simpa using hsz)
  have h0 := hx 0 (by omega)
  have h1 := hx 1 (by omega)
  have h2 := hx 2 (by omega)
  have h3 := hx 3 (by omega)
  rw [cells3] at h0 h1 h2 h3
  obtain ⟨z0, e0, w0⟩ := trod_int3 (x := xs[0]'(by omega)) (h0.trans (by simp [hxl]))
  obtain ⟨z1, e1, w1⟩ := trod_int3 (x := xs[1]'(by omega)) (h1.trans (by simp [hxl]))
  obtain ⟨z2, e2, w2⟩ := trod_int3 (x := xs[2]'(by omega)) (h2.trans (by simp [hxl]))
  obtain ⟨z3, e3, w3⟩ := trod_int3 (x := xs[3]'(by omega)) (h3.trans (by simp [hxl]))
  simp [Value.cells] at e0 e1 e2 e3
  subst e0; subst e1; subst e2; subst e3
  exact ⟨z0, z1, z2, z3, rfl⟩
theorem weights_of {ts : List TypeId} {ds : List (DataW H)} (hsz : (DataW.weightsEach Try.prog ts ds).all (· ≤ reachBytes) = true) (j : Nat) {t : TypeId} {d : DataW H} (ht : ts[j]? = some t) (hd : ds[j]? = some d) : ∀ m ∈ d.weights Try.prog t, m ≤ reachBytes := fun m hm => by
  have := List.all_eq_true.1 hsz m (DataW.weights_mem_each ht hd m hm)
  simpa using this
end

end Go.Proofs.Ytmjelgonhpgmbaa
