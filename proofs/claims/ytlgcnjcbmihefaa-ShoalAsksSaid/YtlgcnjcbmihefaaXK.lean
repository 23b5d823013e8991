/- What a statement's arguments are. -/
import Derived.Test.YtlgcnjcbmihefaaXJ
import Derived.Test.YtlgcnjcbmihefaaRows
import Derived.ProofKit
import Derived.OpenShut
import Derived.ChangeOld
import Derived.Below
import Derived.Deep.Slices
import Derived.SizedLaws
set_option linter.unusedSimpArgs false
set_option linter.unusedVariables false
namespace Go.Proofs.Ytlgcnjcbmihefaa
open Go Go.RowKit Go.Shelf
open Go.ChangeShapes Go.WideShapes Go.ChangeAt

theorem own : ownKnob Try.prog.godebug = none := by kernel_rfl
theorem laidOut : laidOutB Try.prog = true := by kernel_rfl
theorem fields25 : (Try.prog.underlying 25).map (fun d => match d with | .struct fs => fs.toList.map (fun f => (f.type, f.offset)) | _ => []) = some [(3, 0), (3, 1), (22, 2), (3, 3), (23, 4), (3, 5)] := by kernel_rfl
theorem fields28 : (Try.prog.underlying 28).map (fun d => match d with | .struct fs => fs.toList.map (fun f => (f.type, f.offset)) | _ => []) = some [(25, 0), (26, 6)] := by kernel_rfl
theorem fields70 : (Try.prog.underlying 70).map (fun d => match d with | .struct fs => fs.toList.map (fun f => (f.type, f.offset)) | _ => []) = some [(3, 0), (3, 1)] := by kernel_rfl
theorem fields64 : (Try.prog.underlying 64).map (fun d => match d with | .struct fs => fs.toList.map (fun f => (f.type, f.offset)) | _ => []) = some [(3, 0), (3, 1)] := by kernel_rfl
theorem fields52 : (Try.prog.underlying 52).map (fun d => match d with | .struct fs => fs.toList.map (fun f => (f.type, f.offset)) | _ => []) = some [(3, 0), (3, 1), (3, 2), (4, 3)] := by kernel_rfl
theorem cells3 : Try.prog.cellsOf 3 = 1 := by kernel_rfl
theorem cells4 : Try.prog.cellsOf 4 = 1 := by kernel_rfl
theorem cells22 : Try.prog.cellsOf 22 = 1 := by kernel_rfl
theorem cells23 : Try.prog.cellsOf 23 = 1 := by kernel_rfl
theorem cells26 : Try.prog.cellsOf 26 = 1 := by kernel_rfl
theorem cells25 : Try.prog.cellsOf 25 = 6 := by kernel_rfl
theorem cells28 : Try.prog.cellsOf 28 = 7 := by kernel_rfl
theorem cells70 : Try.prog.cellsOf 70 = 2 := by kernel_rfl
theorem cells64 : Try.prog.cellsOf 64 = 2 := by kernel_rfl
theorem reach_eq : reachBytes = 140737488351232 := by kernel_rfl
theorem bytes3 : Try.prog.bytesOf 3 = 8 := by kernel_rfl
theorem bytes70 : Try.prog.bytesOf 70 = 16 := by kernel_rfl
theorem bytes64 : Try.prog.bytesOf 64 = 16 := by kernel_rfl
theorem bytes52 : Try.prog.bytesOf 52 = 32 := by kernel_rfl
theorem cells52 : Try.prog.cellsOf 52 = 4 := by kernel_rfl

theorem list2 {l : List Value} (h : l.length = 2) : ∃ a b, l = [a, b] := by
  match l, h with
  | [a, b], _ => exact ⟨a, b, rfl⟩
theorem list4 {l : List Value} (h : l.length = 4) : ∃ a b c d, l = [a, b, c, d] := by
  match l, h with
  | [a, b, c, d], _ => exact ⟨a, b, c, d, rfl⟩
theorem list6 {l : List Value} (h : l.length = 6) : ∃ a b c d e f, l = [a, b, c, d, e, f] := by
  match l, h with
  | [a, b, c, d, e, f], _ => exact ⟨a, b, c, d, e, f, rfl⟩
theorem list7 {l : List Value} (h : l.length = 7) : ∃ a b c d e f g, l = [a, b, c, d, e, f, g] := by
  match l, h with
  | [a, b, c, d, e, f, g], _ => exact ⟨a, b, c, d, e, f, g, rfl⟩
section
variable {H : Type} {enc : TypeId × Value → H} {W : World} {base fuel : Nat} {spare : Nat → Bool} {held : Bool} {x : DataW H × List MemPlace} {cs : List Value}

/-- A struct's fields, one after the other. -/
theorem trod_fields {t : TypeId} {l : List (TypeId × Nat)} (hf : (Try.prog.underlying t).map (fun d => match d with | .struct fs => fs.toList.map (fun f => (f.type, f.offset)) | _ => []) = some l) (hl : l ≠ []) (h : DataW.trod enc Try.prog W base spare held fuel t cs = some x) :
    ∃ n, cs.length = Try.prog.cellsOf t ∧ ∀ p ∈ l, ∃ y, DataW.trod enc Try.prog W base spare held n p.1 ((cs.drop p.2).take (Try.prog.cellsOf p.1)) = some y ∧ ∀ m ∈ y.1.weights Try.prog p.1, m ∈ x.1.weights Try.prog t := by
  cases hu : Try.prog.underlying t with
  | none => rw [hu] at hf; cases hf
  | some d =>
    rw [hu] at hf
    cases d with
    | struct fs =>
      simp only [Option.map_some, Option.some.injEq] at hf
      obtain ⟨xs, n, _, hxe, hlen, hxl, hx⟩ := DataW.trod_struct hu h
      refine ⟨n, hlen, fun p hp => ?_⟩
      rw [← hf] at hp
      obtain ⟨f, hfm, rfl⟩ := List.mem_map.1 hp
      obtain ⟨i, hi, hfi⟩ := List.getElem_of_mem hfm
      have hi' : i < fs.size := by simpa using hi
      have h1 := hx i f (by rw [← hfi]; simp [hi'])
      have hi2 : i < xs.length := by omega
      refine ⟨xs[i], by rw [h1]; simp [hi2], fun m hm => ?_⟩
      simp only [hxe, DataW.weights, hu]
      exact DataW.weights_mem_each (j := i) (t := f.type) (d := xs[i].1) (by rw [List.getElem?_map, Array.getElem?_toList, ← hfi]; simp [hi']) (by simp [hi2]) m hm
    | _ => simp at hf; first | exact absurd hf hl | exact absurd hf.symm hl
theorem trod_int3 (h : DataW.trod enc Try.prog W base spare held fuel 3 cs = some x) : ∃ n, cs = [.int .i64 n] ∧ (Lit.int .i64 n).wf = true := by
  obtain ⟨n, h1, _, h3⟩ := DataW.trod_int Try.underlying3 h
  exact ⟨n, h1, h3⟩
theorem trod_bool4 (h : DataW.trod enc Try.prog W base spare held fuel 4 cs = some x) : ∃ n, cs = [.bool n] := by
  obtain ⟨n, h1, _⟩ := DataW.trod_bool Try.underlying4 h
  exact ⟨n, h1⟩

/-- A slice, element by element: the cells of each, and how each reads. -/
theorem trod_slice_at {t e : TypeId} {sz : Nat} (ht : Try.prog.underlying t = some (.slice e)) (hc : Try.prog.cellsOf e = sz) (hsz : 0 < sz) (h : DataW.trod enc Try.prog W base spare held fuel t cs = some x) (hw : ∀ m ∈ x.1.weights Try.prog t, m ≤ reachBytes) (hby : 1 ≤ Try.prog.bytesOf e) :
    ∃ (a : Option Addr) (len cap : Nat), cs = [.slice a len cap] ∧ len ≤ 1000000000000000 ∧ ∀ i, i < len → ∃ b off n cs' y, a = some ⟨b, off, none⟩ ∧ b < W.heap.size ∧ cs'.length = sz ∧ (∀ j, j < sz → W.cell? ⟨b, off + i * sz + j, none⟩ = cs'[j]?) ∧ DataW.trod enc Try.prog W base spare held n e cs' = some y := by
  rcases Go.Deep.open_slice ht h with ⟨rfl, _⟩ | ⟨a, len, cap, m, n, D, Pl, rfl, _, hl, hm, hmm, hxe, hx⟩
  · exact ⟨none, 0, 0, rfl, by omega, fun i hi => by omega⟩
  · have hlen : len ≤ 140737488351232 := by
      have h1 := hw ((((List.range len).map D).length + ((List.range (m - len)).map fun j => D (len + j)).length) * Try.prog.bytesOf e) (by
        simp only [hxe, DataW.weights, ht]
        exact List.mem_cons_self)
      have h2 : len * 1 ≤ (((List.range len).map D).length + ((List.range (m - len)).map fun j => D (len + j)).length) * Try.prog.bytesOf e := Nat.mul_le_mul (by simp) hby
      have h3 := reach_eq
      omega
    refine ⟨some a, len, cap, rfl, by omega, fun i hi => ?_⟩
    have hlm : len ≤ m := by rw [hmm]; split <;> omega
    rw [hc] at hx
    obtain ⟨cs0, h0, _⟩ := hx 0 (by omega)
    obtain ⟨_, hl0, hc0⟩ := World.cells?_some h0
    obtain ⟨v0, hv0⟩ : ∃ v, cs0[0]? = some v := ⟨cs0[0]'(by omega), by simp [hl0, hsz]⟩
    have hcell0 := (hc0 0 hsz).trans hv0
    have hsp : a.spot = none := by simpa [Addr.add] using World.cell?_spot hcell0
    have hbl : a.block < W.heap.size := by have := World.block_lt_of_cell? W _ hcell0; simpa [Addr.add] using this
    obtain ⟨b, off, spot⟩ := a
    simp only at hsp hbl
    subst hsp
    obtain ⟨cs', h1, h2⟩ := hx i (by omega)
    obtain ⟨_, hl1, hc1⟩ := World.cells?_some h1
    refine ⟨b, off, n, cs', _, rfl, hbl, hl1, fun j hj => ?_, h2⟩
    rw [← hc1 j hj, Go.Deep.add_add, Addr.add_mid, Nat.add_assoc]
/-- One function for all the elements. -/
theorem choose_list {α : Type} [Inhabited α] {n : Nat} {p : Nat → α → Prop} (h : ∀ i, i < n → ∃ x, p i x) : ∃ l : List α, l.length = n ∧ ∀ i (hi : i < l.length), p i l[i] := by
  obtain ⟨f, hf⟩ := Go.Deep.choose_lt h
  refine ⟨(List.range n).map f, by simp, fun i hi => ?_⟩
  have hi' : i < n := by simpa using hi
  simpa using hf i hi'
theorem ints_open (h : DataW.trod enc Try.prog W base spare held fuel 22 cs = some x) (hw : ∀ m ∈ x.1.weights Try.prog 22, m ≤ reachBytes) : ∃ v xs, cs = [v] ∧ IntsAt W v xs := by
  obtain ⟨a, len, cap, rfl, hl, hx⟩ := trod_slice_at Try.underlying22 cells3 (by omega) h hw (by rw [bytes3]; omega)
  obtain ⟨xs, hxl, hxs⟩ := choose_list (α := Int) (n := len) (p := fun i z => ∃ b off, a = some ⟨b, off, none⟩ ∧ b < W.heap.size ∧ W.cell? ⟨b, off + i, none⟩ = some (.int .i64 z)) fun i hi => by
    obtain ⟨b, off, n, cs', y, ha, hb, hc, hcell, hy⟩ := hx i hi
    obtain ⟨z, rfl, _⟩ := trod_int3 hy
    exact ⟨z, b, off, ha, hb, by have := hcell 0 (by omega); simpa using this⟩
  exact ⟨_, xs, rfl, a, cap, by rw [hxl], by omega, hxs⟩
instance : Inhabited Step := ⟨⟨0, 0⟩⟩
instance : Inhabited Rep := ⟨⟨0, 0, 0, false⟩⟩
instance : Inhabited Cst := ⟨⟨0, 0⟩⟩
theorem steps_open (h : DataW.trod enc Try.prog W base spare held fuel 23 cs = some x) (hw : ∀ m ∈ x.1.weights Try.prog 23, m ≤ reachBytes) : ∃ v xs, cs = [v] ∧ StepsAt W v xs := by
  obtain ⟨a, len, cap, rfl, hl, hx⟩ := trod_slice_at Try.underlying23 cells70 (by omega) h hw (by rw [bytes70]; omega)
  obtain ⟨xs, hxl, hxs⟩ := choose_list (α := Step) (n := len) (p := fun i z => ∃ b off, a = some ⟨b, off, none⟩ ∧ b < W.heap.size ∧ W.cell? ⟨b, off + i * 2, none⟩ = some (.int .i64 z.east) ∧ W.cell? ⟨b, off + i * 2 + 1, none⟩ = some (.int .i64 z.north)) fun i hi => by
    obtain ⟨b, off, n, cs', y, ha, hb, hc, hcell, hy⟩ := hx i hi
    obtain ⟨m, hlen, hfs⟩ := trod_fields fields70 (by simp) hy
    obtain ⟨y0, h0, gh0⟩ := hfs (3, 0) (by simp)
    obtain ⟨y1, h1, gh1⟩ := hfs (3, 1) (by simp)
    obtain ⟨c0, c1, rfl⟩ := list2 hc
    first
    | skip
      rw [cells3] at h0 h1
      obtain ⟨z0, e0, _⟩ := trod_int3 h0
      obtain ⟨z1, e1, _⟩ := trod_int3 h1
      simp at e0 e1
      subst e0; subst e1
      exact ⟨⟨z0, z1⟩, b, off, ha, hb, by have := hcell 0 (by omega); simpa using this, by have := hcell 1 (by omega); simpa using this⟩
  exact ⟨_, xs, rfl, a, cap, by rw [hxl], by omega, hxs⟩
theorem casts_open (h : DataW.trod enc Try.prog W base spare held fuel 44 cs = some x) (hw : ∀ m ∈ x.1.weights Try.prog 44, m ≤ reachBytes) : ∃ v xs, cs = [v] ∧ CastsAt W v xs := by
  obtain ⟨a, len, cap, rfl, hl, hx⟩ := trod_slice_at Try.underlying44 cells64 (by omega) h hw (by rw [bytes64]; omega)
  obtain ⟨xs, hxl, hxs⟩ := choose_list (α := Cst) (n := len) (p := fun i z => ∃ b off, a = some ⟨b, off, none⟩ ∧ b < W.heap.size ∧ W.cell? ⟨b, off + i * 2, none⟩ = some (.int .i64 z.cell) ∧ W.cell? ⟨b, off + i * 2 + 1, none⟩ = some (.int .i64 z.far)) fun i hi => by
    obtain ⟨b, off, n, cs', y, ha, hb, hc, hcell, hy⟩ := hx i hi
    obtain ⟨m, hlen, hfs⟩ := trod_fields fields64 (by simp) hy
    obtain ⟨y0, h0, gh0⟩ := hfs (3, 0) (by simp)
    obtain ⟨y1, h1, gh1⟩ := hfs (3, 1) (by simp)
    obtain ⟨c0, c1, rfl⟩ := list2 hc
    first
    | skip
      rw [cells3] at h0 h1
      obtain ⟨z0, e0, _⟩ := trod_int3 h0
      obtain ⟨z1, e1, _⟩ := trod_int3 h1
      simp at e0 e1
      subst e0; subst e1
      exact ⟨⟨z0, z1⟩, b, off, ha, hb, by have := hcell 0 (by omega); simpa using this, by have := hcell 1 (by omega); simpa using this⟩
  exact ⟨_, xs, rfl, a, cap, by rw [hxl], by omega, hxs⟩
theorem reps_open (h : DataW.trod enc Try.prog W base spare held fuel 26 cs = some x) (hw : ∀ m ∈ x.1.weights Try.prog 26, m ≤ reachBytes) : ∃ v xs, cs = [v] ∧ RepsAt W v xs := by
  obtain ⟨a, len, cap, rfl, hl, hx⟩ := trod_slice_at Try.underlying26 cells52 (by omega) h hw (by rw [bytes52]; omega)
  obtain ⟨xs, hxl, hxs⟩ := choose_list (α := Rep) (n := len) (p := fun i z => ∃ b off, a = some ⟨b, off, none⟩ ∧ b < W.heap.size ∧ W.cell? ⟨b, off + i * 4, none⟩ = some (.int .i64 z.hour) ∧ W.cell? ⟨b, off + i * 4 + 1, none⟩ = some (.int .i64 z.cell) ∧ W.cell? ⟨b, off + i * 4 + 2, none⟩ = some (.int .i64 z.far) ∧ W.cell? ⟨b, off + i * 4 + 3, none⟩ = some (.bool z.there)) fun i hi => by
    obtain ⟨b, off, n, cs', y, ha, hb, hc, hcell, hy⟩ := hx i hi
    obtain ⟨m, hlen, hfs⟩ := trod_fields fields52 (by simp) hy
    obtain ⟨y0, h0, gh0⟩ := hfs (3, 0) (by simp)
    obtain ⟨y1, h1, gh1⟩ := hfs (3, 1) (by simp)
    obtain ⟨y2, h2, gh2⟩ := hfs (3, 2) (by simp)
    obtain ⟨y3, h3, gh3⟩ := hfs (4, 3) (by simp)
    obtain ⟨c0, c1, c2, c3, rfl⟩ := list4 hc
    first
    | skip
      rw [cells3] at h0 h1 h2
      rw [cells4] at h3
      obtain ⟨z0, e0, _⟩ := trod_int3 h0
      obtain ⟨z1, e1, _⟩ := trod_int3 h1
      obtain ⟨z2, e2, _⟩ := trod_int3 h2
      obtain ⟨z3, e3⟩ := trod_bool4 h3
      simp at e0 e1 e2 e3
      subst e0; subst e1; subst e2; subst e3
      exact ⟨⟨z0, z1, z2, z3⟩, b, off, ha, hb, by have := hcell 0 (by omega); simpa using this, by have := hcell 1 (by omega); simpa using this, by have := hcell 2 (by omega); simpa using this, by have := hcell 3 (by omega); simpa using this⟩
  exact ⟨_, xs, rfl, a, cap, by rw [hxl], by omega, hxs⟩

/-- A sea and its reports, as they are handed over. -/
def SearchAt (W : World) (v : Value) (D : SeaD) (rs : List Rep) : Prop :=
  ∃ lv dv rv, v = .agg #[.int .i64 D.wide, .int .i64 D.high, lv, .int .i64 D.hours, dv, .int .i64 D.speed, rv] ∧ IntsAt W lv D.land ∧ StepsAt W dv D.drift ∧ RepsAt W rv rs
theorem SearchAt.mono {W W' : World} {v : Value} {D : SeaD} {rs : List Rep} (h : SearchAt W v D rs) (hx : Ext W W') : SearchAt W' v D rs := by
  obtain ⟨lv, dv, rv, h1, h2, h3, h4⟩ := h
  exact ⟨lv, dv, rv, h1, h2.mono hx, h3.mono hx, h4.mono hx⟩
theorem sea_open (h : DataW.trod enc Try.prog W base spare held fuel 25 cs = some x) (hw : ∀ m ∈ x.1.weights Try.prog 25, m ≤ reachBytes) : ∃ (D : SeaD) (lv dv : Value), cs = [.int .i64 D.wide, .int .i64 D.high, lv, .int .i64 D.hours, dv, .int .i64 D.speed] ∧ IntsAt W lv D.land ∧ StepsAt W dv D.drift := by
  obtain ⟨m, hlen, hfs⟩ := trod_fields fields25 (by simp) h
  rw [cells25] at hlen
  obtain ⟨y0, h0, gh0⟩ := hfs (3, 0) (by simp)
  obtain ⟨y1, h1, gh1⟩ := hfs (3, 1) (by simp)
  obtain ⟨y2, h2, gh2⟩ := hfs (22, 2) (by simp)
  obtain ⟨y3, h3, gh3⟩ := hfs (3, 3) (by simp)
  obtain ⟨y4, h4, gh4⟩ := hfs (23, 4) (by simp)
  obtain ⟨y5, h5, gh5⟩ := hfs (3, 5) (by simp)
  obtain ⟨c0, c1, c2, c3, c4, c5, rfl⟩ := list6 hlen
  first
  | skip
    rw [cells3] at h0 h1 h3 h5
    rw [cells22] at h2
    rw [cells23] at h4
    obtain ⟨z0, e0, _⟩ := trod_int3 h0
    obtain ⟨z1, e1, _⟩ := trod_int3 h1
    obtain ⟨z3, e3, _⟩ := trod_int3 h3
    obtain ⟨z5, e5, _⟩ := trod_int3 h5
    obtain ⟨v2, l2, e2, hl⟩ := ints_open h2 (fun m hm => hw m (gh2 m hm))
    obtain ⟨v4, l4, e4, hd⟩ := steps_open h4 (fun m hm => hw m (gh4 m hm))
    simp at e0 e1 e2 e3 e4 e5
    subst e0; subst e1; subst e2; subst e3; subst e4; subst e5
    exact ⟨⟨z0, z1, l2, z3, l4, z5⟩, _, _, rfl, hl, hd⟩
set_option maxRecDepth 100000 in
theorem search_open {r : Reach} {b0 : Nat} {v : Value} {d : DataW H} {p : List MemPlace} (hv : Value.okWide Try.prog W r b0 28 v) (h : DataW.Trod enc Try.prog W base spare held 28 v d p) (hw : ∀ m ∈ d.weights Try.prog 28, m ≤ reachBytes) : ∃ D rs, SearchAt W v D rs := by
  obtain ⟨fs, hfs0⟩ : ∃ fs, Try.prog.underlying 28 = some (.struct fs) := ⟨_, Try.underlying28⟩
  obtain ⟨cs, rfl, hsz⟩ := okWide_struct hfs0 hv
  obtain ⟨fuel, hf⟩ := h
  obtain ⟨m, hlen, hfs⟩ := trod_fields fields28 (by simp) hf
  obtain ⟨y0, h0, gh0⟩ := hfs (25, 0) (by simp)
  obtain ⟨y1, h1, gh1⟩ := hfs (26, 6) (by simp)
  obtain ⟨l, rfl⟩ : ∃ l : List Value, cs = l.toArray := ⟨cs.toList, by simp⟩
  rw [cells28] at hsz
  obtain ⟨c0, c1, c2, c3, c4, c5, c6, rfl⟩ := list7 (by simpa using hsz)
  first
  | skip
    rw [cells25] at h0
    rw [cells26] at h1
    obtain ⟨D, lv, dv, e0, hl, hd⟩ := sea_open h0 (fun m hm => hw m (gh0 m hm))
    obtain ⟨rv, rs, e1, hr⟩ := reps_open h1 (fun m hm => hw m (gh1 m hm))
    simp [Value.cells] at e0 e1
    obtain ⟨rfl, rfl, rfl, rfl, rfl, rfl⟩ := e0
    subst e1
    exact ⟨D, rs, _, _, _, rfl, hl, hd, hr⟩
set_option maxRecDepth 100000 in
theorem nums2_open {r : Reach} {b0 : Nat} {v : Value} {d : DataW H} {p : List MemPlace} (hv : Value.okWide Try.prog W r b0 38 v) (h : DataW.Trod enc Try.prog W base spare held 38 v d p) : ∃ a b, v = .agg #[.int .i64 a, .int .i64 b] ∧ (Lit.int .i64 a).wf = true ∧ (Lit.int .i64 b).wf = true := by
  have hc38 : Try.prog.cellsOf 38 = 2 := by kernel_rfl
  obtain ⟨cs, rfl, hsz⟩ : ∃ cs, v = .agg cs ∧ cs.size = Try.prog.cellsOf 38 := by
    simp only [Value.okWide, Try.underlying38] at hv
    obtain ⟨cs, h1, h2, _⟩ := hv
    exact ⟨cs, h1, h2⟩
  obtain ⟨fuel, hf⟩ := h
  obtain ⟨xs, m, _, _, hlen, hxl, hx⟩ := DataW.trod_array Try.underlying38 hf
  obtain ⟨l, rfl⟩ : ∃ l : List Value, cs = l.toArray := ⟨cs.toList, by simp⟩
  rw [hc38] at hsz
  obtain ⟨c0, c1, rfl⟩ := list2 (by simpa using hsz)
  have h0 := hx 0 (by omega)
  have h1 := hx 1 (by omega)
  rw [cells3] at h0 h1
  obtain ⟨z0, e0, w0⟩ := trod_int3 (x := xs[0]'(by omega)) (h0.trans (by simp [hxl]))
  obtain ⟨z1, e1, w1⟩ := trod_int3 (x := xs[1]'(by omega)) (h1.trans (by simp [hxl]))
  simp [Value.cells] at e0 e1
  subst e0; subst e1
  exact ⟨z0, z1, rfl, w0, w1⟩
set_option maxRecDepth 100000 in
theorem casts_arg {r : Reach} {b0 : Nat} {v : Value} {d : DataW H} {p : List MemPlace} (hv : Value.okWide Try.prog W r b0 44 v) (h : DataW.Trod enc Try.prog W base spare held 44 v d p) (hw : ∀ m ∈ d.weights Try.prog 44, m ≤ reachBytes) : ∃ xs, CastsAt W v xs := by
  obtain ⟨a, len, cap, rfl⟩ := okWide_slice Try.underlying44 hv
  obtain ⟨fuel, hf⟩ := h
  obtain ⟨v', xs, e, hc⟩ := casts_open hf hw
  simp [Value.cells] at e
  subst e
  exact ⟨xs, hc⟩
set_option maxRecDepth 100000 in
theorem ints_arg {r : Reach} {b0 : Nat} {v : Value} {d : DataW H} {p : List MemPlace} (hv : Value.okWide Try.prog W r b0 22 v) (h : DataW.Trod enc Try.prog W base spare held 22 v d p) (hw : ∀ m ∈ d.weights Try.prog 22, m ≤ reachBytes) : ∃ xs, IntsAt W v xs := by
  obtain ⟨a, len, cap, rfl⟩ := okWide_slice Try.underlying22 hv
  obtain ⟨fuel, hf⟩ := h
  obtain ⟨v', xs, e, hc⟩ := ints_open hf hw
  simp [Value.cells] at e
  subst e
  exact ⟨xs, hc⟩
theorem weights_of {ts : List TypeId} {ds : List (DataW H)} (hsz : (DataW.weightsEach Try.prog ts ds).all (· ≤ reachBytes) = true) (j : Nat) {t : TypeId} {d : DataW H} (ht : ts[j]? = some t) (hd : ds[j]? = some d) : ∀ m ∈ d.weights Try.prog t, m ≤ reachBytes := fun m hm => by
  have := List.all_eq_true.1 hsz m (DataW.weights_mem_each ht hd m hm)
  simpa using this
end
end Go.Proofs.Ytlgcnjcbmihefaa
