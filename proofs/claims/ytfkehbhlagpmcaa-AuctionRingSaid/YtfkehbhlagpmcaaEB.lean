/- What a statement's arguments are. -/
import Derived.Test.YtfkehbhlagpmcaaEA
import Derived.Test.YtfkehbhlagpmcaaRows
import Derived.ProofKit
import Derived.OpenShut
import Derived.ChangeOld
import Derived.Below
import Derived.Deep.Slices
import Derived.SizedLaws
set_option linter.unusedSimpArgs false
set_option linter.unusedVariables false
namespace Go.Proofs.Ytfkehbhlagpmcaa
open Go Go.RowKit Go.Shelf
open Go.ChangeShapes Go.WideShapes Go.ChangeAt
theorem own : ownKnob Try.prog.godebug = none := by kernel_rfl
theorem laidOut : laidOutB Try.prog = true := by kernel_rfl
theorem reach_eq : reachBytes = 140737488351232 := by kernel_rfl
theorem bytes3 : Try.prog.bytesOf 3 = 8 := by kernel_rfl
theorem weights_mem_all {H : Type} {e : TypeId} : ∀ {ds : List (DataW H)} {d : DataW H}, d ∈ ds → ∀ m ∈ d.weights Try.prog e, m ∈ DataW.weightsAll Try.prog e ds
  | [], _, h, _, _ => absurd h (by simp)
  | a :: ds, d, h, m, hm => by
    rw [DataW.weightsAll, List.mem_append]
    rcases List.mem_cons.1 h with rfl | h
    · exact Or.inl hm
    · exact Or.inr (weights_mem_all h m hm)
section
variable {H : Type} {enc : TypeId × Value → H} {W : World} {base fuel : Nat} {spare : Nat → Bool} {held : Bool} {x : DataW H × List MemPlace} {cs : List Value}
theorem trod_int3 (h : DataW.trod enc Try.prog W base spare held fuel 3 cs = some x) : ∃ n, cs = [.int .i64 n] ∧ (Lit.int .i64 n).wf = true := by
  obtain ⟨n, h1, _, h3⟩ := DataW.trod_int Try.underlying3 h
  exact ⟨n, h1, h3⟩
theorem trod_slice_at {t e : TypeId} {sz : Nat} (ht : Try.prog.underlying t = some (.slice e)) (hc : Try.prog.cellsOf e = sz) (hsz : 0 < sz) (h : DataW.trod enc Try.prog W base spare held fuel t cs = some x) (hw : ∀ m ∈ x.1.weights Try.prog t, m ≤ reachBytes) (hby : 1 ≤ Try.prog.bytesOf e) :
    ∃ (a : Option Addr) (len cap : Nat), cs = [.slice a len cap] ∧ (len ≤ cap ∧ len ≤ 1000000000000000) ∧ ∀ i, i < len → ∃ b off n cs' y, a = some ⟨b, off, none⟩ ∧ b < W.heap.size ∧ cs'.length = sz ∧ (∀ j, j < sz → W.cell? ⟨b, off + i * sz + j, none⟩ = cs'[j]?) ∧ DataW.trod enc Try.prog W base spare held n e cs' = some y := by
  rcases Go.Deep.open_slice ht h with ⟨rfl, _⟩ | ⟨a, len, cap, m, n, D, Pl, rfl, _, hl, hm, hmm, hxe, hx⟩
  · exact ⟨none, 0, 0, rfl, ⟨by omega, by omega⟩, fun i hi => by omega⟩
  · have hlen : len ≤ 140737488351232 := by
      have h1 := hw ((((List.range len).map D).length + ((List.range (m - len)).map fun j => D (len + j)).length) * Try.prog.bytesOf e) (by
        simp only [hxe, DataW.weights, ht]
        exact List.mem_cons_self)
      have h2 : len * 1 ≤ (((List.range len).map D).length + ((List.range (m - len)).map fun j => D (len + j)).length) * Try.prog.bytesOf e := Nat.mul_le_mul (by simp) hby
      have h3 := reach_eq
      omega
    refine ⟨some a, len, cap, rfl, ⟨hl, by omega⟩, fun i hi => ?_⟩
    have hlm : len ≤ m := by rw [hmm]; split <;> omega
    rw [hc] at hx
    obtain ⟨cs0, h0, _⟩ := hx 0 (by omega)
    obtain ⟨_, hl0, hc0⟩ := World.cells?_some h0
    obtain ⟨v0, hv0⟩ : ∃ v, cs0[0]? = some v := ⟨cs0[0]'(by omega), by simp [hl0, hsz]⟩
    have hcell0 := (hc0 0 hsz).trans hv0
    have hsp : a.spot = none := by simpa [Addr.add] using World.cell?_spot hcell0
    have hbl : a.block < W.heap.size := by have := World.block_lt_of_cell? W _ hcell0; simpa [Addr.add] using this
    obtain ⟨b, off, spot⟩ := a
    simp only at hsp hbl
    subst hsp
    obtain ⟨cs', h1, h2⟩ := hx i (by omega)
    obtain ⟨_, hl1, hc1⟩ := World.cells?_some h1
    refine ⟨b, off, n, cs', _, rfl, hbl, hl1, fun j hj => ?_, h2⟩
    rw [← hc1 j hj, Go.Deep.add_add, Addr.add_mid, Nat.add_assoc]
theorem trod_slice_atW {t e : TypeId} {sz : Nat} (ht : Try.prog.underlying t = some (.slice e)) (hc : Try.prog.cellsOf e = sz) (hsz : 0 < sz) (h : DataW.trod enc Try.prog W base spare held fuel t cs = some x) (hw : ∀ m ∈ x.1.weights Try.prog t, m ≤ reachBytes) (hby : 1 ≤ Try.prog.bytesOf e) :
    ∃ (a : Option Addr) (len cap : Nat), cs = [.slice a len cap] ∧ (len ≤ cap ∧ len ≤ 1000000000000000) ∧ ∀ i, i < len → ∃ b off n cs' y, a = some ⟨b, off, none⟩ ∧ b < W.heap.size ∧ cs'.length = sz ∧ (∀ j, j < sz → W.cell? ⟨b, off + i * sz + j, none⟩ = cs'[j]?) ∧ DataW.trod enc Try.prog W base spare held n e cs' = some y ∧ ∀ m ∈ y.1.weights Try.prog e, m ≤ reachBytes := by
  rcases Go.Deep.open_slice ht h with ⟨rfl, _⟩ | ⟨a, len, cap, m, n, D, Pl, rfl, _, hl, hm, hmm, hxe, hx⟩
  · exact ⟨none, 0, 0, rfl, ⟨by omega, by omega⟩, fun i hi => by omega⟩
  · have hlen : len ≤ 140737488351232 := by
      have h1 := hw ((((List.range len).map D).length + ((List.range (m - len)).map fun j => D (len + j)).length) * Try.prog.bytesOf e) (by
        simp only [hxe, DataW.weights, ht]
        exact List.mem_cons_self)
      have h2 : len * 1 ≤ (((List.range len).map D).length + ((List.range (m - len)).map fun j => D (len + j)).length) * Try.prog.bytesOf e := Nat.mul_le_mul (by simp) hby
      have h3 := reach_eq
      omega
    refine ⟨some a, len, cap, rfl, ⟨hl, by omega⟩, fun i hi => ?_⟩
    have hlm : len ≤ m := by rw [hmm]; split <;> omega
    rw [hc] at hx
    obtain ⟨cs0, h0, _⟩ := hx 0 (by omega)
    obtain ⟨_, hl0, hc0⟩ := World.cells?_some h0
    obtain ⟨v0, hv0⟩ : ∃ v, cs0[0]? = some v := ⟨cs0[0]'(by omega), by simp [hl0, hsz]⟩
    have hcell0 := (hc0 0 hsz).trans hv0
    have hsp : a.spot = none := by simpa [Addr.add] using World.cell?_spot hcell0
    have hbl : a.block < W.heap.size := by have := World.block_lt_of_cell? W _ hcell0; simpa [Addr.add] using this
    obtain ⟨b, off, spot⟩ := a
    simp only at hsp hbl
    subst hsp
    obtain ⟨cs', h1, h2⟩ := hx i (by omega)
    obtain ⟨_, hl1, hc1⟩ := World.cells?_some h1
    refine ⟨b, off, n, cs', _, rfl, hbl, hl1, fun j hj => ?_, h2, fun q hq => hw q (by
      simp only [hxe, DataW.weights, ht]
      exact List.mem_cons_of_mem _ (List.mem_append_left _ (weights_mem_all (List.mem_map.2 ⟨i, List.mem_range.2 hi, rfl⟩) q hq)))⟩
    rw [← hc1 j hj, Go.Deep.add_add, Addr.add_mid, Nat.add_assoc]
theorem choose_list {α : Type} [Inhabited α] {n : Nat} {p : Nat → α → Prop} (h : ∀ i, i < n → ∃ x, p i x) : ∃ l : List α, l.length = n ∧ ∀ i (hi : i < l.length), p i l[i] := by
  obtain ⟨f, hf⟩ := Go.Deep.choose_lt h
  refine ⟨(List.range n).map f, by simp, fun i hi => ?_⟩
  have hi' : i < n := by simpa using hi
  simpa using hf i hi'
theorem ints_open (h : DataW.trod enc Try.prog W base spare held fuel 35 cs = some x) (hw : ∀ m ∈ x.1.weights Try.prog 35, m ≤ reachBytes) : ∃ v xs, cs = [v] ∧ IntsAt W v xs := by
  obtain ⟨a, len, cap, rfl, hl, hx⟩ := trod_slice_at Try.underlying35 cells3 (by omega) h hw (by rw [bytes3]; omega)
  obtain ⟨xs, hxl, hxs⟩ := choose_list (α := Int) (n := len) (p := fun i z => ∃ b off, a = some ⟨b, off, none⟩ ∧ b < W.heap.size ∧ W.cell? ⟨b, off + i, none⟩ = some (.int .i64 z)) fun i hi => by
    obtain ⟨b, off, n, cs', y, ha, hb, hc, hcell, hy⟩ := hx i hi
    obtain ⟨z, rfl, _⟩ := trod_int3 hy
    exact ⟨z, b, off, ha, hb, by have := hcell 0 (by omega); first | exact this | simpa using this⟩
  exact ⟨_, xs, rfl, a, cap, by rw [hxl], by omega, hxs⟩
set_option maxRecDepth 100000 in
theorem ints_arg {r : Reach} {b0 : Nat} {v : Value} {d : DataW H} {p : List MemPlace} (hv : Value.okWide Try.prog W r b0 35 v) (h : DataW.Trod enc Try.prog W base spare held 35 v d p) (hw : ∀ m ∈ d.weights Try.prog 35, m ≤ reachBytes) : ∃ xs, IntsAt W v xs := by
  obtain ⟨a, len, cap, rfl⟩ := okWide_slice Try.underlying35 hv
  obtain ⟨fuel, hf⟩ := h
  obtain ⟨v', xs, e, hc⟩ := ints_open hf hw
  simp [Value.cells] at e
  subst e
  exact ⟨xs, hc⟩
set_option maxRecDepth 100000 in
theorem int_arg {r : Reach} {b0 : Nat} {v : Value} {d : DataW H} {p : List MemPlace} (hv : Value.okWide Try.prog W r b0 3 v) (h : DataW.Trod enc Try.prog W base spare held 3 v d p) : ∃ n, v = .int .i64 n ∧ (Lit.int .i64 n).wf = true := by
  obtain ⟨n, rfl⟩ : ∃ n, v = .int .i64 n := by
    simp only [Value.okWide, Try.underlying3] at hv
    cases v with
    | int k n => exact ⟨n, by rw [hv.1]⟩
    | _ => cases hv
  obtain ⟨fuel, hf⟩ := h
  obtain ⟨z, e, w⟩ := trod_int3 hf
  simp [Value.cells] at e
  subst e
  exact ⟨_, rfl, w⟩
theorem weights_of {ts : List TypeId} {ds : List (DataW H)} (hsz : (DataW.weightsEach Try.prog ts ds).all (· ≤ reachBytes) = true) (j : Nat) {t : TypeId} {d : DataW H} (ht : ts[j]? = some t) (hd : ds[j]? = some d) : ∀ m ∈ d.weights Try.prog t, m ≤ reachBytes := fun m hm => by
  have := List.all_eq_true.1 hsz m (DataW.weights_mem_each ht hd m hm)
  simpa using this
end
theorem fields24 : (Try.prog.underlying 24).map (fun d => match d with | .struct fs => fs.toList.map (fun f => (f.type, f.offset)) | _ => []) = some [(3, 0), (3, 1), (22, 2)] := by kernel_rfl
theorem fields66 : (Try.prog.underlying 66).map (fun d => match d with | .struct fs => fs.toList.map (fun f => (f.type, f.offset)) | _ => []) = some [(3, 0), (3, 1)] := by kernel_rfl
theorem cells24 : Try.prog.cellsOf 24 = 3 := by kernel_rfl
theorem cells22 : Try.prog.cellsOf 22 = 1 := by kernel_rfl
theorem cells35 : Try.prog.cellsOf 35 = 1 := by kernel_rfl
theorem cells66 : Try.prog.cellsOf 66 = 2 := by kernel_rfl
theorem bytes35 : Try.prog.bytesOf 35 = 24 := by kernel_rfl
theorem bytes66 : Try.prog.bytesOf 66 = 16 := by kernel_rfl
theorem lst3 {l : List Value} (h : l.length = 3) : ∃ c0 c1 c2, l = [c0, c1, c2] := by
  match l, h with
  | [a, b, c], _ => exact ⟨a, b, c, rfl⟩
theorem lst2 {l : List Value} (h : l.length = 2) : ∃ c0 c1, l = [c0, c1] := by
  match l, h with
  | [a, b], _ => exact ⟨a, b, rfl⟩
section
variable {H : Type} {enc : TypeId × Value → H} {W : World} {base fuel : Nat} {spare : Nat → Bool} {held : Bool} {x : DataW H × List MemPlace} {cs : List Value}
theorem trod_fields {t : TypeId} {l : List (TypeId × Nat)} (hf : (Try.prog.underlying t).map (fun d => match d with | .struct fs => fs.toList.map (fun f => (f.type, f.offset)) | _ => []) = some l) (hl : l ≠ []) (h : DataW.trod enc Try.prog W base spare held fuel t cs = some x) :
    ∃ n, cs.length = Try.prog.cellsOf t ∧ ∀ p ∈ l, ∃ y, DataW.trod enc Try.prog W base spare held n p.1 ((cs.drop p.2).take (Try.prog.cellsOf p.1)) = some y ∧ ∀ m ∈ y.1.weights Try.prog p.1, m ∈ x.1.weights Try.prog t := by
  cases hu : Try.prog.underlying t with
  | none => rw [hu] at hf; cases hf
  | some d =>
    rw [hu] at hf
    cases d with
    | struct fs =>
      simp only [Option.map_some, Option.some.injEq] at hf
      obtain ⟨xs, n, _, hxe, hlen, hxl, hx⟩ := DataW.trod_struct hu h
      refine ⟨n, hlen, fun p hp => ?_⟩
      rw [← hf] at hp
      obtain ⟨f, hfm, rfl⟩ := List.mem_map.1 hp
      obtain ⟨i, hi, hfi⟩ := List.getElem_of_mem hfm
      have hi' : i < fs.size := by simpa using hi
      have h1 := hx i f (by rw [← hfi]; simp [hi'])
      have hi2 : i < xs.length := by omega
      refine ⟨xs[i], by rw [h1]; simp [hi2], fun m hm => ?_⟩
      simp only [hxe, DataW.weights, hu]
      exact DataW.weights_mem_each (j := i) (t := f.type) (d := xs[i].1) (by rw [List.getElem?_map, Array.getElem?_toList, ← hfi]; simp [hi']) (by simp [hi2]) m hm
    | _ => simp at hf; first | exact absurd hf hl | exact absurd hf.symm hl

theorem lists_open (h : DataW.trod enc Try.prog W base spare held fuel 22 cs = some x) (hw : ∀ m ∈ x.1.weights Try.prog 22, m ≤ reachBytes) : ∃ v xs, cs = [v] ∧ ListsAt W v xs := by
  obtain ⟨a, len, cap, rfl, hl, hx⟩ := trod_slice_atW Try.underlying22 cells35 (by omega) h hw (by rw [bytes35]; omega)
  obtain ⟨xs, hxl, hxs⟩ := choose_list (α := List Int) (n := len) (p := fun i z => ∃ b off u, a = some ⟨b, off, none⟩ ∧ b < W.heap.size ∧ W.cell? ⟨b, off + i, none⟩ = some u ∧ IntsAt W u z) fun i hi => by
    obtain ⟨b, off, n, cs', y, ha, hb, hc, hcell, hy, hwy⟩ := hx i hi
    obtain ⟨u, z, rfl, hz⟩ := ints_open hy hwy
    exact ⟨z, b, off, u, ha, hb, by have := hcell 0 (by omega); first | exact this | simpa using this, hz⟩
  exact ⟨_, xs, rfl, a, cap, by rw [hxl], by omega, hxs⟩
set_option maxRecDepth 100000 in
theorem sale_arg {r : Reach} {b0 : Nat} {v : Value} {d : DataW H} {p : List MemPlace} (hv : Value.okWide Try.prog W r b0 24 v) (h : DataW.Trod enc Try.prog W base spare held 24 v d p) (hw : ∀ m ∈ d.weights Try.prog 24, m ≤ reachBytes) : ∃ (s : Au.Sal) (u : Value), v = saleV s u ∧ ListsAt W u s.offers := by
  obtain ⟨fs, hfs0⟩ : ∃ fs, Try.prog.underlying 24 = some (.struct fs) := ⟨_, Try.underlying24⟩
  obtain ⟨cs, rfl, hsz⟩ := okWide_struct hfs0 hv
  obtain ⟨fuel, hf⟩ := h
  obtain ⟨m, hlen, hfs⟩ := trod_fields fields24 (by simp) hf
  obtain ⟨y0, h0, gh0⟩ := hfs (3, 0) (by simp)
  obtain ⟨y1, h1, gh1⟩ := hfs (3, 1) (by simp)
  obtain ⟨y2, h2, gh2⟩ := hfs (22, 2) (by simp)
  obtain ⟨l, rfl⟩ : ∃ l : List Value, cs = l.toArray := ⟨cs.toList, by simp⟩
  rw [cells24] at hsz
  obtain ⟨c0, c1, c2, rfl⟩ := lst3 (by simpa using hsz)
  rw [cells3] at h0 h1
  rw [cells22] at h2
  obtain ⟨z0, e0, _⟩ := trod_int3 h0
  obtain ⟨z1, e1, _⟩ := trod_int3 h1
  obtain ⟨v2, l2, e2, k2⟩ := lists_open h2 (fun m hm => hw m (gh2 m hm))
  simp [Value.cells] at e0 e1 e2
  subst e0; subst e1; subst e2
  obtain ⟨a2, p2, q2, _⟩ := id k2
  subst q2
  exact ⟨⟨z0, z1, l2⟩, _, rfl, k2⟩
end

end Go.Proofs.Ytfkehbhlagpmcaa
