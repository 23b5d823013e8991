/- Pieces as an argument; what the bound on the arguments' bulk gives. -/
import Derived.Test.YtmjelgonhpgmbaaUO
import Derived.Test.YtmjelgonhpgmbaaMW
import Derived.JoinedCond
import Derived.Deep.CondSized
set_option linter.unusedSimpArgs false
set_option linter.unusedVariables false
namespace Go.Proofs.Ytmjelgonhpgmbaa
open Go Go.RowKit Go.Shelf
open Go.ChangeShapes Go.WideShapes Go.ChangeAt

section
variable {H : Type} {enc : TypeId × Value → H} {W : World} {base : Nat} {spare : Nat → Bool} {held : Bool} {fuel : Nat} {cs : List Value} {x : DataW H × List MemPlace}
theorem bulk_one (d : DataW H) : 1 ≤ Rows.uptoBulk d := by
  cases d with
  | lit l => cases l <;> simp [Rows.uptoBulk]
  | nil => simp [Rows.uptoBulk]
  | ptr d => simp [Rows.uptoBulk]
  | slice elems spare => simp [Rows.uptoBulk]
  | agg parts => simp [Rows.uptoBulk]
  | iface t d => simp [Rows.uptoBulk]
  | map entries => simp [Rows.uptoBulk]
  | held h => simp [Rows.uptoBulk]
theorem bulk_length (l : List (DataW H)) : l.length ≤ Rows.uptoBulkAll l := by
  induction l with
  | nil => simp [Rows.uptoBulkAll]
  | cons x r ih => have := bulk_one x; simp only [Rows.uptoBulkAll, List.length_cons]; omega
theorem bulk_append (l r : List (DataW H)) : Rows.uptoBulkAll (l ++ r) = Rows.uptoBulkAll l + Rows.uptoBulkAll r := by
  induction l with
  | nil => simp [Rows.uptoBulkAll]
  | cons x l ih => simp only [List.cons_append, Rows.uptoBulkAll, ih]; omega
theorem bulk_slice (elems spare : List (DataW H)) : Rows.uptoBulkAll elems ≤ Rows.uptoBulk (.slice elems spare) := by
  simp only [Rows.uptoBulk]; omega
theorem weights_mem {P : Program} {e : TypeId} : ∀ {l : List (DataW H)} {d : DataW H}, d ∈ l → ∀ n ∈ d.weights P e, n ∈ DataW.weightsAll P e l
  | [], _, h, _, _ => by cases h
  | a :: l, d, h, n, hn => by
    show n ∈ a.weights P e ++ DataW.weightsAll P e l
    rw [List.mem_append]
    rcases List.mem_cons.1 h with rfl | h
    · exact .inl hn
    · exact .inr (weights_mem h n hn)
theorem ints_openb (h : DataW.trod enc Try.prog W base spare held fuel 41 cs = some x) (hw : ∀ m ∈ x.1.weights Try.prog 41, m ≤ reachBytes) : ∃ v xs, cs = [v] ∧ IntsAt W v xs ∧ xs.length ≤ Rows.uptoBulk x.1 := by
  obtain ⟨v, xs, e, hi⟩ := ints_open h hw
  refine ⟨v, xs, e, hi, ?_⟩
  obtain ⟨a', c', hv, _⟩ := hi
  rcases Go.Deep.open_slice Try.underlying41 h with ⟨e2, hx⟩ | ⟨a, len, cap, m, n, D, Pl, e2, _, _, _, _, hx, _⟩
  · rw [e, hv] at e2
    have : xs.length = 0 := by injection e2 with e3; injection e3
    omega
  · rw [e, hv] at e2
    have e3 : xs.length = len := by injection e2 with e3; injection e3
    have h1 := bulk_slice ((List.range len).map D) ((List.range (m - len)).map fun j => D (len + j))
    have h2 := bulk_length ((List.range len).map D)
    rw [List.length_map, List.length_range] at h2
    rw [hx, e3]
    simp only
    omega
set_option maxRecDepth 100000 in
/-- Pieces, and how great they are together. -/
theorem pieces_openb (h : DataW.trod enc Try.prog W base spare held fuel 25 cs = some x) (hw : ∀ m ∈ x.1.weights Try.prog 25, m ≤ reachBytes) : ∃ v ps, cs = [v] ∧ PiecesAt W v ps ∧ (ps.map List.length).sum ≤ Rows.uptoBulk x.1 ∧ ps.length ≤ Rows.uptoBulk x.1 := by
  obtain ⟨a0, len0, cap0, ecs, hl0, _⟩ := trod_slice_at Try.underlying25 cells41 (by omega) h hw (by rw [bytes41]; omega)
  rcases Go.Deep.open_slice Try.underlying25 h with ⟨e2, hx⟩ | ⟨a, len, cap, m, n, D, Pl, e2, _, hl, hmx, hmm, hx, hel⟩
  · exact ⟨_, [], e2, ⟨none, 0, rfl, by simp, fun i hi => absurd hi (by simp)⟩, by simp, by simp⟩
  · have elen : len0 = len := by rw [ecs] at e2; injection e2 with e3; injection e3
    have hlm : len ≤ m := by rw [hmm]; split <;> omega
    have hsl := bulk_slice ((List.range len).map D) ((List.range (m - len)).map fun j => D (len + j))
    have hd : ∀ i, i < len → ∀ q ∈ (D i).weights Try.prog 41, q ≤ reachBytes := fun i hi q hq => by
      refine hw q ?_
      rw [hx]
      show q ∈ DataW.weights Try.prog 25 (.slice _ _)
      simp only [DataW.weights, Try.underlying25]
      refine List.mem_cons_of_mem _ (List.mem_append.2 (.inl (weights_mem (List.mem_map.2 ⟨i, List.mem_range.2 hi, rfl⟩) q hq)))
    obtain ⟨ps, hpl, hps⟩ := choose_list (α := List Int) (n := len) (p := fun i z => ∃ b off pv, a = ⟨b, off, none⟩ ∧ b < W.heap.size ∧ W.cell? ⟨b, off + i, none⟩ = some pv ∧ IntsAt W pv z ∧ z.length ≤ Rows.uptoBulk (D i)) fun i hi => by
      obtain ⟨cs', h1, h2⟩ := hel i (by omega)
      obtain ⟨_, hl1, hc1⟩ := World.cells?_some h1
      obtain ⟨v', xs, e, hi', hb⟩ := ints_openb h2 (hd i hi)
      rw [cells41] at hc1
      have hcell := hc1 0 (by omega)
      subst e
      have hcell' : W.cell? ((a.add (i * 1)).add 0) = some v' := hcell
      have hsp : a.spot = none := by
        obtain ⟨cs0, h0, _⟩ := hel 0 (by omega)
        obtain ⟨_, hl0', hc0⟩ := World.cells?_some h0
        rw [cells41] at hc0 hl0'
        obtain ⟨v0, hv0⟩ : ∃ v, cs0[0]? = some v := ⟨cs0[0]'(by omega), by simp [hl0']⟩
        have hcell0 := (hc0 0 (by omega)).trans hv0
        simpa [Addr.add] using World.cell?_spot hcell0
      have hbl : a.block < W.heap.size := by
        have h3 := World.block_lt_of_cell? W _ hcell'
        by_cases hi0 : i = 0
        · simpa [Addr.add, hi0] using h3
        · simpa [Addr.add, hi0] using h3
      obtain ⟨b, off, spot⟩ := a
      simp only at hsp hbl
      subst hsp
      refine ⟨xs, b, off, v', rfl, hbl, ?_, hi', hb⟩
      rw [Go.Deep.add_add, Addr.add_mid, Nat.mul_one, Nat.add_zero] at hcell'
      exact hcell'
    refine ⟨.slice (some a) len cap, ps, e2, ⟨some a, cap, by rw [hpl], ⟨by rw [hpl]; exact hl, by rw [hpl, ← elen]; exact hl0.2⟩, fun i hi => ?_⟩, ?_, ?_⟩
    · obtain ⟨b, off, pv, e, hb, hc, hi', _⟩ := hps i hi
      exact ⟨b, off, pv, by rw [e], hb, hc, hi'⟩
    · rw [hx]
      simp only
      refine Nat.le_trans ?_ hsl
      have key : ∀ k, k ≤ len → ((ps.take k).map List.length).sum ≤ Rows.uptoBulkAll ((List.range k).map D) := fun k => by
        induction k with
        | zero => intro _; simp
        | succ k ih =>
          intro hk
          have h1 := ih (by omega)
          obtain ⟨_, _, _, _, _, _, _, h2⟩ := hps k (by omega)
          rw [List.take_succ_eq_append_getElem (by omega), List.map_append, List.sum_append_nat, List.range_succ, List.map_append, bulk_append]
          simp only [List.map_cons, List.map_nil, List.sum_cons, List.sum_nil, Rows.uptoBulkAll]
          omega
      have := key len (Nat.le_refl _)
      rw [List.take_of_length_le (by omega)] at this
      exact this
    · rw [hx]
      simp only
      have h2 := bulk_length ((List.range len).map D)
      rw [List.length_map, List.length_range] at h2
      omega
set_option maxRecDepth 100000 in
theorem pieces_arg {r : Reach} {b0 : Nat} {v : Value} {d : DataW H} {p : List MemPlace} (hv : Value.okWide Try.prog W r b0 25 v) (h : DataW.Trod enc Try.prog W base spare held 25 v d p) (hw : ∀ m ∈ d.weights Try.prog 25, m ≤ reachBytes) : ∃ ps, PiecesAt W v ps ∧ (ps.map List.length).sum ≤ Rows.uptoBulk d ∧ ps.length ≤ Rows.uptoBulk d := by
  obtain ⟨a, len, cap, rfl⟩ := okWide_slice Try.underlying25 hv
  obtain ⟨fuel, hf⟩ := h
  obtain ⟨v', ps, e, hc, h1, h2⟩ := pieces_openb hf hw
  simp [Value.cells] at e
  subst e
  exact ⟨ps, hc, h1, h2⟩
end

end Go.Proofs.Ytmjelgonhpgmbaa
