/- NetsTwine: its numbers (pure): how often pieces end at knots; odd knots. -/
import Derived.Test.YtmjelgonhpgmbaaUC
set_option linter.unusedSimpArgs false
set_option linter.unusedVariables false
namespace Go.Proofs.Ytmjelgonhpgmbaa
open Go Go.RowKit Go.Shelf

/-- How often so many pieces end at a knot. -/
def endsP (ps : List (List Int)) (i : Nat) (k : Nat) : Nat := ((ps.take i).map fun p => Tw.endsAt k p).sum
theorem endsP_zero (ps : List (List Int)) : endsP ps 0 = fun _ => 0 := by funext k; simp [endsP]
theorem endsP_succ (ps : List (List Int)) {i : Nat} (hi : i < ps.length) (k : Nat) : endsP ps (i + 1) k = endsP ps i k + Tw.endsAt k ps[i] := by
  unfold endsP
  rw [List.take_succ_eq_append_getElem hi, List.map_append, List.sum_append_nat]; simp
theorem endsAt_le (k : Int) (p : List Int) : Tw.endsAt k p ≤ 2 := by unfold Tw.endsAt; split <;> split <;> omega
theorem endsP_le (ps : List (List Int)) (k : Nat) : ∀ i, i ≤ ps.length → endsP ps i k ≤ 2 * i
  | 0, _ => by simp [endsP]
  | i + 1, h => by
    rw [endsP_succ ps (by omega)]
    have := endsP_le ps k i (by omega)
    have := endsAt_le k (ps[i]'(by omega))
    omega
theorem endsP_all (qs : List (List Int × List Nat)) (k : Nat) : endsP (qs.map (·.1)) (qs.map (·.1)).length k = Tw.endsOf k qs := by
  unfold endsP Tw.endsOf
  rw [List.take_length, List.map_map]; rfl
theorem endsP_two (ps : List (List Int)) {i a b : Nat} (hi : i < ps.length) (ha : ps[i].head? = some (a : Int)) (hb : ps[i].getLast? = some (b : Int)) (k : Nat) :
    endsP ps (i + 1) k = (if k = b then (if k = a then endsP ps i k + 1 else endsP ps i k) + 1 else (if k = a then endsP ps i k + 1 else endsP ps i k)) := by
  rw [endsP_succ ps hi]
  unfold Tw.endsAt
  have h1 : (ps[i].head? = some (k : Int)) ↔ k = a := by rw [ha]; exact ⟨fun h => by have := Option.some.inj h; omega, fun h => by rw [h]⟩
  have h2 : (ps[i].getLast? = some (k : Int)) ↔ k = b := by rw [hb]; exact ⟨fun h => by have := Option.some.inj h; omega, fun h => by rw [h]⟩
  by_cases e1 : k = a <;> by_cases e2 : k = b
  · rw [if_pos (h1.2 e1), if_pos (h2.2 e2), if_pos e2, if_pos e1]
  · rw [if_pos (h1.2 e1), if_neg (fun h => e2 (h2.1 h)), if_neg e2, if_pos e1]
  · rw [if_neg (fun h => e1 (h1.1 h)), if_pos (h2.2 e2), if_pos e2, if_neg e1]
  · rw [if_neg (fun h => e1 (h1.1 h)), if_neg (fun h => e2 (h2.1 h)), if_neg e2, if_neg e1]; rfl
/-- How many of so many knots are odd. -/
def oddN (bars : List Spn) (k : Nat) : Nat := Tw.sumTo (fun j => meetN bars (j : Int) % 2) k
theorem oddN_succ (bars : List Spn) (k : Nat) : oddN bars (k + 1) = oddN bars k + meetN bars (k : Int) % 2 := rfl
theorem oddN_le (bars : List Spn) : ∀ k, oddN bars k ≤ k
  | 0 => Nat.le_refl _
  | k + 1 => by rw [oddN_succ]; have := oddN_le bars k; omega
theorem odd_ends {bars : List Spn} {P : Nat} (hB : Tw.Bars bars P) {qs : List (List Int × List Nat)} (h : Tw.Mends bars qs) : oddN bars P ≤ 2 * qs.length := by
  have h1 := Tw.grp_ends_all (g := fun _ => 0) (c := 0) (P := P) (qs := qs) fun q hq => ⟨(h.good q hq).1.ne_nil, (h.good q hq).1.knots (Tw.bars_at hB) (h.good q hq).2, fun _ _ => rfl⟩
  have h2 : Tw.numOf (fun _ => 0) 0 qs = qs.length := by
    unfold Tw.numOf
    rw [List.countP_eq_length]
    intro q _; rfl
  rw [h2] at h1
  rw [← h1]
  unfold oddN Tw.grpSum
  refine Tw.sumTo_le fun k _ => ?_
  rw [if_pos rfl, h.par hB]
  exact Nat.mod_le _ _
/-- Integers in a block. -/
def iArr (f : Nat → Nat) (n : Nat) : Array Value := ((List.range n).map fun c => Value.int .i64 (f c)).toArray
theorem iArr_get {f : Nat → Nat} {n k : Nat} (h : k < n) : (iArr f n)[k]? = some (.int .i64 (f k)) := by simp [iArr, h]
theorem iArr_set (f : Nat → Nat) {n k : Nat} (h : k < n) : (iArr f n).setIfInBounds k (.int .i64 ((f k : Int) + 1)) = iArr (fun j => if j = k then f j + 1 else f j) n := by
  apply Array.ext
  · simp [iArr]
  · intro j h1 h2
    simp only [iArr, List.setIfInBounds_toArray, List.getElem_toArray, List.getElem_set, List.getElem_map, List.getElem_range]
    by_cases e : k = j
    · subst e; rw [if_pos rfl, if_pos rfl]; simp
    · rw [if_neg e, if_neg fun h => e h.symm]
theorem made_ints (n : Nat) : madeCells #[.int .i64 0] n = iArr (fun _ => 0) n := by
  apply Array.ext_getElem?
  intro j
  by_cases hj : j < n
  · rw [iArr_get hj]; simp [madeCells, hj, Nat.mod_one]
  · simp [madeCells, iArr, hj]
theorem make_ints (w : World) (H : Int) (n : Nat) (h : H = n) (hn : n ≤ 1000) : (Instr.makeSlice 41 (.int .i64 H) (.int .i64 H)).run Try.prog w = .ok (.slice (some ⟨w.heap.size, 0, none⟩) n n) (w.alloc (.cells (iArr (fun _ => 0) n) 3)) := by
  subst h
  obtain ⟨i0, hi, hz0, hz1, hz2⟩ := info_parts info3
  have := run_make (P := Try.prog) w 41 3 i0 (.int .i64 0) Try.underlying41 hi hz0 .i64 .i64 n n (by omega) (by omega) (by rw [hz2]; omega) (by omega)
  rw [this]; simp [hz1, Value.cells, made_ints]

end Go.Proofs.Ytmjelgonhpgmbaa
