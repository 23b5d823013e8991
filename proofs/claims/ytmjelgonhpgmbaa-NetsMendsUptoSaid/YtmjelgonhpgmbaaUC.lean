/- A valid torn net's bars: what the mathematics asks; the pieces that are told. -/
import Derived.Test.YtmjelgonhpgmbaaUB
set_option linter.unusedSimpArgs false
set_option linter.unusedVariables false
namespace Go.Proofs.Ytmjelgonhpgmbaa
open Go Go.RowKit Go.Shelf

theorem torn_keys {T : TornD} (h : tornB T = true) : ∀ i j, i < j → j < T.bars.length → barKey (T.bars.getD i ⟨0, 0⟩) ≠ barKey (T.bars.getD j ⟨0, 0⟩) := by
  unfold tornB at h
  rw [Bool.and_eq_true] at h
  intro i j hij hj e
  have h1 := List.all_eq_true.1 h.2 j (List.mem_range.2 hj)
  rw [barGood_eq hj, Bool.and_eq_true] at h1
  have h7 := barMap_has T.bars hij (Nat.le_of_lt hj)
  rw [getD_of (by omega), getD_of hj] at e
  rw [e] at h7
  have h6 := h1.1
  cases hh : (barMapTo T.bars j).find (barKey T.bars[j]) <;> rw [hh] at h6 h7 <;> simp at h6 h7
theorem torn_told {T : TornD} (h : tornB T = true) : Tw.Told T.bars ∧ Tw.Bars T.bars (T.wide * T.high).toNat ∧ T.bars.length + (T.wide * T.high).toNat ≤ 96 := by
  have ok := torn_ok h
  have hm := mul_36 ok.1 ok.2.1
  have hb : ∀ s ∈ T.bars, 0 ≤ s.lo ∧ s.lo < s.hi ∧ s.hi < T.wide * T.high := fun s hs => by
    have := ok.2.2.2.2.2 s hs
    unfold isBarB at this
    rw [Bool.and_eq_true, Bool.and_eq_true] at this
    obtain ⟨h1, h2, h3⟩ := this
    have h1 := inB_spec h1
    have h2 := inB_spec h2
    simp only [Bool.or_eq_true, Bool.and_eq_true, beq_iff_eq] at h3
    omega
  refine ⟨⟨fun s hs => (hb s hs).2.1, fun i j hi hj e => ?_⟩, ⟨fun s hs => ?_, fun s hs => ?_⟩, by have := ok.2.2.2.2.1; omega⟩
  · rcases Nat.lt_trichotomy i j with h' | h' | h'
    · exact absurd e (torn_keys h i j h' hj)
    · exact h'
    · exact absurd e.symm (torn_keys h j i h' hi)
  · have := hb s hs; omega
  · have := hb s hs; omega
theorem allBars_two (wide high : Nat) : (allBars wide high).length ≤ 2 * (wide * high) := by
  unfold allBars
  generalize wide * high = n
  have : ∀ m, ((List.range m).flatMap fun k => (if (k + 1) % wide != 0 then [((k : Int), (k : Int) + 1)] else []) ++ (if k + wide < n then [((k : Int), (k : Int) + wide)] else [])).length ≤ 2 * m := fun m => by
    induction m with
    | zero => simp
    | succ m ih =>
      rw [List.range_succ, List.flatMap_append, List.length_append]
      simp only [List.flatMap_cons, List.flatMap_nil, List.append_nil, List.length_append]
      split <;> split <;> simp only [List.length_cons, List.length_nil] <;> omega
  exact this n
theorem torn_len {T : TornD} (h : tornB T = true) : (T.bars.length : Int) ≤ 2 * (T.wide * T.high) := by
  have ok := torn_ok h
  obtain ⟨a, ha⟩ : ∃ a : Nat, T.wide = a := ⟨T.wide.toNat, by have := ok.1; omega⟩
  obtain ⟨b, hb⟩ : ∃ b : Nat, T.high = b := ⟨T.high.toNat, by have := ok.2.1; omega⟩
  have hn : (T.bars.map fun s => (s.lo, s.hi)).Nodup := by
    rw [List.nodup_iff_pairwise_ne, List.pairwise_iff_getElem]
    intro i j hi hj hij e
    simp only [List.length_map, List.getElem_map] at hi hj e
    have := torn_keys h i j hij hj
    rw [getD_of hi, getD_of hj] at this
    exact this e
  have h1 := nodup_len _ (allBars a b) hn fun x hx => by
    rw [List.mem_map] at hx
    obtain ⟨s, hs, rfl⟩ := hx
    have := ok.2.2.2.2.2 s hs
    rw [ha, hb] at this
    exact (isBar_mem (by have := ok.1; omega) this).1
  have h2 := allBars_two a b
  rw [List.length_map] at h1
  rw [ha, hb]
  have : ((a * b : Nat) : Int) = (a : Int) * b := Int.natCast_mul a b
  omega
theorem isMend_iff {T : TornD} (h : tornB T = true) (ps : List (List Int)) : isMendB T ps = true ↔ ∃ qs : List (List Int × List Nat), ps = qs.map (·.1) ∧ Tw.Mends T.bars qs :=
  Tw.mends_iff (torn_told h).1 (by have := (torn_ok h).2.2.2.2.1; omega) ps
theorem mend_told {T : TornD} (h : tornB T = true) : ∃ qs : List (List Int × List Nat), mendF T.bars T.wide T.high = qs.map (·.1) ∧ Tw.Mends T.bars qs ∧ ∀ rs, Tw.Mends T.bars rs → qs.length ≤ rs.length := by
  obtain ⟨_, hB, hl⟩ := torn_told h
  have hm := mul_36 (torn_ok h).1 (torn_ok h).2.1
  have := Tw.mend_best hB hl
  rw [show (((T.wide * T.high).toNat : Nat) : Int) = T.wide * T.high by omega] at this
  exact this
theorem mend_empty {T : TornD} (h : tornB T = true) (h0 : T.bars.length = 0) : mendF T.bars T.wide T.high = [] := by
  obtain ⟨qs, e, _, hb⟩ := mend_told h
  have := hb [] ⟨fun q hq => (by cases hq), by simp, fun i hi => by omega⟩
  have hq : qs = [] := List.eq_nil_of_length_eq_zero (by simpa using this)
  rw [e, hq]; rfl
theorem mends_piece {bars : List Spn} {qs : List (List Int × List Nat)} (h : Tw.Mends bars qs) : ∀ q ∈ qs, q.1.length ≤ bars.length + 1 := fun q hq => by
  have hw := (h.good q hq).1
  have hn : q.2.Nodup := by
    have := h.nodup
    obtain ⟨a, b, e⟩ := List.append_of_mem hq
    rw [e, List.flatMap_append, List.flatMap_cons] at this
    exact (List.nodup_append.1 (List.nodup_append.1 this).2.1).1
  have := nodup_len q.2 (List.range bars.length) hn fun i hi => List.mem_range.2 (hw.lt i hi)
  rw [List.length_range] at this
  have := Tw.way_two hw
  omega

end Go.Proofs.Ytmjelgonhpgmbaa
