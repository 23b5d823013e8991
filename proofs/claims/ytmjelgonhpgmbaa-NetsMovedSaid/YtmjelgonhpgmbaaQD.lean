/- end: the truth in which two nets are as far apart as can be. -/
import Derived.Test.YtmjelgonhpgmbaaQC
set_option linter.unusedSimpArgs false
set_option linter.unusedVariables false
namespace Go.Proofs.Ytmjelgonhpgmbaa
open Go Go.RowKit Go.Shelf

/-- One number of a row is written. -/
theorem Row.put {w : World} {g cap n : Nat} {l : List Int} (h : Row w 3 1 (.slice (some ⟨g, 0, none⟩) n cap) l.length (intsV l)) {j : Nat} (hj : j < l.length) (x : Int) : Row (w.setCell ⟨g, j, none⟩ (.int .i64 x)) 3 1 (.slice (some ⟨g, 0, none⟩) n cap) (l.set j x).length (intsV (l.set j x)) := by
  obtain ⟨h1, h2⟩ := h
  rcases h2 with ⟨e, _⟩ | ⟨g', cap', cur, e, hg, h3, h4, h5, h6⟩
  · cases e
  · cases e
    refine ⟨by simp [intsV], .inr ⟨g, cap, _, by rw [List.length_set], set_same hg j _, by rw [List.length_set]; exact h3, h4, by simpa using h5, ?_⟩⟩
    rw [List.length_set, Array.toList_setIfInBounds, List.take_set, h6]
    unfold intsV
    rw [List.map_set]
theorem Row.atCell {w : World} {g cap n : Nat} {l : List Int} (h : Row w 3 1 (.slice (some ⟨g, 0, none⟩) n cap) l.length (intsV l)) {j : Nat} (hj : j < l.length) : ∃ cur : Array Value, w.heap[g]? = some (.cells cur 3 (0, 0)) ∧ cur[j]? = some (.int .i64 l[j]) := by
  obtain ⟨h1, h2⟩ := h
  rcases h2 with ⟨e, _⟩ | ⟨g', cap', cur, e, hg, h3, h4, h5, h6⟩
  · cases e
  · cases e
    refine ⟨cur, hg, ?_⟩
    have := congrArg (fun q => q[j]?) h6
    simp only [List.getElem?_take] at this
    rw [if_pos (by omega)] at this
    rw [← Array.getElem?_toList, this]
    simp [intsV, hj]
theorem Four.put1 {n0 : Nat} {w : World} {g cap n : Nat} {v2 v3 v4 : Value} {r1 r2 r3 r4 : List Int} (h : Four n0 w (.slice (some ⟨g, 0, none⟩) n cap) v2 v3 v4 r1 r2 r3 r4) {j : Nat} (hj : j < r1.length) (x : Int) : Four n0 (w.setCell ⟨g, j, none⟩ (.int .i64 x)) (.slice (some ⟨g, 0, none⟩) n cap) v2 v3 v4 (r1.set j x) r2 r3 r4 where
  row1 := h.row1.put hj x
  row2 := h.row2.set (h.d12 g rfl) _ _
  row3 := h.row3.set (h.d13 g rfl) _ _
  row4 := h.row4.set (h.d14 g rfl) _ _
  own1 := h.own1
  own2 := h.own2
  own3 := h.own3
  own4 := h.own4
  d12 := h.d12
  d13 := h.d13
  d14 := h.d14
  d21 := h.d21
  d23 := h.d23
  d24 := h.d24
  d31 := h.d31
  d32 := h.d32
  d34 := h.d34
  d41 := h.d41
  d42 := h.d42
  d43 := h.d43

theorem Four.put3 {n0 : Nat} {w : World} {g cap n : Nat} {v1 v2 v4 : Value} {r1 r2 r3 r4 : List Int} (h : Four n0 w v1 v2 (.slice (some ⟨g, 0, none⟩) n cap) v4 r1 r2 r3 r4) {j : Nat} (hj : j < r3.length) (x : Int) : Four n0 (w.setCell ⟨g, j, none⟩ (.int .i64 x)) v1 v2 (.slice (some ⟨g, 0, none⟩) n cap) v4 r1 r2 (r3.set j x) r4 where
  row1 := h.row1.set (h.d31 g rfl) _ _
  row2 := h.row2.set (h.d32 g rfl) _ _
  row3 := h.row3.put hj x
  row4 := h.row4.set (h.d34 g rfl) _ _
  own1 := h.own1
  own2 := h.own2
  own3 := h.own3
  own4 := h.own4
  d12 := h.d12
  d13 := h.d13
  d14 := h.d14
  d21 := h.d21
  d23 := h.d23
  d24 := h.d24
  d31 := h.d31
  d32 := h.d32
  d34 := h.d34
  d41 := h.d41
  d42 := h.d42
  d43 := h.d43

theorem row_some {w : World} {x : Option Addr} {n cap m : Nat} {xs : List Value} (h : Row w 3 1 (.slice x n cap) m xs) (hm : 0 < m) : ∃ g, x = some ⟨g, 0, none⟩ := by
  obtain ⟨_, h2⟩ := h
  rcases h2 with ⟨e, h0⟩ | ⟨g, c, cur, e, _⟩
  · omega
  · cases e; exact ⟨g, rfl⟩
def endAt (l : List Spn) (sa sb : Int) (least : Bool) (j : Nat) : Int := if (decide (sa ≤ j) && decide ((j : Int) < sb)) != least then (l.getD j ⟨0, 0⟩).hi else (l.getD j ⟨0, 0⟩).lo
theorem endT_zero (l : List Spn) (t : List Int) (sa sb : Int) (least : Bool) : endT l t sa sb 0 least = t := by
  apply List.ext_getElem?
  intro j
  unfold endT
  simp only [List.getElem?_map]
  rcases Nat.lt_or_ge j t.length with h | h
  · simp [h]
  · simp [h]
theorem endT_succ (l : List Spn) (t : List Int) (sa sb : Int) (least : Bool) {h : Nat} (hh : h < t.length) : endT l t sa sb (h + 1) least = (endT l t sa sb h least).set h (endAt l sa sb least h) := by
  apply List.ext_getElem?
  intro j
  rw [List.getElem?_set, endT_len]
  unfold endT endAt
  rcases Nat.lt_or_ge j t.length with hj | hj
  · simp only [List.getElem?_map, List.getElem?_range hj, Option.map_some]
    by_cases e : h = j
    · subst e; rw [if_pos (by omega), if_pos rfl, if_pos hj]
    · rw [if_neg e]
      by_cases q : j < h
      · rw [if_pos (by omega), if_pos q]
      · rw [if_neg (by omega), if_neg q]
  · rw [if_neg (by omega)]
    simp [hj]
def endTr (F : FleetD) (a b : NetD) (i k h : Nat) (least : Bool) : TruthD := ⟨endT F.east (chosenT F []).east a.shot b.shot h least, (chosenT F []).north, ((chosenT F []).se.set i (if least then a.se.lo else a.se.hi)).set k (if least then b.se.hi else b.se.lo), (chosenT F []).sn⟩
theorem within_set {l : List Int} {s : List Spn} (h : withinB l s = true) {i : Nat} {x : Int} (hi : ∀ (h2 : i < s.length), s[i].lo ≤ x ∧ x ≤ s[i].hi) : withinB (l.set i x) s = true := by
  obtain ⟨h1, h2⟩ := withinB_spec h
  unfold withinB
  rw [List.length_set, h1, allTo_yes (good := withinGood (l.set i x) s) fun j hj => by
    rw [withinGood_eq hj (by rw [List.length_set]; omega)]
    apply inB_of
    rw [List.getElem_set]
    split
    · next e => subst e; exact hi hj
    · exact h2 j (by omega) hj]
  simp
theorem endTr_ok {F : FleetD} (hF : FleetOk F) {a b : NetD} {i k : Nat} (ha : F.nets[i]? = some a) (hb : F.nets[k]? = some b) (h : Nat) (least : Bool) : truthB F (endTr F a b i k h least) = true := by
  have hc := chosenT_ok hF []
  have oa := hF.nets a (List.mem_of_getElem? ha)
  have ob := hF.nets b (List.mem_of_getElem? hb)
  obtain ⟨hi, ea⟩ := List.getElem?_eq_some_iff.1 ha
  obtain ⟨hk, eb⟩ := List.getElem?_eq_some_iff.1 hb
  unfold truthB at hc ⊢
  simp only [Bool.and_eq_true] at hc ⊢
  obtain ⟨h1, h2, h3, h4⟩ := hc
  refine ⟨?_, ?_, h3, h4⟩
  · obtain ⟨e1, e2⟩ := withinB_spec h1
    unfold endTr withinB
    simp only
    rw [endT_len, e1, allTo_yes (good := withinGood _ F.east) fun j hj => by
      rw [withinGood_eq hj (by rw [endT_len]; omega)]
      apply inB_of
      have hjt : j < (chosenT F []).east.length := by omega
      have hq := hF.easto _ (List.getElem_mem hj)
      have he := e2 j hjt hj
      rcases Nat.lt_or_ge j h with hh | hh
      · have := endT_get F.east (chosenT F []).east a.shot b.shot h least hjt hh
        rw [List.getElem?_eq_getElem (by rw [endT_len]; exact hjt)] at this
        rw [Option.some.inj this, getD_of hj]
        split <;> omega
      · have : (endT F.east (chosenT F []).east a.shot b.shot h least)[j]'(by rw [endT_len]; exact hjt) = (chosenT F []).east[j] := by
          unfold endT
          simp only [List.getElem_map, List.getElem_range]
          rw [if_neg (by omega), getD_of hjt]
        rw [this]; exact he]
    simp
  · unfold endTr
    simp only
    refine within_set (within_set h2 fun q => ?_) fun q => ?_
    · rw [List.getElem_map, ea]; have := oa.seo; cases least <;> simp <;> omega
    · rw [List.getElem_map, eb]; have := ob.seo; cases least <;> simp <;> omega
theorem endTr_far {F : FleetD} (hF : FleetOk F) {a b : NetD} {i k : Nat} (hne : i ≠ k) (ha : F.nets[i]? = some a) (hb : F.nets[k]? = some b) {h : Nat} (hh : mx a.shot b.shot ≤ h) (hl : h ≤ F.east.length) :
    where_eF (endTr F a b i k h true) a i h - where_eF (endTr F a b i k h true) b k h = (apart_eF F a b h).lo ∧ where_eF (endTr F a b i k h false) a i h - where_eF (endTr F a b i k h false) b k h = (apart_eF F a b h).hi := by
  have oa := hF.nets a (List.mem_of_getElem? ha)
  have ob := hF.nets b (List.mem_of_getElem? hb)
  obtain ⟨hi, ea⟩ := List.getElem?_eq_some_iff.1 ha
  obtain ⟨hk, eb⟩ := List.getElem?_eq_some_iff.1 hb
  have hlen := chosenT_len hF []
  have s1 : ∀ x y : Int, (((chosenT F []).se.set i x).set k y).getD i 0 = x := fun x y => by
    rw [getD_of (by simp; omega), List.getElem_set_ne (by omega), List.getElem_set_self]
  have s2 : ∀ x y : Int, (((chosenT F []).se.set i x).set k y).getD k 0 = y := fun x y => by
    rw [getD_of (by simp; omega), List.getElem_set_self]
  have := side_end (l := F.east) (t := (chosenT F []).east) hlen.1 a.east b.east (h := h) (ea := a.se) (eb := b.se) oa.shot.1 ob.shot.1 hh hl
  rw [where_eG, where_eG, where_eG, where_eG, apart_eG]
  unfold endTr
  simp only [s1, s2, if_true, Bool.false_eq_true, if_false]
  exact this

end Go.Proofs.Ytmjelgonhpgmbaa
