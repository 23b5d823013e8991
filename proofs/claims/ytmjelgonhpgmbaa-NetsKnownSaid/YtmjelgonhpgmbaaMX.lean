/- What the laws share: a chosen truth, a checked fleet. -/
import Derived.Test.YtmjelgonhpgmbaaMW
import Derived.Test.YtmjelgonhpgmbaaMT
import Derived.Test.YtmjelgonhpgmbaaMU
set_option linter.unusedSimpArgs false
set_option linter.unusedVariables false
namespace Go.Proofs.Ytmjelgonhpgmbaa
open Go Go.RowKit Go.Shelf

theorem four_tr {n0 : Nat} {w : World} {v1 v2 v3 v4 : Value} {T : TruthD} (h : Four n0 w v1 v2 v3 v4 T.east T.north T.se T.sn) (h1 : T.east.length ≤ 1000) (h2 : T.north.length ≤ 1000) (h3 : T.se.length ≤ 1000) (h4 : T.sn.length ≤ 1000) : TrAt w (.agg #[v1, v2, v3, v4]) T :=
  ⟨v1, v2, v3, v4, rfl, ints_row h.row1 h1, ints_row h.row2 h2, ints_row h.row3 h3, ints_row h.row4 h4⟩
theorem chosenT_len {F : FleetD} (hF : FleetOk F) (bits : List Int) : (chosenT F bits).east.length = F.east.length ∧ (chosenT F bits).north.length = F.east.length ∧ (chosenT F bits).se.length = F.nets.length ∧ (chosenT F bits).sn.length = F.nets.length := by
  unfold chosenT
  simp only [chTo_len, and_self]
theorem chosen_four (F : FleetD) (hF : fleetB F = true) (bits : List Int) (fv bv : Value) (w : World) (hf : FlAt w fv F) (hb : IntsAt w bv bits) :
    Cal 25 #[fv, bv] w fun e w' => ∃ v1 v2 v3 v4, e = .returned (.agg #[v1, v2, v3, v4]) ∧ Ext w w' ∧ Four w.heap.size w' v1 v2 v3 v4 (chosenT F bits).east (chosenT F bits).north (chosenT F bits).se (chosenT F bits).sn := by
  obtain ⟨ev, nv, sv, rfl, h1, h2, h3⟩ := hf
  exact chosen_any F hF bits ev nv sv bv w h1 h2 h3 hb
theorem four_of {F : FleetD} (hF : fleetB F = true) {bits : List Int} {n0 : Nat} {w : World} {v1 v2 v3 v4 : Value} (h : Four n0 w v1 v2 v3 v4 (chosenT F bits).east (chosenT F bits).north (chosenT F bits).se (chosenT F bits).sn) : TrAt w (.agg #[v1, v2, v3, v4]) (chosenT F bits) := by
  have ok := fleetB_ok hF
  have hl := chosenT_len ok bits
  have h1 := ok.hours
  have h2 := ok.count
  exact four_tr h (by omega) (by omega) (by omega) (by omega)
theorem chosen_c (F : FleetD) (hF : fleetB F = true) (bits : List Int) (fv bv : Value) (w : World) (hf : FlAt w fv F) (hb : IntsAt w bv bits) :
    Cal 25 #[fv, bv] w fun e w' => ∃ v, e = .returned v ∧ TrAt w' v (chosenT F bits) ∧ Ext w w' :=
  (chosen_four F hF bits fv bv w hf hb).mono fun e w' ⟨v1, v2, v3, v4, h1, h2, h3⟩ => ⟨_, h1, four_of hF h3, h2⟩
theorem sound_c (F : FleetD) (fv : Value) (w : World) (hf : FlAt w fv F) : Cal 22 #[fv] w fun e w' => e = .returned (.bool (fleetB F)) ∧ Ext w w' := by
  obtain ⟨ev, nv, sv, rfl, h1, h2, h3⟩ := hf
  exact sound_any F ev nv sv w h1 h2 h3
theorem sound_b (F : FleetD) (b : Bool) (hb : fleetB F = b) (fv : Value) (w : World) (hf : FlAt w fv F) : Cal 22 #[fv] w fun e w' => e = .returned (.bool b) ∧ Ext w w' := hb ▸ sound_c F fv w hf
theorem Check_c (F : FleetD) (fv : Value) (w : World) (hf : FlAt w fv F) : Cal 23 #[fv] w fun e w' => e = .returned (.int .i64 (checkE F)) ∧ Ext w w' := by
  obtain ⟨ev, nv, sv, rfl, h1, h2, h3⟩ := hf
  exact Check_any F ev nv sv w h1 h2 h3
theorem pairHour_c (F : FleetD) (hF : fleetB F = true) (fv : Value) (n0 n1 n2 : Int) (w : World) (hf : FlAt w fv F) : Cal 27 #[fv, .agg #[.int .i64 n0, .int .i64 n1, .int .i64 n2]] w fun e w' => e = .returned (pairV F n0 n1 n2) ∧ Ext w w' := by
  obtain ⟨ev, nv, sv, rfl, h1, h2, h3⟩ := hf
  exact pairHour_any F hF ev nv sv n0 n1 n2 w h1 h2 h3
theorem can_none {F : FleetD} (hF : fleetB F = true) (h : (trips F).find? (foulCt F) = none) : canV F = #[.int .i64 0, .int .i64 0, .int .i64 0] ∧ canE F = 4 := by
  unfold canV canE
  rw [hF, h]
  exact ⟨rfl, rfl⟩
theorem can_some {F : FleetD} (hF : fleetB F = true) {x : Nat × Nat × Nat} (h : (trips F).find? (foulCt F) = some x) : canV F = #[.int .i64 x.1, .int .i64 x.2.1, .int .i64 x.2.2] ∧ canE F = 0 := by
  unfold canV canE
  rw [hF, h]
  exact ⟨rfl, rfl⟩
theorem can_bad {F : FleetD} (hF : fleetB F = false) : canV F = #[.int .i64 0, .int .i64 0, .int .i64 0] ∧ canE F = 20 ∧ checkE F = 20 := by
  unfold canV canE checkE
  rw [hF]
  exact ⟨rfl, rfl, rfl⟩
theorem fouls_none {F : FleetD} {T : TruthD} (hF : fleetB F = true) (hT : truthB F T = true) (h : (trips F).find? (foulLt F T) = none) : foulsV F T = #[.int .i64 0, .int .i64 0, .int .i64 0] ∧ foulsE F T = 4 := by
  unfold foulsV foulsE
  rw [hF, hT, h]
  exact ⟨rfl, rfl⟩
theorem fouls_some {F : FleetD} {T : TruthD} (hF : fleetB F = true) (hT : truthB F T = true) {x : Nat × Nat × Nat} (h : (trips F).find? (foulLt F T) = some x) : foulsV F T = #[.int .i64 x.1, .int .i64 x.2.1, .int .i64 x.2.2] ∧ foulsE F T = 0 := by
  unfold foulsV foulsE
  rw [hF, hT, h]
  exact ⟨rfl, rfl⟩
theorem lies_ok {F : FleetD} {T : TruthD} (hF : fleetB F = true) (hT : truthB F T = true) {i : Nat} {n : NetD} (hn : F.nets[i]? = some n) {h : Int} (hh : n.shot ≤ h ∧ h ≤ n.haul) : liesE F T i h = 0 ∧ liesVe F T i h = where_eF T n i h ∧ liesVn F T i h = where_nF T n i h := by
  obtain ⟨hi, rfl⟩ := List.getElem?_eq_some_iff.1 hn
  have h1 : hasB F (i : Int) h = true := by
    unfold hasB lieB
    rw [inB_of (n := (i : Int)) (by omega), Int.toNat_natCast, getD_of hi, inB_of hh]
    rfl
  have h0 : liesE F T i h = 0 := by unfold liesE; rw [hF, hT, h1]; rfl
  refine ⟨h0, ?_, ?_⟩
  · unfold liesVe netOf; rw [if_pos h0, Int.toNat_natCast, getD_of hi]
  · unfold liesVn netOf; rw [if_pos h0, Int.toNat_natCast, getD_of hi]
theorem apart_ok {F : FleetD} (hF : fleetB F = true) {i k : Nat} (hne : i ≠ k) {a b : NetD} (ha : F.nets[i]? = some a) (hb : F.nets[k]? = some b) {h : Int} (h1 : a.shot ≤ h ∧ h ≤ a.haul) (h2 : b.shot ≤ h ∧ h ≤ b.haul) : apartE F i k h = 0 ∧ apartVe F i k h = apart_eF F a b h ∧ apartVn F i k h = apart_nF F a b h := by
  obtain ⟨hi, rfl⟩ := List.getElem?_eq_some_iff.1 ha
  obtain ⟨hk, rfl⟩ := List.getElem?_eq_some_iff.1 hb
  have q1 : hasB F (i : Int) h = true := by
    unfold hasB lieB
    rw [inB_of (n := (i : Int)) (by omega), Int.toNat_natCast, getD_of hi, inB_of h1]
    rfl
  have q2 : hasB F (k : Int) h = true := by
    unfold hasB lieB
    rw [inB_of (n := (k : Int)) (by omega), Int.toNat_natCast, getD_of hk, inB_of h2]
    rfl
  have q3 : ((i : Int) == (k : Int)) = false := by rw [beq_eq_false_iff_ne]; omega
  have h0 : apartE F i k h = 0 := by unfold apartE; rw [hF, q1, q2, q3]; rfl
  refine ⟨h0, ?_, ?_⟩
  · unfold apartVe netOf; rw [if_pos h0, Int.toNat_natCast, Int.toNat_natCast, getD_of hi, getD_of hk]
  · unfold apartVn netOf; rw [if_pos h0, Int.toNat_natCast, Int.toNat_natCast, getD_of hi, getD_of hk]
theorem pair_facts {F : FleetD} {n0 n1 : Int} (h : pairOk F n0 n1 = true) : ∃ a b, F.nets[pairI F n0]? = some a ∧ F.nets[pairK F n0 n1]? = some b ∧ pairI F n0 ≠ pairK F n0 n1 ∧ (a.shot ≤ pairLo F n0 n1 ∧ b.shot ≤ pairLo F n0 n1 ∧ pairLo F n0 n1 = mx a.shot b.shot ∧ pairLo F n0 n1 = max a.shot b.shot) ∧ (pairHi F n0 n1 ≤ a.haul ∧ pairHi F n0 n1 ≤ b.haul) ∧ pairLo F n0 n1 ≤ pairHi F n0 n1 := by
  unfold pairOk at h
  rw [Bool.and_eq_true, decide_eq_true_iff, decide_eq_true_iff] at h
  obtain ⟨h1, h2, h3, _, _⟩ := pair_lt h.1 n0 n1
  refine ⟨F.nets[pairI F n0], F.nets[pairK F n0 n1], List.getElem?_eq_getElem _, List.getElem?_eq_getElem _, h3, ?_, ?_, h.2⟩
  · unfold pairLo
    rw [getD_of h1, getD_of h2]
    unfold mx
    refine ⟨by omega, by omega, ?_, rfl⟩
    split <;> omega
  · unfold pairHi
    rw [getD_of h1, getD_of h2]
    omega
def qTr (T : TruthD) (v : Value) (u : World) : Prop := TrAt u v T
theorem qTr_s (T : TruthD) : ∀ v u u', qTr T v u → Ext u u' → qTr T v u' := fun _ _ _ h hx => h.mono hx

end Go.Proofs.Ytmjelgonhpgmbaa
