/- What the laws share: a chosen truth, a checked fleet. -/
import Derived.Test.YtmjelgonhpgmbaaGreatMW
set_option linter.unusedSimpArgs false
set_option linter.unusedVariables false
namespace Go.Proofs.YtmjelgonhpgmbaaGreat
open Go Go.RowKit Go.Shelf

theorem Check_c (F : FleetD) (fv : Value) (w : World) (hf : FlAt w fv F) : Cal 8 #[fv] w fun e w' => e = .returned (.int .i64 (checkE F)) ∧ Ext w w' := by
  obtain ⟨ev, nv, sv, rfl, h1, h2, h3⟩ := hf
  exact Check_any F ev nv sv w h1 h2 h3
theorem can_none {F : FleetD} (hF : fleetB F = true) (h : (trips F).find? (foulCt F) = none) : canV F = #[.int .i64 0, .int .i64 0, .int .i64 0] ∧ canE F = 4 := by
  unfold canV canE
  rw [hF, h]
  exact ⟨rfl, rfl⟩
theorem can_some {F : FleetD} (hF : fleetB F = true) {x : Nat × Nat × Nat} (h : (trips F).find? (foulCt F) = some x) : canV F = #[.int .i64 x.1, .int .i64 x.2.1, .int .i64 x.2.2] ∧ canE F = 0 := by
  unfold canV canE
  rw [hF, h]
  exact ⟨rfl, rfl⟩
theorem can_bad {F : FleetD} (hF : fleetB F = false) : canV F = #[.int .i64 0, .int .i64 0, .int .i64 0] ∧ canE F = 20 ∧ checkE F = 20 := by
  unfold canV canE checkE
  rw [hF]
  exact ⟨rfl, rfl, rfl⟩
theorem fouls_none {F : FleetD} {T : TruthD} (hF : fleetB F = true) (hT : truthB F T = true) (h : (trips F).find? (foulLt F T) = none) : foulsV F T = #[.int .i64 0, .int .i64 0, .int .i64 0] ∧ foulsE F T = 4 := by
  unfold foulsV foulsE
  rw [hF, hT, h]
  exact ⟨rfl, rfl⟩
theorem fouls_some {F : FleetD} {T : TruthD} (hF : fleetB F = true) (hT : truthB F T = true) {x : Nat × Nat × Nat} (h : (trips F).find? (foulLt F T) = some x) : foulsV F T = #[.int .i64 x.1, .int .i64 x.2.1, .int .i64 x.2.2] ∧ foulsE F T = 0 := by
  unfold foulsV foulsE
  rw [hF, hT, h]
  exact ⟨rfl, rfl⟩
theorem lies_ok {F : FleetD} {T : TruthD} (hF : fleetB F = true) (hT : truthB F T = true) {i : Nat} {n : NetD} (hn : F.nets[i]? = some n) {h : Int} (hh : n.shot ≤ h ∧ h ≤ n.haul) : liesE F T i h = 0 ∧ liesVe F T i h = where_eF T n i h ∧ liesVn F T i h = where_nF T n i h := by
  obtain ⟨hi, rfl⟩ := List.getElem?_eq_some_iff.1 hn
  have h1 : hasB F (i : Int) h = true := by
    unfold hasB lieB
    rw [inB_of (n := (i : Int)) (by omega), Int.toNat_natCast, getD_of hi, inB_of hh]
    rfl
  have h0 : liesE F T i h = 0 := by unfold liesE; rw [hF, hT, h1]; rfl
  refine ⟨h0, ?_, ?_⟩
  · unfold liesVe netOf; rw [if_pos h0, Int.toNat_natCast, getD_of hi]
  · unfold liesVn netOf; rw [if_pos h0, Int.toNat_natCast, getD_of hi]
theorem apart_ok {F : FleetD} (hF : fleetB F = true) {i k : Nat} (hne : i ≠ k) {a b : NetD} (ha : F.nets[i]? = some a) (hb : F.nets[k]? = some b) {h : Int} (h1 : a.shot ≤ h ∧ h ≤ a.haul) (h2 : b.shot ≤ h ∧ h ≤ b.haul) : apartE F i k h = 0 ∧ apartVe F i k h = apart_eF F a b h ∧ apartVn F i k h = apart_nF F a b h := by
  obtain ⟨hi, rfl⟩ := List.getElem?_eq_some_iff.1 ha
  obtain ⟨hk, rfl⟩ := List.getElem?_eq_some_iff.1 hb
  have q1 : hasB F (i : Int) h = true := by
    unfold hasB lieB
    rw [inB_of (n := (i : Int)) (by omega), Int.toNat_natCast, getD_of hi, inB_of h1]
    rfl
  have q2 : hasB F (k : Int) h = true := by
    unfold hasB lieB
    rw [inB_of (n := (k : Int)) (by omega), Int.toNat_natCast, getD_of hk, inB_of h2]
    rfl
  have q3 : ((i : Int) == (k : Int)) = false := by rw [beq_eq_false_iff_ne]; omega
  have h0 : apartE F i k h = 0 := by unfold apartE; rw [hF, q1, q2, q3]; rfl
  refine ⟨h0, ?_, ?_⟩
  · unfold apartVe netOf; rw [if_pos h0, Int.toNat_natCast, Int.toNat_natCast, getD_of hi, getD_of hk]
  · unfold apartVn netOf; rw [if_pos h0, Int.toNat_natCast, Int.toNat_natCast, getD_of hi, getD_of hk]
def qTr (T : TruthD) (v : Value) (u : World) : Prop := TrAt u v T
theorem qTr_s (T : TruthD) : ∀ v u u', qTr T v u → Ext u u' → qTr T v u' := fun _ _ _ h hx => h.mono hx

end Go.Proofs.YtmjelgonhpgmbaaGreat
