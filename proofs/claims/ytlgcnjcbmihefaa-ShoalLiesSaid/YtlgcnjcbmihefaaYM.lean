/- The theorem of the false report, without a program. -/
import Derived.Test.YtlgcnjcbmihefaaYE
import Derived.Test.YtlgcnjcbmihefaaXZ
set_option linter.unusedSimpArgs false
set_option linter.unusedVariables false
namespace Go.Proofs.Ytlgcnjcbmihefaa
open Go Go.RowKit Go.Shelf

/-- A report is true if the shoal is in a cell in its hour. -/
def trueAt (D : SeaD) (r : Rep) (c : Nat) : Bool := repTrue r (col (seaOf D) r.cell) (row (seaOf D) r.cell) (col (seaOf D) c) (row (seaOf D) c)
theorem untrueN_rep {D : SeaD} {k : Nat} {r : Rep} {h c : Nat} : untrueN (seaOf D) (List.replicate k r) h (col (seaOf D) c) (row (seaOf D) c) = if r.hour = (h : Int) ∧ trueAt D r c = false then k else 0 := by
  unfold untrueN ofHour
  by_cases e : r.hour = (h : Int)
  · rw [List.filter_replicate, if_pos (by simpa using e)]
    rw [List.countP_replicate]
    cases h2 : trueAt D r c with
    | true => unfold trueAt at h2; rw [if_neg (by rw [h2]; simp), if_neg (fun h => by simp at h)]
    | false => unfold trueAt at h2; rw [if_pos (by rw [h2]; rfl), if_pos ⟨e, rfl⟩]
  · rw [List.filter_replicate, if_neg (by simpa using e), if_neg (fun h => e h.1)]
    rfl
theorem cost_rep {D : SeaD} {rs : List Rep} {k : Nat} {r : Rep} {T : Nat → Nat} (hT : isWay D T) (h0 : 0 ≤ r.hour) (hh : r.hour < D.hours) : costW D (rs ++ List.replicate k r) T = costW D rs T + if trueAt D r (T r.hour.toNat) then 0 else (k : Int) := by
  unfold costW
  have e : sumTo (fun i => ownF D (rs ++ List.replicate k r) i (T i)) D.hours.toNat = sumTo (fun i => ownF D rs i (T i) + ((if r.hour = (i : Int) ∧ trueAt D r (T i) = false then k else 0 : Nat) : Int)) D.hours.toNat := by
    refine sumTo_congr _ (fun i hi => ?_)
    have ho := hT.1 i (Nat.zero_le _) hi
    rw [own_of ho, own_of ho, untrueN_app, untrueN_rep]
    simp
  have e2 := sumTo_one (f := fun i => ((if r.hour = (i : Int) ∧ trueAt D r (T i) = false then k else 0 : Nat) : Int)) (j := r.hour.toNat) (v := if trueAt D r (T r.hour.toNat) then 0 else (k : Int)) D.hours.toNat (fun i hi => by
    by_cases h1 : r.hour.toNat = i
    · have h1' : r.hour = (i : Int) := by omega
      rw [if_pos h1, h1]
      cases h2 : trueAt D r (T i) with
      | true => rw [if_neg (fun h => by simp at h)]; rfl
      | false => rw [if_pos ⟨h1', rfl⟩]; rfl
    · rw [if_neg h1, if_neg (fun h => h1 (by omega))]; rfl)
  rw [e, sumTo_add, e2, if_pos (by omega)]
theorem trueF_iff {D : SeaD} {rs : List Rep} (hS : soundB D rs = true) (hF : fewestF D rs < 25) {r : Rep} (h0 : 0 ≤ r.hour) (hh : r.hour < D.hours) : trueF D rs r = true ↔ ∃ T, isWay D T ∧ costW D rs T ≤ fewestF D rs ∧ trueAt D r (T r.hour.toNat) = true := by
  have hS2 := hS
  unfold soundB at hS2
  rw [Bool.and_eq_true] at hS2
  have h24 := (reps_ok hS2.1 hS2.2).1
  have hhh := inB_spec (sea_bounds hS2.1).2.2.1
  unfold trueF
  rw [List.any_eq_true]
  constructor
  · rintro ⟨c, hc, hp⟩
    unfold cbtP at hp
    rw [Bool.and_eq_true, beq_iff_eq] at hp
    obtain ⟨T, hT, e, hcT⟩ := (can_way (rs := rs) h24 (show r.hour.toNat < D.hours.toNat by omega) hc hF).mp (by unfold canIs; rw [decide_eq_true_eq, hp.1]; exact Int.le_refl _)
    exact ⟨T, hT, hcT, by rw [e]; exact hp.2⟩
  · rintro ⟨T, hT, hcT, ht⟩
    have ho := hT.1 r.hour.toNat (Nat.zero_le _) (by omega)
    refine ⟨T r.hour.toNat, ho, ?_⟩
    unfold cbtP
    rw [Bool.and_eq_true, beq_iff_eq]
    refine ⟨?_, ht⟩
    have h1 := (can_way (rs := rs) h24 (show r.hour.toNat < D.hours.toNat by omega) ho hF).mpr ⟨T, hT, rfl, hcT⟩
    unfold canIs at h1
    rw [decide_eq_true_eq] at h1
    have h2 : ¬ throughOf (ownF D rs) (upF D rs) (fromF D rs) r.hour.toNat (T r.hour.toNat) ≤ fewestF D rs - 1 := fun h => by
      obtain ⟨T2, hT2, _, hc2⟩ := (can_way (rs := rs) (n := fewestF D rs - 1) h24 (show r.hour.toNat < D.hours.toNat by omega) ho (by omega)).mp (by unfold canIs; rw [decide_eq_true_eq]; exact h)
      have := fewest_le h24 (seaB_80 hS2.1) (by omega) hT2 (n := fewestF D rs - 1) (by omega) hc2
      omega
    omega
theorem costs_nat {D : SeaD} {rs : List Rep} (hS : soundB D rs = true) {T : Nat → Nat} (hT : isWay D T) : costW D rs T = (rs.countP (fun r => !trueAt D r (T r.hour.toNat)) : Nat) := by
  unfold soundB at hS
  rw [Bool.and_eq_true] at hS
  have hr := fun r h => ((reps_ok hS.1 hS.2).2 r h).2
  have hh := inB_spec (sea_bounds hS.1).2.2.1
  let t := (List.range D.hours.toNat).map T
  have htl : t.length = D.hours.toNat := by simp [t]
  have hg : ∀ i, i < D.hours.toNat → t.getD i 0 = T i := fun i hi => by simp [t, List.getD, hi]
  have ho : ∀ k, k < t.length → openC D (t.getD k 0) := fun k hk => by rw [hg k (by omega)]; exact hT.1 k (Nat.zero_le _) (by omega)
  have h1 := cost_of (rs := rs) ho t.length (Nat.le_refl _)
  have h2 := untrueTo_all (D := D) (intsOf t) D.hours.toNat rs (fun r h => ⟨(hr r h).1, by have := (hr r h).2; omega⟩)
  have h3 : costW D rs T = costW D rs (fun i => t.getD i 0) := sumTo_congr _ (fun i hi => by show _ = ownF D rs i (t.getD i 0); rw [hg i hi])
  rw [h3]
  unfold costW
  rw [← htl, h1, htl, h2]
  congr 1
  refine List.countP_congr (fun r hr' => ?_)
  have hb := hr r hr'
  have e : (intsOf t).getD r.hour.toNat 0 = ((T r.hour.toNat : Nat) : Int) := by rw [intsOf_getD, hg _ (by omega)]
  unfold trueAt
  rw [e]
theorem liars_count (D : SeaD) (rs : List Rep) : (liarsTo D rs rs.length).length = rs.countP (fun r => !trueF D rs r) := by
  unfold liarsTo
  rw [← List.countP_eq_length_filter]
  have e : (List.range rs.length).map (fun i => rs.getD i ⟨0, 0, 0, false⟩) = rs := by
    refine List.ext_getElem (by simp) (fun i h1 h2 => ?_)
    rw [List.getElem_map, List.getElem_range, getD_of h2]
  have e2 : rs.countP (fun r => !trueF D rs r) = ((List.range rs.length).map (fun i => rs.getD i ⟨0, 0, 0, false⟩)).countP (fun r => !trueF D rs r) := by rw [e]
  rw [e2, List.countP_map]
  rfl
/-- All that is said of the reports that are named. -/
theorem accused_facts {D : SeaD} {rs : List Rep} (he : leastErr D rs = 0) : soundB D rs = true ∧ rises rs.length 0 (liarsList D rs) ∧ ((liarsList D rs).length : Int) ≤ leastN D rs ∧ 0 ≤ leastN D rs ∧ leastN D rs ≤ 24 ∧
    (∀ T, isWay D T → costW D rs T = leastN D rs → ∀ k (h : k < rs.length), k ∈ liarsList D rs → trueAt D rs[k] (T rs[k].hour.toNat) = false) ∧
    (∀ k (h : k < rs.length) (m : Nat), leastN D rs = m → rs.length + m + 1 ≤ 24 → leastErr D (rs ++ List.replicate (m + 1) rs[k]) = 0 ∧ (leastN D (rs ++ List.replicate (m + 1) rs[k]) = m ↔ k ∉ liarsList D rs)) := by
  have hsb : seaB D = true := by
    cases h : seaB D with
    | true => rfl
    | false => unfold leastErr at he; rw [if_pos h] at he; cases he
  have hrb : repsB D.hours (D.wide * D.high) rs = true := by
    cases h : repsB D.hours (D.wide * D.high) rs with
    | true => rfl
    | false => unfold leastErr at he; rw [if_neg (by rw [hsb]; simp), if_pos h] at he; cases he
  have hS : soundB D rs = true := by unfold soundB; rw [hsb, hrb]; rfl
  have hF : fewestF D rs < 25 ∧ leastN D rs = fewestF D rs := by
    rcases leastErr_cases hS with ⟨h, _⟩ | ⟨_, h, h2⟩
    · rw [h] at he; cases he
    · exact ⟨h, h2⟩
  have hro := reps_ok hsb hrb
  have hh := inB_spec (sea_bounds hsb).2.2.1
  have h80 := seaB_80 hsb
  have hLL : liarsList D rs = liarsTo D rs rs.length := by unfold liarsList; rw [if_neg (by rw [he]; simp)]
  obtain ⟨T, hT, _, hcT⟩ := (first_ok (rs := rs) hro.1 h80 (by omega) hF.1 0 (Nat.zero_le _)).way
  have hmem : ∀ k (h : k < rs.length), k ∈ liarsList D rs ↔ trueF D rs rs[k] = false := fun k h => by
    rw [hLL]
    unfold liarsTo liarIs
    rw [List.mem_filter, List.mem_range, getD_of h]
    simp [h]
  have hbest : ∀ T, isWay D T → fewestF D rs ≤ costW D rs T := fun T' hT' => by
    by_cases h25 : costW D rs T' < 25
    · exact fewest_le hro.1 h80 (by omega) hT' h25 (Int.le_refl _)
    · omega
  have hfalse : ∀ T, isWay D T → costW D rs T ≤ fewestF D rs → ∀ k (h : k < rs.length), k ∈ liarsList D rs → trueAt D rs[k] (T rs[k].hour.toNat) = false := fun T' hT' hc k h hk => by
    have hb := (hro.2 rs[k] (List.getElem_mem _)).2
    cases h2 : trueAt D rs[k] (T' rs[k].hour.toNat) with
    | false => rfl
    | true =>
      have := (trueF_iff hS hF.1 hb.1 hb.2).mpr ⟨T', hT', hc, h2⟩
      rw [(hmem k h).mp hk] at this
      cases this
  have hnn : 0 ≤ fewestF D rs := by
    have := hbest T hT
    have h0 := costs_nat hS hT
    omega
  refine ⟨hS, ?_, ?_, by rw [hF.2]; exact hnn, by omega, fun T' hT' hc k h hk => hfalse T' hT' (by rw [hc, hF.2]; exact Int.le_refl _) k h hk, fun k h m hm hl => ?_⟩
  · rw [hLL]
    unfold liarsTo
    rw [List.range_eq_range']
    exact rises_filter _ _ 0 (by omega)
  · rw [hLL, liars_count, hF.2]
    have h1 := costs_nat hS hT
    have h2 : rs.countP (fun r => !trueF D rs r) ≤ rs.countP (fun r => !trueAt D r (T r.hour.toNat)) := by
      refine List.countP_mono_left (fun r hr hp => ?_)
      have hb := (hro.2 r hr).2
      cases h2 : trueAt D r (T r.hour.toNat) with
      | false => rfl
      | true =>
        have := (trueF_iff hS hF.1 hb.1 hb.2).mpr ⟨T, hT, hcT, h2⟩
        rw [this] at hp
        cases hp
    omega
  · have hb := (hro.2 rs[k] (List.getElem_mem _)).2
    have hrm := rs[k]
    have hS3 : soundB D (rs ++ List.replicate (m + 1) rs[k]) = true := by
      unfold soundB
      rw [hsb, Bool.true_and]
      have hri := repsB_iff.mp hrb
      refine repsB_iff.mpr ⟨by rw [List.length_append, List.length_replicate]; omega, fun r hr => ?_⟩
      rcases List.mem_append.mp hr with hr | hr
      · exact hri.2 r hr
      · rw [(List.mem_replicate.mp hr).2]
        exact hri.2 _ (List.getElem_mem _)
    have hcost := fun T (hT : isWay D T) => cost_rep (rs := rs) (k := m + 1) (r := rs[k]) hT hb.1 hb.2
    have hE : leastErr D (rs ++ List.replicate (m + 1) rs[k]) = 0 ∧ leastN D (rs ++ List.replicate (m + 1) rs[k]) ≤ 24 := by
      refine (least_iff hS3 (n := 24) (by omega)).mpr ⟨T, hT, ?_⟩
      rw [costs_nat hS3 hT]
      have := List.countP_le_length (p := fun r => !trueAt D r (T r.hour.toNat)) (l := rs ++ List.replicate (m + 1) rs[k])
      rw [List.length_append, List.length_replicate] at this
      omega
    have hm2 := least_iff hS3 (n := m) (by omega)
    have hm1 := least_iff hS3 (n := (m : Int) - 1) (by omega)
    refine ⟨hE.1, ?_⟩
    have hge : ¬ leastN D (rs ++ List.replicate (m + 1) rs[k]) ≤ (m : Int) - 1 := fun hle => by
      obtain ⟨T', hT', hc'⟩ := hm1.mp ⟨hE.1, hle⟩
      rw [hcost T' hT'] at hc'
      have := hbest T' hT'
      split at hc' <;> omega
    rw [hmem k h]
    constructor
    · intro e hf
      obtain ⟨T', hT', hc'⟩ := hm2.mp ⟨hE.1, by omega⟩
      rw [hcost T' hT'] at hc'
      have h1 := costs_nat hS hT'
      cases h2 : trueAt D rs[k] (T' rs[k].hour.toNat) with
      | true =>
        rw [if_pos h2] at hc'
        have := (trueF_iff hS hF.1 hb.1 hb.2).mpr ⟨T', hT', by omega, h2⟩
        rw [hf] at this
        cases this
      | false =>
        rw [if_neg (by rw [h2]; simp)] at hc'
        omega
    · intro hno
      have ht : trueF D rs rs[k] = true := by
        cases h2 : trueF D rs rs[k] with
        | true => rfl
        | false => exact absurd h2 hno
      obtain ⟨T', hT', hc', ht'⟩ := (trueF_iff hS hF.1 hb.1 hb.2).mp ht
      have := (hm2.mpr ⟨T', hT', by rw [hcost T' hT', if_pos ht']; omega⟩).2
      omega
end Go.Proofs.Ytlgcnjcbmihefaa
