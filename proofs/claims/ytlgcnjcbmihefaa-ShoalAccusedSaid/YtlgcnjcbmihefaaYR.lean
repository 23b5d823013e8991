/- What is said of the two tracks that ShoalAccused looks at. -/
import Derived.Test.YtlgcnjcbmihefaaYM
import Derived.Test.YtlgcnjcbmihefaaYC
set_option linter.unusedSimpArgs false
set_option linter.unusedVariables false
namespace Go.Proofs.Ytlgcnjcbmihefaa
open Go Go.RowKit Go.Shelf

def trackOk (D : SeaD) (rs : List Rep) (t : List Nat) : Prop :=
  ∃ (N : Int) (IS : Bool), isTrackRes D rs (intsOf t) = .tuple #[.int .i64 N, .bool IS, .int .i64 0] ∧
    (IS = true → N = leastN D rs → (t.length : Int) = D.hours ∧ ∀ k (h : k < rs.length), k ∈ liarsList D rs → trueAt D rs[k] (t.getD rs[k].hour.toNat 0) = false) ∧ (∀ c ∈ t, c ≤ 1000)
theorem tracks_ok {D : SeaD} {rs : List Rep} (he : leastErr D rs = 0) (bits : List Int) : trackOk D rs (leastTr D rs) ∧ trackOk D rs (swumTo D bits D.hours.toNat) := by
  have hff := first_facts he
  have hS := hff.1
  have hS2 := hS
  unfold soundB at hS2
  rw [Bool.and_eq_true] at hS2
  have hbd := sea_bounds hS2.1
  have hh := inB_spec hbd.2.2.1
  have hsp := inB_spec hbd.2.2.2.1
  have h80 := seaB_80 hS2.1
  have hro := reps_ok hS2.1 hS2.2
  have haf := (accused_facts he).2.2.2.2.2.1
  have hF : fewestF D rs < 25 ∧ leastN D rs = fewestF D rs := by
    rcases leastErr_cases hS with ⟨h, _⟩ | ⟨_, h, h2⟩
    · rw [h] at he; cases he
    · exact ⟨h, h2⟩
  have hhour : ∀ k (h : k < rs.length), rs[k].hour.toNat < D.hours.toNat := fun k h => by
    have := (hro.2 rs[k] (List.getElem_mem _)).2
    omega
  constructor
  · refine ⟨_, _, hff.2.2.1, fun _ _ => ⟨hff.2.1, fun k h hk => ?_⟩, fun c hc => ?_⟩
    rotate_left
    · have hTr : leastTr D rs = (firstTo D rs (fewestF D rs) D.hours.toNat).1 := by unfold leastTr; rw [if_neg (by rw [he]; simp)]
      have ok := first_ok (rs := rs) hro.1 h80 (by omega) hF.1 D.hours.toNat (Nat.le_refl _)
      obtain ⟨T, hT, hTe, _⟩ := ok.way
      rw [hTr] at hc
      obtain ⟨j, hj, rfl⟩ := List.getElem_of_mem hc
      have hjl : j < D.hours.toNat := by rw [← ok.len]; exact hj
      have ho := hT.1 j (Nat.zero_le _) hjl
      rw [hTe j hjl, getD_of hj] at ho
      have := opens_lt ho
      omega
    have hTr : leastTr D rs = (firstTo D rs (fewestF D rs) D.hours.toNat).1 := by unfold leastTr; rw [if_neg (by rw [he]; simp)]
    obtain ⟨T, hT, hTe, hTc⟩ := (first_ok (rs := rs) hro.1 h80 (by omega) hF.1 D.hours.toNat (Nat.le_refl _)).way
    have hge : fewestF D rs ≤ costW D rs T := by
      by_cases h25 : costW D rs T < 25
      · exact fewest_le hro.1 h80 (by omega) hT h25 (Int.le_refl _)
      · omega
    have := haf T hT (by omega) k h hk
    rw [hTe _ (hhour k h), ← hTr] at this
    exact this
  · have hln := swumTo_len D bits D.hours.toNat
    have hlt := swumTo_lt D bits D.hours.toNat
    have hg := swumTo_good (D := D) (by omega) bits D.hours.toNat
    generalize swumTo D bits D.hours.toNat = t at *
    by_cases hl : (t.length : Int) = D.hours
    · have hf := hff.2.2.2 t hl hlt hg
      have hw := way_of (show t.length = D.hours.toNat by omega) hlt hg
      have hc := cost_count (rs := rs) (fun r hr => (hro.2 r hr).2) (show t.length = D.hours.toNat by omega) (fun k hk => hw.1 k (Nat.zero_le _) (by omega))
      exact ⟨_, _, hf.1, fun _ hN => ⟨hl, fun k h hk => haf _ hw (by rw [hc.1]; exact hN) k h hk⟩, fun c hc => by have := hlt c hc; omega⟩
    · refine ⟨0, false, ?_, (fun h => by cases h), fun c hc => by have := hlt c hc; omega⟩
      have htb : trackB (seaOf D) D.land D.speed.toNat D.drift (intsOf t) = false := by
        unfold trackB
        rw [decide_eq_false (by rw [intsOf_length]; exact hl), Bool.false_and]
      unfold isTrackRes
      rw [if_neg (by rw [hS2.1]; simp), if_neg (by rw [hS2.2]; simp), if_pos htb]
end Go.Proofs.Ytlgcnjcbmihefaa
