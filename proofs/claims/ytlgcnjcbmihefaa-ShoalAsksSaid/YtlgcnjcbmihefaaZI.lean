/- The reference's grid and the chart say the same: without a program. -/
import Derived.Test.YtlgcnjcbmihefaaZG
import Derived.Test.YtlgcnjcbmihefaaYE
import Derived.Test.YtlgcnjcbmihefaaXG
set_option linter.unusedSimpArgs false
set_option linter.unusedVariables false
namespace Go.Proofs.Ytlgcnjcbmihefaa
open Go Go.RowKit Go.Shelf

theorem foldB_le {D : SeaD} {rs : List Rep} {h c : Nat} {prev : Nat → Int} {n : Int} (hn : n < 1000) : ∀ k, foldB D rs h c prev k ≤ n ↔ ∃ d, d < k ∧ prev d < 1000 ∧ stepB D h c d = true ∧ lieI D rs h c + prev d ≤ n
  | 0 => by
    unfold foldB
    constructor
    · intro h; omega
    · rintro ⟨d, hd, _⟩; omega
  | k + 1 => by
    have ih := foldB_le (D := D) (rs := rs) (h := h) (c := c) (prev := prev) hn k
    unfold foldB
    constructor
    · intro hle
      split at hle
      · rename_i hp
        by_cases h2 : foldB D rs h c prev k ≤ n
        · obtain ⟨d, h1, h3⟩ := ih.mp h2
          exact ⟨d, by omega, h3⟩
        · exact ⟨k, by omega, hp.1, hp.2, by omega⟩
      · obtain ⟨d, h1, h3⟩ := ih.mp hle
        exact ⟨d, by omega, h3⟩
    · rintro ⟨d, hd, h1, h2, h3⟩
      by_cases e : d = k
      · subst e
        rw [if_pos ⟨h1, h2⟩]
        omega
      · have := ih.mpr ⟨d, by omega, h1, h2, h3⟩
        split <;> omega
theorem water_open {D : SeaD} {c : Nat} : waterB D (c : Int) = true ↔ openC D c := by
  unfold waterB openC opens isOpen inB
  rw [List.mem_filter, List.mem_range]
  simp only [Bool.and_eq_true, decide_eq_true_eq]
  constructor
  · rintro ⟨⟨h1, h2⟩, h3⟩; exact ⟨by omega, h3⟩
  · rintro ⟨h1, h3⟩; exact ⟨⟨by omega, by omega⟩, h3⟩
theorem step_link {D : SeaD} (hs : 0 ≤ D.speed) {h a b : Nat} : stepB D h a b = true ↔ linkP D h a b := by
  rw [step_swims hs]
  unfold swimsB linkP
  rw [decide_eq_true_eq]
def cntFrom (rs : List Rep) (h : Nat) : Nat := rs.countP fun r => decide ((h : Int) ≤ r.hour)
theorem cnt_split : ∀ (rs : List Rep) (h : Nat), rs.countP (fun r => r.hour == (h : Int)) + cntFrom rs (h + 1) = cntFrom rs h
  | [], h => rfl
  | r :: rs, h => by
    have ih := cnt_split rs h
    unfold cntFrom at *
    simp only [List.countP_cons]
    have : (if (r.hour == (h : Int)) = true then 1 else 0) + (if decide (((h + 1 : Nat) : Int) ≤ r.hour) = true then 1 else 0) = if decide ((h : Int) ≤ r.hour) = true then 1 else 0 := by
      simp only [beq_iff_eq, decide_eq_true_eq]
      by_cases e : r.hour = h
      · rw [if_pos e, if_neg (by omega), if_pos (by omega)]
      · rw [if_neg e]
        by_cases e2 : (h : Int) ≤ r.hour
        · rw [if_pos e2, if_pos (by omega)]
        · rw [if_neg e2, if_neg (by omega)]
    omega
theorem lie_cnt (D : SeaD) (rs : List Rep) (h c : Nat) : lieI D rs h c ≤ (rs.countP (fun r => r.hour == (h : Int)) : Nat) := by
  unfold lieI untrueN ofHour
  have h1 := List.countP_le_length (p := fun r : Rep => !repTrue r (col (seaOf D) r.cell) (row (seaOf D) r.cell) (col (seaOf D) c) (row (seaOf D) c)) (l := rs.filter fun r => r.hour == (h : Int))
  rw [← List.countP_eq_length_filter] at h1
  exact_mod_cast h1
theorem cnt_le (rs : List Rep) (h : Nat) : cntFrom rs h ≤ rs.length := List.countP_le_length
theorem behR_facts {D : SeaD} {rs : List Rep} (hS : soundB D rs = true) : ∀ j, j < D.hours.toNat → ∀ c, c < (D.wide * D.high).toNat →
    (¬ openC D c → behR D rs j c = 1000) ∧ (openC D c → ∀ n : Int, n < 25 → (behR D rs j c ≤ n ↔ fromF D rs (D.hours.toNat - 1 - j) c ≤ n)) ∧ (behR D rs j c < 1000 → behR D rs j c ≤ cntFrom rs (D.hours.toNat - 1 - j)) := by
  unfold soundB at hS
  rw [Bool.and_eq_true] at hS
  have h24 := (reps_ok hS.1 hS.2).1
  have hsp := inB_spec (sea_bounds hS.1).2.2.2.1
  intro j
  induction j with
  | zero =>
    intro hj c hc
    refine ⟨fun ho => ?_, fun ho n hn => ?_, fun hlt => ?_⟩
    · unfold behR; rw [if_neg (fun h => ho (water_open.mp h))]
    · unfold behR
      rw [if_pos (water_open.mpr ho), Nat.sub_zero, from_last, own_of ho]
      rfl
    · unfold behR at hlt ⊢
      split at hlt
      · rename_i hw
        rw [if_pos hw, Nat.sub_zero]
        have h1 := lie_cnt D rs (D.hours.toNat - 1) c
        have h2 := cnt_split rs (D.hours.toNat - 1)
        omega
      · omega
  | succ j ih =>
    intro hj c hc
    have ih := ih (by omega)
    have e1 : D.hours.toNat - 2 - j = D.hours.toNat - 1 - (j + 1) := by omega
    have e2 : D.hours.toNat - 1 - (j + 1) + 1 = D.hours.toNat - 1 - j := by omega
    refine ⟨fun ho => ?_, fun ho n hn => ?_, fun hlt => ?_⟩
    · unfold behR; rw [if_neg (fun h => ho (water_open.mp h))]
    · unfold behR
      rw [if_pos (water_open.mpr ho), foldB_le (by omega), from_next h24 (D.hours.toNat - 1 - (j + 1)) c n (by omega) ho hn, e1, e2, own_of ho]
      have hl := lieI_bounds D h24 (D.hours.toNat - 1 - (j + 1)) c
      have hle : lieI D rs (D.hours.toNat - 1 - (j + 1)) c = ((untrueN (seaOf D) rs (D.hours.toNat - 1 - (j + 1)) (col (seaOf D) c) (row (seaOf D) c) : Nat) : Int) := rfl
      constructor
      · rintro ⟨d, hd, h1, h2, h3⟩
        have ihd := ih d hd
        have hod : openC D d := Classical.byContradiction fun h => by have := ihd.1 h; omega
        have := (ihd.2.1 hod (n - lieI D rs (D.hours.toNat - 1 - (j + 1)) c) (by omega)).mp (by omega)
        exact ⟨d, hod, (step_link hsp.1).mp h2, by omega⟩
      · rintro ⟨d, hod, h2, h3⟩
        have hd := opens_lt hod
        have ihd := ih d hd
        have h4 := (ihd.2.1 hod (n - lieI D rs (D.hours.toNat - 1 - (j + 1)) c) (by omega)).mpr (by omega)
        exact ⟨d, hd, by omega, (step_link hsp.1).mpr h2, by omega⟩
    · unfold behR at hlt ⊢
      split at hlt
      · rename_i hw
        rw [if_pos hw]
        obtain ⟨d, hd, h1, h2, h3⟩ := (foldB_le (n := foldB D rs (D.hours.toNat - 2 - j) c (behR D rs j) (D.wide * D.high).toNat) hlt (D.wide * D.high).toNat).mp (Int.le_refl _)
        have h4 := (foldB_le (n := lieI D rs (D.hours.toNat - 2 - j) c + behR D rs j d) (D := D) (rs := rs) (h := D.hours.toNat - 2 - j) (c := c) (prev := behR D rs j) (by omega) (D.wide * D.high).toNat).mpr ⟨d, hd, h1, h2, Int.le_refl _⟩
        have h5 := (ih d hd).2.2 h1
        have h6 := lie_cnt D rs (D.hours.toNat - 2 - j) c
        have h7 := cnt_split rs (D.hours.toNat - 1 - (j + 1))
        rw [e2] at h7
        rw [e1] at h4 h6 ⊢
        omega
      · omega
theorem behR_val {D : SeaD} {rs : List Rep} (hS : soundB D rs = true) {h c : Nat} (hh : h < D.hours.toNat) (ho : openC D c) : behR D rs (D.hours.toNat - 1 - h) c = if fromF D rs h c < 25 then fromF D rs h c else 1000 := by
  have hf := behR_facts hS (D.hours.toNat - 1 - h) (by omega) c (opens_lt ho)
  rw [show D.hours.toNat - 1 - (D.hours.toNat - 1 - h) = h by omega] at hf
  unfold soundB at hS
  rw [Bool.and_eq_true] at hS
  have h24 := (reps_ok hS.1 hS.2).1
  have hb := behR_bounds (D := D) h24 (D.hours.toNat - 1 - h) c
  have hcl := cnt_le rs h
  by_cases h25 : fromF D rs h c < 25
  · rw [if_pos h25]
    have h1 := (hf.2.1 ho (fromF D rs h c) h25).mpr (Int.le_refl _)
    have h2 := (hf.2.1 ho (behR D rs (D.hours.toNat - 1 - h) c) (by omega)).mp (Int.le_refl _)
    omega
  · rw [if_neg h25]
    by_cases hlt : behR D rs (D.hours.toNat - 1 - h) c < 1000
    · have h3 := hf.2.2 hlt
      have h2 := (hf.2.1 ho (behR D rs (D.hours.toNat - 1 - h) c) (by omega)).mp (Int.le_refl _)
      omega
    · omega
def minB (f : Nat → Int) : Nat → Int
  | 0 => 1000
  | k + 1 => min (minB f k) (f k)
theorem minB_le {f : Nat → Int} {n : Int} (hn : n < 1000) : ∀ k, minB f k ≤ n ↔ ∃ d, d < k ∧ f d ≤ n
  | 0 => by
    unfold minB
    constructor
    · intro h; omega
    · rintro ⟨d, hd, _⟩; omega
  | k + 1 => by
    have ih := minB_le (f := f) hn k
    unfold minB
    constructor
    · intro h
      by_cases h2 : minB f k ≤ n
      · obtain ⟨d, h1, h3⟩ := ih.mp h2; exact ⟨d, by omega, h3⟩
      · exact ⟨k, by omega, by omega⟩
    · rintro ⟨d, hd, h1⟩
      by_cases e : d = k
      · subst e; omega
      · have := ih.mpr ⟨d, by omega, h1⟩; omega
theorem minB_bounds {f : Nat → Int} (hf : ∀ d, 0 ≤ f d ∧ f d ≤ 1000) : ∀ k, 0 ≤ minB f k ∧ minB f k ≤ 1000
  | 0 => by unfold minB; omega
  | k + 1 => by
    have := minB_bounds hf k
    have := hf k
    unfold minB; omega
theorem least_val {D : SeaD} {rs : List Rep} (hS : soundB D rs = true) : minB (behR D rs (D.hours.toNat - 1)) (D.wide * D.high).toNat = if fewestF D rs < 25 then fewestF D rs else 1000 := by
  have hS2 := hS
  unfold soundB at hS2
  rw [Bool.and_eq_true] at hS2
  have h24 := (reps_ok hS2.1 hS2.2).1
  have hh := inB_spec (sea_bounds hS2.1).2.2.1
  have h80 := seaB_80 hS2.1
  have hb := minB_bounds (behR_bounds (D := D) (rs := rs) h24 (D.hours.toNat - 1)) (D.wide * D.high).toNat
  have hf := behR_facts hS (D.hours.toNat - 1) (by omega)
  rw [show D.hours.toNat - 1 - (D.hours.toNat - 1) = 0 by omega] at hf
  have hcl := cnt_le rs 0
  have hiff : ∀ n : Int, n < 25 → (minB (behR D rs (D.hours.toNat - 1)) (D.wide * D.high).toNat ≤ n ↔ fewestF D rs ≤ n) := fun n hn => by
    rw [minB_le (by omega), fewest_iff h24 h80 (by omega) hn]
    constructor
    · rintro ⟨d, hd, h1⟩
      have hod : openC D d := Classical.byContradiction fun h => by have := (hf d hd).1 h; omega
      have h2 := ((hf d hd).2.1 hod n hn).mp h1
      obtain ⟨T, hT, _, hs⟩ := (from_iff h24 0 d n (by omega) hod hn).mp h2
      refine ⟨T, hT, ?_⟩
      unfold costW
      simp only [sumTo] at hs
      omega
    · rintro ⟨T, hT, hc⟩
      have hod := hT.1 0 (Nat.le_refl _) (by omega)
      have h2 := (from_iff h24 0 (T 0) n (by omega) hod hn).mpr ⟨T, hT, rfl, by unfold costW at hc; simp only [sumTo]; omega⟩
      exact ⟨T 0, opens_lt hod, ((hf _ (opens_lt hod)).2.1 hod n hn).mpr h2⟩
  by_cases h25 : fewestF D rs < 25
  · rw [if_pos h25]
    have h1 := (hiff _ h25).mpr (Int.le_refl _)
    have h2 := (hiff (minB (behR D rs (D.hours.toNat - 1)) (D.wide * D.high).toNat) (by omega)).mp (Int.le_refl _)
    omega
  · rw [if_neg h25]
    by_cases hlt : minB (behR D rs (D.hours.toNat - 1)) (D.wide * D.high).toNat < 1000
    · obtain ⟨d, hd, h1⟩ := (minB_le hlt (D.wide * D.high).toNat).mp (Int.le_refl _)
      have h2 := (hf d hd).2.2 (by omega)
      have h3 := (hiff (minB (behR D rs (D.hours.toNat - 1)) (D.wide * D.high).toNat) (by
        have := (minB_le (f := behR D rs (D.hours.toNat - 1)) (n := behR D rs (D.hours.toNat - 1) d) (by omega) (D.wide * D.high).toNat).mpr ⟨d, hd, Int.le_refl _⟩
        omega)).mp (Int.le_refl _)
      have h4 := (minB_le (f := behR D rs (D.hours.toNat - 1)) (n := behR D rs (D.hours.toNat - 1) d) (by omega) (D.wide * D.high).toNat).mpr ⟨d, hd, Int.le_refl _⟩
      omega
    · omega
/-- What the reference looks for, hour by hour. -/
def condR (D : SeaD) (rs : List Rep) (h : Nat) (left : Int) (tr : List Nat) (c : Nat) : Bool := (behR D rs (D.hours.toNat - 1 - h) c == left) && (decide (h = 0) || stepB D (h - 1) (tr.getD (h - 1) 0 : Nat) (c : Int))
theorem first_pick {D : SeaD} {rs : List Rep} (hS : soundB D rs = true) (hF : fewestF D rs < 25) {h : Nat} (hh : h < D.hours.toNat) :
    (firstTo D rs (fewestF D rs) h).1.length = h ∧ (0 ≤ (firstTo D rs (fewestF D rs) h).2 ∧ (firstTo D rs (fewestF D rs) h).2 ≤ 24) ∧ (∀ c ∈ (firstTo D rs (fewestF D rs) h).1, c < (D.wide * D.high).toNat) ∧
    ∃ c, c < (D.wide * D.high).toNat ∧ condR D rs h (firstTo D rs (fewestF D rs) h).2 (firstTo D rs (fewestF D rs) h).1 c = true ∧ (∀ d, d < c → condR D rs h (firstTo D rs (fewestF D rs) h).2 (firstTo D rs (fewestF D rs) h).1 d = false) ∧
      firstTo D rs (fewestF D rs) (h + 1) = ((firstTo D rs (fewestF D rs) h).1 ++ [c], (firstTo D rs (fewestF D rs) h).2 - lieI D rs h c) := by
  have hS2 := hS
  unfold soundB at hS2
  rw [Bool.and_eq_true] at hS2
  have h24 := (reps_ok hS2.1 hS2.2).1
  have hbd := sea_bounds hS2.1
  have hhh := inB_spec hbd.2.2.1
  have hsp := inB_spec hbd.2.2.2.1
  have h80 := seaB_80 hS2.1
  have ok := first_ok h24 h80 (by omega) hF h (by omega)
  have ok2 := first_ok h24 h80 (by omega) hF (h + 1) (by omega)
  have hstep : firstTo D rs (fewestF D rs) (h + 1) = firstStep D rs h (firstTo D rs (fewestF D rs) h) := rfl
  obtain ⟨T, hT, hTe, hTc⟩ := ok.way
  have hlt : ∀ c ∈ (firstTo D rs (fewestF D rs) h).1, c < (D.wide * D.high).toNat := fun c hc => by
    obtain ⟨i, hi, rfl⟩ := List.getElem_of_mem hc
    have hil : i < h := by rw [← ok.len]; exact hi
    have ho := hT.1 i (Nat.zero_le _) (by omega)
    rw [hTe i hil, getD_of hi] at ho
    exact opens_lt ho
  have hpos := sumTo_nonneg (f := fun i => ownF D rs i ((firstTo D rs (fewestF D rs) h).1.getD i 0)) (fun i => (ownF_bounds D h24 i _).1) h
  have hrest := ok.rest
  unfold firstStep at hstep
  split at hstep
  · rename_i c hf
    have hp := List.find?_some hf
    have ho : openC D c := List.mem_of_find?_eq_some hf
    have hmin := find_least (opens_rises D) hf
    unfold firstP at hp
    rw [Bool.and_eq_true, beq_iff_eq, follows_iff] at hp
    have hfb := fromF_bounds D h24 h c
    have hval := behR_val hS hh ho
    rw [hp.1, if_pos (by omega)] at hval
    have hlen := ok.len
    refine ⟨ok.len, ⟨by omega, by omega⟩, hlt, c, opens_lt ho, ?_, fun d hd => ?_, ?_⟩
    · unfold condR
      rw [Bool.and_eq_true, beq_iff_eq]
      refine ⟨hval, ?_⟩
      rw [Bool.or_eq_true, decide_eq_true_eq]
      rcases hp.2 with e | e
      · exact .inl (by omega)
      · rw [hlen] at e
        exact .inr ((step_link hsp.1).mpr e)
    · cases hcd : condR D rs h (firstTo D rs (fewestF D rs) h).2 (firstTo D rs (fewestF D rs) h).1 d with
      | false => rfl
      | true =>
        unfold condR at hcd
        rw [Bool.and_eq_true, beq_iff_eq, Bool.or_eq_true, decide_eq_true_eq] at hcd
        have hdN : d < (D.wide * D.high).toNat := Nat.lt_trans hd (opens_lt ho)
        have hfd := behR_facts hS (D.hours.toNat - 1 - h) (by omega) d hdN
        have hod : openC D d := Classical.byContradiction fun hn => by have := hfd.1 hn; omega
        have hvd := behR_val hS hh hod
        have hfd2 : fromF D rs h d = (firstTo D rs (fewestF D rs) h).2 := by
          rw [hcd.1] at hvd
          split at hvd <;> omega
        have := hmin d hod (by
          unfold firstP
          rw [Bool.and_eq_true, beq_iff_eq, follows_iff]
          refine ⟨hfd2, ?_⟩
          rcases hcd.2 with e | e
          · exact .inl (by omega)
          · refine .inr ?_
            rw [hlen]
            exact (step_link hsp.1).mp e)
        omega
    · rw [hstep, own_of ho]; rfl
  · have := ok2.len
    rw [hstep, ok.len] at this
    omega


theorem GridAt.row {W : World} {g H N : Nat} {f : Nat → List Int} (h : GridAt W g H f) (i : Nat) (hi : i < H) (hl : (f i).length = N) (h1 : 1 ≤ N) (hN : N ≤ 1000) :
    ∃ b off cc, W.cell? ⟨g, i, none⟩ = some (.slice (some ⟨b, off, none⟩) N cc) ∧ g < W.heap.size ∧ b < W.heap.size ∧ ∀ k, k < N → W.cell? ⟨b, off + k, none⟩ = some (.int .i64 ((f i).getD k 0)) := by
  obtain ⟨a, cc, hc, hi2, hg⟩ := h.get i hi (by omega)
  rw [hl] at hc
  obtain ⟨a2, cap2, he, _, hcs⟩ := hi2
  injection he with e1 _ _
  obtain ⟨b, off, e3, hb, _⟩ := hcs 0 (by omega)
  rw [e1, e3] at hc
  refine ⟨b, off, cc, hc, hg, hb, fun k hk => ?_⟩
  obtain ⟨b', off', e4, _, hcell⟩ := hcs k (by omega)
  rw [e3] at e4
  cases e4
  rw [hcell, getD_of (by omega)]
theorem natVals_int (l : List Nat) : natVals l = intVals (intsOf l) := by
  unfold natVals intVals intsOf
  rw [List.map_map]
  rfl
theorem intsOf_app (a b : List Nat) : intsOf (a ++ b) = intsOf a ++ intsOf b := by unfold intsOf; rw [List.map_append]

set_option maxRecDepth 100000 in
set_option maxHeartbeats 16000000 in
theorem least_ref (D : SeaD) (lv dv rv : Value) (rs : List Rep) (w : World) (hl : IntsAt w lv D.land) (hd : StepsAt w dv D.drift) (hr : RepsAt w rv rs) :
    Cal 20 #[seaVal D lv dv, rv] w fun e w' => ∃ v, e = .returned (.tuple #[.int .i64 (leastN D rs), v, .int .i64 (leastErr D rs)]) ∧ Ext w w' ∧ Hid (Row w' 3 1 v (leastTr D rs).length (natVals (leastTr D rs))) := by
  have hb1 : (w.alloc (.cells #[.int .i64 D.wide, .int .i64 D.high, lv, .int .i64 D.hours, dv, .int .i64 D.speed] 25)).heap[w.heap.size]? = some (.cells #[.int .i64 D.wide, .int .i64 D.high, lv, .int .i64 D.hours, dv, .int .i64 D.speed] 25 (0, 0)) := Ext.new (Ext.refl _)
  have hx : Ext w (w.alloc (.cells #[.int .i64 D.wide, .int .i64 D.high, lv, .int .i64 D.hours, dv, .int .i64 D.speed] 25)) := (Ext.refl w).alloc _
  have HAS := hid (asked_ref D lv dv rv rs _ (hl.mono hx) (hd.mono hx) (hr.mono hx))
  have HL := hid (hl.mono hx)
  have HD := hid (hd.mono hx)
  have HR := hid (hr.mono hx)
  unfold seaVal at HAS ⊢
  clear hl hd hr
  gi_enter Try.func20, Try.ntmps20
  gi_wp2_with fail
  generalize w.alloc (.cells #[.int .i64 D.wide, .int .i64 D.high, lv, .int .i64 D.hours, dv, .int .i64 D.speed] 25) = w1 at *
  have hcb := cell_of hb1
  have HCB := hid fun (e : World) (hx : Ext w1 e) => cell_of (hx.block hb1)
  have HX := hid hx
  clear hb1 hx
  cases hsb : seaB D with
  | false =>
    have HG : Hid (leastErr D rs = 10) := if_pos hsb
    have e1 : Hid (leastN D rs = 0) := if_pos (by rw [HG.out]; decide)
    have e2 : Hid (leastTr D rs = []) := if_pos (by rw [HG.out]; decide)
    rw [askedN_s hsb] at HAS
    gi_wp2_with (gi_at_call 48; ((with_reducible refine HAS.out.mono ?_); rintro e w2 ⟨rfl, hx2⟩))
    exact bodyPost_ret (v := .tuple #[.int .i64 0, .slice none 0 0, .int .i64 10]) (results_tmp3 (fn := Try.f20) (t := 4) (u := 5) (v := 6) rfl _ _ _) rfl ⟨_, by rw [HG.out, e1.out], HX.out.trans hx2, by rw [e2.out]; exact Row.nil _ _ _⟩
  | true =>
    cases hrb : repsB D.hours (D.wide * D.high) rs with
    | false =>
      have HG : Hid (leastErr D rs = 11) := (if_neg (by rw [hsb]; simp)).trans (if_pos hrb)
      have e1 : Hid (leastN D rs = 0) := if_pos (by rw [HG.out]; decide)
      have e2 : Hid (leastTr D rs = []) := if_pos (by rw [HG.out]; decide)
      rw [askedN_r hsb hrb] at HAS
      gi_wp2_with (gi_at_call 48; ((with_reducible refine HAS.out.mono ?_); rintro e w2 ⟨rfl, hx2⟩))
      exact bodyPost_ret (v := .tuple #[.int .i64 0, .slice none 0 0, .int .i64 11]) (results_tmp3 (fn := Try.f20) (t := 4) (u := 5) (v := 6) rfl _ _ _) rfl ⟨_, by rw [HG.out, e1.out], HX.out.trans hx2, by rw [e2.out]; exact Row.nil _ _ _⟩
    | true =>
      rw [askedN_t hsb hrb] at HAS
      have hS : soundB D rs = true := by unfold soundB; rw [hsb, hrb]; rfl
      have HS := hid hS
      have hbd := sea_bounds hsb
      have hh := inB_spec hbd.2.2.1
      have hw := inB_spec hbd.1
      have hsp := inB_spec hbd.2.2.2.1
      have hmb := mul_bounds (inB_spec hbd.1) (inB_spec hbd.2.1)
      have hro := reps_ok hsb hrb
      have hst := steps_ok hsb
      have HST := hid hst.2
      have HDL := hid hst.1
      have h24 := hro.1
      have HRO := hid fun r (h : r ∈ rs) => (hro.2 r h).1
      have HBB := hid (behR_bounds (D := D) h24)
      have hd12 : D.drift.length ≤ 1000 := by have := hst.1; omega
      have HBEH := hid fun (e : World) (hx : Ext w1 e) => behind_ref D lv dv rv rs e hsb hrb (HL.out.mono hx) (HD.out.mono hx) (HR.out.mono hx)
      have hlv := least_val hS
      have hlc := leastErr_cases hS
      have HFP := hid fun (hF : fewestF D rs < 25) (h : Nat) (hh : h < D.hours.toNat) => first_pick hS hF hh
      have hTr : Hid (leastErr D rs = 0 → leastTr D rs = (firstTo D rs (fewestF D rs) D.hours.toNat).1) := fun he => by unfold leastTr; rw [if_neg (by rw [he]; simp)]
      have HE4 : Hid (leastErr D rs = 4 → leastN D rs = 0 ∧ leastTr D rs = []) := fun he => ⟨if_pos (by rw [he]; decide), if_pos (by rw [he]; decide)⟩
      obtain ⟨H, hH⟩ : ∃ H : Nat, D.hours.toNat = H := ⟨_, rfl⟩
      obtain ⟨N, hN⟩ : ∃ N : Nat, (D.wide * D.high).toNat = N := ⟨_, rfl⟩
      have hH12 : 1 ≤ H ∧ H ≤ 12 := by omega
      have hN80 : 1 ≤ N ∧ N ≤ 80 := by omega
      have HHI : Hid (D.hours = (H : Int)) := by show _ = _; omega
      rw [hH, hN] at hlv
      rw [hH] at hTr HFP
      rw [hN] at HFP
      rw [hH] at HBEH
      rw [hN] at HBEH
      unfold seaVal at HBEH
      have HCR : Hid (∀ h left tr c, condR D rs h left tr c = ((behR D rs (H - 1 - h) c == left) && (decide (h = 0) || stepB D (h - 1) (tr.getD (h - 1) 0 : Nat) (c : Int)))) := fun h left tr c => by unfold condR; rw [hH]
      clear hsb hrb hS hbd hro hst hH hN hh
      gi_wp2_with (first | (gi_at_call 48; ((with_reducible refine HAS.out.mono ?_); rintro e w2 ⟨rfl, hx2⟩; have hcb2 := HCB.out w2 hx2; have HBH := hid (HBEH.out w2 hx2))) | (gi_at_call 56; ((with_reducible refine HBH.out.mono ?_); rintro e w3 ⟨g, rfl, hx3, hg⟩)))
      have HX3 := hid (hx2.trans hx3)
      have HROW : Hid (∀ i, i < H → ∃ b off cc, w3.cell? ⟨g, i, none⟩ = some (.slice (some ⟨b, off, none⟩) N cc) ∧ g < w3.heap.size ∧ b < w3.heap.size ∧ ∀ k, k < N → w3.cell? ⟨b, off + k, none⟩ = some (.int .i64 (behR D rs (H - 1 - i) k))) := fun i hi => by
        obtain ⟨b, off, cc, h1, h2, h3, h4⟩ := hg.out.row i hi (N := N) (by rw [List.length_map, List.length_range]) hN80.1 (by omega)
        refine ⟨b, off, cc, h1, h2, h3, fun k hk => ?_⟩
        rw [h4 k hk]
        simp [List.getD, hk]
      clear hx2 hx3 hg hcb2 HBEH HAS
      gi_loopw [9, 10] (fun n i wr => ∃ c : Nat, c ≤ N ∧ n = .int .i64 (minB (behR D rs (H - 1)) c) ∧ i = .int .i64 c ∧ Ext w3 wr) (fun _ i _ => N - (intOf i).toNat)
      case atStart => exact ⟨0, Nat.zero_le _, rfl, rfl, Ext.refl _⟩
      case round =>
        obtain ⟨c, hc, rfl, rfl, hxr⟩ := hrel
        obtain ⟨b0, off0, cc0, hr1, hr2, hr3, hr4⟩ := HROW.out 0 (by omega)
        have hq1 := (hxr.cell (p := ⟨g, _, none⟩) hr2).trans hr1
        have hq2 := fun k (hk : k < N) => (hxr.cell (p := ⟨b0, _, none⟩) hr3).trans (hr4 k hk)
        rw [Nat.sub_zero] at hq2
        have hmb2 := minB_bounds (fun d => HBB.out (H - 1) d) c
        by_cases hlt : c < N
        · have hq3 := hq2 c hlt
          have hbb := HBB.out (H - 1) c
          have HMS : Hid (minB (behR D rs (H - 1)) (c + 1) = min (minB (behR D rs (H - 1)) c) (behR D rs (H - 1) c)) := rfl
          clear hq2
          generalize minB (behR D rs (H - 1)) c = cur at *
          generalize behR D rs (H - 1) c = p at *
          by_cases hmn : p < cur
          · rw [Int.min_eq_right (by omega)] at HMS
            gi_wp2
            all_goals exact ⟨⟨c + 1, by omega, by rw [HMS.out], by go_num, hxr⟩, by simp [intOf] <;> omega⟩
          · rw [Int.min_eq_left (by omega)] at HMS
            gi_wp2
            all_goals exact ⟨⟨c + 1, by omega, by rw [HMS.out], by go_num, hxr⟩, by simp [intOf] <;> omega⟩
        · obtain rfl : N = c := by omega
          clear hq2
          rw [hlv] at *
          obtain ⟨w4, rfl⟩ : ∃ w4, w4 = wr := ⟨wr, rfl⟩
          rcases hlc with ⟨he4, hf25⟩ | ⟨he0, hf25, hln⟩
          · have HG := hid he4
            have HE := hid (HE4.out he4)
            rw [if_neg (show ¬ fewestF D rs < 25 by omega)] at *
            clear hlv he4 hf25
            gi_wp2
            all_goals exact bodyPost_ret (v := .tuple #[.int .i64 0, .slice none 0 0, .int .i64 4]) (results_tmp3 (fn := Try.f20) (t := 4) (u := 5) (v := 6) rfl _ _ _) rfl ⟨_, by rw [HG.out, HE.out.1], HX.out.trans (HX3.out.trans hxr), by rw [HE.out.2]; exact Row.nil _ _ _⟩
          · rw [if_pos hf25] at *
            have HG := hid he0
            have HLN := hid hln
            have HTR := hid (hTr.out he0)
            have HFP2 := hid (HFP.out hf25)
            clear hlv he0 hln HE4 hTr HFP
            have hn25 := hf25
            clear hf25
            generalize fewestF D rs = n at *
            have hne : (n == (1000 : Int)) = false := by rw [beq_eq_false_iff_ne]; omega
            gi_wp2_with fail
            gi_loopw [11, 12, 13] (fun tv lf i wr => ∃ h : Nat, h ≤ H ∧ lf = .int .i64 (firstTo D rs n h).2 ∧ i = .int .i64 h ∧ Hid (Ext w3 wr ∧ Row wr 3 1 tv (intsOf (firstTo D rs n h).1).length (intVals (intsOf (firstTo D rs n h).1)))) (fun _ _ i _ => H - (intOf i).toNat)
            case atStart => exact ⟨0, Nat.zero_le _, rfl, rfl, hxr, Row.nil _ _ _⟩
            case round =>
              obtain ⟨h, hh, rfl, rfl, hJ⟩ := hrel
              have hcbr := HCB.out wr (HX3.out.trans hJ.out.1)
              by_cases hhH : h < H
              · have dh : decide ((h : Int) < D.hours) = true := by rw [decide_eq_true_eq]; have := HHI.out; omega
                obtain ⟨hlen, hlf, hlt, pick, hpN, hpt, hpf, hnx⟩ := HFP2.out h hhH
                have HNX := hid hnx
                have HJ := hid hJ.out
                obtain ⟨rb, roff, rcc, hr1', hr2', hr3', hr4'⟩ := HROW.out h hhH
                have HRW := hid (And.intro hr1' (And.intro hr2' (And.intro hr3' hr4')))
                clear hnx hJ hr1' hr2' hr3' hr4' hq1 hr1 hr2 hr3 hr4
                generalize firstTo D rs n h = s at *
                obtain ⟨tr, lf⟩ := s
                dsimp only at hlen hlf hlt hpt hpf HJ HNX
                dsimp only
                obtain ⟨ta, tcap, rfl⟩ := HJ.out.2.isSliceN
                have HPT := hid hpt
                have HPF := hid hpf
                have HLT := hid hlt
                have HLEN := hid hlen
                have t1 : (((intsOf tr).length : Int) == (h : Int)) = true := by rw [beq_iff_eq, intsOf_length]; omega
                have t2 : (((intsOf (tr ++ [pick])).length : Int) == (h : Int)) = false := by rw [beq_eq_false_iff_ne, intsOf_length, List.length_append]; simp; omega
                have hh12 : h ≤ 12 := by omega
                clear hpt hpf hlt hlen
                obtain ⟨wo, rfl⟩ : ∃ wo, wo = wr := ⟨wr, rfl⟩
                have HTI := hid fun (e : World) (hx : Ext wo e) => Row.intsI (HJ.out.2.mono hx) (by rw [intsOf_length]; have := HLEN.out; omega)
                gi_wp2_with fail
                gi_loopw [11, 14] (fun tv i u => ∃ c : Nat, c ≤ pick + 1 ∧ i = .int .i64 c ∧ Hid (Ext wo u ∧ ((c ≤ pick ∧ tv = .slice ta (intsOf tr).length tcap) ∨ (c = pick + 1 ∧ Row u 3 1 tv (intsOf (tr ++ [pick])).length (intVals (intsOf (tr ++ [pick]))))))) (fun _ i _ => pick + 1 - (intOf i).toNat)
                case atStart => exact ⟨0, Nat.zero_le _, rfl, Ext.refl _, .inl ⟨Nat.zero_le _, rfl⟩⟩
                case round =>
                  obtain ⟨c, hc, rfl, hI⟩ := hrel
                  rcases hI.out with ⟨hxu, ⟨hcp, rfl⟩ | ⟨rfl, hrow⟩⟩
                  · have hcN : c < N := by omega
                    have HQ := hid fun (e : World) (hx : Ext wo e) => And.intro (HCB.out e (HX3.out.trans (HJ.out.1.trans hx))) (And.intro (((HJ.out.1.trans hx).cell (p := ⟨g, _, none⟩) HRW.out.2.1).trans HRW.out.1) (((HJ.out.1.trans hx).cell (p := ⟨rb, _, none⟩) HRW.out.2.2.1).trans (HRW.out.2.2.2 c hcN)))
                    have HCD := hid (HCR.out h lf tr c)
                    have hpb := HBB.out (H - 1 - h) c
                    clear hI
                    generalize behR D rs (H - 1 - h) c = p at *
                    cases hcd : condR D rs h lf tr c with
                    | true =>
                      have hcpick : c = pick := by
                        by_cases e : c < pick
                        · have := HPF.out c e; rw [hcd] at this; cases this
                        · omega
                      subst hcpick
                      rw [hcd] at HCD
                      have hc2 := HCD.out.symm
                      rw [Bool.and_eq_true, beq_iff_eq, Bool.or_eq_true, decide_eq_true_eq] at hc2
                      obtain ⟨rfl, hc3⟩ := hc2
                      have tp : (p == p) = true := by simp
                      by_cases h0 : h = 0
                      · have th0 : ((h : Int) == 0) = true := by rw [beq_iff_eq]; omega
                        have HC := hid fun e : Later wr => HQ.out e.val (hxu.trans e.grown)
                        clear hc3 HCD hcd h0
                        gi_wp2_with fail
                        refine quiet_wide 25 (by kernel_rfl) (by kernel_rfl) ?_
                        simp only [List.take_succ_cons, List.take_zero, List.drop_succ_cons, List.drop_zero]
                        have q1 := HC.out
                        repeat (any_goals (first | go_big_quiet_step ((fail)) | quiet_step ((fail))))
                        refine wpQuiet_nil ?_
                        rintro w5 ⟨⟨_, hx5⟩, rfl⟩
                        clear q1
                        clear HC
                        have HPU := hid (plus_ref (.slice ta (intsOf tr).length tcap) (intsOf tr) c w5 (HTI.out w5 (Ext.trans hxu hx5)) (by rw [intsOf_length]; have := HLEN.out; omega))
                        gi_wp2_with (gi_at_call 57; ((with_reducible refine HPU.out.mono ?_); rintro e wp ⟨vp, rfl, hxp, hrp, hop⟩))
                        all_goals try exact (undefNo (by assumption)).elim
                        go_roundw
                        case rel => exact ⟨c + 1, by omega, by go_num, Ext.trans hxu (Ext.trans hx5 hxp), .inr ⟨rfl, by rw [intsOf_app, show intsOf [c] = [((c : Nat) : Int)] from rfl]; exact hrp.out⟩⟩
                        case measure => simp [intOf] <;> omega
                      · obtain ⟨m, hm⟩ : ∃ m, h = m + 1 := ⟨h - 1, by omega⟩
                        have th0 : ((h : Int) == 0) = false := by rw [beq_eq_false_iff_ne]; omega
                        have hkm : (h : Int) - 1 = m := by omega
                        have hmt : m < tr.length := by have := HLEN.out; omega
                        have hmd : m < D.drift.length := by have := HDL.out; have := HHI.out; omega
                        have hsb : stepB D m (tr.getD m 0 : Nat) (c : Int) = true := by
                          rcases hc3 with e | e
                          · omega
                          · rw [show h - 1 = m by omega] at e; exact e
                        have htm := HLT.out tr[m] (List.getElem_mem _)
                        rw [getD_of hmt] at hsb
                        obtain ⟨ti, tic, te, _, htc⟩ := HTI.out wo (Ext.refl _)
                        injection te with te1 te2 te3
                        obtain ⟨tb, toff, e3, htb, htcell⟩ := htc m (by rw [intsOf_length]; exact hmt)
                        rw [← te1] at e3
                        subst e3
                        have hmi : m < (intsOf tr).length := by rw [intsOf_length]; exact hmt
                        have htcell2 : wo.cell? ⟨tb, toff + m, none⟩ = some (.int .i64 (tr[m] : Nat)) := by rw [htcell]; simp [intsOf]
                        have HSQ := hid fun e : Later wr => step_ref D lv dv m (tr[m] : Nat) (c : Int) e.val hw hsp (HD.out.mono (HX3.out.trans (HJ.out.1.trans (Ext.trans hxu e.grown)))) hmd (HST.out m hmd) (by omega) (by omega) hd12
                        rw [hsb, seaVal] at HSQ
                        have HC := hid fun e : Later wr => And.intro (HQ.out e.val (Ext.trans hxu e.grown)) (((Ext.trans hxu e.grown).cell (p := ⟨tb, _, none⟩) htb).trans htcell2)
                        clear hc3 HCD hcd hsb htc htcell htcell2 htb te1 te2 te3
                        have HM := hid hm
                        clear hm
                        generalize tr[m] = tm at *
                        gi_wp2_with fail
                        refine quiet_wide 25 (by kernel_rfl) (by kernel_rfl) ?_
                        simp only [List.take_succ_cons, List.take_zero, List.drop_succ_cons, List.drop_zero]
                        have q1 := HC.out
                        repeat (any_goals (first | go_big_quiet_step ((go_at_call 50; with_reducible exact Cal.quiet (HSQ.out _))) | quiet_step ((go_at_call 50; with_reducible exact Cal.quiet (HSQ.out _)))))
                        refine wpQuiet_nil ?_
                        rintro w5 ⟨⟨_, hx5⟩, rfl⟩
                        clear q1
                        clear HC HSQ
                        have HPU := hid (plus_ref (.slice (some ⟨tb, toff, none⟩) (intsOf tr).length tcap) (intsOf tr) c w5 (HTI.out w5 (Ext.trans hxu hx5)) (by rw [intsOf_length]; have := HLEN.out; omega))
                        gi_wp2_with (gi_at_call 57; ((with_reducible refine HPU.out.mono ?_); rintro e wp ⟨vp, rfl, hxp, hrp, hop⟩))
                        all_goals try exact (undefNo (by assumption)).elim
                        go_roundw
                        case rel => exact ⟨c + 1, by omega, by go_num, Ext.trans hxu (Ext.trans hx5 hxp), .inr ⟨rfl, by rw [intsOf_app, show intsOf [c] = [((c : Nat) : Int)] from rfl]; exact hrp.out⟩⟩
                        case measure => simp [intOf] <;> omega
                    | false =>
                      have hcpick : c < pick := by
                        by_cases e : c = pick
                        · have := HPT.out; rw [← e, hcd] at this; cases this
                        · omega
                      rw [hcd] at HCD
                      by_cases hpl : p = lf
                      · subst hpl
                        have tp : (p == p) = true := by simp
                        have hc2 := HCD.out.symm
                        rw [tp, Bool.true_and, Bool.or_eq_false_iff, decide_eq_false_iff_not] at hc2
                        obtain ⟨h0, hc3⟩ := hc2
                        obtain ⟨m, hm⟩ : ∃ m, h = m + 1 := ⟨h - 1, by omega⟩
                        have th0 : ((h : Int) == 0) = false := by rw [beq_eq_false_iff_ne]; omega
                        have hkm : (h : Int) - 1 = m := by omega
                        have hmt : m < tr.length := by have := HLEN.out; omega
                        have hmd : m < D.drift.length := by have := HDL.out; have := HHI.out; omega
                        rw [show h - 1 = m by omega] at hc3
                        have htm := HLT.out tr[m] (List.getElem_mem _)
                        rw [getD_of hmt] at hc3
                        obtain ⟨ti, tic, te, _, htc⟩ := HTI.out wo (Ext.refl _)
                        injection te with te1 te2 te3
                        obtain ⟨tb, toff, e3, htb, htcell⟩ := htc m (by rw [intsOf_length]; exact hmt)
                        rw [← te1] at e3
                        subst e3
                        have hmi : m < (intsOf tr).length := by rw [intsOf_length]; exact hmt
                        have htcell2 : wo.cell? ⟨tb, toff + m, none⟩ = some (.int .i64 (tr[m] : Nat)) := by rw [htcell]; simp [intsOf]
                        have HSQ := hid fun e : Later wr => step_ref D lv dv m (tr[m] : Nat) (c : Int) e.val hw hsp (HD.out.mono (HX3.out.trans (HJ.out.1.trans (Ext.trans hxu e.grown)))) hmd (HST.out m hmd) (by omega) (by omega) hd12
                        rw [hc3, seaVal] at HSQ
                        have HC := hid fun e : Later wr => And.intro (HQ.out e.val (Ext.trans hxu e.grown)) (((Ext.trans hxu e.grown).cell (p := ⟨tb, _, none⟩) htb).trans htcell2)
                        clear hc3 HCD hcd htc htcell htcell2 htb te1 te2 te3
                        have HM := hid hm
                        clear hm
                        generalize tr[m] = tm at *
                        gi_wp2_with fail
                        refine quiet_wide 25 (by kernel_rfl) (by kernel_rfl) ?_
                        simp only [List.take_succ_cons, List.take_zero, List.drop_succ_cons, List.drop_zero]
                        have q1 := HC.out
                        repeat (any_goals (first | go_big_quiet_step ((go_at_call 50; with_reducible exact Cal.quiet (HSQ.out _))) | quiet_step ((go_at_call 50; with_reducible exact Cal.quiet (HSQ.out _)))))
                        refine wpQuiet_nil ?_
                        rintro w5 ⟨⟨_, hx5⟩, rfl⟩
                        clear q1
                        clear HC HSQ
                        gi_wp2
                        all_goals first | exact (undefNo (by assumption)).elim | exact ⟨⟨c + 1, by omega, by go_num, Ext.trans hxu hx5, .inl ⟨by omega, rfl⟩⟩, by simp [intOf] <;> omega⟩
                      · have tp : (p == lf) = false := by rw [beq_eq_false_iff_ne]; exact hpl
                        have HC := hid fun e : Later wr => HQ.out e.val (Ext.trans hxu e.grown)
                        clear HCD hcd hpl
                        gi_wp2_with fail
                        refine quiet_wide 25 (by kernel_rfl) (by kernel_rfl) ?_
                        simp only [List.take_succ_cons, List.take_zero, List.drop_succ_cons, List.drop_zero]
                        have q1 := HC.out
                        repeat (any_goals (first | go_big_quiet_step ((fail)) | quiet_step ((fail))))
                        refine wpQuiet_nil ?_
                        rintro w5 ⟨⟨_, hx5⟩, rfl⟩
                        clear q1
                        clear HC
                        gi_wp2
                        all_goals first | exact (undefNo (by assumption)).elim | exact ⟨⟨c + 1, by omega, by go_num, Ext.trans hxu hx5, .inl ⟨by omega, rfl⟩⟩, by simp [intOf] <;> omega⟩
                  · obtain ⟨va, vc, rfl⟩ := hrow.isSliceN
                    have hti := Row.intsI hrow (by rw [intsOf_length, List.length_append]; simp; have := HLEN.out; omega)
                    obtain ⟨ti, tic, te, _, htc⟩ := hti
                    injection te with te1 te2 te3
                    obtain ⟨tb, toff, e3, htb, htcell⟩ := htc h (by rw [intsOf_length, List.length_append]; simp; have := HLEN.out; omega)
                    rw [← te1] at e3
                    subst e3
                    have hlx : h < (intsOf (tr ++ [pick])).length := by rw [intsOf_length, List.length_append]; simp; have := HLEN.out; omega
                    have htcell2 : wr.cell? ⟨tb, toff + h, none⟩ = some (.int .i64 (pick : Nat)) := by
                      rw [htcell]
                      have := HLEN.out
                      simp [intsOf, List.getElem_append, this]
                    have HXU := hid (HX3.out.trans (HJ.out.1.trans hxu))
                    have HLQ := hid fun e : Later wr => lies_int D lv dv rv rs h pick e.val hw (HR.out.mono (HXU.out.trans e.grown)) (by omega) h24 HRO.out (by omega)
                    have HC := hid fun e : Later wr => And.intro (HCB.out e.val (HXU.out.trans e.grown)) ((e.grown.cell (p := ⟨tb, _, none⟩) htb).trans htcell2)
                    have hlb := lieI_bounds D h24 h pick
                    have HROW2 := hid (And.intro hxu hrow)
                    clear hI htc htcell htcell2 htb te1 te2 te3 hrow hxu
                    generalize lieI D rs h pick = li at *
                    gi_wp2_with fail
                    refine quiet_wide 10 (by kernel_rfl) (by kernel_rfl) ?_
                    simp only [List.take_succ_cons, List.take_zero, List.drop_succ_cons, List.drop_zero]
                    have q1 := HC.out
                    repeat (any_goals (first | go_big_quiet_step ((go_at_call 51; with_reducible exact Cal.quiet (HLQ.out _))) | quiet_step ((go_at_call 51; with_reducible exact Cal.quiet (HLQ.out _)))))
                    refine wpQuiet_nil ?_
                    rintro w5 ⟨⟨_, hx5⟩, rfl⟩
                    clear q1
                    clear HC HLQ
                    gi_wp2
                    go_roundw
                    case rel => exact ⟨h + 1, by omega, by rw [HNX.out], by go_num, HJ.out.1.trans (HROW2.out.1.trans hx5), by rw [HNX.out]; exact HROW2.out.2.mono hx5⟩
                    case measure => simp [intOf] <;> omega
              · obtain rfl : H = h := by omega
                have dh : decide ((H : Int) < D.hours) = false := by rw [decide_eq_false_iff_not]; have := HHI.out; omega
                have HJ := hid hJ.out
                clear hJ
                gi_wp2
                exact bodyPost_ret (v := .tuple #[.int .i64 n, u11, .int .i64 0]) (results_tmp3 (fn := Try.f20) (t := 4) (u := 5) (v := 6) rfl _ _ _) rfl ⟨_, by rw [HG.out, HLN.out], HX.out.trans (HX3.out.trans HJ.out.1), by rw [HTR.out, natVals_int, ← intsOf_length]; exact HJ.out.2⟩
end Go.Proofs.Ytlgcnjcbmihefaa
