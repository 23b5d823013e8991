/- The law ShareDivides. -/
import Derived.Test.YtjocoadhalimjaaGreatRBM
set_option linter.unusedSimpArgs false
set_option linter.unusedVariables false
namespace Go.Proofs.YtjocoadhalimjaaGreat
section
open Go Go.RowKit Go.Shelf

set_option maxHeartbeats 4000000 in
theorem RDivide_bad (P : Int) (v : Value) (l : List Stk) (w : World) (hv : StakesAt w v l) (hn : nmOk l) (he : divE P l ≠ 0) :
    Cal 16 #[.int .i64 P, v] w fun e w' => e = .returned (.tuple #[.slice none 0 0, .int .i64 (divE P l)]) ∧ Ext w w' := by
  have HS := hid (fun (u : World) (hu : Ext w u) => stakes_any v l u (hv.mono hu) hn)
  have HI := hid (fun (u : World) => In_any P 0 10000000 u)
  cases hi : inB P 0 10000000 with
  | false =>
    rw [hi] at HI
    have HE : Hid (divE P l = 7) := hid (by unfold divE; rw [hi]; rfl)
    clear he hv hn hi
    gi_enter Tryz.func16, Tryz.ntmps16
    gi_wp2_with (gi_at_call 29; ((with_reducible refine (HI.out _).mono ?_); rintro e w1 ⟨rfl, rfl⟩))
    refine bodyPost_ret (v := .tuple #[.slice none 0 0, .int .i64 7]) (by simp [results, Tryz.results16, go_sem]) rfl ⟨by rw [HE.out], Ext.refl _⟩
  | true =>
    rw [hi] at HI
    cases hs : stakesB l with
    | false =>
      rw [hs] at HS
      have HE : Hid (divE P l = 32) := hid (by unfold divE; rw [hi, hs]; rfl)
      clear he hv hn hi hs
      gi_enter Tryz.func16, Tryz.ntmps16
      gi_wp2_with (first | (gi_at_call 29; ((with_reducible refine (HI.out _).mono ?_); rintro e w1 ⟨rfl, rfl⟩)) | (gi_at_call 50; ((with_reducible refine (HS.out _ (Ext.refl _)).mono ?_); rintro e w2 ⟨rfl, hx2⟩)))
      refine bodyPost_ret (v := .tuple #[.slice none 0 0, .int .i64 32]) (by simp [results, Tryz.results16, go_sem]) rfl ⟨by rw [HE.out], hx2⟩
    | true =>
      rw [hs] at HS
      have hz : sumW l = 0 := by
        by_cases h : sumW l = 0
        · exact h
        · exact absurd (by unfold divE; rw [hi, hs]; simp [h]) he
      have hok := stakes_ok hs
      have HW := hid (fun (u : World) (hu : Ext w u) => whole_any v l u (hv.mono hu) (fun s hs => by have := (hok.2.1 s hs).2; omega) (by omega))
      rw [hz] at HW
      have HE : Hid (divE P l = 32) := hid (by unfold divE; rw [hi, hs, hz]; rfl)
      clear he hv hn hi hs hok hz
      gi_enter Tryz.func16, Tryz.ntmps16
      gi_wp2_with (first | (gi_at_call 29; ((with_reducible refine (HI.out _).mono ?_); rintro e w1 ⟨rfl, rfl⟩)) | (gi_at_call 50; ((with_reducible refine (HS.out _ (Ext.refl _)).mono ?_); rintro e w2 ⟨rfl, hx2⟩)) | (gi_at_call 51; ((with_reducible refine (HW.out _ hx2).mono ?_); rintro e w3 ⟨rfl, rfl⟩)))
      refine bodyPost_ret (v := .tuple #[.slice none 0 0, .int .i64 32]) (by simp [results, Tryz.results16, go_sem]) rfl ⟨by rw [HE.out], hx2⟩
set_option maxHeartbeats 4000000 in
theorem RDivide_ok (P : Int) (v : Value) (l : List Stk) (w : World) (hv : StakesAt w v l) (hn : nmOk l) (he : divE P l = 0) :
    Cal 16 #[.int .i64 P, v] w fun e w' => ∃ r, e = .returned (.tuple #[r, .int .i64 0]) ∧ Ext w w' ∧ Hid (Row w' 3 1 r l.length (intsF l.length (giveTo P l))) := by
  obtain ⟨hP, hs, hz⟩ := divE_ok he
  have HS := hid (fun (u : World) (hu : Ext w u) => stakes_any v l u (hv.mono hu) hn)
  have HI := hid (fun (u : World) => In_b P 0 10000000 true u (by unfold inB; simp; omega))
  rw [hs] at HS
  have hok := stakes_ok hs
  have hpos : 0 < sumW l := by
    have := sumW_nonneg (l := l) fun s hs => (hok.2.1 s hs).2.1
    omega
  have HW := hid (fun (u : World) (hu : Ext w u) => whole_any v l u (hv.mono hu) (fun s hs => by have := (hok.2.1 s hs).2; omega) (by omega))
  have HD := hid (fun (u : World) (hu : Ext w u) => refdiv_any P v l u (hv.mono hu) hP (fun s hs => by have := (hok.2.1 s hs).2; omega) hok.1 hpos hok.2.2)
  have hzz : (sumW l == 0) = false := by simpa using hz
  generalize sumW l = A at *
  clear he hv hn hs hok hpos hz
  gi_enter Tryz.func16, Tryz.ntmps16
  gi_wp2_with (first | (gi_at_call 29; ((with_reducible refine (HI.out _).mono ?_); rintro e w1 ⟨rfl, rfl⟩)) | (gi_at_call 50; ((with_reducible refine (HS.out _ (Ext.refl _)).mono ?_); rintro e w2 ⟨rfl, hx2⟩)) | (gi_at_call 51; ((with_reducible refine (HW.out _ hx2).mono ?_); rintro e w3 ⟨rfl, rfl⟩)) | (gi_at_call 52; ((with_reducible refine (HD.out _ hx2).mono ?_); rintro e w4 ⟨r, rfl, hx4, hr⟩)))
  refine bodyPost_ret (v := .tuple #[r, .int .i64 0]) (by simp [results, Tryz.results16, go_sem]) rfl ⟨r, rfl, hx2.trans hx4, hid hr.out.1⟩
theorem ints_nil (w : World) : IntsAt w (.slice none 0 0) [] := ⟨none, 0, rfl, ⟨by simp, by simp⟩, fun i hi => by simp at hi⟩
set_option maxRecDepth 100000 in
set_option maxHeartbeats 8000000 in
theorem ShareDivides_any (P : Int) (v : Value) (l : List Stk) (w : World) (hv : StakesAt w v l) (hn : nmOk l) : Cal 3 #[.int .i64 P, v] w fun e w' => e = .returned (.bool true) ∧ Ext w w' := by
  have HWK := hid (fun (u : World) => works_any u)
  by_cases he : divE P l = 0
  · have HA := hid (Divide_ok P v l w hv hn he)
    have HB := hid (fun (u : World) (hu : Ext w u) => RDivide_ok P v l u (hv.mono hu) hn he)
    have hl : l.length ≤ 10 := (stakes_ok (divE_ok he).2.1).1
    have HL := hid hl
    clear hv hn he hl
    gi_enter Tryz.func3, Tryz.ntmps3
    gi_upto_region 3 with (first | (gi_at_call 15; ((with_reducible refine (HA.out).mono ?_); rintro e w1 ⟨r1, rfl, hx1, HR1⟩; have HX1 := hid hx1; clear hx1)) | (gi_at_call 16; ((with_reducible refine (HB.out _ HX1.out).mono ?_); rintro e w2 ⟨r2, rfl, hx2, HR2⟩; have HX2 := hid hx2; clear hx2)))
    have HI1 := hid (IntsAt.of_row (xs := gvs P l) (by rw [gvs_len, ← intsF_gvs]; exact HR1.out.mono HX2.out) (by rw [gvs_len]; have := HL.out; omega))
    have HI2 := hid (IntsAt.of_row (xs := gvs P l) (by rw [gvs_len, ← intsF_gvs]; exact HR2.out) (by rw [gvs_len]; have := HL.out; omega))
    have HSA := hid (Same_any _ _ _ _ w2 HI1.out HI2.out)
    rw [show (gvs P l == gvs P l) = true by simp] at HSA
    clear HI1 HI2 HR1 HR2
    gi_wp2_with (first | (gi_at_call 17; ((with_reducible refine (HSA.out).mono ?_); rintro e w3 ⟨rfl, hx3⟩; have HX3 := hid (HX1.out.trans (HX2.out.trans hx3)); clear hx3)) | (gi_at_call 18; ((with_reducible refine (HWK.out _).mono ?_); rintro e w4 ⟨rfl, hx4⟩; have HX4 := hid (HX3.out.trans hx4); clear hx4)))
    go_ret
    exact ⟨rfl, HX4.out⟩
  · have HA := hid (Divide_bad P v l w hv hn he)
    have HB := hid (fun (u : World) (hu : Ext w u) => RDivide_bad P v l u (hv.mono hu) hn he)
    generalize divE P l = E at *
    clear hv hn he
    gi_enter Tryz.func3, Tryz.ntmps3
    gi_upto_region 3 with (first | (gi_at_call 15; ((with_reducible refine (HA.out).mono ?_); rintro e w1 ⟨rfl, hx1⟩; have HX1 := hid hx1; clear hx1)) | (gi_at_call 16; ((with_reducible refine (HB.out _ HX1.out).mono ?_); rintro e w2 ⟨rfl, hx2⟩; have HX2 := hid hx2; clear hx2)))
    have HSA := hid (Same_any _ _ _ _ w2 (ints_nil w2) (ints_nil w2))
    rw [show (([] : List Int) == []) = true by simp] at HSA
    gi_wp2_with (first | (gi_at_call 17; ((with_reducible refine (HSA.out).mono ?_); rintro e w3 ⟨rfl, hx3⟩; have HX3 := hid (HX1.out.trans (HX2.out.trans hx3)); clear hx3)) | (gi_at_call 18; ((with_reducible refine (HWK.out _).mono ?_); rintro e w4 ⟨rfl, hx4⟩; have HX4 := hid (HX3.out.trans hx4); clear hx4)))
    go_ret
    exact ⟨rfl, HX4.out⟩
end
section
open Go Go.RowKit Go.Shelf

theorem stakesB_mk {l : List Stk} (hl : l.length ≤ 10) (hg : ∀ s ∈ l, nameB s.name = true ∧ 0 ≤ s.weight ∧ s.weight ≤ 1000) (hd : (l.map (·.name)).Nodup) : stakesB l = true := by
  unfold stakesB
  rw [Bool.and_eq_true, decide_eq_true_eq]
  refine ⟨hl, ?_⟩
  unfold allTo
  rw [List.all_eq_true]
  intro i hi
  rw [List.mem_range] at hi
  unfold stakeGood
  rw [getD_of hi]
  have h := hg l[i] (List.getElem_mem hi)
  have hm : metB (l.take i) l[i].name = false := by
    unfold metB
    rw [List.any_eq_false]
    intro x hx he
    obtain ⟨j, hj, rfl⟩ := List.mem_take_iff_getElem.1 hx
    have hd := List.pairwise_iff_getElem.1 hd j i (by simp; omega) (by simpa using hi) (by omega)
    simp only [List.getElem_map] at hd
    have he2 : l[j].name.toList = l[i].name.toList := by simpa using he
    exact hd (names_inj he2)
  rw [h.1, hm]
  unfold inB; simp; omega
/-- The same stakes, told in another order, as numbers of the first ones. -/
structure Turn (l T : List Stk) (I : List Nat) : Prop where
  perm : I.Perm (List.range l.length)
  eq : T = I.map fun i => l.getD i noStk
section
variable {l T : List Stk} {I : List Nat}
theorem Turn.len (h : Turn l T I) : T.length = l.length ∧ I.length = l.length := by
  have h1 := h.perm.length_eq
  rw [List.length_range] at h1
  rw [h.eq, List.length_map]; exact ⟨h1, h1⟩
theorem map_noStk (l : List Stk) : (List.range l.length).map (fun i => l.getD i noStk) = l := by
  refine List.ext_getElem (by simp) fun i h1 h2 => ?_
  rw [List.getElem_map, List.getElem_range, getD_of h2]
theorem Turn.permT (h : Turn l T I) : T.Perm l := by
  have := h.perm.map (fun i => l.getD i noStk)
  rw [map_noStk] at this
  rw [h.eq]; exact this
theorem Turn.start (f : Nat) : Turn l (l.drop f ++ l.take f) ((List.range l.length).drop f ++ (List.range l.length).take f) := by
  refine ⟨?_, ?_⟩
  · exact (List.perm_append_comm).trans (by rw [List.take_append_drop])
  · rw [List.map_append, List.map_drop, List.map_take, map_noStk]
theorem set2_perm {α : Type} : ∀ (L : List α) (i : Nat) (h : i + 1 < L.length), ((L.set i L[i + 1]).set (i + 1) L[i]).Perm L
  | [], i, h => by simp at h
  | [a], i, h => by simp at h
  | a :: b :: L, 0, h => by simpa using List.Perm.swap a b L
  | a :: b :: L, i + 1, h => by
    have ih := set2_perm (b :: L) i (by simpa using h)
    simp only [List.set_cons_succ, List.getElem_cons_succ] at ih ⊢
    exact ih.cons a
theorem Turn.swap (h : Turn l T I) {i : Nat} (hi : i + 1 < T.length) : ∃ I', Turn l ((T.set i T[i + 1]).set (i + 1) T[i]) I' := by
  have hI : i + 1 < I.length := by have := h.len; omega
  refine ⟨(I.set i I[i + 1]).set (i + 1) I[i], (set2_perm I i hI).trans h.perm, ?_⟩
  have e := h.eq
  subst e
  rw [List.map_set, List.map_set]
  simp
theorem Turn.ok (h : Turn l T I) (hs : stakesB l = true) : stakesB T = true := by
  obtain ⟨h1, h2, h3⟩ := stakes_ok hs
  have hp := h.permT
  exact stakesB_mk (by have := h.len; omega) (fun s hs => h2 s (hp.mem_iff.1 hs)) ((hp.map (·.name)).nodup_iff.2 h3)
theorem sumW_perm {l T : List Stk} (h : T.Perm l) : sumW T = sumW l := by
  unfold sumW
  have hp := h.map (·.weight)
  generalize T.map (·.weight) = a at *
  generalize l.map (·.weight) = b at *
  clear h
  induction hp with
  | nil => rfl
  | cons x _ ih => simp [ih]
  | swap x y l => simp; omega
  | trans _ _ h1 h2 => exact h1.trans h2
theorem Turn.err (h : Turn l T I) {P : Int} (he : divE P l = 0) : divE P T = 0 := by
  obtain ⟨h1, h2, h3⟩ := divE_ok he
  unfold divE
  rw [show inB P 0 10000000 = true by unfold inB; simp; omega, h.ok h2, sumW_perm h.permT]
  simp [h3]
theorem Turn.get (h : Turn l T I) {k : Nat} (hk : k < l.length) : ∃ j, j < l.length ∧ I.getD k 0 = j ∧ T.getD k noStk = l.getD j noStk := by
  have hl := h.len
  have hkI : k < I.length := by omega
  refine ⟨I[k], ?_, by rw [List.getD_eq_getElem?_getD, List.getElem?_eq_getElem hkI]; rfl, ?_⟩
  · have := h.perm.mem_iff.1 (List.getElem_mem hkI); simpa using this
  · rw [getD_of (by omega)]
    have e := h.eq
    subst e
    simp
/-- Each name gets the same. -/
theorem Turn.same (h : Turn l T I) {P : Int} (he : divE P l = 0) {i k : Nat} (hi : i < l.length) (hk : k < l.length) (hn : (T.getD k noStk).name = (l.getD i noStk).name) : giveTo P T k = giveTo P l i := by
  obtain ⟨hP, hs, hz⟩ := divE_ok he
  have hok := stakes_ok hs
  have hw : ∀ s ∈ l, 0 ≤ s.weight := fun s hs => (hok.2.1 s hs).2.1
  have hA : 0 < sumW l := by have := sumW_nonneg hw; omega
  have hokT := stakes_ok (h.ok hs)
  have hwT : ∀ s ∈ T, 0 ≤ s.weight := fun s hs => (hokT.2.1 s hs).2.1
  have hAT : 0 < sumW T := by rw [sumW_perm h.permT]; exact hA
  have hlen := h.len
  let π : Nat → Nat := fun i => if i < l.length then I.getD i 0 else i
  have hTg : ∀ i, T.getD i noStk = l.getD (π i) noStk := fun i => by
    by_cases hi : i < l.length
    · obtain ⟨j, _, h2, h3⟩ := h.get hi
      show _ = l.getD (if i < l.length then I.getD i 0 else i) noStk
      rw [if_pos hi, h2, h3]
    · show _ = l.getD (if i < l.length then I.getD i 0 else i) noStk
      rw [if_neg hi, List.getD_eq_getElem?_getD, List.getD_eq_getElem?_getD, List.getElem?_eq_none (by omega), List.getElem?_eq_none (by omega)]
  have hw' : wN T = fun i => wN l (π i) := by funext i; unfold wN; rw [hTg i]
  have hlt' : ltN T = fun i j => ltN l (π i) (π j) := by funext i j; unfold ltN; rw [hTg i, hTg j]
  have hmap : (List.range l.length).map π = I := by
    refine List.ext_getElem (by simp [hlen.2]) fun i h1 h2 => ?_
    have hi : i < l.length := by simpa using h1
    rw [List.getElem_map, List.getElem_range]
    show (if i < l.length then I.getD i 0 else i) = _
    rw [if_pos hi, List.getD_eq_getElem?_getD, List.getElem?_eq_getElem h2]; rfl
  have hp : ((List.range l.length).map π).Perm (List.range l.length) := by rw [hmap]; exact h.perm
  obtain ⟨j, hj, h2, h3⟩ := h.get hk
  have hπ : π k = j := by show (if k < l.length then I.getD k 0 else k) = j; rw [if_pos hk, h2]
  have hji : j = i := by
    rw [h3] at hn
    rcases Nat.lt_trichotomy j i with h4 | h4 | h4
    · have := List.pairwise_iff_getElem.1 hok.2.2 j i (by simpa using hj) (by simpa using hi) h4
      simp only [List.getElem_map] at this
      rw [getD_of hj, getD_of hi] at hn
      exact absurd hn this
    · exact h4
    · have := List.pairwise_iff_getElem.1 hok.2.2 i j (by simpa using hi) (by simpa using hj) h4
      simp only [List.getElem_map] at this
      rw [getD_of hj, getD_of hi] at hn
      exact absurd hn.symm this
  rw [giveTo_eq hP.1 hwT hAT hokT.2.2 (by omega), giveTo_eq hP.1 hw hA hok.2.2 hi, hlen.1, hw', hlt', Sv.gets_turn hp, hπ, hji]
end
/-- Weights so many times as great. -/
def timesL (m : Int) (l : List Stk) : List Stk := l.map fun s => ⟨s.name, s.weight * m⟩
theorem timesL_len (m : Int) (l : List Stk) : (timesL m l).length = l.length := by simp [timesL]
theorem times_ok {P m : Int} {l : List Stk} (he : divE P l = 0) (hm : 2 ≤ m) (hw : ∀ s ∈ l, s.weight * m ≤ 1000) : divE P (timesL m l) = 0 ∧ ∀ i, i < l.length → giveTo P (timesL m l) i = giveTo P l i := by
  obtain ⟨hP, hs, hz⟩ := divE_ok he
  have hok := stakes_ok hs
  have hw0 : ∀ s ∈ l, 0 ≤ s.weight := fun s hs => (hok.2.1 s hs).2.1
  have hA : 0 < sumW l := by have := sumW_nonneg hw0; omega
  have hnm : (timesL m l).map (·.name) = l.map (·.name) := by simp [timesL, Function.comp_def]
  have hsB : stakesB (timesL m l) = true := stakesB_mk (by rw [timesL_len]; exact hok.1) (fun s hs => by
    obtain ⟨x, hx, rfl⟩ := List.mem_map.1 hs
    have h1 := hok.2.1 x hx
    exact ⟨h1.1, Int.mul_nonneg h1.2.1 (by omega), hw x hx⟩) (by rw [hnm]; exact hok.2.2)
  have hsum : sumW (timesL m l) = m * sumW l := by
    unfold sumW timesL
    clear he hs hz hok hw0 hA hnm hsB hw
    induction l with
    | nil => simp
    | cons s l ih => simp only [List.map_cons, List.sum_cons] at ih ⊢; rw [ih, Int.mul_add, Int.mul_comm]
  have hpos : 0 < sumW (timesL m l) := by rw [hsum]; exact Int.mul_pos (by omega) hA
  have hokT := stakes_ok hsB
  have hE : divE P (timesL m l) = 0 := by
    unfold divE
    rw [show inB P 0 10000000 = true by unfold inB; simp; omega, hsB]
    simp; omega
  refine ⟨hE, fun i hi => ?_⟩
  have hg : ∀ i, (timesL m l).getD i noStk = ⟨(l.getD i noStk).name, (l.getD i noStk).weight * m⟩ := fun i => by
    unfold timesL
    rw [List.getD_eq_getElem?_getD, List.getD_eq_getElem?_getD, List.getElem?_map]
    cases l[i]? with
    | none => simp [noStk]
    | some s => rfl
  have hwT : wN (timesL m l) = fun i => m.toNat * wN l i := by
    funext i
    unfold wN
    rw [hg i]
    simp only
    rw [Int.mul_comm]
    have h0 : 0 ≤ (l.getD i noStk).weight := by
      by_cases h : i < l.length
      · rw [getD_of h]; exact hw0 _ (List.getElem_mem h)
      · rw [List.getD_eq_getElem?_getD, List.getElem?_eq_none (by omega)]; simp [noStk]
    exact Int.toNat_mul (by omega) h0
  have hltT : ltN (timesL m l) = ltN l := by
    funext i j
    unfold ltN
    rw [hg i, hg j]
  rw [giveTo_eq hP.1 (fun s hs => (hokT.2.1 s hs).2.1) hpos hokT.2.2 (by rw [timesL_len]; exact hi), giveTo_eq hP.1 hw0 hA hok.2.2 hi, timesL_len, hwT, hltT, Sv.gets_times (by omega)]
end
end Go.Proofs.YtjocoadhalimjaaGreat
