/- NetsTwine: the walk. -/
import Derived.Test.YtmjelgonhpgmbaaUD
import Derived.Test.YtmjelgonhpgmbaaUE
import Derived.Test.YtmjelgonhpgmbaaUF
import Derived.Test.YtmjelgonhpgmbaaMV
set_option linter.unusedSimpArgs false
set_option linter.unusedVariables false
namespace Go.Proofs.Ytmjelgonhpgmbaa
open Go Go.RowKit Go.Shelf

theorem spun_c (T : TornD) (hT : tornB T = true) (n : Int) (tv : Value) (w : World) (ht : TnAt w tv T) : Cal 39 #[tv, .int .i64 n] w fun e w' => ∃ v, e = .returned v ∧ (∃ qs, PiecesAt w' v (qs.map (·.1)) ∧ Tw.Mends T.bars qs) ∧ Ext w w' := by
  obtain ⟨sv, rfl, hs⟩ := ht
  refine (spun_any T hT n sv w hs).mono fun e w' h => ?_
  obtain ⟨v, qs, he, hx, hp, hm⟩ := h
  refine ⟨v, he, ⟨qs, hp.pieces ?_ ?_, hm⟩, hx⟩
  · have := mend_few hT ((isMend_iff hT _).2 ⟨qs, rfl, hm⟩); omega
  · intro p hp
    obtain ⟨q, hq, rfl⟩ := List.mem_map.1 hp
    have := mends_piece hm q hq
    have := (torn_ok hT).2.2.2.2.1
    omega
theorem whole_c (T : TornD) (tv : Value) (w : World) (ht : TnAt w tv T) : Cal 38 #[tv] w fun e w' => e = .returned (.bool (tornB T)) ∧ Ext w w' := by
  obtain ⟨sv, rfl, hs⟩ := ht
  exact whole_any T sv w hs
/-- What a spinning yields, and what looking at it says. -/
def kSpun (T : TornD) (v : Value) (u : World) : Prop := ∃ qs, PiecesAt u v (qs.map (·.1)) ∧ Tw.Mends T.bars qs
def kAns (V : Int) (v : Value) (_ : World) : Prop := ∃ a, v = .tuple #[.int .i64 a, .bool true, .int .i64 0] ∧ V ≤ a
def kGe (V : Int) (v : Value) (_ : World) : Prop := ∃ a, v = .int .i64 a ∧ V ≤ a
def kPs (T : TornD) (V : Int) : Preds := [(3, kSpun T), (4, kAns V), (5, kAns V), (6, kGe V), (9, kGe V)]
theorem kSpun_s (T : TornD) : ∀ v u u', kSpun T v u → Ext u u' → kSpun T v u' := fun _ _ _ ⟨qs, h1, h2⟩ hx => ⟨qs, h1.mono hx, h2⟩
theorem kAns_s (V : Int) : ∀ v u u', kAns V v u → Ext u u' → kAns V v u' := fun _ _ _ h _ => h
theorem kGe_s (V : Int) : ∀ v u u', kGe V v u → Ext u u' → kGe V v u' := fun _ _ _ h _ => h
theorem gives_part {F : Fence} {n : Nat} {P : Program} {R : World → World → Prop} {o : Oper} {a : Act} {w : World} {V : Value → World → Prop} (x : Operand) (i : Nat) (ho : o.op = .extract x i) {vs : Array Value} {v : Value} (hx : a.eval x = .tuple vs) (hv : vs[i]? = some v) (h : V v w ∧ R w w) : gives F n P R o a w V := by
  unfold gives
  rw [Oper.semAt_eq _ _ _ (by rw [ho]; intro c h; cases h)]
  unfold execOp
  simp [ho, hx, Instr.extract, hv]
  exact h
/-- What the law knows of the pieces that are told. -/
structure TwK (T : TornD) (l : List (List Int)) (qs : List (List Int × List Nat)) : Prop where
  eq : l = qs.map (·.1)
  mends : Tw.Mends T.bars qs
  best : ∀ rs, Tw.Mends T.bars rs → qs.length ≤ rs.length
theorem TwK.knots {T : TornD} {l : List (List Int)} {qs : List (List Int × List Nat)} (h : TwK T l qs) {P : Nat} (hB : Tw.Bars T.bars P) : ∀ p ∈ l, ∀ v ∈ p, 0 ≤ v ∧ v < (P : Int) := by
  intro p hp
  rw [h.eq] at hp
  obtain ⟨q, hq, rfl⟩ := List.mem_map.1 hp
  exact (h.mends.good q hq).1.knots (Tw.bars_at hB) (h.mends.good q hq).2
theorem TwK.twine {T : TornD} (hT : tornB T = true) {l : List (List Int)} {qs : List (List Int × List Nat)} (h : TwK T l qs) (rs : List (List Int × List Nat)) (hr : Tw.Mends T.bars rs) : isV T (rs.map (·.1)) = true ∧ T.mesh * T.bars.length + T.knot * 2 * l.length ≤ isTw T (rs.map (·.1)) := by
  have h1 : isV T (rs.map (·.1)) = true := by
    unfold isV; rw [hT, Bool.true_and]; exact (isMend_iff hT _).2 ⟨rs, rfl, hr⟩
  refine ⟨h1, ?_⟩
  unfold isTw
  rw [if_pos h1, List.length_map, h.eq, List.length_map]
  have := h.best rs hr
  have hk := (torn_ok hT).2.2.2.1
  have : T.knot * 2 * (qs.length : Int) ≤ T.knot * 2 * (rs.length : Int) := Int.mul_le_mul_of_nonneg_left (by omega) (by omega)
  omega

set_option maxRecDepth 100000 in
set_option maxHeartbeats 16000000 in
theorem NetsTwine_any (T : TornD) (tv : Value) (n : Int) (w : World) (ht : TnAt w tv T) : Cal 10 #[tv, .int .i64 n] w fun e w' => e = .returned (.bool true) ∧ Ext w w' := by
  have HF := hid (fun (u : World) (hu : Ext w u) => ht.mono hu)
  obtain ⟨sv, rfl, hs⟩ := ht
  obtain ⟨sa, sc, rfl, hsl, hcs⟩ := hs
  have HCS := hid hcs
  have H18 := hid (fun (u : World) (hu : Ext w u) => Mend_c T _ u (HF.out u hu))
  have H16 := hid (fun (u : World) (hu : Ext w u) => Twine_c T _ u (HF.out u hu))
  have H38 := hid (fun (u : World) (hu : Ext w u) => whole_c T _ u (HF.out u hu))
  clear hcs
  gi_enter Try.func10, Try.ntmps10
  gi_upto_region 1 with fail
  have hW : Ext w (w.alloc (.cells #[.int .i64 T.wide, .int .i64 T.high, .slice sa T.bars.length sc, .int .i64 T.mesh, .int .i64 T.knot] 24)) := ((Ext.refl _).alloc _)
  have hB0 : (w.alloc (.cells #[.int .i64 T.wide, .int .i64 T.high, .slice sa T.bars.length sc, .int .i64 T.mesh, .int .i64 T.knot] 24)).heap[w.heap.size]? = some (.cells #[.int .i64 T.wide, .int .i64 T.high, .slice sa T.bars.length sc, .int .i64 T.mesh, .int .i64 T.knot] 24 (0, 0)) := by simp only [alloc_at, World.size_alloc]; (repeat rw [if_neg (by omega)]); first | rfl | rw [if_pos (by omega)] | rw [if_pos trivial]
  generalize (w.alloc (.cells #[.int .i64 T.wide, .int .i64 T.high, .slice sa T.bars.length sc, .int .i64 T.mesh, .int .i64 T.knot] 24)) = W at *
  have HX := hid hW
  have HB0 := hid hB0
  have c0 := cell_of hB0
  clear hW hB0
  gi_upto_region 2 with (gi_at_call 18; ((with_reducible refine (H18.out _ HX.out).mono ?_); rintro e w1 ⟨v1, rfl, hx1, hp1⟩))
  have HP1 := hid hp1
  have HX := hid (HX.out.trans hx1)
  have c0 := cell_of (hx1.block HB0.out)
  have HB0 := hid (hx1.block HB0.out)
  clear hp1 hx1
  gi_upto_region 3 with (gi_at_call 16; ((with_reducible refine (H16.out _ HX.out).mono ?_); rintro e w2 ⟨rfl, hx2⟩))
  have HP1 := hid (HP1.out.ext hx2)
  have HX := hid (HX.out.trans hx2)
  have c0 := cell_of (hx2.block HB0.out)
  have HB0 := hid (hx2.block HB0.out)
  clear hx2
  obtain ⟨va, vc, hv1⟩ := pcs_slice HP1.out rfl
  subst hv1
  clear H18 H16
  cases hT : tornB T with
  | false =>
    have e1 : mendE T = 23 := by unfold mendE; rw [hT]; rfl
    have e2 : mendV T = [] := by unfold mendV; rw [e1]; rfl
    have e3 : tornE T = 23 := by unfold tornE; rw [hT]; rfl
    have e4 : twineV T = 0 := by unfold twineV; rw [hT]; rfl
    rw [hT] at H38
    simp only [e1, e2, e3, e4, List.length_nil] at *
    clear e1 e2 e3 e4 hT
    gi_wp2_with (first | (gi_at_call 38; ((with_reducible refine (H38.out _ HX.out).mono ?_); rintro e w3 ⟨rfl, hx3⟩; have c0 := cell_of (hx3.block HB0.out))) | (gi_at_call 19; ((with_reducible refine (works_any _).mono ?_); rintro e w4 ⟨rfl, hx4⟩)))
    go_ret
    exact ⟨rfl, (HX.out.trans hx3).trans hx4⟩
  | true =>
    rw [hT] at H38
    by_cases hz : T.bars.length = 0
    case pos =>
      have e1 : mendE T = 4 := by unfold mendE; rw [hT, hz]; rfl
      have e2 : mendV T = [] := by unfold mendV; rw [e1]; rfl
      have e3 : tornE T = 0 := by unfold tornE; rw [hT]; rfl
      have e4 : twineV T = 0 := by unfold twineV; rw [hT, mend_empty hT hz, hz]; simp
      simp only [e1, e2, e3, e4, List.length_nil] at *
      have hzi : ((T.bars.length : Int) == 0) = true := by simp [hz]
      clear e1 e2 e3 e4 hT hz
      gi_wp2_with (first | (gi_at_call 38; ((with_reducible refine (H38.out _ HX.out).mono ?_); rintro e w3 ⟨rfl, hx3⟩; have c0 := cell_of (hx3.block HB0.out))) | (gi_at_call 19; ((with_reducible refine (works_any _).mono ?_); rintro e w4 ⟨rfl, hx4⟩)))
      go_ret
      exact ⟨rfl, (HX.out.trans hx3).trans hx4⟩
    case neg =>
      have e1 : mendE T = 0 := by unfold mendE; rw [hT]; simp [hz]
      have e2 : mendV T = mendF T.bars T.wide T.high := by unfold mendV; rw [e1]; rfl
      have e3 : tornE T = 0 := by unfold tornE; rw [hT]; rfl
      have e4 : twineV T = T.mesh * T.bars.length + T.knot * 2 * (mendV T).length := by unfold twineV; rw [hT, e2]; rfl
      obtain ⟨qs, hq1, hq2, hq3⟩ := mend_told hT
      rw [← e2] at hq1
      clear e2
      rw [e1, e3, e4]
      generalize mendV T = l at *
      have HK : Hid (TwK T l qs) := ⟨hq1, hq2, hq3⟩
      have hM : l.length ≤ 96 := by rw [hq1]; exact mend_few hT ((isMend_iff hT _).2 ⟨qs, rfl, hq2⟩)
      have hlM : ∀ p ∈ l, p.length ≤ 61 ∧ 2 ≤ p.length := fun p hp => by
        rw [hq1] at hp
        obtain ⟨q, hq, rfl⟩ := List.mem_map.1 hp
        have := mends_piece hq2 q hq
        have := (torn_ok hT).2.2.2.2.1
        exact ⟨by omega, (hq2.good q hq).2⟩
      have HLM := hid hlM
      have hisV : isV T l = true := by unfold isV; rw [hT, Bool.true_and]; exact (isMend_iff hT _).2 ⟨qs, hq1, hq2⟩
      have hisT : isTw T l = T.mesh * T.bars.length + T.knot * 2 * l.length := by unfold isTw; rw [if_pos hisV]
      have HP2 := hid (fun (u : World) (hu : Ext w2 u) => (HP1.out.ext hu).pieces (by omega) (fun p hp => by have := (hlM p hp).1; omega))
      have H12 := hid (fun (u : World) (hu : Ext w u) (pv : Value) (ps : List (List Int)) (hp : PiecesAt u pv ps) => IsMend_c T _ pv ps u (HF.out u hu) hp)
      have H12a := hid (fun (u : World) (hu : Ext w2 u) => H12.out u (HX.out.trans hu) _ l (HP2.out u hu))
      rw [hisV, hisT, e3] at H12a
      have H39 := hid (fun (u : World) (hu : Ext w u) => spun_c T hT n _ u (HF.out u hu))
      have HTW := hid (fun rs hr => HK.out.twine hT rs hr)
      have HE3 := hid e3
      have ok := torn_ok hT
      have hm := mul_36 ok.1 ok.2.1
      have hlen := ok.2.2.2.2.1
      have hmesh := ok.2.2.1
      have hknot := ok.2.2.2.1
      obtain ⟨V, hV⟩ : ∃ V, V = T.mesh * T.bars.length + T.knot * 2 * l.length := ⟨_, rfl⟩
      have hb1 : 0 ≤ T.mesh * T.bars.length ∧ T.mesh * T.bars.length ≤ 6000 := by
        have a1 := Int.mul_le_mul hmesh.2 (show (T.bars.length : Int) ≤ 60 by omega) (by omega) (by omega)
        have a2 := Int.mul_nonneg (show 0 ≤ T.mesh by omega) (show (0 : Int) ≤ T.bars.length by omega)
        omega
      have hb2 : 0 ≤ 2 * T.knot * (l.length : Int) ∧ 2 * T.knot * (l.length : Int) ≤ 19200 := by
        have a1 := Int.mul_le_mul (show 2 * T.knot ≤ 200 by omega) (show (l.length : Int) ≤ 96 by omega) (by omega) (by omega)
        have a2 := Int.mul_nonneg (show 0 ≤ 2 * T.knot by omega) (show (0 : Int) ≤ l.length by omega)
        omega
      have hVe : V = T.mesh * T.bars.length + 2 * T.knot * (l.length : Int) := by rw [hV, Int.mul_comm T.knot 2]
      have g1 : (V != T.mesh * T.bars.length + 2 * T.knot * (l.length : Int)) = false := by rw [hVe]; simp
      rw [← hV] at e4 H12a HTW ⊢
      have hzi : ((T.bars.length : Int) == 0) = false := by rw [beq_eq_false_iff_ne]; omega
      clear e1 e3 e4 hq1 hq2 hq3 hisV hisT hV hVe hlM hz ok
      gi_upto_region 5 with (gi_at_call 38; ((with_reducible refine (H38.out _ HX.out).mono ?_); rintro e w3 ⟨rfl, hx3⟩; have c0 := cell_of (hx3.block HB0.out)))
      have HX := hid (HX.out.trans hx3)
      have HB0 := hid (hx3.block HB0.out)
      have HXX := hid hx3
      clear hx3 H38 hzi
      gi_upto_region 6 with (gi_at_call 12; ((with_reducible refine (H12a.out _ HXX.out).mono ?_); rintro e w4 ⟨rfl, hx4⟩))
      have HX := hid (HX.out.trans hx4)
      have c0 := cell_of (hx4.block HB0.out)
      have HB0 := hid (hx4.block HB0.out)
      have HXX := hid (HXX.out.trans hx4)
      clear hx4 H12a
      gi_upto_region 8 with fail
      clear g1 hb1 hb2 c0
      have HW8 := hid (HXX.out)
      refine lex_wide 12 [(3, kSpun T), (4, kAns V), (5, kAns V), (6, kGe V), (9, kGe V)] (by kernel_rfl) (by kernel_rfl) (nStab_cons (kSpun_s _) (nStab_cons (kAns_s _) (nStab_cons (kAns_s _) (nStab_cons (kGe_s _) (nStab_cons (kGe_s _) nStab_nil))))) ?_
      simp only [List.take_succ_cons, List.take_zero, List.drop_succ_cons, List.drop_zero]
      apply lex_fun (rfl : psAt _ _ = none)
      · intro x u hR hf
        have e0 := cell_of (hR.block HB0.out)
        clear hR hf
        go_simp
        exact ⟨rfl, Ext.refl _⟩
      simp only [Act.put, List.setIfInBounds_toArray, List.set_cons_succ, List.set_cons_zero]
      apply lex_fun (rfl : psAt _ _ = none)
      · intro x u hR hf
        have e0 := cell_of (hR.block HB0.out)
        clear hR hf
        go_simp
        exact ⟨rfl, Ext.refl _⟩
      simp only [Act.put, List.setIfInBounds_toArray, List.set_cons_succ, List.set_cons_zero]
      apply lex_fun (rfl : psAt _ _ = none)
      · intro x u hR hf
        clear hR hf
        go_simp
        exact ⟨rfl, Ext.refl _⟩
      simp only [Act.put, List.setIfInBounds_toArray, List.set_cons_succ, List.set_cons_zero]
      refine lex_pred (p := kSpun T) rfl ?_ ?_
      · intro x u hR hf
        have hcal := hid (H39.out u (HX.out.trans hR))
        clear hR hf
        go_simp
        exact hcal.out.mono fun e w'' ⟨v, he, hk, hx'⟩ => ⟨v, he, hk, hx'⟩
      simp only [Act.put, List.setIfInBounds_toArray, List.set_cons_succ, List.set_cons_zero]
      refine lex_pred (p := kAns V) rfl ?_ ?_
      · intro x u hR hf
        have h3 : kSpun T (x 3) u := by first | exact hf.1 rfl | exact hf.2.1 rfl | exact hf.2.2.1 rfl | exact hf.2.2.2.1 rfl
        obtain ⟨rs, hrp, hrm⟩ := h3
        have hcal := hid (H12.out u (HX.out.trans hR) _ _ hrp)
        have HT2 := hid (HTW.out rs hrm)
        rw [HT2.out.1, HE3.out] at hcal
        clear hR hf hrp
        go_simp
        exact hcal.out.mono fun e w'' ⟨he, hx'⟩ => ⟨_, he, ⟨_, rfl, HT2.out.2⟩, hx'⟩
      simp only [Act.put, List.setIfInBounds_toArray, List.set_cons_succ, List.set_cons_zero]
      refine lex_pred (p := kAns V) rfl ?_ ?_
      · intro x u hR hf
        have h3 : kAns V (x 4) u := by first | exact hf.1 rfl | exact hf.2.1 rfl | exact hf.2.2.1 rfl | exact hf.2.2.2.1 rfl
        have H3 := hid h3
        clear hR hf h3
        go_simp
        exact ⟨H3.out, Ext.refl _⟩
      simp only [Act.put, List.setIfInBounds_toArray, List.set_cons_succ, List.set_cons_zero]
      refine lex_pred (p := kGe V) rfl ?_ ?_
      · intro x u hR hf
        have h3 : kAns V (x 5) u := by first | exact hf.1 rfl | exact hf.2.1 rfl | exact hf.2.2.1 rfl | exact hf.2.2.2.1 rfl
        obtain ⟨a, he, hVa⟩ := h3
        rw [if_pos (show Region.wanted _ _ = true from rfl)]
        exact gives_part (.tmp 110) 0 rfl he rfl ⟨⟨a, rfl, hVa⟩, Ext.refl _⟩
      simp only [Act.put, List.setIfInBounds_toArray, List.set_cons_succ, List.set_cons_zero]
      refine lex_fun (v := .bool true) (rfl : psAt _ _ = none) ?_ ?_
      · intro x u hR hf
        have h3 : kAns V (x 5) u := by first | exact hf.1 rfl | exact hf.2.1 rfl | exact hf.2.2.1 rfl | exact hf.2.2.2.1 rfl
        obtain ⟨a, he, hVa⟩ := h3
        rw [if_pos (show Region.wanted _ _ = true from rfl)]
        exact gives_part (.tmp 110) 1 rfl he rfl ⟨rfl, Ext.refl _⟩
      simp only [Act.put, List.setIfInBounds_toArray, List.set_cons_succ, List.set_cons_zero]
      refine lex_fun (v := .int .i64 0) (rfl : psAt _ _ = none) ?_ ?_
      · intro x u hR hf
        have h3 : kAns V (x 5) u := by first | exact hf.1 rfl | exact hf.2.1 rfl | exact hf.2.2.1 rfl | exact hf.2.2.2.1 rfl
        obtain ⟨a, he, hVa⟩ := h3
        rw [if_pos (show Region.wanted _ _ = true from rfl)]
        exact gives_part (.tmp 110) 2 rfl he rfl ⟨rfl, Ext.refl _⟩
      simp only [Act.put, List.setIfInBounds_toArray, List.set_cons_succ, List.set_cons_zero]
      refine lex_pred (p := kGe V) rfl ?_ ?_
      · intro x u hR hf
        have h3 : kGe V (x 6) u := by first | exact hf.1 rfl | exact hf.2.1 rfl | exact hf.2.2.1 rfl | exact hf.2.2.2.1 rfl
        have H3 := hid h3
        clear hR hf h3
        go_simp
        exact ⟨H3.out, Ext.refl _⟩
      simp only [Act.put, List.setIfInBounds_toArray, List.set_cons_succ, List.set_cons_zero]
      apply lex_fun (rfl : psAt _ _ = none)
      · intro x u hR hf
        clear hR hf
        go_simp
        exact ⟨rfl, Ext.refl _⟩
      simp only [Act.put, List.setIfInBounds_toArray, List.set_cons_succ, List.set_cons_zero]
      apply lex_fun (rfl : psAt _ _ = none)
      · intro x u hR hf
        clear hR hf
        go_simp
        exact ⟨rfl, Ext.refl _⟩
      simp only [Act.put, List.setIfInBounds_toArray, List.set_cons_succ, List.set_cons_zero]
      refine lex_nil fun x w5 hE hfacts => ?_
      have h9 : kGe V (x 9) w5 := hfacts 9 _ (by omega) rfl
      clear hfacts
      generalize x 3 = x3 at *
      generalize x 4 = x4 at *
      generalize x 5 = x5 at *
      generalize x 6 = x6 at *
      generalize x 9 = x9 at *
      clear x
      obtain ⟨av, rfl, hVa⟩ := h9
      have hVb : decide (av < V) = false := by simp; omega
      have HX := hid (HX.out.trans hE)
      have HB0 := hid (hE.block HB0.out)
      have HXX := hid (HXX.out.trans hE)
      have c0 := cell_of HB0.out
      clear hE HW8 hVa H39 H12 HTW HE3
      obtain ⟨P, hP⟩ : ∃ P : Nat, P = (T.wide * T.high).toNat := ⟨_, rfl⟩
      have hPi : T.wide * T.high = (P : Int) := by omega
      have hP36 : P ≤ 36 := by omega
      have hmk := fun (u : World) => make_ints u (T.wide * T.high) P hPi (by omega)
      have HBB := hid (torn_told hT).2.1
      rw [← hP] at HBB
      have HPI := hid hPi
      clear hP hPi
      gi_upto_region 12 with fail
      have HXX6 := hid (((Ext.refl w5).alloc (.cells (iArr (fun _ => 0) P) 3)))
      have HG6 : Hid ((w5.alloc (.cells (iArr (fun _ => 0) P) 3)).heap[w5.heap.size]? = some (.cells (iArr (endsP l 0) P) 3 (0, 0))) := by show _ = _; rw [endsP_zero]; exact Ext.new (Ext.refl _)
      have HG7 := hid (And.intro HXX6.out HG6.out)
      have HPP := hid (HP2.out w5 HXX.out)
      have hPB := lt_of_block HB0.out
      clear hmk c0 HXX6 HG6 HP2 HP1
      generalize w5.alloc (.cells (iArr (fun _ => 0) P) 3) = w6 at *
      gi_wp2_with fail
      gi_loopw [14] (fun iv wr => ∃ i : Nat, i ≤ l.length ∧ iv = .int .i64 i ∧ Hid (Ext w5 wr ∧ wr.heap[w5.heap.size]? = some (.cells (iArr (endsP l i) P) 3 (0, 0)))) (fun iv _ => l.length - (intOf iv).toNat)
      case atStart => exact ⟨0, Nat.zero_le _, rfl, HG7.out⟩
      case round =>
        obtain ⟨i, hi, rfl, HI⟩ := hrel
        clear HG7
        by_cases hlt : i < l.length
        case pos =>
          have hii : (i : Int) < l.length := by omega
          obtain ⟨ra, rcap, hre, _, hrc⟩ := HPP.out
          cases hre
          obtain ⟨rb, ro, pv, rfl, hrb, hpc, hpi⟩ := hrc i hlt
          obtain ⟨pa, pcap, rfl, _, hpd⟩ := hpi
          have h2l := HLM.out l[i] (List.getElem_mem hlt)
          obtain ⟨m, hm1⟩ : ∃ m, l[i].length = m + 1 := ⟨l[i].length - 1, by omega⟩
          obtain ⟨pb, po, rfl, hpb, hp0⟩ := hpd 0 (by omega)
          obtain ⟨pb', po', he', _, hpz⟩ := hpd m (by omega)
          cases he'
          have hkn := HK.out.knots HBB.out l[i] (List.getElem_mem hlt)
          obtain ⟨α, hα⟩ : ∃ α : Nat, l[i][0] = (α : Int) := ⟨(l[i][0]).toNat, by have := hkn l[i][0] (List.getElem_mem _); omega⟩
          obtain ⟨β, hβ⟩ : ∃ β : Nat, l[i][m] = (β : Int) := ⟨(l[i][m]).toNat, by have := hkn l[i][m] (List.getElem_mem _); omega⟩
          have hαP : α < P := by have := hkn l[i][0] (List.getElem_mem _); omega
          have hβP : β < P := by have := hkn l[i][m] (List.getElem_mem _); omega
          have hhd : l[i].head? = some (α : Int) := by rw [List.head?_eq_getElem?, List.getElem?_eq_getElem (by omega), hα]
          have htl : l[i].getLast? = some (β : Int) := by rw [List.getLast?_eq_getElem?, List.getElem?_eq_getElem (by omega)]; simp only [hm1, Nat.add_sub_cancel]; rw [hβ]
          rw [hα, Nat.add_zero] at hp0
          rw [hβ] at hpz
          have HTWO := hid (endsP_two l hlt hhd htl)
          have HLE := hid (fun k => endsP_le l k i (by omega))
          have HCE := hid (And.intro hrb (And.intro hpc (And.intro hpb (And.intro hp0 hpz))))
          have hmr : 1 ≤ m ∧ m ≤ 60 := by omega
          have hm2 : decide ((m : Int) + 1 < 2) = false := by simp; omega
          have hwp : IntKind.i64.wrap (m : Int) = m := by rw [IntKind.wrap_i64]; omega
          have hwq : (m : Int) < (m : Int) + 1 := by omega
          rw [hm1] at HCE
          have H1 : Hid (inB α 0 ((P : Int) - 1) = true) := by show _ = _; unfold inB; rw [decide_eq_true (by omega), decide_eq_true (by omega)]; rfl
          have H2 : Hid (inB β 0 ((P : Int) - 1) = true) := by show _ = _; unfold inB; rw [decide_eq_true (by omega), decide_eq_true (by omega)]; rfl
          have hαi : (α : Int) < P := by omega
          have hβi : (β : Int) < P := by omega
          have k1 := (HI.out.1.cell (p := ⟨rb, _, none⟩) HCE.out.1).trans HCE.out.2.1
          clear hrc hrb hpc hpd h2l hpb hp0 hpz hkn hα hβ hhd htl hm1
          gi_wp2_with fail
          clear k1
          have HQ := hid fun e : Later wr => And.intro (((HI.out.1.trans e.grown).cell (p := ⟨rb, _, none⟩) HCE.out.1).trans HCE.out.2.1) (And.intro (((HI.out.1.trans e.grown).cell (p := ⟨pb, _, none⟩) HCE.out.2.2.1).trans HCE.out.2.2.2.1) (((HI.out.1.trans e.grown).cell (p := ⟨pb, _, none⟩) HCE.out.2.2.1).trans HCE.out.2.2.2.2))
          have q0 := HQ.out
          refine quiet_wide 20 (by kernel_rfl) (by kernel_rfl) ?_
          simp only [List.take_succ_cons, List.take_zero, List.drop_succ_cons, List.drop_zero]
          repeat (any_goals (first | go_big_quiet_step (fail) | quiet_step (fail)))
          refine wpQuiet_nil ?_
          rintro w7 ⟨⟨w7q, hx7⟩, hew⟩
          obtain rfl : w7 = w7q := hew
          have hx7 : Ext wr w7 := hx7
          clear q0 HQ
          have HE7 := hid (HI.out.1.trans hx7)
          have HG7 := hid (hx7.block HI.out.2)
          have HFX : Hid (endsP l i α ≤ 192) := by have := HLE.out α; show _ ≤ _; omega
          have HLF : Hid (endsP l i β ≤ 192) := by have := HLE.out β; show _ ≤ _; omega
          obtain ⟨f, hf⟩ : ∃ f, f = endsP l i := ⟨_, rfl⟩
          rw [← hf] at HG7 HTWO HFX HLF
          have d1 : w7.cell? ⟨w5.heap.size, α, none⟩ = some (.int .i64 (f α)) := by rw [cell_of HG7.out, iArr_get hαP]
          have f1 := free_of HG7.out
          have b1 : (0 : Int) ≤ f α ∧ (f α : Int) ≤ 192 := by have := HFX.out; omega
          clear hx7 HI HLE hwp hwq hm2 hf
          gi_upto_region 21 with (first | (gi_at_call 26; ((with_reducible refine (in_b _ _ _ true _ H1.out).mono ?_); rintro e w9 ⟨rfl, rfl⟩)) | (gi_at_call 26; ((with_reducible refine (in_b _ _ _ true _ H2.out).mono ?_); rintro e w9 ⟨rfl, rfl⟩)))
          clear d1 f1 H1 H2
          have HE8 := hid (HE7.out.set (Nat.le_refl w5.heap.size) α (.int .i64 ((f α : Int) + 1)))
          have HG8 : Hid ((w7.setCell ⟨w5.heap.size, α, none⟩ (.int .i64 ((f α : Int) + 1))).heap[w5.heap.size]? = some (.cells (iArr (fun j => if j = α then f j + 1 else f j) P) 3 (0, 0))) := by show _ = _; rw [set_same HG7.out, iArr_set f hαP]
          clear HE7 HG7
          generalize w7.setCell ⟨w5.heap.size, α, none⟩ (.int .i64 ((f α : Int) + 1)) = w8 at *
          obtain ⟨h, hh⟩ : ∃ h, h = fun j => if j = α then f j + 1 else f j := ⟨_, rfl⟩
          have b2 : (0 : Int) ≤ h β ∧ (h β : Int) ≤ 193 := by have := HLF.out; rw [hh]; simp only; split <;> omega
          rw [← hh] at HG8
          have d2 : w8.cell? ⟨w5.heap.size, β, none⟩ = some (.int .i64 (h β)) := by rw [cell_of HG8.out, iArr_get hβP]
          have f2 := free_of HG8.out
          have HG9 : Hid ((w8.setCell ⟨w5.heap.size, β, none⟩ (.int .i64 ((h β : Int) + 1))).heap[w5.heap.size]? = some (.cells (iArr (endsP l (i + 1)) P) 3 (0, 0))) := by
            show _ = _
            rw [set_same HG8.out, iArr_set h hβP]
            have : (fun j => if j = β then h j + 1 else h j) = endsP l (i + 1) := by funext j; rw [HTWO.out j, hh]
            rw [this]
          have HE9 := hid (HE8.out.set (Nat.le_refl w5.heap.size) β (.int .i64 ((h β : Int) + 1)))
          clear HE8 HG8 hh HTWO HFX HLF b1
          gi_wp2_with fail
          go_roundw
          case rel => exact ⟨i + 1, by omega, by go_num, HE9.out, HG9.out⟩
          case measure => simp [intOf]; omega
        case neg =>
          obtain rfl : i = l.length := by omega
          have HWE := hid HI.out.1
          have HWG := hid HI.out.2
          clear HI
          have HMP : Hid (∀ k : Nat, meetN T.bars k % 2 = endsP l l.length k % 2) := fun k => by
            have h1 := HK.out.mends.par HBB.out k
            have h2 := endsP_all qs k
            rw [← HK.out.eq] at h2
            rw [h2]; exact h1
          have HOD : Hid (oddN T.bars P ≤ 2 * l.length) := by
            have h1 := odd_ends HBB.out HK.out.mends
            have h2 := congrArg List.length HK.out.eq
            rw [List.length_map] at h2
            show _ ≤ _
            omega
          have HLE := hid (fun k => endsP_le l k l.length (Nat.le_refl _))
          have HOL := hid (oddN_le T.bars)
          clear HK HLM HBB HPP HPI
          obtain ⟨wo, hwo⟩ : ∃ wo, wo = wr := ⟨wr, rfl⟩
          rw [← hwo] at HWE HWG ⊢
          clear hwo
          gi_wp2_with fail
          gi_loopw [17, 18] (fun ov kv wr => ∃ k : Nat, k ≤ P ∧ ov = .int .i64 (oddN T.bars k) ∧ kv = .int .i64 k ∧ Hid (Ext wo wr)) (fun _ kv _ => P - (intOf kv).toNat)
          case atStart => exact ⟨0, Nat.zero_le _, rfl, rfl, Ext.refl _⟩
          case round =>
            obtain ⟨k, hk, rfl, rfl, HI⟩ := hrel
            have hol := HOL.out k
            by_cases hkt : k < P
            case pos =>
              have hki : (k : Int) < P := by omega
              obtain ⟨wk, hwk⟩ : ∃ wk, wk = wr := ⟨wr, rfl⟩
              rw [← hwk] at HI ⊢
              clear hwk
              gi_wp2_with fail
              gi_loopw [19, 20] (fun mv jv wr => ∃ j : Nat, j ≤ T.bars.length ∧ mv = .int .i64 (meetTo T.bars k j) ∧ jv = .int .i64 j ∧ Hid (Ext wo wr)) (fun _ jv _ => T.bars.length - (intOf jv).toNat)
              case atStart => exact ⟨0, Nat.zero_le _, rfl, rfl, HI.out⟩
              case round =>
                obtain ⟨j, hj, rfl, rfl, HJ⟩ := hrel
                have c0 := cell_of ((HWE.out.trans HJ.out).block HB0.out)
                have hml := meetTo_le T.bars k j
                by_cases hjt : j < T.bars.length
                case pos =>
                  have hji : (j : Int) < T.bars.length := by omega
                  obtain ⟨rb, off, rfl, hrb, hq0, hq1⟩ := HCS.out j hjt
                  have d0 := ((HX.out.trans (HWE.out.trans HJ.out)).cell (p := ⟨rb, _, none⟩) hrb).trans hq0
                  have d1 := ((HX.out.trans (HWE.out.trans HJ.out)).cell (p := ⟨rb, _, none⟩) hrb).trans hq1
                  have HMS : Hid (meetTo T.bars k (j + 1) = meetTo T.bars k j + (if meetsB k T.bars[j] then 1 else 0)) := by show _ = _; rw [← getD_of (d := ⟨0, 0⟩) hjt]; rfl
                  clear hrb hq0 hq1
                  generalize T.bars[j] = s at *
                  obtain ⟨lo, hi⟩ := s
                  simp only at d0 d1
                  by_cases h1 : lo = (k : Int)
                  case pos =>
                    have g1 : (lo == (k : Int)) = true := by simpa using h1
                    have HM2 : Hid (meetTo T.bars k (j + 1) = meetTo T.bars k j + 1) := by show _ = _; rw [HMS.out]; unfold meetsB; rw [g1]; rfl
                    clear h1 HMS
                    gi_wp2_with fail
                    clear c0 d0 d1 g1
                    go_roundw
                    case rel => exact ⟨j + 1, by omega, by rw [HM2.out]; go_num, by go_num, HJ.out⟩
                    case measure => simp [intOf]; omega
                  case neg =>
                    have g1 : (lo == (k : Int)) = false := by simpa using h1
                    by_cases h2 : hi = (k : Int)
                    case pos =>
                      have g2 : (hi == (k : Int)) = true := by simpa using h2
                      have HM2 : Hid (meetTo T.bars k (j + 1) = meetTo T.bars k j + 1) := by show _ = _; rw [HMS.out]; unfold meetsB; rw [g1, g2]; rfl
                      clear h1 h2 HMS
                      gi_wp2_with fail
                      clear c0 d0 d1 g1 g2
                      go_roundw
                      case rel => exact ⟨j + 1, by omega, by rw [HM2.out]; go_num, by go_num, HJ.out⟩
                      case measure => simp [intOf]; omega
                    case neg =>
                      have g2 : (hi == (k : Int)) = false := by simpa using h2
                      have HM2 : Hid (meetTo T.bars k (j + 1) = meetTo T.bars k j) := by show _ = _; rw [HMS.out]; unfold meetsB; rw [g1, g2]; rfl
                      clear h1 h2 HMS
                      gi_wp2_with fail
                      clear c0 d0 d1 g1 g2
                      go_roundw
                      case rel => exact ⟨j + 1, by omega, by rw [HM2.out], by go_num, HJ.out⟩
                      case measure => simp [intOf]; omega
                case neg =>
                  obtain rfl : j = T.bars.length := by omega
                  have HMK : Hid (meetTo T.bars k T.bars.length = meetN T.bars k) := rfl
                  have hpar := HMP.out k
                  have hle := HLE.out k
                  rw [HMK.out]
                  have HOS := hid (oddN_succ T.bars k)
                  have hmn : meetN T.bars k ≤ 60 := by rw [← HMK.out]; omega
                  have d2 : wr.cell? ⟨w5.heap.size, k, none⟩ = some (.int .i64 (endsP l l.length k)) := by rw [cell_of (HJ.out.block HWG.out), iArr_get hkt]
                  clear HMK hml
                  generalize endsP l l.length k = x at *
                  generalize meetN T.bars k = m at *
                  gi_wp2_with fail
                  clear d2
                  go_roundw
                  case rel => exact ⟨k + 1, by omega, by rw [HOS.out]; go_num, by go_num, HJ.out⟩
                  case measure => simp [intOf]; omega
            case neg =>
              obtain rfl : k = P := by omega
              have hod := HOD.out
              have hge : decide ((oddN T.bars k : Int) ≤ 2 * (l.length : Int)) = true := by simp; omega
              gi_wp2_with (gi_at_call 19; ((with_reducible refine (works_any _).mono ?_); rintro e w99 ⟨rfl, hx99⟩))
              go_ret
              exact ⟨rfl, ((HX.out.trans HWE.out).trans HI.out).trans hx99⟩


end Go.Proofs.Ytmjelgonhpgmbaa
