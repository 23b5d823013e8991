/- The reference: the three parts. -/
import Derived.Test.YtjocoadhalimjaaGreatRBX
import Derived.Test.YtjocoadhalimjaaGreatRBI
import Derived.Test.YtjocoadhalimjaaGreatRBG
import Derived.Test.YtjocoadhalimjaaGreatRBJ
set_option linter.unusedSimpArgs false
set_option linter.unusedVariables false
namespace Go.Proofs.YtjocoadhalimjaaGreat
section
open Go Go.RowKit Go.Shelf

def pThree (a b c : Int) (v : Value) (u : World) : Prop := ∃ g, v = .slice (some ⟨g, 0, none⟩) 3 3 ∧ u.heap[g]? = some (.cells #[.string ⟨#[98, 111, 97, 116]⟩, .int .i64 a, .string ⟨#[110, 101, 116, 115]⟩, .int .i64 b, .string ⟨#[99, 114, 101, 119]⟩, .int .i64 c] 49 (0, 0))
theorem pThree_s (a b c : Int) : ∀ v u u', pThree a b c v u → Ext u u' → pThree a b c v u' := fun _ _ _ h k => by
  obtain ⟨g, h1, h2⟩ := h; exact ⟨g, h1, k.block h2⟩
theorem pThree_at {a b c : Int} {v : Value} {u : World} (h : pThree a b c v u) : StakesAt u v (threeS a b c) := by
  obtain ⟨g, rfl, hg⟩ := h
  refine ⟨_, 3, rfl, by simp [threeS], fun i hi => ⟨g, 0, rfl, lt_of_block hg, ?_, ?_⟩⟩
  · rw [cell_of hg]
    match i, hi with
    | 0, _ => rfl
    | 1, _ => rfl
    | 2, _ => rfl
  · rw [cell_of hg]
    match i, hi with
    | 0, _ => rfl
    | 1, _ => rfl
    | 2, _ => rfl
def pRow3 (F : Nat → Int) (v : Value) (u : World) : Prop := Row u 3 1 v 3 (intsF 3 F)
theorem pRow3_s (F : Nat → Int) : ∀ v u u', pRow3 F v u → Ext u u' → pRow3 F v u' := fun _ _ _ h k => Row.mono h k
set_option maxRecDepth 100000 in
set_option maxHeartbeats 4000000 in
theorem rParts_bad (V : Voy) (s : VS) (w : World) (h : VoyAt w V s) (hE : voyE V ≠ 0) : Cal 24 #[.agg (voyA V s)] w fun e w' => e = .returned (.tuple #[.int .i64 0, .int .i64 0, .int .i64 0, .int .i64 (voyE V)]) ∧ Ext w w' := by
  have HX0 : Hid (Ext w (w.alloc (.cells (voyA V s) 32))) := hid ((Ext.refl _).alloc _)
  have HB0 : Hid ((w.alloc (.cells (voyA V s) 32)).heap[w.heap.size]? = some (.cells (voyA V s) 32 (0, 0))) := hid (Ext.new (Ext.refl _))
  have HV := hid (fun (u : World) (hu : Ext w u) => rcheck_any V s u (h.mono hu))
  clear h
  obtain ⟨E, hEE⟩ : ∃ E, voyE V = E := ⟨_, rfl⟩
  rw [hEE] at HV hE ⊢
  have hb : (E != 0) = true := by simpa using hE
  clear hEE hE
  unfold voyA at *
  gi_enter Tryz.func24, Tryz.ntmps24
  gi_upto_region 1 with fail
  generalize w.alloc (.cells _ 32) = wa at *
  generalize w.heap.size = bx at *
  have cB := cell_of HB0.out
  gi_wp2_with (gi_at_call 22; (with_reducible refine (HV.out _ HX0.out).mono ?_); rintro e w1 ⟨rfl, hx1⟩)
  exact bodyPost_ret (v := .tuple #[.int .i64 0, .int .i64 0, .int .i64 0, .int .i64 E]) (by simp [results, Tryz.results24, go_sem]) rfl ⟨rfl, HX0.out.trans hx1⟩
set_option maxRecDepth 100000 in
set_option maxHeartbeats 8000000 in
theorem rParts_ok (V : Voy) (s : VS) (w : World) (h : VoyAt w V s) (hE : voyE V = 0) : Cal 24 #[.agg (voyA V s)] w fun e w' => e = .returned (.tuple #[.int .i64 (partP V 0), .int .i64 (partP V 1), .int .i64 (partP V 2), .int .i64 0]) ∧ Ext w w' := by
  have HX0 : Hid (Ext w (w.alloc (.cells (voyA V s) 32))) := hid ((Ext.refl _).alloc _)
  have HB0 : Hid ((w.alloc (.cells (voyA V s) 32)).heap[w.heap.size]? = some (.cells (voyA V s) 32 (0, 0))) := hid (Ext.new (Ext.refl _))
  have HV := hid (fun (u : World) (hu : Ext w u) => rcheck_any V s u (h.mono hu))
  have hok := (voyE_ok hE).1
  have hn := net_bound hok
  have HNET := hid (fun (u : World) (hu : Ext w u) => rnet_any V s u (h.mono hu) hok)
  obtain ⟨P, hP⟩ : ∃ P, netV V = P := ⟨_, rfl⟩
  have hP2 : V.gr - V.cs.sum = P := hP
  rw [hP2] at HNET
  rw [hP] at hn
  rw [hE] at HV
  have HDV := hid (fun (v : Value) (u : World) (hv : pThree V.bo V.ne V.cr v u) => refdiv_any P v (threeS V.bo V.ne V.cr) u (pThree_at hv) hn (fun s hs => by simp [threeS] at hs; have := hok.bo; have := hok.ne; have := hok.cr; rcases hs with rfl | rfl | rfl <;> simp only <;> omega) (by simp [threeS]) (by rw [three_sum]; have := hok.all; omega) (three_names _ _ _))
  have HPP : Hid (∀ i, partP V i = giveTo P (threeS V.bo V.ne V.cr) i) := hid (fun i => by unfold partP; rw [hP])
  rw [HPP.out 0, HPP.out 1, HPP.out 2]
  generalize giveTo P (threeS V.bo V.ne V.cr) = G at *
  clear h hE hok hn hP hP2 HPP
  unfold voyA at *
  gi_enter Tryz.func24, Tryz.ntmps24
  gi_upto_region 1 with fail
  generalize w.alloc (.cells _ 32) = wa at *
  generalize w.heap.size = bx at *
  have cB := cell_of HB0.out
  gi_upto_region 4 with (gi_at_call 22; (with_reducible refine (HV.out _ HX0.out).mono ?_); rintro e w1 ⟨rfl, hx1⟩)
  have HX1 := hid (HX0.out.trans hx1)
  have HB1 := hid (hx1.block HB0.out)
  clear cB hx1
  refine lex_wide 13 [(11, pThree V.bo V.ne V.cr), (12, pRow3 G)] (by kernel_rfl) (by kernel_rfl) (nStab_cons (pThree_s _ _ _) (nStab_cons (pRow3_s _) nStab_nil)) ?_
  simp only [List.take_succ_cons, List.take_zero, List.drop_succ_cons, List.drop_zero]
  apply lex_fun (rfl : psAt _ _ = none)
  · intro x u hR hf
    have c0 := cell_of (hR.block HB1.out)
    clear hR hf
    go_simp
    first | exact ⟨rfl, Ext.refl _⟩ | rfl
  simp only [Act.put, List.setIfInBounds_toArray, List.set_cons_succ, List.set_cons_zero]
  refine lex_fun (v := .int .i64 P) (rfl : psAt _ _ = none) ?_ ?_
  · intro x u hR hf
    have hcal := hid (HNET.out u (HX1.out.trans hR))
    clear hR hf
    go_simp
    exact hcal.out.mono fun e w'' ⟨he, hx'⟩ => ⟨_, he, rfl, hx'⟩
  simp only [Act.put, List.setIfInBounds_toArray, List.set_cons_succ, List.set_cons_zero]
  apply lex_fun (rfl : psAt _ _ = none)
  · intro x u hR hf
    clear hR hf
    go_simp
    first | exact ⟨rfl, Ext.refl _⟩ | rfl
  simp only [Act.put, List.setIfInBounds_toArray, List.set_cons_succ, List.set_cons_zero]
  apply lex_fun (rfl : psAt _ _ = none)
  · intro x u hR hf
    have c0 := cell_of (hR.block HB1.out)
    clear hR hf
    go_simp
    first | exact ⟨rfl, Ext.refl _⟩ | rfl
  simp only [Act.put, List.setIfInBounds_toArray, List.set_cons_succ, List.set_cons_zero]
  apply lex_fun (rfl : psAt _ _ = none)
  · intro x u hR hf
    clear hR hf
    go_simp
    first | exact ⟨rfl, Ext.refl _⟩ | rfl
  simp only [Act.put, List.setIfInBounds_toArray, List.set_cons_succ, List.set_cons_zero]
  apply lex_fun (rfl : psAt _ _ = none)
  · intro x u hR hf
    clear hR hf
    go_simp
    first | exact ⟨rfl, Ext.refl _⟩ | rfl
  simp only [Act.put, List.setIfInBounds_toArray, List.set_cons_succ, List.set_cons_zero]
  apply lex_fun (rfl : psAt _ _ = none)
  · intro x u hR hf
    have c0 := cell_of (hR.block HB1.out)
    clear hR hf
    go_simp
    first | exact ⟨rfl, Ext.refl _⟩ | rfl
  simp only [Act.put, List.setIfInBounds_toArray, List.set_cons_succ, List.set_cons_zero]
  apply lex_fun (rfl : psAt _ _ = none)
  · intro x u hR hf
    clear hR hf
    go_simp
    first | exact ⟨rfl, Ext.refl _⟩ | rfl
  simp only [Act.put, List.setIfInBounds_toArray, List.set_cons_succ, List.set_cons_zero]
  apply lex_fun (rfl : psAt _ _ = none)
  · intro x u hR hf
    clear hR hf
    go_simp
    first | exact ⟨rfl, Ext.refl _⟩ | rfl
  simp only [Act.put, List.setIfInBounds_toArray, List.set_cons_succ, List.set_cons_zero]
  apply lex_fun (rfl : psAt _ _ = none)
  · intro x u hR hf
    have c0 := cell_of (hR.block HB1.out)
    clear hR hf
    go_simp
    first | exact ⟨rfl, Ext.refl _⟩ | rfl
  simp only [Act.put, List.setIfInBounds_toArray, List.set_cons_succ, List.set_cons_zero]
  apply lex_fun (rfl : psAt _ _ = none)
  · intro x u hR hf
    clear hR hf
    go_simp
    first | exact ⟨rfl, Ext.refl _⟩ | rfl
  simp only [Act.put, List.setIfInBounds_toArray, List.set_cons_succ, List.set_cons_zero]
  refine lex_pred (p := pThree V.bo V.ne V.cr) rfl ?_ ?_
  · intro x u hR hf
    clear hR hf
    go_simp
    exact ⟨⟨_, rfl, Ext.new (Ext.refl _)⟩, (Ext.refl _).alloc _⟩
  simp only [Act.put, List.setIfInBounds_toArray, List.set_cons_succ, List.set_cons_zero]
  refine lex_pred (p := pRow3 G) rfl ?_ ?_
  · intro x u hR hf
    have h11 : pThree V.bo V.ne V.cr (x 11) u := by first | exact hf.1 rfl | exact hf.2.1 rfl | exact hf.2.2.1 rfl
    have hcal := hid (HDV.out (x 11) u h11)
    clear hR hf h11
    go_simp
    exact hcal.out.mono fun e w'' ⟨r, he, hx', hr⟩ => ⟨_, he, hr.out.1, hx'⟩
  simp only [Act.put, List.setIfInBounds_toArray, List.set_cons_succ, List.set_cons_zero]
  refine lex_nil fun x' w5 hE hfacts => ?_
  have hr : pRow3 G (x' 12) w5 := hfacts 12 _ (by omega) rfl
  clear hfacts
  unfold pRow3 at hr
  obtain ⟨g0, p0, q0, e0, _, _, k0, _⟩ := hr.cells1 (j := 0) (by omega)
  obtain ⟨g1, p1, q1, e1, _, _, k1, _⟩ := hr.cells1 (j := 1) (by omega)
  obtain ⟨g2, p2, q2, e2, _, hblk, k2, _⟩ := hr.cells1 (j := 2) (by omega)
  rw [e0] at e1 e2
  cases e1
  cases e2
  generalize x' 12 = x12 at *
  subst e0
  generalize x' 11 = x11 at *
  clear x'
  have HXE := hid (HX1.out.trans hE)
  rw [show (intsF 3 G)[0]? = some (.int .i64 (G 0)) from rfl] at k0
  rw [show (intsF 3 G)[1]? = some (.int .i64 (G 1)) from rfl] at k1
  rw [show (intsF 3 G)[2]? = some (.int .i64 (G 2)) from rfl] at k2
  rw [cell_of hblk] at k0 k1 k2
  have HBK := hid hblk
  have K0 := hid k0
  have K1 := hid k1
  have K2 := hid k2
  clear hr hE hblk k0 k1 k2
  gi_upto_region 5 with fail
  have d0 : ∀ e : Later w5, e.1.cell? ⟨g0, 0, none⟩ = some (.int .i64 (G 0)) := fun e => (cell_of (Ext.block e.grown HBK.out) 0).trans K0.out
  have d1 : ∀ e : Later w5, e.1.cell? ⟨g0, 1, none⟩ = some (.int .i64 (G 1)) := fun e => (cell_of (Ext.block e.grown HBK.out) 1).trans K1.out
  have d2 : ∀ e : Later w5, e.1.cell? ⟨g0, 2, none⟩ = some (.int .i64 (G 2)) := fun e => (cell_of (Ext.block e.grown HBK.out) 2).trans K2.out
  refine quiet_wide 13 (by kernel_rfl) (by kernel_rfl) ?_
  simp only [List.take_succ_cons, List.take_zero, List.drop_succ_cons, List.drop_zero]
  repeat (any_goals (first | go_big_quiet_step (fail) | quiet_step (fail)))
  refine wpQuiet_nil ?_
  rintro w6 ⟨⟨w6q, hx6⟩, hew6⟩
  obtain rfl : w6 = w6q := hew6
  have hx6 : Ext w5 w6 := hx6
  clear d0 d1 d2
  gi_wp2_with fail
  exact bodyPost_ret (v := .tuple #[.int .i64 (G 0), .int .i64 (G 1), .int .i64 (G 2), .int .i64 0]) (by simp [results, Tryz.results24, go_sem]) rfl ⟨rfl, HXE.out.trans hx6⟩
end
section
open Go Go.RowKit Go.Shelf

theorem ints_nil0 (w : World) : IntsAt w (.slice none 0 0) [] := ⟨none, 0, rfl, by simp, fun i hi => absurd hi (by simp)⟩
theorem Same_b (v1 v2 : Value) (xs : List Int) (w : World) (hv1 : IntsAt w v1 xs) (hv2 : IntsAt w v2 xs) : Cal 17 #[v1, v2] w fun e w' => e = .returned (.bool true) ∧ Ext w w' := by
  have := Same_any v1 v2 xs xs w hv1 hv2
  rw [show (xs == xs) = true by simp] at this
  exact this
set_option maxRecDepth 100000 in
set_option maxHeartbeats 16000000 in
theorem ShareClaims_any (V : Voy) (s : VS) (w : World) (h : VoyAt w V s) : Cal 4 #[.agg (voyA V s)] w fun e w' => e = .returned (.bool true) ∧ Ext w w' := by
  have HX0 : Hid (Ext w (w.alloc (.cells (voyA V s) 32))) := hid ((Ext.refl _).alloc _)
  have HB0 : Hid ((w.alloc (.cells (voyA V s) 32)).heap[w.heap.size]? = some (.cells (voyA V s) 32 (0, 0))) := hid (Ext.new (Ext.refl _))
  obtain ⟨E, xs, p0, p1, p2, hEV, HC1, HC2, HP1, HP2, HK1⟩ : ∃ (E : Int) (xs : List Int) (p0 p1 p2 : Int), E = voyE V ∧
      Hid (∀ u, Ext w u → Cal 19 #[.agg (voyA V s)] u fun e w' => ∃ r, e = .returned (.tuple #[r, .int .i64 E]) ∧ Ext u w' ∧ Hid (IntsAt w' r xs)) ∧
      Hid (∀ u, Ext w u → Cal 20 #[.agg (voyA V s)] u fun e w' => ∃ r, e = .returned (.tuple #[r, .int .i64 E]) ∧ Ext u w' ∧ Hid (IntsAt w' r xs)) ∧
      Hid (∀ u, Ext w u → Cal 23 #[.agg (voyA V s)] u fun e w' => e = .returned (.tuple #[.int .i64 p0, .int .i64 p1, .int .i64 p2, .int .i64 E]) ∧ Ext u w') ∧
      Hid (∀ u, Ext w u → Cal 24 #[.agg (voyA V s)] u fun e w' => e = .returned (.tuple #[.int .i64 p0, .int .i64 p1, .int .i64 p2, .int .i64 E]) ∧ Ext u w') ∧
      Hid (∀ u, Ext w u → Cal 21 #[.agg (voyA V s)] u fun e w' => e = .returned (.int .i64 E) ∧ Ext u w') := by
    by_cases hE : voyE V = 0
    · have hl : V.le.length ≤ 10 := (stakes_ok (voyE_ok hE).1.le).1
      refine ⟨0, (List.range V.le.length).map fun i => (lentV V i).2, partP V 0, partP V 1, partP V 2, hE.symm, hid fun u hu => (Claims_ok V s u (h.mono hu) hE).mono ?_, hid fun u hu => (rClaims_ok V s u (h.mono hu) hE).mono ?_, hid fun u hu => Parts_ok V s u (h.mono hu) hE, hid fun u hu => rParts_ok V s u (h.mono hu) hE, hid fun u hu => Check_ok V s u (h.mono hu) hE⟩
      · rintro e w' ⟨r, he, hx, hr⟩
        refine ⟨r, he, hx, hid (IntsAt.of_row ?_ (by simp; omega))⟩
        have hr := hr.out
        rw [show wts (clm V.le (lentV V) V.le.length) = (List.range V.le.length).map fun i => (lentV V i).2 by unfold wts clm; rw [List.map_map]; rfl] at hr
        rw [List.length_map, List.length_range]
        exact hr
      · rintro e w' ⟨r, he, hx, hr⟩
        refine ⟨r, he, hx, hid (IntsAt.of_row ?_ (by simp; omega))⟩
        have hr := hr.out
        rw [intsV_intsF] at hr
        rw [List.length_map, List.length_range]
        exact hr
    · refine ⟨voyE V, [], 0, 0, 0, rfl, hid fun u hu => (Claims_bad V s u (h.mono hu) hE).mono ?_, hid fun u hu => (rClaims_bad V s u (h.mono hu) hE).mono ?_, hid fun u hu => Parts_bad V s u (h.mono hu) hE, hid fun u hu => rParts_bad V s u (h.mono hu) hE, hid fun u hu => Check_bad V s u (h.mono hu) hE⟩
      · rintro e w' ⟨he, hx⟩
        exact ⟨_, he, hx, hid (ints_nil0 _)⟩
      · rintro e w' ⟨he, hx⟩
        exact ⟨_, he, hx, hid (ints_nil0 _)⟩
  have HK2 := hid (fun (u : World) (hu : Ext w u) => rcheck_any V s u (h.mono hu))
  rw [← hEV] at HK2
  clear hEV
  clear h
  have hb : (E != E) = false := by simp
  unfold voyA at *
  gi_enter Tryz.func4, Tryz.ntmps4
  gi_upto_region 1 with fail
  generalize w.alloc (.cells _ 32) = wa at *
  generalize w.heap.size = bx at *
  have c0 := cell_of HB0.out
  gi_upto_region 3 with (first | (gi_at_call 19; ((with_reducible refine (HC1.out _ HX0.out).mono ?_); rintro e w1 ⟨r1, rfl, hx1, HR1⟩; have c1 := cell_of (hx1.block HB0.out))) | (gi_at_call 20; ((with_reducible refine (HC2.out _ (HX0.out.trans hx1)).mono ?_); rintro e w2 ⟨r2, rfl, hx2, HR2⟩)))
  have HX2 := hid (HX0.out.trans (hx1.trans hx2))
  have HB2 := hid ((hx1.trans hx2).block HB0.out)
  have HRA := hid (HR1.out.mono hx2)
  clear c0 c1 hx1 hx2
  have q0 := fun e : Later w2 => cell_of (Ext.block e.grown HB2.out)
  have S1 := hid (fun e : Later w2 => Same_b r1 r2 xs e.1 (HRA.out.mono e.grown) (HR2.out.mono e.grown))
  have S2 := hid (fun e : Later w2 => HK1.out e.1 (HX2.out.trans e.grown))
  have S3 := hid (fun e : Later w2 => HK2.out e.1 (HX2.out.trans e.grown))
  refine quiet_wide 16 (by kernel_rfl) (by kernel_rfl) ?_
  simp only [List.take_succ_cons, List.take_zero, List.drop_succ_cons, List.drop_zero]
  repeat (any_goals (first | go_big_quiet_step ((first | (go_at_call 17; with_reducible exact Cal.quiet (S1.out _)) | (go_at_call 21; with_reducible exact Cal.quiet (S2.out _)) | (go_at_call 22; with_reducible exact Cal.quiet (S3.out _)))) | quiet_step ((first | (go_at_call 17; with_reducible exact Cal.quiet (S1.out _)) | (go_at_call 21; with_reducible exact Cal.quiet (S2.out _)) | (go_at_call 22; with_reducible exact Cal.quiet (S3.out _))))))
  refine wpQuiet_nil ?_
  rintro w3 ⟨⟨w3q, hx3⟩, hew3⟩
  obtain rfl : w3 = w3q := hew3
  have hx3 : Ext w2 w3 := hx3
  have HX3 := hid (HX2.out.trans hx3)
  have HB3 := hid (hx3.block HB2.out)
  have c3 := cell_of HB3.out
  clear q0 hb hx3
  gi_wp2_with (first | (gi_at_call 23; ((with_reducible refine (HP1.out _ HX3.out).mono ?_); rintro e w4 ⟨rfl, hx4⟩; have c4 := cell_of (hx4.block HB3.out))) | (gi_at_call 24; ((with_reducible refine (HP2.out _ (HX3.out.trans hx4)).mono ?_); rintro e w5 ⟨rfl, hx5⟩)) | (gi_at_call 18; ((with_reducible refine (works_any _).mono ?_); rintro e w6 ⟨rfl, hx6⟩)))
  all_goals first
    | exact (undef_no' ‹_›).elim
    | (go_ret
       exact ⟨rfl, HX3.out.trans (hx4.trans (hx5.trans hx6))⟩)
end
end Go.Proofs.YtjocoadhalimjaaGreat
