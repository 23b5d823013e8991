/- The reference: whether two lists are the same. -/
import Derived.Test.YtjocoadhalimjaaGreatRAC
import Derived.Test.YtjocoadhalimjaaGreatRAD
import Derived.Test.YtjocoadhalimjaaGreatRBF
set_option linter.unusedSimpArgs false
set_option linter.unusedVariables false
namespace Go.Proofs.YtjocoadhalimjaaGreat
section
open Go Go.RowKit Go.Shelf

theorem same_iff {xs ys : List Int} (hl : xs.length = ys.length) : (xs == ys) = allTo (fun i => xs.getD i 0 == ys.getD i 0) xs.length := by
  rw [Bool.eq_iff_iff, beq_iff_eq]
  unfold allTo
  rw [List.all_eq_true]
  constructor
  · rintro rfl i _; simp
  · intro h
    refine List.ext_getElem hl fun i h1 h2 => ?_
    have := h i (List.mem_range.mpr h1)
    rw [getD_of h1, getD_of h2] at this
    simpa using this
set_option maxRecDepth 100000 in
set_option maxHeartbeats 2000000 in
theorem Same_any (v1 v2 : Value) (xs ys : List Int) (w : World) (hv1 : IntsAt w v1 xs) (hv2 : IntsAt w v2 ys) :
    Cal 17 #[v1, v2] w fun e w' => e = .returned (.bool (xs == ys)) ∧ Ext w w' := by
  obtain ⟨a, cap, rfl, ⟨hcap, hlen⟩, hc⟩ := hv1
  obtain ⟨a2, cap2, rfl, ⟨hcap2, hlen2⟩, hc2⟩ := hv2
  have HC := hid hc
  have HC2 := hid hc2
  clear hc hc2
  by_cases hl : xs.length = ys.length
  · have HS := hid (same_iff hl)
    have hli : ((xs.length : Int) == (ys.length : Int)) = true := by simp [hl]
    have HLY := hid hl
    rw [← hl] at hcap2 hlen2 ⊢
    gi_enter Tryz.func17, Tryz.ntmps17
    gi_wp2
    clear hli hl
    gi_loopw [5] (fun i wr => ∃ k : Nat, k ≤ xs.length ∧ i = .int .i64 k ∧ Hid (Ext w wr ∧ ∀ j, j < k → (xs.getD j 0 == ys.getD j 0) = true)) (fun i _ => xs.length - (intOf i).toNat)
    case atStart => exact ⟨0, Nat.zero_le _, rfl, hid ⟨Ext.refl _, fun _ h => absurd h (by omega)⟩⟩
    case round =>
      obtain ⟨k, hk, rfl, HI⟩ := hrel
      by_cases hlt : k < xs.length
      · have hki : (k : Int) < (xs.length : Int) := by omega
        have hlt2 : k < ys.length := by have := HLY.out; omega
        obtain ⟨b, off, rfl, hbb, hck⟩ := HC.out k hlt
        obtain ⟨b2, off2, rfl, hbb2, hck2⟩ := HC2.out k hlt2
        have HX := hid HI.out.1
        have HG := hid HI.out.2
        have HE := hid (show (xs.getD k 0 == ys.getD k 0) = (xs[k] == ys[k]) by rw [getD_of hlt, getD_of hlt2])
        generalize xs[k] = x at *
        generalize ys[k] = y at *
        have HD0 := hid ((HX.out.cell (p := ⟨b, off + k, none⟩) hbb).trans hck)
        have HD1 := hid ((HX.out.cell (p := ⟨b2, off2 + k, none⟩) hbb2).trans hck2)
        clear hck hck2 HI HLY
        cases hxy : (x == y) with
        | true =>
          have HU := hid (upTo_succ (good := fun j => xs.getD j 0 == ys.getD j 0) HG.out (by show (xs.getD k 0 == ys.getD k 0) = true; rw [HE.out]; exact hxy))
          have hne : (x != y) = false := by simp [bne, hxy]
          have hxe : x = y := by simpa using hxy
          subst hxe
          clear HG HE hxy hne
          gi_upto_region 6 with fail
          refine lex_wide 8 [] (by kernel_rfl) (by kernel_rfl) (nStab_nil) ?_
          simp only [List.take_succ_cons, List.take_zero, List.drop_succ_cons, List.drop_zero]
          apply lex_fun (rfl : psAt _ _ = none)
          · intro x u hR hf
            clear hR hf
            go_simp
            exact ⟨rfl, Ext.refl _⟩
          simp only [Act.put, List.setIfInBounds_toArray, List.set_cons_succ, List.set_cons_zero]
          apply lex_fun (rfl : psAt _ _ = none)
          · intro x u hR hf
            clear hR hf
            go_simp
            exact ⟨rfl, Ext.refl _⟩
          simp only [Act.put, List.setIfInBounds_toArray, List.set_cons_succ, List.set_cons_zero]
          apply lex_fun (rfl : psAt _ _ = none)
          · intro x u hR hf
            clear hR hf
            go_simp
            exact ⟨rfl, Ext.refl _⟩
          simp only [Act.put, List.setIfInBounds_toArray, List.set_cons_succ, List.set_cons_zero]
          apply lex_fun (rfl : psAt _ _ = none)
          · intro x u hR hf
            have d0 := (hR.cell (p := ⟨b, off + k, none⟩) (Nat.lt_of_lt_of_le hbb HX.out.size)).trans HD0.out
            clear hR hf
            go_simp
            exact ⟨rfl, Ext.refl _⟩
          simp only [Act.put, List.setIfInBounds_toArray, List.set_cons_succ, List.set_cons_zero]
          apply lex_fun (rfl : psAt _ _ = none)
          · intro x u hR hf
            clear hR hf
            go_simp
            exact ⟨rfl, Ext.refl _⟩
          simp only [Act.put, List.setIfInBounds_toArray, List.set_cons_succ, List.set_cons_zero]
          apply lex_fun (rfl : psAt _ _ = none)
          · intro x u hR hf
            clear hR hf
            go_simp
            exact ⟨rfl, Ext.refl _⟩
          simp only [Act.put, List.setIfInBounds_toArray, List.set_cons_succ, List.set_cons_zero]
          apply lex_fun (rfl : psAt _ _ = none)
          · intro x u hR hf
            clear hR hf
            go_simp
            exact ⟨rfl, Ext.refl _⟩
          simp only [Act.put, List.setIfInBounds_toArray, List.set_cons_succ, List.set_cons_zero]
          apply lex_fun (rfl : psAt _ _ = none)
          · intro x u hR hf
            have d1 := (hR.cell (p := ⟨b2, off2 + k, none⟩) (Nat.lt_of_lt_of_le hbb2 HX.out.size)).trans HD1.out
            clear hR hf
            go_simp
            exact ⟨rfl, Ext.refl _⟩
          simp only [Act.put, List.setIfInBounds_toArray, List.set_cons_succ, List.set_cons_zero]
          refine lex_nil fun x' w6 hE hfacts => ?_
          clear hfacts x'
          gi_wp2
          go_roundw
          case rel => exact ⟨k + 1, by omega, by go_num, hid ⟨HX.out.trans hE, HU.out⟩⟩
          case measure => simp [intOf]; omega
        | false =>
          have HF : Hid ((xs == ys) = false) := hid (by rw [HS.out]; exact allTo_no hlt (by show (xs.getD k 0 == ys.getD k 0) = false; rw [HE.out]; exact hxy))
          have hxn : ¬ x = y := by simpa using hxy
          clear HG HE
          gi_upto_region 6 with fail
          refine lex_wide 8 [] (by kernel_rfl) (by kernel_rfl) (nStab_nil) ?_
          simp only [List.take_succ_cons, List.take_zero, List.drop_succ_cons, List.drop_zero]
          apply lex_fun (rfl : psAt _ _ = none)
          · intro x u hR hf
            clear hR hf
            go_simp
            exact ⟨rfl, Ext.refl _⟩
          simp only [Act.put, List.setIfInBounds_toArray, List.set_cons_succ, List.set_cons_zero]
          apply lex_fun (rfl : psAt _ _ = none)
          · intro x u hR hf
            clear hR hf
            go_simp
            exact ⟨rfl, Ext.refl _⟩
          simp only [Act.put, List.setIfInBounds_toArray, List.set_cons_succ, List.set_cons_zero]
          apply lex_fun (rfl : psAt _ _ = none)
          · intro x u hR hf
            clear hR hf
            go_simp
            exact ⟨rfl, Ext.refl _⟩
          simp only [Act.put, List.setIfInBounds_toArray, List.set_cons_succ, List.set_cons_zero]
          apply lex_fun (rfl : psAt _ _ = none)
          · intro x u hR hf
            have d0 := (hR.cell (p := ⟨b, off + k, none⟩) (Nat.lt_of_lt_of_le hbb HX.out.size)).trans HD0.out
            clear hR hf
            go_simp
            exact ⟨rfl, Ext.refl _⟩
          simp only [Act.put, List.setIfInBounds_toArray, List.set_cons_succ, List.set_cons_zero]
          apply lex_fun (rfl : psAt _ _ = none)
          · intro x u hR hf
            clear hR hf
            go_simp
            exact ⟨rfl, Ext.refl _⟩
          simp only [Act.put, List.setIfInBounds_toArray, List.set_cons_succ, List.set_cons_zero]
          apply lex_fun (rfl : psAt _ _ = none)
          · intro x u hR hf
            clear hR hf
            go_simp
            exact ⟨rfl, Ext.refl _⟩
          simp only [Act.put, List.setIfInBounds_toArray, List.set_cons_succ, List.set_cons_zero]
          apply lex_fun (rfl : psAt _ _ = none)
          · intro x u hR hf
            clear hR hf
            go_simp
            exact ⟨rfl, Ext.refl _⟩
          simp only [Act.put, List.setIfInBounds_toArray, List.set_cons_succ, List.set_cons_zero]
          apply lex_fun (rfl : psAt _ _ = none)
          · intro x u hR hf
            have d1 := (hR.cell (p := ⟨b2, off2 + k, none⟩) (Nat.lt_of_lt_of_le hbb2 HX.out.size)).trans HD1.out
            clear hR hf
            go_simp
            exact ⟨rfl, Ext.refl _⟩
          simp only [Act.put, List.setIfInBounds_toArray, List.set_cons_succ, List.set_cons_zero]
          refine lex_nil fun x' w6 hE hfacts => ?_
          clear hfacts x'
          gi_wp2
          go_ret
          exact ⟨by rw [HF.out]; rfl, HX.out.trans hE⟩
      · obtain rfl : k = xs.length := by omega
        have HT : Hid ((xs == ys) = true) := hid (by rw [HS.out]; exact allTo_yes HI.out.2)
        have HX := hid HI.out.1
        clear HI
        gi_wp2_with fail
        go_ret
        exact ⟨by rw [HT.out]; rfl, HX.out⟩
  · have HF : Hid ((xs == ys) = false) := hid (by
      rw [beq_eq_false_iff_ne]; rintro rfl; exact hl rfl)
    have hli : ¬ ((xs.length : Int) = (ys.length : Int)) := by omega
    gi_enter Tryz.func17, Tryz.ntmps17
    gi_wp2
    go_ret
    exact ⟨by rw [HF.out]; rfl, Ext.refl _⟩
end
section
open Go Go.RowKit Go.Shelf
set_option maxRecDepth 100000 in
set_option maxHeartbeats 8000000 in
theorem Parts_ok (V : Voy) (s : VS) (w : World) (h : VoyAt w V s) (hE : voyE V = 0) : Cal 23 #[.agg (voyA V s)] w fun e w' => e = .returned (.tuple #[.int .i64 (partP V 0), .int .i64 (partP V 1), .int .i64 (partP V 2), .int .i64 0]) ∧ Ext w w' := by
  have HN := hid (fun (u : World) (hu : Ext w u) => newVoyage_ok (h.mono hu) hE)
  have hok := (voyE_ok hE).1
  have hn := net_bound hok
  have HPN := hid (fun (bv : Nat) (u : World) (hu : Ext w u) => vpence_any V.gr V.bo V.ne V.cr (.slice s.xa V.lo.length s.xc) (.map (some bv)) s.ca s.oa s.la s.ha s.cc V.ow.length s.oc V.le.length s.lc V.ha.length s.hc V.cs u (h.cs.mono hu) (fun x hx => by have := hok.cs x hx; have := hok.gr; omega) (by have := hok.csl; omega) (by have := hok.gr; omega) hn hok.bo hok.ne hok.cr hok.all)
  have HPN : Hid (∀ (bv : Nat) (u : World), Ext w u → Cal 58 #[.agg (voyB V s (.map (some bv)))] u fun e w' => e = .returned (.agg #[.int .i64 (partP V 0), .int .i64 (partP V 1), .int .i64 (partP V 2)]) ∧ Ext u w') := HPN
  obtain ⟨p0, hp0⟩ : ∃ p, partP V 0 = p := ⟨_, rfl⟩
  obtain ⟨p1, hp1⟩ : ∃ p, partP V 1 = p := ⟨_, rfl⟩
  obtain ⟨p2, hp2⟩ : ∃ p, partP V 2 = p := ⟨_, rfl⟩
  rw [hp0, hp1, hp2] at HPN
  rw [hp0, hp1, hp2]
  clear hok hn hp0 hp1 hp2
  clear h hE
  unfold voyA voyB at *
  obtain ⟨gr, bo, ne, cr, cs, ol, ll, hl, xs⟩ := V
  obtain ⟨ca, oa, la, ha, xa, cc, oc, lc, hc, xc⟩ := s
  simp only at *
  have hx0 : Ext w (w.alloc (.cells #[.int .i64 gr, .slice ca cs.length cc, .int .i64 bo, .int .i64 ne, .int .i64 cr, .slice oa ol.length oc, .slice la ll.length lc, .slice ha hl.length hc, .slice xa xs.length xc] 32)) := (Ext.refl _).alloc _
  have HNN := hid (HN.out _ hx0)
  clear HN
  gi_enter Tryz.func23, Tryz.ntmps23
  gi_upto_region 5 with (first | (gi_at_call 54; ((with_reducible refine (HNN.out).mono ?_); rintro e w1 ⟨bm, rfl, hx1, hbm, HM⟩; have HX1 := hid (hx0.trans hx1); clear hx1 hx0 hbm)) | (gi_at_call 58; ((with_reducible refine ((HPN.out bm _ (HX1.out.alloc _))).mono ?_); rintro e w3 ⟨rfl, hx3⟩; have HX3 := hid ((HX1.out.alloc _).trans hx3); clear hx3)))
  have HXA := hid (HX3.out.alloc (.cells #[.int .i64 p0, .int .i64 p1, .int .i64 p2] 90))
  have hna : (w3.alloc (.cells #[.int .i64 p0, .int .i64 p1, .int .i64 p2] 90)).heap[w3.heap.size]? = some (.cells #[.int .i64 p0, .int .i64 p1, .int .i64 p2] 90 (0, 0)) := Ext.new (Ext.refl _)
  generalize w3.alloc (.cells #[.int .i64 p0, .int .i64 p1, .int .i64 p2] 90) = W at *
  generalize w3.heap.size = q at *
  have c0 : ∀ e : Later W, e.1.cell? ⟨q, 0, none⟩ = some (.int .i64 p0) := fun e => by rw [cell_of (Ext.block e.grown hna)]; rfl
  have c1 : ∀ e : Later W, e.1.cell? ⟨q, 1, none⟩ = some (.int .i64 p1) := fun e => by rw [cell_of (Ext.block e.grown hna)]; rfl
  have c2 : ∀ e : Later W, e.1.cell? ⟨q, 2, none⟩ = some (.int .i64 p2) := fun e => by rw [cell_of (Ext.block e.grown hna)]; rfl
  clear hna HM HPN
  refine quiet_wide 10 (by kernel_rfl) (by kernel_rfl) ?_
  simp only [List.take_succ_cons, List.take_zero, List.drop_succ_cons, List.drop_zero]
  repeat (any_goals (first | go_big_quiet_step (fail) | quiet_step (fail)))
  refine wpQuiet_nil ?_
  rintro w5 ⟨⟨w5q, hx5⟩, hew5⟩
  obtain rfl : w5 = w5q := hew5
  have hx5 : Ext W w5 := hx5
  clear c0 c1 c2
  gi_wp2_with fail
  exact bodyPost_ret (v := .tuple #[.int .i64 p0, .int .i64 p1, .int .i64 p2, .int .i64 0]) (by simp [results, Tryz.results23, go_sem]) rfl ⟨rfl, HXA.out.trans hx5⟩
end
end Go.Proofs.YtjocoadhalimjaaGreat
