/- Nights: where nets lie. -/
import Derived.Test.YtmjelgonhpgmbaaME
set_option linter.unusedSimpArgs false
set_option linter.unusedVariables false
namespace Go.Proofs.Ytmjelgonhpgmbaa
open Go Go.RowKit Go.Shelf

structure TruthD where
  east : List Int
  north : List Int
  se : List Int
  sn : List Int
def withinGood (l : List Int) (s : List Spn) (i : Nat) : Bool := inB (l.getD i 0) (s.getD i ⟨0, 0⟩).lo (s.getD i ⟨0, 0⟩).hi
def withinB (l : List Int) (s : List Spn) : Bool := (l.length == s.length) && allTo (withinGood l s) s.length
theorem withinGood_eq {l : List Int} {s : List Spn} {k : Nat} (h : k < s.length) (h' : k < l.length) : withinGood l s k = inB l[k] s[k].lo s[k].hi := by
  unfold withinGood; rw [getD_of h, getD_of h']
theorem withinB_spec {l : List Int} {s : List Spn} (h : withinB l s = true) : l.length = s.length ∧ ∀ k (h1 : k < l.length) (h2 : k < s.length), s[k].lo ≤ l[k] ∧ l[k] ≤ s[k].hi := by
  unfold withinB at h
  rw [Bool.and_eq_true] at h
  have h1 : l.length = s.length := by simpa using h.1
  refine ⟨h1, fun k a b => ?_⟩
  have h2 := h.2
  unfold allTo at h2
  have := List.all_eq_true.1 h2 k (List.mem_range.2 b)
  rw [withinGood_eq b a] at this
  exact inB_spec this
structure TruthOk (F : FleetD) (T : TruthD) : Prop where
  east : withinB T.east F.east = true
  north : withinB T.north F.north = true
  se : withinB T.se (F.nets.map (·.se)) = true
  sn : withinB T.sn (F.nets.map (·.sn)) = true
set_option maxRecDepth 100000 in
set_option maxHeartbeats 2000000 in
theorem areWithin_any (l : List Int) (s : List Spn) (lv sv : Value) (w : World) (hl : IntsAt w lv l) (hs : SpansAt w sv s) : Cal 80 #[lv, sv] w fun e w' => e = .returned (.bool (withinB l s)) ∧ Ext w w' := by
  obtain ⟨la, lc, rfl, hln, hlc⟩ := hl
  obtain ⟨sa, sc, rfl, hsn, hsc⟩ := hs
  have HL := hid hlc
  have HS := hid hsc
  clear hlc hsc
  gi_enter Try.func80, Try.ntmps80
  cases hq : ((l.length : Int) != (s.length : Int))
  case true =>
    have HG : Hid (withinB l s = false) := by show withinB l s = false; unfold withinB; rw [show (l.length == s.length) = false by cases hh : l.length == s.length with | false => rfl | true => have e := eq_of_beq hh; rw [e] at hq; simp at hq]; rfl
    gi_wp2
    go_ret
    exact ⟨by rw [HG.out]; rfl, Ext.refl _⟩
  have hne := ne_of_bne_false_l hq
  have heq : l.length = s.length := by omega
  have HEQ := hid heq
  clear hne heq
  gi_wp2_with fail
  gi_loopw [14] (fun i wr => ∃ k : Nat, k ≤ s.length ∧ i = .int .i64 k ∧ Hid ((∀ j, j < k → withinGood l s j = true) ∧ Ext w wr)) (fun i _ => s.length - (intOf i).toNat)
  case atStart => exact ⟨0, Nat.zero_le _, rfl, fun _ h => absurd h (by omega), Ext.refl _⟩
  case round =>
    obtain ⟨k, hk, rfl, HI⟩ := hrel
    clear hq
    by_cases hlt : k < s.length
    · obtain ⟨b, off, rfl, hb, c0, c1⟩ := HS.out k hlt
      have hlt2 : k < l.length := by have := HEQ.out; omega
      obtain ⟨b2, off2, rfl, hb2, d0⟩ := HL.out k hlt2
      rw [← HI.out.2.cell (p := ⟨b, _, none⟩) hb] at c0 c1
      rw [← HI.out.2.cell (p := ⟨b2, _, none⟩) hb2] at d0
      have hki : (k : Int) < s.length := by omega
      have hki2 : (k : Int) < l.length := by omega
      have HGE := hid (withinGood_eq hlt hlt2)
      generalize s[k] = x at *
      generalize l[k] = y at *
      have hxa : Ext wr (wr.alloc (.cells #[.int .i64 x.lo, .int .i64 x.hi] 56)) := (Ext.refl _).alloc _
      have hba : (wr.alloc (.cells #[.int .i64 x.lo, .int .i64 x.hi] 56)).heap[wr.heap.size]? = some (.cells #[.int .i64 x.lo, .int .i64 x.hi] 56 (0, 0)) := Ext.new (Ext.refl _)
      have HD := hid (show ∀ u, Ext (wr.alloc (.cells #[.int .i64 x.lo, .int .i64 x.hi] 56)) u → u.cell? ⟨b2, off2 + k, none⟩ = some (.int .i64 y) from fun u hu => by rw [(hxa.trans hu).cell (p := ⟨b2, _, none⟩) (Nat.lt_of_lt_of_le hb2 HI.out.2.size)]; exact d0)
      gi_upto_region 6 with fail
      have HBA := hid hba
      have HXA := hid (HI.out.2.trans hxa)
      clear c0 c1 d0 hba hxa
      generalize wr.alloc (.cells #[.int .i64 x.lo, .int .i64 x.hi] 56) = W2 at *
      generalize wr.heap.size = G at *
      cases hv : inB y x.lo x.hi
      case false =>
        have HV := hid hv
        have HG : Hid (withinB l s = false) := by show withinB l s = false; unfold withinB; rw [allTo_no hlt (by rw [HGE.out]; exact hv), Bool.and_false]
        clear hv
        refine lex_wide 10 [] (by kernel_rfl) (by kernel_rfl) (nStab_nil) ?_
        simp only [List.take_succ_cons, List.take_zero, List.drop_succ_cons, List.drop_zero]
        apply lex_fun (rfl : psAt _ _ = none)
        · intro x' u hR hf
          clear hR hf
          go_simp
          exact ⟨rfl, Ext.refl _⟩
        simp only [Act.put, List.setIfInBounds_toArray, List.set_cons_succ, List.set_cons_zero]
        apply lex_fun (rfl : psAt _ _ = none)
        · intro x' u hR hf
          clear hR hf
          go_simp
          exact ⟨rfl, Ext.refl _⟩
        simp only [Act.put, List.setIfInBounds_toArray, List.set_cons_succ, List.set_cons_zero]
        apply lex_fun (rfl : psAt _ _ = none)
        · intro x' u hR hf
          clear hR hf
          go_simp
          exact ⟨rfl, Ext.refl _⟩
        simp only [Act.put, List.setIfInBounds_toArray, List.set_cons_succ, List.set_cons_zero]
        apply lex_fun (rfl : psAt _ _ = none)
        · intro x' u hR hf
          have d0 := HD.out u hR
          clear hR hf
          go_simp
          exact ⟨rfl, Ext.refl _⟩
        simp only [Act.put, List.setIfInBounds_toArray, List.set_cons_succ, List.set_cons_zero]
        apply lex_fun (rfl : psAt _ _ = none)
        · intro x' u hR hf
          clear hR hf
          go_simp
          exact ⟨rfl, Ext.refl _⟩
        simp only [Act.put, List.setIfInBounds_toArray, List.set_cons_succ, List.set_cons_zero]
        apply lex_fun (rfl : psAt _ _ = none)
        · intro x' u hR hf
          have c0 := cell_of (hR.block HBA.out)
          clear hR hf
          go_simp
          exact ⟨rfl, Ext.refl _⟩
        simp only [Act.put, List.setIfInBounds_toArray, List.set_cons_succ, List.set_cons_zero]
        apply lex_fun (rfl : psAt _ _ = none)
        · intro x' u hR hf
          clear hR hf
          go_simp
          exact ⟨rfl, Ext.refl _⟩
        simp only [Act.put, List.setIfInBounds_toArray, List.set_cons_succ, List.set_cons_zero]
        apply lex_fun (rfl : psAt _ _ = none)
        · intro x' u hR hf
          have c0 := cell_of (hR.block HBA.out)
          clear hR hf
          go_simp
          exact ⟨rfl, Ext.refl _⟩
        simp only [Act.put, List.setIfInBounds_toArray, List.set_cons_succ, List.set_cons_zero]
        refine lex_fun (v := .bool false) (rfl : psAt _ _ = none) ?_ ?_
        · intro x' u hR hf
          have hcal := hid (isIn_b y x.lo x.hi false u HV.out)
          clear hR hf
          go_simp
          exact hcal.out.mono fun e w'' ⟨he, hx'⟩ => ⟨_, he, rfl, hx' ▸ Ext.refl _⟩
        simp only [Act.put, List.setIfInBounds_toArray, List.set_cons_succ, List.set_cons_zero]
        apply lex_fun (rfl : psAt _ _ = none)
        · intro x' u hR hf
          clear hR hf
          go_simp
          exact ⟨rfl, Ext.refl _⟩
        simp only [Act.put, List.setIfInBounds_toArray, List.set_cons_succ, List.set_cons_zero]
        refine lex_nil fun x' w6 hE hfacts => ?_
        clear hfacts x'
        gi_wp2
        go_ret
        exact ⟨by rw [HG.out]; rfl, HXA.out.trans hE⟩
      case true =>
        have HV := hid hv
        have HU := hid (upTo_succ HI.out.1 (by rw [HGE.out]; exact hv))
        clear hv
        refine lex_wide 10 [] (by kernel_rfl) (by kernel_rfl) (nStab_nil) ?_
        simp only [List.take_succ_cons, List.take_zero, List.drop_succ_cons, List.drop_zero]
        apply lex_fun (rfl : psAt _ _ = none)
        · intro x' u hR hf
          clear hR hf
          go_simp
          exact ⟨rfl, Ext.refl _⟩
        simp only [Act.put, List.setIfInBounds_toArray, List.set_cons_succ, List.set_cons_zero]
        apply lex_fun (rfl : psAt _ _ = none)
        · intro x' u hR hf
          clear hR hf
          go_simp
          exact ⟨rfl, Ext.refl _⟩
        simp only [Act.put, List.setIfInBounds_toArray, List.set_cons_succ, List.set_cons_zero]
        apply lex_fun (rfl : psAt _ _ = none)
        · intro x' u hR hf
          clear hR hf
          go_simp
          exact ⟨rfl, Ext.refl _⟩
        simp only [Act.put, List.setIfInBounds_toArray, List.set_cons_succ, List.set_cons_zero]
        apply lex_fun (rfl : psAt _ _ = none)
        · intro x' u hR hf
          have d0 := HD.out u hR
          clear hR hf
          go_simp
          exact ⟨rfl, Ext.refl _⟩
        simp only [Act.put, List.setIfInBounds_toArray, List.set_cons_succ, List.set_cons_zero]
        apply lex_fun (rfl : psAt _ _ = none)
        · intro x' u hR hf
          clear hR hf
          go_simp
          exact ⟨rfl, Ext.refl _⟩
        simp only [Act.put, List.setIfInBounds_toArray, List.set_cons_succ, List.set_cons_zero]
        apply lex_fun (rfl : psAt _ _ = none)
        · intro x' u hR hf
          have c0 := cell_of (hR.block HBA.out)
          clear hR hf
          go_simp
          exact ⟨rfl, Ext.refl _⟩
        simp only [Act.put, List.setIfInBounds_toArray, List.set_cons_succ, List.set_cons_zero]
        apply lex_fun (rfl : psAt _ _ = none)
        · intro x' u hR hf
          clear hR hf
          go_simp
          exact ⟨rfl, Ext.refl _⟩
        simp only [Act.put, List.setIfInBounds_toArray, List.set_cons_succ, List.set_cons_zero]
        apply lex_fun (rfl : psAt _ _ = none)
        · intro x' u hR hf
          have c0 := cell_of (hR.block HBA.out)
          clear hR hf
          go_simp
          exact ⟨rfl, Ext.refl _⟩
        simp only [Act.put, List.setIfInBounds_toArray, List.set_cons_succ, List.set_cons_zero]
        refine lex_fun (v := .bool true) (rfl : psAt _ _ = none) ?_ ?_
        · intro x' u hR hf
          have hcal := hid (isIn_b y x.lo x.hi true u HV.out)
          clear hR hf
          go_simp
          exact hcal.out.mono fun e w'' ⟨he, hx'⟩ => ⟨_, he, rfl, hx' ▸ Ext.refl _⟩
        simp only [Act.put, List.setIfInBounds_toArray, List.set_cons_succ, List.set_cons_zero]
        apply lex_fun (rfl : psAt _ _ = none)
        · intro x' u hR hf
          clear hR hf
          go_simp
          exact ⟨rfl, Ext.refl _⟩
        simp only [Act.put, List.setIfInBounds_toArray, List.set_cons_succ, List.set_cons_zero]
        refine lex_nil fun x' w6 hE hfacts => ?_
        clear hfacts x'
        gi_wp2
        go_roundw
        case rel => exact ⟨k + 1, by omega, by go_num, HU.out, HXA.out.trans hE⟩
        case measure => simp [intOf]; omega
    · obtain rfl : k = s.length := by omega
      have HG : Hid (withinB l s = true) := by show withinB l s = true; unfold withinB; rw [allTo_yes HI.out.1, HEQ.out]; simp
      gi_wp2
      go_ret
      exact ⟨by rw [HG.out]; rfl, HI.out.2⟩



def sumTo (l : List Int) (s m : Nat) : Int := ((l.drop s).take m).sum
theorem sumTo_zero (l : List Int) (s : Nat) : sumTo l s 0 = 0 := by simp [sumTo]
theorem sumTo_succ (l : List Int) (s m : Nat) (h : s + m < l.length) : sumTo l s (m + 1) = sumTo l s m + l[s + m] := by
  unfold sumTo
  rw [List.take_succ_eq_append_getElem (by simp; omega), List.sum_append]
  simp
theorem sumTo_bound {l : List Int} {M : Int} (h : ∀ x ∈ l, -M ≤ x ∧ x ≤ M) (hM : 0 ≤ M) (s : Nat) : ∀ m, -(M * m) ≤ sumTo l s m ∧ sumTo l s m ≤ M * m := by
  intro m
  induction m with
  | zero => rw [sumTo_zero]; simp
  | succ m ih =>
    by_cases hl : s + m < l.length
    · rw [sumTo_succ l s m hl]
      have := h _ (List.getElem_mem hl)
      rw [Int.natCast_add, Int.mul_add]
      simp
      omega
    · have : sumTo l s (m + 1) = sumTo l s m := by unfold sumTo; rw [List.take_of_length_le (by simp; omega), List.take_of_length_le (by simp; omega)]
      rw [this, Int.natCast_add, Int.mul_add]
      simp
      omega
theorem within_bound {l : List Int} {s : List Spn} {M : Int} (h : withinB l s = true) (hs : ∀ x ∈ s, spIn M x) : ∀ x ∈ l, -M ≤ x ∧ x ≤ M := by
  intro x hx
  obtain ⟨k, hk, rfl⟩ := List.getElem_of_mem hx
  have h1 := withinB_spec h
  have h2 := h1.2 k hk (by omega)
  have h3 := hs _ (List.getElem_mem (h := (by omega : k < s.length)))
  unfold spIn at h3
  omega

def where_eF (T : TruthD) (n : NetD) (i : Nat) (h : Int) : Int := n.east + T.se.getD i 0 * (h - n.shot) + sumTo T.east n.shot.toNat (h.toNat - n.shot.toNat)
theorem where_e_in {F : FleetD} (hF : FleetOk F) {T : TruthD} (hT : TruthOk F T) {n : NetD} {i : Nat} (hi : i < F.nets.length) (hn : F.nets[i] = n) {h : Int} (hh : n.shot ≤ h ∧ h ≤ n.haul) : -20000 ≤ where_eF T n i h ∧ where_eF T n i h ≤ 20000 := by
  have hok := hF.nets _ (List.getElem_mem hi)
  rw [hn] at hok
  have h1 := withinB_spec hT.se
  have hl : i < T.se.length := by rw [h1.1]; simpa using hi
  have h2 := h1.2 i hl (by simpa using hi)
  simp only [List.getElem_map, hn] at h2
  have h3 := hok.se
  unfold spIn at h3
  have h4 := sumTo_bound (within_bound hT.east hF.east) (by omega) n.shot.toNat (h.toNat - n.shot.toNat)
  have h5 := hF.hours
  have h6 := hok.shot
  have h7 := hok.haul
  have h8 := hok.east
  unfold where_eF
  rw [getD_of hl]
  generalize T.se[i] = y at *
  have h9 : -50 * 24 ≤ y * (h - n.shot) ∧ y * (h - n.shot) ≤ 50 * 24 := by
    obtain ⟨d, hd⟩ : ∃ d : Nat, h - n.shot = d := ⟨(h - n.shot).toNat, by omega⟩
    rw [hd]
    have hd2 : d ≤ 24 := by omega
    have a1 := Int.mul_le_mul_of_nonneg_right (show y ≤ 50 by omega) (show (0 : Int) ≤ (d : Int) by omega)
    have a2 := Int.mul_le_mul_of_nonneg_right (show -50 ≤ y by omega) (show (0 : Int) ≤ (d : Int) by omega)
    omega
  have h10 : (200 : Int) * ((h.toNat - n.shot.toNat : Nat) : Int) ≤ 4800 := by omega
  omega
set_option maxRecDepth 100000 in
set_option maxHeartbeats 4000000 in
theorem where_e (F : FleetD) (hF : FleetOk F) (T : TruthD) (hT : TruthOk F T) (eb eo ec nb no nc : Nat) (sv mv te tn ts tm : Value) (n : NetD) (i : Nat) (hi : i < F.nets.length) (hn : F.nets[i] = n) (h : Int) (hh : n.shot ≤ h ∧ h ≤ n.haul) (w : World)
    (hA : IntsAt w te T.east) (hB : IntsAt w tn T.north) (hC : IntsAt w ts T.se) (hD : IntsAt w tm T.sn) :
    Cal 56 #[.agg #[.slice (some ⟨eb, eo, none⟩) F.east.length ec, .slice (some ⟨nb, no, none⟩) F.north.length nc, .int .i64 F.gap, sv, mv, te, tn, ts, tm], .agg #[.int .i64 0, .func (.func 84) #[] #[], .func (.func 85) #[] #[], .func (.func 86) #[] #[], .func (.func 87) #[] #[]], .agg #[.int .i64 n.east, .int .i64 n.north, .int .i64 n.long, .int .i64 n.along, .int .i64 n.shot, .int .i64 n.haul, .int .i64 n.se.lo, .int .i64 n.se.hi, .int .i64 n.sn.lo, .int .i64 n.sn.hi, .int .i64 i], .int .i64 h] w fun e w' => e = .returned (.int .i64 (where_eF T n i h)) ∧ Ext w w' := by
  have hok := hF.nets _ (List.getElem_mem hi)
  rw [hn] at hok
  have h1 := withinB_spec hT.se
  have hl : i < T.se.length := by rw [h1.1]; simpa using hi
  have h2 := h1.2 i hl (by simpa using hi)
  simp only [List.getElem_map, hn] at h2
  have h3 := hok.se
  unfold spIn at h3
  have htl : T.east.length = F.east.length := (withinB_spec hT.east).1
  have HTB := hid (within_bound hT.east hF.east)
  have hh24 := hF.hours
  have hsame := hF.same
  have hshot := hok.shot
  have hhaul := hok.haul
  have hplace := hok.east
  have HSP := hid hA
  obtain ⟨ta, tac, rfl, hA1, hA2⟩ := hA
  obtain ⟨tb, tbc, rfl, hB1, hB2⟩ := hB
  obtain ⟨tc, tcc, rfl, hC1, hC2⟩ := hC
  obtain ⟨td, tdc, rfl, hD1, hD2⟩ := hD
  have HCT := hid hA2
  obtain ⟨sb, so, hse, hsb, hsc⟩ := hC2 i hl
  unfold where_eF
  rw [getD_of hl]
  obtain ⟨ne, nn, nl, na, s0, nh, nse, nsn⟩ := n
  simp only at *
  obtain ⟨s, rfl⟩ : ∃ s' : Nat, s0 = s' := ⟨s0.toNat, by omega⟩
  obtain ⟨u, rfl⟩ : ∃ u' : Nat, h = u' := ⟨h.toNat, by omega⟩
  rw [Int.toNat_natCast, Int.toNat_natCast]
  have hsu : s ≤ u := by omega
  have hut : u ≤ T.east.length := by omega
  have hu24 : u ≤ 24 := by omega
  obtain ⟨tb0, to0, hte, hz0, hz1⟩ := HCT.out 0 (by omega)
  clear hz0 hz1
  have hcap : T.east.length ≤ tac := hA1.1
  generalize hy : T.se[i] = y at *
  have hy50 : -50 ≤ y ∧ y ≤ 50 := by omega
  have HSC := hid (And.intro hsb hsc)
  clear hA2 hB2 hC2 hD2 hy h1 h2 h3 hok hT hi hn hsc hsb hF HSP hD1 hC1 htl hsame
  subst hse
  subst hte
  have hmul : -1200 ≤ y * ((u : Int) - s) ∧ y * ((u : Int) - s) ≤ 1200 := by
    obtain ⟨d, hd⟩ : ∃ d : Nat, (u : Int) - s = d := ⟨u - s, by omega⟩
    rw [hd]
    have a1 := Int.mul_le_mul_of_nonneg_right (show y ≤ 50 by omega) (show (0 : Int) ≤ (d : Int) by omega)
    have a2 := Int.mul_le_mul_of_nonneg_right (show -50 ≤ y by omega) (show (0 : Int) ≤ (d : Int) by omega)
    omega
  have HW1 : Hid (IntKind.i64.wrap ((u : Int) - (s : Int)) = (u : Int) - s) := by show IntKind.i64.wrap _ = _; rw [IntKind.wrap_i64]; omega
  have HW2 : Hid (IntKind.i64.wrap (y * ((u : Int) - (s : Int))) = y * ((u : Int) - s)) := by show IntKind.i64.wrap _ = _; rw [IntKind.wrap_i64]; omega
  have HW3 : Hid (IntKind.i64.wrap (ne + y * ((u : Int) - (s : Int))) = ne + y * ((u : Int) - s)) := by show IntKind.i64.wrap _ = _; rw [IntKind.wrap_i64]; omega
  have hil : (i : Int) < T.se.length := by omega
  gi_enter Try.func56, Try.ntmps56
  gi_upto_region 1 with fail
  have hW : Ext w (((w.alloc (.cells #[.slice (some ⟨eb, eo, none⟩) F.east.length ec, .slice (some ⟨nb, no, none⟩) F.north.length nc, .int .i64 F.gap, sv, mv, .slice (some ⟨tb0, to0, none⟩) T.east.length tac, .slice tb T.north.length tbc, .slice (some ⟨sb, so, none⟩) T.se.length tcc, .slice td T.sn.length tdc] 116)).alloc (.cells #[.int .i64 0, .func (.func 84) #[] #[], .func (.func 85) #[] #[], .func (.func 86) #[] #[], .func (.func 87) #[] #[]] 133)).alloc (.cells #[.int .i64 ne, .int .i64 nn, .int .i64 nl, .int .i64 na, .int .i64 (s : Int), .int .i64 nh, .int .i64 nse.lo, .int .i64 nse.hi, .int .i64 nsn.lo, .int .i64 nsn.hi, .int .i64 (i : Int)] 125)) := (((Ext.refl _).alloc _).alloc _).alloc _
  have hW0 : (((w.alloc (.cells #[.slice (some ⟨eb, eo, none⟩) F.east.length ec, .slice (some ⟨nb, no, none⟩) F.north.length nc, .int .i64 F.gap, sv, mv, .slice (some ⟨tb0, to0, none⟩) T.east.length tac, .slice tb T.north.length tbc, .slice (some ⟨sb, so, none⟩) T.se.length tcc, .slice td T.sn.length tdc] 116)).alloc (.cells #[.int .i64 0, .func (.func 84) #[] #[], .func (.func 85) #[] #[], .func (.func 86) #[] #[], .func (.func 87) #[] #[]] 133)).alloc (.cells #[.int .i64 ne, .int .i64 nn, .int .i64 nl, .int .i64 na, .int .i64 (s : Int), .int .i64 nh, .int .i64 nse.lo, .int .i64 nse.hi, .int .i64 nsn.lo, .int .i64 nsn.hi, .int .i64 (i : Int)] 125)).heap[w.heap.size]? = some (.cells #[.slice (some ⟨eb, eo, none⟩) F.east.length ec, .slice (some ⟨nb, no, none⟩) F.north.length nc, .int .i64 F.gap, sv, mv, .slice (some ⟨tb0, to0, none⟩) T.east.length tac, .slice tb T.north.length tbc, .slice (some ⟨sb, so, none⟩) T.se.length tcc, .slice td T.sn.length tdc] 116 (0, 0)) := by simp only [alloc_at, World.size_alloc]; (repeat rw [if_neg (by omega)]); first | rfl | rw [if_pos (by omega)] | rw [if_pos trivial]
  have hW1 : (((w.alloc (.cells #[.slice (some ⟨eb, eo, none⟩) F.east.length ec, .slice (some ⟨nb, no, none⟩) F.north.length nc, .int .i64 F.gap, sv, mv, .slice (some ⟨tb0, to0, none⟩) T.east.length tac, .slice tb T.north.length tbc, .slice (some ⟨sb, so, none⟩) T.se.length tcc, .slice td T.sn.length tdc] 116)).alloc (.cells #[.int .i64 0, .func (.func 84) #[] #[], .func (.func 85) #[] #[], .func (.func 86) #[] #[], .func (.func 87) #[] #[]] 133)).alloc (.cells #[.int .i64 ne, .int .i64 nn, .int .i64 nl, .int .i64 na, .int .i64 (s : Int), .int .i64 nh, .int .i64 nse.lo, .int .i64 nse.hi, .int .i64 nsn.lo, .int .i64 nsn.hi, .int .i64 (i : Int)] 125)).heap[w.heap.size + 1]? = some (.cells #[.int .i64 0, .func (.func 84) #[] #[], .func (.func 85) #[] #[], .func (.func 86) #[] #[], .func (.func 87) #[] #[]] 133 (0, 0)) := by simp only [alloc_at, World.size_alloc]; (repeat rw [if_neg (by omega)]); first | rfl | rw [if_pos (by omega)] | rw [if_pos trivial]
  have hW2 : (((w.alloc (.cells #[.slice (some ⟨eb, eo, none⟩) F.east.length ec, .slice (some ⟨nb, no, none⟩) F.north.length nc, .int .i64 F.gap, sv, mv, .slice (some ⟨tb0, to0, none⟩) T.east.length tac, .slice tb T.north.length tbc, .slice (some ⟨sb, so, none⟩) T.se.length tcc, .slice td T.sn.length tdc] 116)).alloc (.cells #[.int .i64 0, .func (.func 84) #[] #[], .func (.func 85) #[] #[], .func (.func 86) #[] #[], .func (.func 87) #[] #[]] 133)).alloc (.cells #[.int .i64 ne, .int .i64 nn, .int .i64 nl, .int .i64 na, .int .i64 (s : Int), .int .i64 nh, .int .i64 nse.lo, .int .i64 nse.hi, .int .i64 nsn.lo, .int .i64 nsn.hi, .int .i64 (i : Int)] 125)).heap[w.heap.size + 1 + 1]? = some (.cells #[.int .i64 ne, .int .i64 nn, .int .i64 nl, .int .i64 na, .int .i64 (s : Int), .int .i64 nh, .int .i64 nse.lo, .int .i64 nse.hi, .int .i64 nsn.lo, .int .i64 nsn.hi, .int .i64 (i : Int)] 125 (0, 0)) := by simp only [alloc_at, World.size_alloc]; (repeat rw [if_neg (by omega)]); first | rfl | rw [if_pos (by omega)] | rw [if_pos trivial]
  generalize ((w.alloc (.cells #[.slice (some ⟨eb, eo, none⟩) F.east.length ec, .slice (some ⟨nb, no, none⟩) F.north.length nc, .int .i64 F.gap, sv, mv, .slice (some ⟨tb0, to0, none⟩) T.east.length tac, .slice tb T.north.length tbc, .slice (some ⟨sb, so, none⟩) T.se.length tcc, .slice td T.sn.length tdc] 116)).alloc (.cells #[.int .i64 0, .func (.func 84) #[] #[], .func (.func 85) #[] #[], .func (.func 86) #[] #[], .func (.func 87) #[] #[]] 133)).alloc (.cells #[.int .i64 ne, .int .i64 nn, .int .i64 nl, .int .i64 na, .int .i64 (s : Int), .int .i64 nh, .int .i64 nse.lo, .int .i64 nse.hi, .int .i64 nsn.lo, .int .i64 nsn.hi, .int .i64 (i : Int)] 125) = W at *
  have HB0 := hid hW0
  have HB1 := hid hW1
  have HB2 := hid hW2
  have HX := hid hW
  have hc0 := cell_of hW0
  have hc1 := cell_of hW1
  clear hW hW0 hW1 hW2
  gi_upto_region 2 with (gi_at_call 87; ((with_reducible refine (said_e _ _ _ _ _ _ _ _ _ _ _ _ _).mono ?_); rintro e w1 ⟨rfl, hx1⟩))
  have hxa := hx1.alloc (.cells #[.slice (some ⟨tb0, to0, none⟩) T.east.length tac, .slice (some ⟨sb, so, none⟩) T.se.length tcc] 159)
  have hb3 : (w1.alloc (.cells #[.slice (some ⟨tb0, to0, none⟩) T.east.length tac, .slice (some ⟨sb, so, none⟩) T.se.length tcc] 159)).heap[w1.heap.size]? = some (.cells #[.slice (some ⟨tb0, to0, none⟩) T.east.length tac, .slice (some ⟨sb, so, none⟩) T.se.length tcc] 159 (0, 0)) := Ext.new (Ext.refl _)
  have HB0 := hid (hxa.block HB0.out)
  have HB1 := hid (hxa.block HB1.out)
  have HB2 := hid (hxa.block HB2.out)
  have HX := hid (HX.out.trans hxa)
  have HB3 := hid hb3
  clear hc0 hc1 hx1 hxa hb3
  generalize w1.alloc (.cells #[.slice (some ⟨tb0, to0, none⟩) T.east.length tac, .slice (some ⟨sb, so, none⟩) T.se.length tcc] 159) = W1 at *
  generalize w1.heap.size = GW at *
  have HCY := hid (fun (u : World) (hu : Ext W1 u) => (show u.cell? ⟨sb, so + i, none⟩ = some (.int .i64 y) by rw [(HX.out.trans hu).cell (p := ⟨sb, _, none⟩) HSC.out.1]; exact HSC.out.2))
  refine lex_wide 20 [] (by kernel_rfl) (by kernel_rfl) (nStab_nil) ?_
  simp only [List.take_succ_cons, List.take_zero, List.drop_succ_cons, List.drop_zero]
  apply lex_fun (rfl : psAt _ _ = none)
  · intro x u2 hR hf
    clear hR hf
    go_simp
    exact ⟨rfl, Ext.refl _⟩
  simp only [Act.put, List.setIfInBounds_toArray, List.set_cons_succ, List.set_cons_zero]
  apply lex_fun (rfl : psAt _ _ = none)
  · intro x u2 hR hf
    have c1 := cell_of (hR.block HB1.out)
    clear hR hf
    go_simp
    exact ⟨rfl, Ext.refl _⟩
  simp only [Act.put, List.setIfInBounds_toArray, List.set_cons_succ, List.set_cons_zero]
  apply lex_fun (rfl : psAt _ _ = none)
  · intro x u2 hR hf
    clear hR hf
    go_simp
    exact ⟨rfl, Ext.refl _⟩
  simp only [Act.put, List.setIfInBounds_toArray, List.set_cons_succ, List.set_cons_zero]
  apply lex_fun (rfl : psAt _ _ = none)
  · intro x u2 hR hf
    clear hR hf
    go_simp
    exact ⟨rfl, Ext.refl _⟩
  simp only [Act.put, List.setIfInBounds_toArray, List.set_cons_succ, List.set_cons_zero]
  apply lex_fun (rfl : psAt _ _ = none)
  · intro x u2 hR hf
    have c2 := cell_of (hR.block HB2.out)
    clear hR hf
    go_simp
    exact ⟨rfl, Ext.refl _⟩
  simp only [Act.put, List.setIfInBounds_toArray, List.set_cons_succ, List.set_cons_zero]
  refine lex_fun (v := .int .i64 ne) (rfl : psAt _ _ = none) ?_ ?_
  · intro x u2 hR hf
    have hcal := hid (place_e ne nn u2)
    clear hR hf
    go_simp
    exact hcal.out.mono fun e w'' ⟨he, hx'⟩ => ⟨_, he, rfl, hx'⟩
  simp only [Act.put, List.setIfInBounds_toArray, List.set_cons_succ, List.set_cons_zero]
  apply lex_fun (rfl : psAt _ _ = none)
  · intro x u2 hR hf
    clear hR hf
    go_simp
    exact ⟨rfl, Ext.refl _⟩
  simp only [Act.put, List.setIfInBounds_toArray, List.set_cons_succ, List.set_cons_zero]
  apply lex_fun (rfl : psAt _ _ = none)
  · intro x u2 hR hf
    have c3 := cell_of (hR.block HB3.out)
    clear hR hf
    go_simp
    exact ⟨rfl, Ext.refl _⟩
  simp only [Act.put, List.setIfInBounds_toArray, List.set_cons_succ, List.set_cons_zero]
  apply lex_fun (rfl : psAt _ _ = none)
  · intro x u2 hR hf
    clear hR hf
    go_simp
    exact ⟨rfl, Ext.refl _⟩
  simp only [Act.put, List.setIfInBounds_toArray, List.set_cons_succ, List.set_cons_zero]
  apply lex_fun (rfl : psAt _ _ = none)
  · intro x u2 hR hf
    have c2 := cell_of (hR.block HB2.out)
    clear hR hf
    go_simp
    exact ⟨rfl, Ext.refl _⟩
  simp only [Act.put, List.setIfInBounds_toArray, List.set_cons_succ, List.set_cons_zero]
  apply lex_fun (rfl : psAt _ _ = none)
  · intro x u2 hR hf
    clear hR hf
    go_simp
    exact ⟨rfl, Ext.refl _⟩
  simp only [Act.put, List.setIfInBounds_toArray, List.set_cons_succ, List.set_cons_zero]
  apply lex_fun (rfl : psAt _ _ = none)
  · intro x u2 hR hf
    have d := HCY.out u2 hR
    clear hR hf
    go_simp
    exact ⟨rfl, Ext.refl _⟩
  simp only [Act.put, List.setIfInBounds_toArray, List.set_cons_succ, List.set_cons_zero]
  apply lex_fun (rfl : psAt _ _ = none)
  · intro x u2 hR hf
    clear hR hf
    go_simp
    exact ⟨rfl, Ext.refl _⟩
  simp only [Act.put, List.setIfInBounds_toArray, List.set_cons_succ, List.set_cons_zero]
  apply lex_fun (rfl : psAt _ _ = none)
  · intro x u2 hR hf
    clear hR hf
    go_simp
    exact ⟨rfl, Ext.refl _⟩
  simp only [Act.put, List.setIfInBounds_toArray, List.set_cons_succ, List.set_cons_zero]
  apply lex_fun (rfl : psAt _ _ = none)
  · intro x u2 hR hf
    clear hR hf
    go_simp
    exact ⟨rfl, Ext.refl _⟩
  simp only [Act.put, List.setIfInBounds_toArray, List.set_cons_succ, List.set_cons_zero]
  apply lex_fun (rfl : psAt _ _ = none)
  · intro x u2 hR hf
    have c2 := cell_of (hR.block HB2.out)
    clear hR hf
    go_simp
    exact ⟨rfl, Ext.refl _⟩
  simp only [Act.put, List.setIfInBounds_toArray, List.set_cons_succ, List.set_cons_zero]
  refine lex_fun (v := .int .i64 ((u : Int) - (s : Int))) (rfl : psAt _ _ = none) ?_ ?_
  · intro x u2 hR hf
    clear hR hf
    go_simp
    exact ⟨by simp [HW1.out], Ext.refl _⟩
  simp only [Act.put, List.setIfInBounds_toArray, List.set_cons_succ, List.set_cons_zero]
  refine lex_fun (v := .int .i64 (y * ((u : Int) - (s : Int)))) (rfl : psAt _ _ = none) ?_ ?_
  · intro x u2 hR hf
    clear hR hf
    go_simp
    exact ⟨by simp [HW2.out], Ext.refl _⟩
  simp only [Act.put, List.setIfInBounds_toArray, List.set_cons_succ, List.set_cons_zero]
  refine lex_fun (v := .int .i64 (ne + y * ((u : Int) - (s : Int)))) (rfl : psAt _ _ = none) ?_ ?_
  · intro x u2 hR hf
    clear hR hf
    go_simp
    exact ⟨by simp [HW3.out], Ext.refl _⟩
  simp only [Act.put, List.setIfInBounds_toArray, List.set_cons_succ, List.set_cons_zero]
  apply lex_fun (rfl : psAt _ _ = none)
  · intro x u2 hR hf
    clear hR hf
    go_simp
    exact ⟨rfl, Ext.refl _⟩
  simp only [Act.put, List.setIfInBounds_toArray, List.set_cons_succ, List.set_cons_zero]
  refine lex_nil fun x w6 hE hfacts => ?_
  clear hfacts x
  have HX := hid (HX.out.trans hE)
  have hc2 := cell_of (hE.block HB2.out)
  have hc3 := cell_of (hE.block HB3.out)
  generalize hz : ne + y * ((u : Int) - (s : Int)) = z at *
  have HZE := hid hz
  have hzb : -20000 ≤ z ∧ z ≤ 20000 := by omega
  clear hE HW1 HW2 HW3 hmul HB0 HB1 HB2 HB3 HCY hz
  have hki : (s : Int) ≤ u := by omega
  gi_wp2_with fail
  case inl =>
    subst h
    gi_loopw [10, 46] (fun v j wr => ∃ m : Nat, m ≤ u - u ∧ j = .int .i64 m ∧ v = .int .i64 (z + sumTo T.east u m) ∧ Hid (Ext w wr)) (fun _ j _ => u - u - (intOf j).toNat)
    case atStart => exact ⟨0, Nat.zero_le _, rfl, by rw [sumTo_zero, Int.add_zero], HX.out⟩
    case round =>
      obtain ⟨m, hm, rfl, rfl, HI⟩ := hrel
      obtain rfl : m = u - u := by omega
      gi_wp2
      go_ret
      exact ⟨by rw [HZE.out]; rfl, HI.out⟩
  case inr =>
    gi_loopw [10, 46] (fun v j wr => ∃ m : Nat, m ≤ u - s ∧ j = .int .i64 m ∧ v = .int .i64 (z + sumTo T.east s m) ∧ Hid (Ext w wr)) (fun _ j _ => u - s - (intOf j).toNat)
    case atStart => exact ⟨0, Nat.zero_le _, rfl, by rw [sumTo_zero, Int.add_zero], HX.out⟩
    case round =>
      obtain ⟨m, hm, rfl, rfl, HI⟩ := hrel
      by_cases hlt : m < u - s
      · have hlt2 : s + m < T.east.length := by omega
        obtain ⟨b, off, e1, hb, c0⟩ := HCT.out (s + m) hlt2
        cases e1
        rw [← HI.out.cell (p := ⟨tb0, _, none⟩) hb] at c0
        have ho : to0 + (s + m) = to0 + s + m := by omega
        rw [ho] at c0
        clear ho
        have hbd := sumTo_bound HTB.out (by omega) s m
        have hbe := HTB.out _ (List.getElem_mem hlt2)
        have HS := hid (sumTo_succ T.east s m hlt2)
        generalize T.east[s + m] = g at *
        have hm24 : (200 : Int) * m ≤ 4800 := by omega
        have HQ : wrap64 (z + sumTo T.east s m + g) = z + sumTo T.east s m + g := by unfold wrap64; omega
        have hkm : (m : Int) < ((u - s : Nat) : Int) := by omega
        gi_wp2
        go_roundw
        case rel => exact ⟨m + 1, by omega, by go_num, by rw [HS.out, Int.add_assoc], HI.out⟩
        case measure => simp [intOf]; omega
      · obtain rfl : m = u - s := by omega
        gi_wp2
        go_ret
        exact ⟨by rw [HZE.out]; rfl, HI.out⟩

def where_nF (T : TruthD) (n : NetD) (i : Nat) (h : Int) : Int := n.north + T.sn.getD i 0 * (h - n.shot) + sumTo T.north n.shot.toNat (h.toNat - n.shot.toNat)
theorem where_n_in {F : FleetD} (hF : FleetOk F) {T : TruthD} (hT : TruthOk F T) {n : NetD} {i : Nat} (hi : i < F.nets.length) (hn : F.nets[i] = n) {h : Int} (hh : n.shot ≤ h ∧ h ≤ n.haul) : -20000 ≤ where_nF T n i h ∧ where_nF T n i h ≤ 20000 := by
  have hok := hF.nets _ (List.getElem_mem hi)
  rw [hn] at hok
  have h1 := withinB_spec hT.sn
  have hl : i < T.sn.length := by rw [h1.1]; simpa using hi
  have h2 := h1.2 i hl (by simpa using hi)
  simp only [List.getElem_map, hn] at h2
  have h3 := hok.sn
  unfold spIn at h3
  have h4 := sumTo_bound (within_bound hT.north hF.north) (by omega) n.shot.toNat (h.toNat - n.shot.toNat)
  have h5 := hF.hours
  have h6 := hok.shot
  have h7 := hok.haul
  have h8 := hok.north
  unfold where_nF
  rw [getD_of hl]
  generalize T.sn[i] = y at *
  have h9 : -50 * 24 ≤ y * (h - n.shot) ∧ y * (h - n.shot) ≤ 50 * 24 := by
    obtain ⟨d, hd⟩ : ∃ d : Nat, h - n.shot = d := ⟨(h - n.shot).toNat, by omega⟩
    rw [hd]
    have hd2 : d ≤ 24 := by omega
    have a1 := Int.mul_le_mul_of_nonneg_right (show y ≤ 50 by omega) (show (0 : Int) ≤ (d : Int) by omega)
    have a2 := Int.mul_le_mul_of_nonneg_right (show -50 ≤ y by omega) (show (0 : Int) ≤ (d : Int) by omega)
    omega
  have h10 : (200 : Int) * ((h.toNat - n.shot.toNat : Nat) : Int) ≤ 4800 := by omega
  omega
set_option maxRecDepth 100000 in
set_option maxHeartbeats 4000000 in
theorem where_n (F : FleetD) (hF : FleetOk F) (T : TruthD) (hT : TruthOk F T) (eb eo ec nb no nc : Nat) (sv mv te tn ts tm : Value) (n : NetD) (i : Nat) (hi : i < F.nets.length) (hn : F.nets[i] = n) (h : Int) (hh : n.shot ≤ h ∧ h ≤ n.haul) (w : World)
    (hA : IntsAt w te T.east) (hB : IntsAt w tn T.north) (hC : IntsAt w ts T.se) (hD : IntsAt w tm T.sn) :
    Cal 56 #[.agg #[.slice (some ⟨eb, eo, none⟩) F.east.length ec, .slice (some ⟨nb, no, none⟩) F.north.length nc, .int .i64 F.gap, sv, mv, te, tn, ts, tm], .agg #[.int .i64 1, .func (.func 88) #[] #[], .func (.func 89) #[] #[], .func (.func 90) #[] #[], .func (.func 91) #[] #[]], .agg #[.int .i64 n.east, .int .i64 n.north, .int .i64 n.long, .int .i64 n.along, .int .i64 n.shot, .int .i64 n.haul, .int .i64 n.se.lo, .int .i64 n.se.hi, .int .i64 n.sn.lo, .int .i64 n.sn.hi, .int .i64 i], .int .i64 h] w fun e w' => e = .returned (.int .i64 (where_nF T n i h)) ∧ Ext w w' := by
  have hok := hF.nets _ (List.getElem_mem hi)
  rw [hn] at hok
  have h1 := withinB_spec hT.sn
  have hl : i < T.sn.length := by rw [h1.1]; simpa using hi
  have h2 := h1.2 i hl (by simpa using hi)
  simp only [List.getElem_map, hn] at h2
  have h3 := hok.sn
  unfold spIn at h3
  have htl : T.north.length = F.north.length := (withinB_spec hT.north).1
  have HTB := hid (within_bound hT.north hF.north)
  have hh24 := hF.hours
  have hsame := hF.same
  have hshot := hok.shot
  have hhaul := hok.haul
  have hplace := hok.north
  have HSP := hid hA
  obtain ⟨ta, tac, rfl, hA1, hA2⟩ := hA
  obtain ⟨tb, tbc, rfl, hB1, hB2⟩ := hB
  obtain ⟨tc, tcc, rfl, hC1, hC2⟩ := hC
  obtain ⟨td, tdc, rfl, hD1, hD2⟩ := hD
  have HCT := hid hB2
  obtain ⟨sb, so, hse, hsb, hsc⟩ := hD2 i hl
  unfold where_nF
  rw [getD_of hl]
  obtain ⟨ne, nn, nl, na, s0, nh, nse, nsn⟩ := n
  simp only at *
  obtain ⟨s, rfl⟩ : ∃ s' : Nat, s0 = s' := ⟨s0.toNat, by omega⟩
  obtain ⟨u, rfl⟩ : ∃ u' : Nat, h = u' := ⟨h.toNat, by omega⟩
  rw [Int.toNat_natCast, Int.toNat_natCast]
  have hsu : s ≤ u := by omega
  have hut : u ≤ T.north.length := by omega
  have hu24 : u ≤ 24 := by omega
  obtain ⟨tb0, to0, hte, hz0, hz1⟩ := HCT.out 0 (by omega)
  clear hz0 hz1
  have hcap : T.north.length ≤ tbc := hB1.1
  generalize hy : T.sn[i] = y at *
  have hy50 : -50 ≤ y ∧ y ≤ 50 := by omega
  have HSC := hid (And.intro hsb hsc)
  clear hA2 hB2 hC2 hD2 hy h1 h2 h3 hok hT hi hn hsc hsb hF HSP hD1 hC1 htl hsame
  subst hse
  subst hte
  have hmul : -1200 ≤ y * ((u : Int) - s) ∧ y * ((u : Int) - s) ≤ 1200 := by
    obtain ⟨d, hd⟩ : ∃ d : Nat, (u : Int) - s = d := ⟨u - s, by omega⟩
    rw [hd]
    have a1 := Int.mul_le_mul_of_nonneg_right (show y ≤ 50 by omega) (show (0 : Int) ≤ (d : Int) by omega)
    have a2 := Int.mul_le_mul_of_nonneg_right (show -50 ≤ y by omega) (show (0 : Int) ≤ (d : Int) by omega)
    omega
  have HW1 : Hid (IntKind.i64.wrap ((u : Int) - (s : Int)) = (u : Int) - s) := by show IntKind.i64.wrap _ = _; rw [IntKind.wrap_i64]; omega
  have HW2 : Hid (IntKind.i64.wrap (y * ((u : Int) - (s : Int))) = y * ((u : Int) - s)) := by show IntKind.i64.wrap _ = _; rw [IntKind.wrap_i64]; omega
  have HW3 : Hid (IntKind.i64.wrap (nn + y * ((u : Int) - (s : Int))) = nn + y * ((u : Int) - s)) := by show IntKind.i64.wrap _ = _; rw [IntKind.wrap_i64]; omega
  have hil : (i : Int) < T.sn.length := by omega
  gi_enter Try.func56, Try.ntmps56
  gi_upto_region 1 with fail
  have hW : Ext w (((w.alloc (.cells #[.slice (some ⟨eb, eo, none⟩) F.east.length ec, .slice (some ⟨nb, no, none⟩) F.north.length nc, .int .i64 F.gap, sv, mv, .slice ta T.east.length tac, .slice (some ⟨tb0, to0, none⟩) T.north.length tbc, .slice tc T.se.length tcc, .slice (some ⟨sb, so, none⟩) T.sn.length tdc] 116)).alloc (.cells #[.int .i64 1, .func (.func 88) #[] #[], .func (.func 89) #[] #[], .func (.func 90) #[] #[], .func (.func 91) #[] #[]] 133)).alloc (.cells #[.int .i64 ne, .int .i64 nn, .int .i64 nl, .int .i64 na, .int .i64 (s : Int), .int .i64 nh, .int .i64 nse.lo, .int .i64 nse.hi, .int .i64 nsn.lo, .int .i64 nsn.hi, .int .i64 (i : Int)] 125)) := (((Ext.refl _).alloc _).alloc _).alloc _
  have hW0 : (((w.alloc (.cells #[.slice (some ⟨eb, eo, none⟩) F.east.length ec, .slice (some ⟨nb, no, none⟩) F.north.length nc, .int .i64 F.gap, sv, mv, .slice ta T.east.length tac, .slice (some ⟨tb0, to0, none⟩) T.north.length tbc, .slice tc T.se.length tcc, .slice (some ⟨sb, so, none⟩) T.sn.length tdc] 116)).alloc (.cells #[.int .i64 1, .func (.func 88) #[] #[], .func (.func 89) #[] #[], .func (.func 90) #[] #[], .func (.func 91) #[] #[]] 133)).alloc (.cells #[.int .i64 ne, .int .i64 nn, .int .i64 nl, .int .i64 na, .int .i64 (s : Int), .int .i64 nh, .int .i64 nse.lo, .int .i64 nse.hi, .int .i64 nsn.lo, .int .i64 nsn.hi, .int .i64 (i : Int)] 125)).heap[w.heap.size]? = some (.cells #[.slice (some ⟨eb, eo, none⟩) F.east.length ec, .slice (some ⟨nb, no, none⟩) F.north.length nc, .int .i64 F.gap, sv, mv, .slice ta T.east.length tac, .slice (some ⟨tb0, to0, none⟩) T.north.length tbc, .slice tc T.se.length tcc, .slice (some ⟨sb, so, none⟩) T.sn.length tdc] 116 (0, 0)) := by simp only [alloc_at, World.size_alloc]; (repeat rw [if_neg (by omega)]); first | rfl | rw [if_pos (by omega)] | rw [if_pos trivial]
  have hW1 : (((w.alloc (.cells #[.slice (some ⟨eb, eo, none⟩) F.east.length ec, .slice (some ⟨nb, no, none⟩) F.north.length nc, .int .i64 F.gap, sv, mv, .slice ta T.east.length tac, .slice (some ⟨tb0, to0, none⟩) T.north.length tbc, .slice tc T.se.length tcc, .slice (some ⟨sb, so, none⟩) T.sn.length tdc] 116)).alloc (.cells #[.int .i64 1, .func (.func 88) #[] #[], .func (.func 89) #[] #[], .func (.func 90) #[] #[], .func (.func 91) #[] #[]] 133)).alloc (.cells #[.int .i64 ne, .int .i64 nn, .int .i64 nl, .int .i64 na, .int .i64 (s : Int), .int .i64 nh, .int .i64 nse.lo, .int .i64 nse.hi, .int .i64 nsn.lo, .int .i64 nsn.hi, .int .i64 (i : Int)] 125)).heap[w.heap.size + 1]? = some (.cells #[.int .i64 1, .func (.func 88) #[] #[], .func (.func 89) #[] #[], .func (.func 90) #[] #[], .func (.func 91) #[] #[]] 133 (0, 0)) := by simp only [alloc_at, World.size_alloc]; (repeat rw [if_neg (by omega)]); first | rfl | rw [if_pos (by omega)] | rw [if_pos trivial]
  have hW2 : (((w.alloc (.cells #[.slice (some ⟨eb, eo, none⟩) F.east.length ec, .slice (some ⟨nb, no, none⟩) F.north.length nc, .int .i64 F.gap, sv, mv, .slice ta T.east.length tac, .slice (some ⟨tb0, to0, none⟩) T.north.length tbc, .slice tc T.se.length tcc, .slice (some ⟨sb, so, none⟩) T.sn.length tdc] 116)).alloc (.cells #[.int .i64 1, .func (.func 88) #[] #[], .func (.func 89) #[] #[], .func (.func 90) #[] #[], .func (.func 91) #[] #[]] 133)).alloc (.cells #[.int .i64 ne, .int .i64 nn, .int .i64 nl, .int .i64 na, .int .i64 (s : Int), .int .i64 nh, .int .i64 nse.lo, .int .i64 nse.hi, .int .i64 nsn.lo, .int .i64 nsn.hi, .int .i64 (i : Int)] 125)).heap[w.heap.size + 1 + 1]? = some (.cells #[.int .i64 ne, .int .i64 nn, .int .i64 nl, .int .i64 na, .int .i64 (s : Int), .int .i64 nh, .int .i64 nse.lo, .int .i64 nse.hi, .int .i64 nsn.lo, .int .i64 nsn.hi, .int .i64 (i : Int)] 125 (0, 0)) := by simp only [alloc_at, World.size_alloc]; (repeat rw [if_neg (by omega)]); first | rfl | rw [if_pos (by omega)] | rw [if_pos trivial]
  generalize ((w.alloc (.cells #[.slice (some ⟨eb, eo, none⟩) F.east.length ec, .slice (some ⟨nb, no, none⟩) F.north.length nc, .int .i64 F.gap, sv, mv, .slice ta T.east.length tac, .slice (some ⟨tb0, to0, none⟩) T.north.length tbc, .slice tc T.se.length tcc, .slice (some ⟨sb, so, none⟩) T.sn.length tdc] 116)).alloc (.cells #[.int .i64 1, .func (.func 88) #[] #[], .func (.func 89) #[] #[], .func (.func 90) #[] #[], .func (.func 91) #[] #[]] 133)).alloc (.cells #[.int .i64 ne, .int .i64 nn, .int .i64 nl, .int .i64 na, .int .i64 (s : Int), .int .i64 nh, .int .i64 nse.lo, .int .i64 nse.hi, .int .i64 nsn.lo, .int .i64 nsn.hi, .int .i64 (i : Int)] 125) = W at *
  have HB0 := hid hW0
  have HB1 := hid hW1
  have HB2 := hid hW2
  have HX := hid hW
  have hc0 := cell_of hW0
  have hc1 := cell_of hW1
  clear hW hW0 hW1 hW2
  gi_upto_region 2 with (gi_at_call 91; ((with_reducible refine (said_n _ _ _ _ _ _ _ _ _ _ _ _ _).mono ?_); rintro e w1 ⟨rfl, hx1⟩))
  have hxa := hx1.alloc (.cells #[.slice (some ⟨tb0, to0, none⟩) T.north.length tbc, .slice (some ⟨sb, so, none⟩) T.sn.length tdc] 159)
  have hb3 : (w1.alloc (.cells #[.slice (some ⟨tb0, to0, none⟩) T.north.length tbc, .slice (some ⟨sb, so, none⟩) T.sn.length tdc] 159)).heap[w1.heap.size]? = some (.cells #[.slice (some ⟨tb0, to0, none⟩) T.north.length tbc, .slice (some ⟨sb, so, none⟩) T.sn.length tdc] 159 (0, 0)) := Ext.new (Ext.refl _)
  have HB0 := hid (hxa.block HB0.out)
  have HB1 := hid (hxa.block HB1.out)
  have HB2 := hid (hxa.block HB2.out)
  have HX := hid (HX.out.trans hxa)
  have HB3 := hid hb3
  clear hc0 hc1 hx1 hxa hb3
  generalize w1.alloc (.cells #[.slice (some ⟨tb0, to0, none⟩) T.north.length tbc, .slice (some ⟨sb, so, none⟩) T.sn.length tdc] 159) = W1 at *
  generalize w1.heap.size = GW at *
  have HCY := hid (fun (u : World) (hu : Ext W1 u) => (show u.cell? ⟨sb, so + i, none⟩ = some (.int .i64 y) by rw [(HX.out.trans hu).cell (p := ⟨sb, _, none⟩) HSC.out.1]; exact HSC.out.2))
  refine lex_wide 20 [] (by kernel_rfl) (by kernel_rfl) (nStab_nil) ?_
  simp only [List.take_succ_cons, List.take_zero, List.drop_succ_cons, List.drop_zero]
  apply lex_fun (rfl : psAt _ _ = none)
  · intro x u2 hR hf
    clear hR hf
    go_simp
    exact ⟨rfl, Ext.refl _⟩
  simp only [Act.put, List.setIfInBounds_toArray, List.set_cons_succ, List.set_cons_zero]
  apply lex_fun (rfl : psAt _ _ = none)
  · intro x u2 hR hf
    have c1 := cell_of (hR.block HB1.out)
    clear hR hf
    go_simp
    exact ⟨rfl, Ext.refl _⟩
  simp only [Act.put, List.setIfInBounds_toArray, List.set_cons_succ, List.set_cons_zero]
  apply lex_fun (rfl : psAt _ _ = none)
  · intro x u2 hR hf
    clear hR hf
    go_simp
    exact ⟨rfl, Ext.refl _⟩
  simp only [Act.put, List.setIfInBounds_toArray, List.set_cons_succ, List.set_cons_zero]
  apply lex_fun (rfl : psAt _ _ = none)
  · intro x u2 hR hf
    clear hR hf
    go_simp
    exact ⟨rfl, Ext.refl _⟩
  simp only [Act.put, List.setIfInBounds_toArray, List.set_cons_succ, List.set_cons_zero]
  apply lex_fun (rfl : psAt _ _ = none)
  · intro x u2 hR hf
    have c2 := cell_of (hR.block HB2.out)
    clear hR hf
    go_simp
    exact ⟨rfl, Ext.refl _⟩
  simp only [Act.put, List.setIfInBounds_toArray, List.set_cons_succ, List.set_cons_zero]
  refine lex_fun (v := .int .i64 nn) (rfl : psAt _ _ = none) ?_ ?_
  · intro x u2 hR hf
    have hcal := hid (place_n ne nn u2)
    clear hR hf
    go_simp
    exact hcal.out.mono fun e w'' ⟨he, hx'⟩ => ⟨_, he, rfl, hx'⟩
  simp only [Act.put, List.setIfInBounds_toArray, List.set_cons_succ, List.set_cons_zero]
  apply lex_fun (rfl : psAt _ _ = none)
  · intro x u2 hR hf
    clear hR hf
    go_simp
    exact ⟨rfl, Ext.refl _⟩
  simp only [Act.put, List.setIfInBounds_toArray, List.set_cons_succ, List.set_cons_zero]
  apply lex_fun (rfl : psAt _ _ = none)
  · intro x u2 hR hf
    have c3 := cell_of (hR.block HB3.out)
    clear hR hf
    go_simp
    exact ⟨rfl, Ext.refl _⟩
  simp only [Act.put, List.setIfInBounds_toArray, List.set_cons_succ, List.set_cons_zero]
  apply lex_fun (rfl : psAt _ _ = none)
  · intro x u2 hR hf
    clear hR hf
    go_simp
    exact ⟨rfl, Ext.refl _⟩
  simp only [Act.put, List.setIfInBounds_toArray, List.set_cons_succ, List.set_cons_zero]
  apply lex_fun (rfl : psAt _ _ = none)
  · intro x u2 hR hf
    have c2 := cell_of (hR.block HB2.out)
    clear hR hf
    go_simp
    exact ⟨rfl, Ext.refl _⟩
  simp only [Act.put, List.setIfInBounds_toArray, List.set_cons_succ, List.set_cons_zero]
  apply lex_fun (rfl : psAt _ _ = none)
  · intro x u2 hR hf
    clear hR hf
    go_simp
    exact ⟨rfl, Ext.refl _⟩
  simp only [Act.put, List.setIfInBounds_toArray, List.set_cons_succ, List.set_cons_zero]
  apply lex_fun (rfl : psAt _ _ = none)
  · intro x u2 hR hf
    have d := HCY.out u2 hR
    clear hR hf
    go_simp
    exact ⟨rfl, Ext.refl _⟩
  simp only [Act.put, List.setIfInBounds_toArray, List.set_cons_succ, List.set_cons_zero]
  apply lex_fun (rfl : psAt _ _ = none)
  · intro x u2 hR hf
    clear hR hf
    go_simp
    exact ⟨rfl, Ext.refl _⟩
  simp only [Act.put, List.setIfInBounds_toArray, List.set_cons_succ, List.set_cons_zero]
  apply lex_fun (rfl : psAt _ _ = none)
  · intro x u2 hR hf
    clear hR hf
    go_simp
    exact ⟨rfl, Ext.refl _⟩
  simp only [Act.put, List.setIfInBounds_toArray, List.set_cons_succ, List.set_cons_zero]
  apply lex_fun (rfl : psAt _ _ = none)
  · intro x u2 hR hf
    clear hR hf
    go_simp
    exact ⟨rfl, Ext.refl _⟩
  simp only [Act.put, List.setIfInBounds_toArray, List.set_cons_succ, List.set_cons_zero]
  apply lex_fun (rfl : psAt _ _ = none)
  · intro x u2 hR hf
    have c2 := cell_of (hR.block HB2.out)
    clear hR hf
    go_simp
    exact ⟨rfl, Ext.refl _⟩
  simp only [Act.put, List.setIfInBounds_toArray, List.set_cons_succ, List.set_cons_zero]
  refine lex_fun (v := .int .i64 ((u : Int) - (s : Int))) (rfl : psAt _ _ = none) ?_ ?_
  · intro x u2 hR hf
    clear hR hf
    go_simp
    exact ⟨by simp [HW1.out], Ext.refl _⟩
  simp only [Act.put, List.setIfInBounds_toArray, List.set_cons_succ, List.set_cons_zero]
  refine lex_fun (v := .int .i64 (y * ((u : Int) - (s : Int)))) (rfl : psAt _ _ = none) ?_ ?_
  · intro x u2 hR hf
    clear hR hf
    go_simp
    exact ⟨by simp [HW2.out], Ext.refl _⟩
  simp only [Act.put, List.setIfInBounds_toArray, List.set_cons_succ, List.set_cons_zero]
  refine lex_fun (v := .int .i64 (nn + y * ((u : Int) - (s : Int)))) (rfl : psAt _ _ = none) ?_ ?_
  · intro x u2 hR hf
    clear hR hf
    go_simp
    exact ⟨by simp [HW3.out], Ext.refl _⟩
  simp only [Act.put, List.setIfInBounds_toArray, List.set_cons_succ, List.set_cons_zero]
  apply lex_fun (rfl : psAt _ _ = none)
  · intro x u2 hR hf
    clear hR hf
    go_simp
    exact ⟨rfl, Ext.refl _⟩
  simp only [Act.put, List.setIfInBounds_toArray, List.set_cons_succ, List.set_cons_zero]
  refine lex_nil fun x w6 hE hfacts => ?_
  clear hfacts x
  have HX := hid (HX.out.trans hE)
  have hc2 := cell_of (hE.block HB2.out)
  have hc3 := cell_of (hE.block HB3.out)
  generalize hz : nn + y * ((u : Int) - (s : Int)) = z at *
  have HZE := hid hz
  have hzb : -20000 ≤ z ∧ z ≤ 20000 := by omega
  clear hE HW1 HW2 HW3 hmul HB0 HB1 HB2 HB3 HCY hz
  have hki : (s : Int) ≤ u := by omega
  gi_wp2_with fail
  case inl =>
    subst h
    gi_loopw [10, 46] (fun v j wr => ∃ m : Nat, m ≤ u - u ∧ j = .int .i64 m ∧ v = .int .i64 (z + sumTo T.north u m) ∧ Hid (Ext w wr)) (fun _ j _ => u - u - (intOf j).toNat)
    case atStart => exact ⟨0, Nat.zero_le _, rfl, by rw [sumTo_zero, Int.add_zero], HX.out⟩
    case round =>
      obtain ⟨m, hm, rfl, rfl, HI⟩ := hrel
      obtain rfl : m = u - u := by omega
      gi_wp2
      go_ret
      exact ⟨by rw [HZE.out]; rfl, HI.out⟩
  case inr =>
    gi_loopw [10, 46] (fun v j wr => ∃ m : Nat, m ≤ u - s ∧ j = .int .i64 m ∧ v = .int .i64 (z + sumTo T.north s m) ∧ Hid (Ext w wr)) (fun _ j _ => u - s - (intOf j).toNat)
    case atStart => exact ⟨0, Nat.zero_le _, rfl, by rw [sumTo_zero, Int.add_zero], HX.out⟩
    case round =>
      obtain ⟨m, hm, rfl, rfl, HI⟩ := hrel
      by_cases hlt : m < u - s
      · have hlt2 : s + m < T.north.length := by omega
        obtain ⟨b, off, e1, hb, c0⟩ := HCT.out (s + m) hlt2
        cases e1
        rw [← HI.out.cell (p := ⟨tb0, _, none⟩) hb] at c0
        have ho : to0 + (s + m) = to0 + s + m := by omega
        rw [ho] at c0
        clear ho
        have hbd := sumTo_bound HTB.out (by omega) s m
        have hbe := HTB.out _ (List.getElem_mem hlt2)
        have HS := hid (sumTo_succ T.north s m hlt2)
        generalize T.north[s + m] = g at *
        have hm24 : (200 : Int) * m ≤ 4800 := by omega
        have HQ : wrap64 (z + sumTo T.north s m + g) = z + sumTo T.north s m + g := by unfold wrap64; omega
        have hkm : (m : Int) < ((u - s : Nat) : Int) := by omega
        gi_wp2
        go_roundw
        case rel => exact ⟨m + 1, by omega, by go_num, by rw [HS.out, Int.add_assoc], HI.out⟩
        case measure => simp [intOf]; omega
      · obtain rfl : m = u - s := by omega
        gi_wp2
        go_ret
        exact ⟨by rw [HZE.out]; rfl, HI.out⟩

end Go.Proofs.Ytmjelgonhpgmbaa
