/- The law ShareLent. -/
import Derived.Test.YtjocoadhalimjaaGreatRCB
import Derived.Test.YtjocoadhalimjaaGreatRCA
set_option linter.unusedSimpArgs false
set_option linter.unusedVariables false
namespace Go.Proofs.YtjocoadhalimjaaGreat
open Go Go.RowKit Go.Shelf

theorem row_ne {w : World} {T ty : TypeId} {sz n b : Nat} {v : Value} {xs : List Value} {cs : Array Value} (h : Row w T sz v n xs) (hb : w.heap[b]? = some (.cells cs ty (0, 0))) (hT : T ≠ ty) : ∀ g, v.ownBlock = some g → g ≠ b := by
  rintro g hg rfl
  rcases h.2 with ⟨rfl, _⟩ | ⟨g', cap, cur, rfl, hc, _⟩
  · simp [Value.ownBlock] at hg
  · simp [Value.ownBlock] at hg; subst hg
    rw [hb] at hc; cases hc; exact hT rfl
theorem lend_cells (V : Voy) (s : VS) (xs : List Ln) (a : Option Addr) (c : Nat) {m : Nat} (hm : xs.length = m) : voyA (lendV V xs) { s with xa := a, xc := c } = #[.int .i64 V.gr, .slice s.ca V.cs.length s.cc, .int .i64 V.bo, .int .i64 V.ne, .int .i64 V.cr, .slice s.oa V.ow.length s.oc, .slice s.la V.le.length s.lc, .slice s.ha V.ha.length s.hc, .slice a (V.lo.length + m) c] := by
  subst hm
  simp [voyA, lendV]
theorem lend_at {V : Voy} {s : VS} {w : World} (h : VoyAt w V s) {xs : List Ln} {a : Option Addr} {c m : Nat} (hm : xs.length = m) (hr : Row w 59 4 (.slice a (V.lo.length + m) c) (V.lo.length + m) (lnF V.lo ++ lnF xs)) (hl : V.lo.length + m ≤ 1000) : VoyAt w (lendV V xs) { s with xa := a, xc := c } := by
  subst hm
  refine ⟨h.cs, h.ow, h.le, h.ha, ?_, h.no, h.nl, h.nh⟩
  have e : (lendV V xs).lo.length = V.lo.length + xs.length := by simp [lendV]
  rw [e]
  exact LoansAt.of_row (l := (lendV V xs).lo) (by rw [e]; show Row _ _ _ _ _ (lnF (V.lo ++ xs)); rw [lnF_app]; exact hr) (by rw [e]; exact hl)
set_option maxRecDepth 100000 in
set_option maxHeartbeats 32000000 in
theorem ShareLent_any (V : Voy) (s : VS) (n0 n1 n2 n3 : Int) (w : World) (h : VoyAt w V s) : Cal 10 #[.agg (voyA V s), .agg #[.int .i64 n0, .int .i64 n1, .int .i64 n2, .int .i64 n3]] w fun e w' => e = .returned (.bool true) ∧ Ext w w' := by
  have HWK := hid (fun (u : World) => works_any u)
  obtain ⟨wa, hwa⟩ : ∃ wa, wa = (w.alloc (.cells (voyA V s) 32)).alloc (.cells #[.int .i64 n0, .int .i64 n1, .int .i64 n2, .int .i64 n3] 56) := ⟨_, rfl⟩
  have HX0 : Hid (Ext w wa) := hid (by rw [hwa]; exact ((Ext.refl _).alloc _).alloc _)
  have HB0 : Hid (wa.heap[w.heap.size]? = some (.cells (voyA V s) 32 (0, 0))) := hid (by rw [hwa]; exact two_new)
  have HB1 : Hid (wa.heap[w.heap.size + 1]? = some (.cells #[.int .i64 n0, .int .i64 n1, .int .i64 n2, .int .i64 n3] 56 (0, 0))) := hid (by
    have := Ext.new (w := w.alloc (.cells (voyA V s) 32)) (o := .cells #[.int .i64 n0, .int .i64 n1, .int .i64 n2, .int .i64 n3] 56) (Ext.refl _); rw [World.size_alloc] at this; rw [hwa]; exact this)
  by_cases hE : voyE V = 0
  · have hok := (voyE_ok hE).1
    have hsl := stakes_ok hok.le
    have hlb := (lend_ok (voyE_ok hE).2).1
    have HCL := hid (fun (u : World) (hu : Ext w u) => Claims_ok V s u (h.mono hu) hE)
    have HSO := hid (fun (u : World) (hu : Ext w u) => sound_true V s u (h.mono hu) hE)
    have HVA := hid h
    have HLB : Hid (V.lo.length ≤ 12) := hid hlb
    have HLL : Hid (V.le.length ≤ 10) := hid hsl.1
    have HE := hid hE
    have HWB : Hid (∀ x ∈ V.le, 0 ≤ x.weight ∧ x.weight ≤ 1000) := hid (fun x hx => (hsl.2.1 x hx).2)
    have HCS := hid (clmW_sum hE)
    have HCB := hid (clmW_bound hE)
    clear h hE hok hsl hlb
    unfold voyA at *
    gi_enter Tryz.func10, Tryz.ntmps10
    gi_upto_region 1 with fail
    rw [← hwa]
    clear hwa
    generalize w.heap.size = bx at *
    have c0 := cell_of HB0.out
    gi_upto_region 4 with (first | (gi_at_call 19; ((with_reducible refine (HCL.out _ HX0.out).mono ?_); rintro e w1 ⟨cr, rfl, hx1, HRW⟩; obtain ⟨cra, crc, rfl⟩ := HRW.out.isSliceN; have HX1 := hid hx1; have c0 := cell_of (hx1.block HB0.out); clear hx1)) | (gi_at_call 33; ((with_reducible refine (HSO.out _ (HX0.out.trans HX1.out)).mono ?_); rintro e w2 ⟨rfl, hx2⟩; have HX2 := hid hx2; clear hx2)))
    clear c0
    have HXw2 := hid (HX0.out.trans (HX1.out.trans HX2.out))
    have HBA := hid ((HX1.out.trans HX2.out).block HB0.out)
    have HBN := hid ((HX1.out.trans HX2.out).block HB1.out)
    have HRC : Hid (Row w2 3 1 (.slice cra V.le.length crc) V.le.length (intsV (clmW V))) := hid (HRW.out.mono HX2.out)
    have HIC : Hid (∀ u, Ext w2 u → IntsAt u (.slice cra V.le.length crc) (clmW V)) := hid (fun u hu => by
      have := IntsAt.of_row (xs := clmW V) (v := .slice cra V.le.length crc) (by rw [clmW_len]; exact HRC.out.mono hu) (by rw [clmW_len]; have := HLL.out; omega)
      exact this)
    have HVA := hid (HVA.out.mono HXw2.out)
    have HLE : Hid (∀ k (hk : k < V.le.length), ∃ b off, s.la = some ⟨b, off, none⟩ ∧ b < w2.heap.size ∧ w2.cell? ⟨b, off + k * 2, none⟩ = some (.string V.le[k].name) ∧ w2.cell? ⟨b, off + k * 2 + 1, none⟩ = some (.int .i64 V.le[k].weight)) := hid (by
      obtain ⟨a', c', e, _, hc⟩ := HVA.out.le
      cases e
      exact hc)
    clear HCL HSO HX1 HX2 HB0 HB1 HRW
    have c6 : w2.cell? ⟨bx, 6, none⟩ = some (.slice s.la V.le.length s.lc) := (cell_of HBA.out 6).trans rfl
    gi_wp2_with fail
    gi_loop [7, 8] (fun sm i => ∃ k : Nat, k ≤ V.le.length ∧ i = .int .i64 k ∧ sm = .int .i64 (sumW (V.le.take k))) (fun _ i => V.le.length - (intOf i).toNat)
    case atStart => exact ⟨0, Nat.zero_le _, rfl, rfl⟩
    case round =>
      obtain ⟨k, hk, rfl, rfl⟩ := hrel
      have hlen := HLL.out
      by_cases hlt : k < V.le.length
      · obtain ⟨b, off, hs, hbb, c0, c1⟩ := HLE.out k hlt
        rw [hs] at c6
        have HS := hid (sumW_snoc V.le k hlt)
        have hp := sumW_to V.le (fun x hx => by have := HWB.out x hx; omega) (by have := HLL.out; omega) k
        have hx := HWB.out V.le[k] (List.getElem_mem _)
        generalize V.le[k] = x at *
        generalize sumW (V.le.take k) = sm at *
        clear hs
        gi_wp2
        go_round
        case rel => exact ⟨k + 1, by omega, by go_num, by rw [HS.out]⟩
        case measure => simp [intOf]; omega
      · obtain rfl : k = V.le.length := by omega
        rw [List.take_length]
        have hS0 := sumW_nonneg (l := V.le) (fun x hx => (HWB.out x hx).1)
        have hS1 := sumW_to V.le (fun x hx => by have := HWB.out x hx; omega) (by have := HLL.out; omega) V.le.length
        rw [List.take_length] at hS1
        have HCS := HCS
        have HSM := hid (fun (u : World) (hu : Ext w2 u) => Sum_any (.slice cra V.le.length crc) (clmW V) u (HIC.out u hu) (fun x hx => by have := HCB.out x hx; omega) (by rw [clmW_len]; have := HLL.out; omega))
        rw [HCS.out] at HSM
        have HPOS : Hid (∀ k, k < V.le.length → ∃ z, (clmW V)[k]? = some z ∧ 0 ≤ z) := hid (fun k hk => by
          have hk2 : k < (clmW V).length := by rw [clmW_len]; exact hk
          exact ⟨(clmW V)[k], by rw [List.getElem?_eq_getElem hk2], (HCB.out _ (List.getElem_mem hk2)).1⟩)
        have HSB : Hid (0 ≤ sumW V.le ∧ sumW V.le ≤ 10000) := hid (by
          have h1 := HLL.out
          have h2 : ∀ l : List Stk, (∀ x ∈ l, 0 ≤ x.weight ∧ x.weight ≤ 1000) → sumW l ≤ 1000 * l.length := fun l => by
            unfold sumW
            induction l with
            | nil => simp
            | cons x l ih => intro hh; have := hh x (by simp); have := ih fun y hy => hh y (by simp [hy]); simp only [List.map_cons, List.sum_cons, List.length_cons]; omega
          have := h2 V.le HWB.out
          omega)
        clear hS0 hS1 HCS
        generalize sumW V.le = S at *
        have hbA : -1000000 ≤ 8 * S ∧ 8 * S ≤ 1000000 := by have := HSB.out; omega
        have hwA := wr64 hbA.1 hbA.2
        have hwB := wrik hbA.1 hbA.2
        clear hbA hlt hk hlen
        gi_wp2_with (gi_at_call 34; ((with_reducible refine (HSM.out _ (Ext.refl _)).mono ?_); rintro e w3 ⟨rfl, rfl⟩))
        clear hwA hwB c6
        gi_loop [9] (fun i => ∃ k : Nat, k ≤ V.le.length ∧ i = .int .i64 k) (fun i => V.le.length - (intOf i).toNat)
        case atStart => exact ⟨0, Nat.zero_le _, rfl⟩
        case round =>
          obtain ⟨k, hk, rfl⟩ := hrel
          have hlen := HLL.out
          by_cases hlt : k < V.le.length
          · have hki : (k : Int) < (V.le.length : Int) := by omega
            obtain ⟨z, hz1, hz2⟩ := HPOS.out k hlt
            obtain ⟨ca', cc', e, _, hcc⟩ := HIC.out w2 (Ext.refl _)
            have hk2 : k < (clmW V).length := by rw [clmW_len]; exact hlt
            obtain ⟨b, off, ha, _, c0⟩ := hcc k hk2
            injection e with e1 e2 e3
            subst e1
            rw [ha]
            have hze : (clmW V)[k] = z := by rw [List.getElem?_eq_getElem hk2] at hz1; exact Option.some.inj hz1
            rw [hze] at c0
            have hzn : ¬ z < 0 := by omega
            clear hcc hz1 hze ha hz2 hk2
            gi_wp2
            go_round
            case rel => exact ⟨k + 1, by omega, by go_num⟩
            case measure => simp [intOf]; omega
          · obtain rfl : k = V.le.length := by omega
            have hki : ¬ (V.le.length : Int) < (V.le.length : Int) := by omega
            have hlo := HLB.out
            have c8 : w2.cell? ⟨bx, 8, none⟩ = some (.slice s.xa V.lo.length s.xc) := (cell_of HBA.out 8).trans rfl
            have hbA : -1000000 ≤ (V.lo.length : Int) + 2 ∧ (V.lo.length : Int) + 2 ≤ 1000000 := by omega
            have hwA := wr64 hbA.1 hbA.2
            have hwB := wrik hbA.1 hbA.2
            clear hbA hlt hk
            by_cases hA : V.le.length < 2
            · have hAi : (V.le.length : Int) < 2 := by omega
              gi_wp2_with (gi_at_call 18; ((with_reducible refine (HWK.out _).mono ?_); rintro e wz ⟨rfl, hxz⟩; have HXZ := hid hxz; clear hxz))
              go_ret
              exact ⟨rfl, HXw2.out.trans HXZ.out⟩
            have hAi : ¬ (V.le.length : Int) < 2 := by omega
            by_cases hB : 12 < V.lo.length + 2
            · have hBi : (12 : Int) < (V.lo.length : Int) + 2 := by omega
              gi_wp2_with (gi_at_call 18; ((with_reducible refine (HWK.out _).mono ?_); rintro e wz ⟨rfl, hxz⟩; have HXZ := hid hxz; clear hxz))
              go_ret
              exact ⟨rfl, HXw2.out.trans HXZ.out⟩
            have hBi : ¬ (12 : Int) < (V.lo.length : Int) + 2 := by omega
            gi_upto_region 18 with fail
            clear hwA hwB c8 hAi hBi
            have HLT := hid (And.intro hA hB)
            have hmo0 := modI_ok n0 (m := (V.le.length : Int)) (by omega)
            have hmo1 := modI_ok n1 (m := (V.le.length : Int)) (by omega)
            have HM0 := hid (fun (u : World) => mod_any n0 V.le.length u (by omega))
            have HM1 := hid (fun (u : World) => mod_any n1 V.le.length u (by omega))
            obtain ⟨a, ha⟩ : ∃ a : Nat, modI n0 V.le.length = a := ⟨(modI n0 V.le.length).toNat, by omega⟩
            obtain ⟨b, hb⟩ : ∃ b : Nat, modI n1 V.le.length = b := ⟨(modI n1 V.le.length).toNat, by omega⟩
            rw [ha] at hmo0 HM0
            rw [hb] at hmo1 HM1
            have hal : a < V.le.length := by omega
            have hbl : b < V.le.length := by omega
            have HAB := hid (And.intro hal hbl)
            have HCN := hid (fun (u : World) (hu : Ext w2 u) => (show (u.cell? ⟨bx + 1, 0, none⟩ = some (.int .i64 n0) ∧ u.cell? ⟨bx + 1, 1, none⟩ = some (.int .i64 n1)) ∧ (u.cell? ⟨bx + 1, 2, none⟩ = some (.int .i64 n2) ∧ u.cell? ⟨bx + 1, 3, none⟩ = some (.int .i64 n3)) from ⟨⟨(cell_of (hu.block HBN.out) 0).trans rfl, (cell_of (hu.block HBN.out) 1).trans rfl⟩, ⟨(cell_of (hu.block HBN.out) 2).trans rfl, (cell_of (hu.block HBN.out) 3).trans rfl⟩⟩))
            clear hmo0 hmo1 ha hb hA hB hlo hki hlen HPOS HSM HSB
            refine lex_wide 12 [] (by kernel_rfl) (by kernel_rfl) (nStab_nil) ?_
            simp only [List.take_succ_cons, List.take_zero, List.drop_succ_cons, List.drop_zero]
            apply lex_fun (rfl : psAt _ _ = none)
            · intro x u hR hf
              clear hR hf
              go_simp
              first | exact ⟨rfl, Ext.refl _⟩ | rfl
            simp only [Act.put, List.setIfInBounds_toArray, List.set_cons_succ, List.set_cons_zero]
            apply lex_fun (rfl : psAt _ _ = none)
            · intro x u hR hf
              obtain ⟨⟨c0, c1⟩, c2⟩ := HCN.out u hR
              clear hR hf
              go_simp
              first | exact ⟨rfl, Ext.refl _⟩ | rfl
            simp only [Act.put, List.setIfInBounds_toArray, List.set_cons_succ, List.set_cons_zero]
            apply lex_fun (rfl : psAt _ _ = none)
            · intro x u hR hf
              clear hR hf
              go_simp
              first | exact ⟨rfl, Ext.refl _⟩ | rfl
            simp only [Act.put, List.setIfInBounds_toArray, List.set_cons_succ, List.set_cons_zero]
            apply lex_fun (rfl : psAt _ _ = none)
            · intro x u hR hf
              clear hR hf
              go_simp
              first | exact ⟨rfl, Ext.refl _⟩ | rfl
            simp only [Act.put, List.setIfInBounds_toArray, List.set_cons_succ, List.set_cons_zero]
            refine lex_fun (v := .int .i64 (a : Int)) (rfl : psAt _ _ = none) ?_ ?_
            · intro x u hR hf
              have hcal := hid (HM0.out u)
              clear hR hf
              go_simp
              exact hcal.out.mono fun e w'' ⟨he, hx'⟩ => ⟨_, he, rfl, by subst hx'; exact Ext.refl _⟩
            simp only [Act.put, List.setIfInBounds_toArray, List.set_cons_succ, List.set_cons_zero]
            apply lex_fun (rfl : psAt _ _ = none)
            · intro x u hR hf
              clear hR hf
              go_simp
              first | exact ⟨rfl, Ext.refl _⟩ | rfl
            simp only [Act.put, List.setIfInBounds_toArray, List.set_cons_succ, List.set_cons_zero]
            apply lex_fun (rfl : psAt _ _ = none)
            · intro x u hR hf
              obtain ⟨⟨c0, c1⟩, c2⟩ := HCN.out u hR
              clear hR hf
              go_simp
              first | exact ⟨rfl, Ext.refl _⟩ | rfl
            simp only [Act.put, List.setIfInBounds_toArray, List.set_cons_succ, List.set_cons_zero]
            apply lex_fun (rfl : psAt _ _ = none)
            · intro x u hR hf
              clear hR hf
              go_simp
              first | exact ⟨rfl, Ext.refl _⟩ | rfl
            simp only [Act.put, List.setIfInBounds_toArray, List.set_cons_succ, List.set_cons_zero]
            apply lex_fun (rfl : psAt _ _ = none)
            · intro x u hR hf
              clear hR hf
              go_simp
              first | exact ⟨rfl, Ext.refl _⟩ | rfl
            simp only [Act.put, List.setIfInBounds_toArray, List.set_cons_succ, List.set_cons_zero]
            refine lex_fun (v := .int .i64 (b : Int)) (rfl : psAt _ _ = none) ?_ ?_
            · intro x u hR hf
              have hcal := hid (HM1.out u)
              clear hR hf
              go_simp
              exact hcal.out.mono fun e w'' ⟨he, hx'⟩ => ⟨_, he, rfl, by subst hx'; exact Ext.refl _⟩
            simp only [Act.put, List.setIfInBounds_toArray, List.set_cons_succ, List.set_cons_zero]
            apply lex_fun (rfl : psAt _ _ = none)
            · intro x u hR hf
              clear hR hf
              go_simp
              first | exact ⟨rfl, Ext.refl _⟩ | rfl
            simp only [Act.put, List.setIfInBounds_toArray, List.set_cons_succ, List.set_cons_zero]
            apply lex_fun (rfl : psAt _ _ = none)
            · intro x u hR hf
              clear hR hf
              go_simp
              first | exact ⟨rfl, Ext.refl _⟩ | rfl
            simp only [Act.put, List.setIfInBounds_toArray, List.set_cons_succ, List.set_cons_zero]
            refine lex_nil fun x' w5 hE5 hfacts => ?_
            clear hfacts x'
            have HX5 := hid hE5
            clear hE5
            by_cases hab : a = b
            · have hab1 : ((a : Int) == (b : Int)) = true := by simp [hab]
              gi_wp2_with (gi_at_call 18; ((with_reducible refine (HWK.out _).mono ?_); rintro e wz ⟨rfl, hxz⟩; have HXZ := hid hxz; clear hxz))
              go_ret
              exact ⟨rfl, HXw2.out.trans (HX5.out.trans HXZ.out)⟩
            have hab1 : ((a : Int) == (b : Int)) = false := by simp; omega
            have hab2 : (a == b) = false := by simpa using hab
            gi_upto_region 21 with fail
            clear hab1 hab2
            have hmo2 := modI_ok n2 (m := 100) (by omega)
            have hmo3 := modI_ok n3 (m := 9) (by omega)
            have HM2 := hid (fun (u : World) => mod_any n2 100 u (by omega))
            have HM3 := hid (fun (u : World) => mod_any n3 9 u (by omega))
            generalize modI n2 100 = m2 at *
            generalize modI n3 9 = m3 at *
            have hbk := back_ok HE.out hal hbl hab (n := 1 + m2) (r := m3) (by omega) (by omega) (by have := HLT.out; omega)
            have hfr := free_ok (V := V) (a := a) (b := b) (n := 1 + m2) HE.out
            obtain ⟨lb, lo, hs, hlb, ca0, _⟩ := HLE.out a hal
            obtain ⟨lb2, lo2, hs2, hlb2, cb0, _⟩ := HLE.out b hbl
            rw [hs] at hs2
            cases hs2
            unfold oneL at hbk hfr
            rw [getD_of hal, getD_of hbl] at hbk hfr
            generalize V.le[a].name = na at *
            generalize V.le[b].name = nb at *
            have HBK := hid hbk
            have HFR := hid hfr
            have HC6 := hid (fun (u : World) (hu : Ext w5 u) => (show u.cell? ⟨bx, 6, none⟩ = some (.slice (some ⟨lb, lo, none⟩) V.le.length s.lc) from by
              have := (cell_of ((HX5.out.trans hu).block HBA.out) 6).trans rfl
              rw [this]; exact congrArg (fun a => some (Value.slice a V.le.length s.lc)) hs))
            have HCA := hid (fun (u : World) (hu : Ext w5 u) => (show u.cell? ⟨lb, lo + a * 2, none⟩ = some (.string na) from by
              rw [(HX5.out.trans hu).cell (p := ⟨lb, _, none⟩) hlb]; exact ca0))
            have HCB := hid (fun (u : World) (hu : Ext w5 u) => (show u.cell? ⟨lb, lo + b * 2, none⟩ = some (.string nb) from by
              rw [(HX5.out.trans hu).cell (p := ⟨lb, _, none⟩) hlb]; exact cb0))
            have HCN := hid (fun (u : World) (hu : Ext w5 u) => (HCN.out u (HX5.out.trans hu)).2)
            have hbC : -1000000 ≤ 1 + m2 ∧ 1 + m2 ≤ 1000000 := by omega
            have hai : (a : Int) < (V.le.length : Int) := by omega
            have hbi : (b : Int) < (V.le.length : Int) := by omega
            clear hbk hfr hs hlb hlb2 ca0 cb0 hab hmo2 hmo3
            have hwA := wr64 hbC.1 hbC.2
            have hwB := wrik hbC.1 hbC.2
            clear hbC
            have HXw5 := hid (HXw2.out.trans HX5.out)
            have HBA := hid (HX5.out.block HBA.out)
            obtain ⟨wd, hwd⟩ : ∃ wd : World, wd = { w5 with drawn := w5.drawn + 1 } := ⟨_, rfl⟩
            have HXD : Hid (Ext w5 wd) := hid (by rw [hwd]; exact Ext.drawn _)
            have HW21 : Hid (Ext wd (wd.alloc (.cells #[.string ByteArray.empty, .string ByteArray.empty, .int .i64 0, .int .i64 0] 59)) ∧ Ext wd (wd.alloc (.cells #[.string na, .string nb, .int .i64 (1 + m2), .int .i64 m3] 59))) := hid ⟨(Ext.refl _).alloc _, (Ext.refl _).alloc _⟩
            have HST : mkJ wd (wd.alloc (.cells #[.string ByteArray.empty, .string ByteArray.empty, .int .i64 0, .int .i64 0] 59)) (wd.alloc (.cells #[.string na, .string nb, .int .i64 (1 + m2), .int .i64 m3] 59)) 20 21 (fun _ => false) (fun _ => undef) { w5 with drawn := w5.drawn + 1 } := by rw [← hwd]; exact mkJ_start
            clear hwd
            refine jj_own 22 [] _ (by kernel_rfl) (by kernel_rfl) HST ?_
            simp only [List.take_succ_cons, List.take_zero, List.drop_succ_cons, List.drop_zero]
            clear HST
            apply jj_fun (by decide)
            · intro L x u hL hd hJ
              have HJ := hid (mkJ_skip (k := 0) (by rfl) hJ)
              clear hJ hd hL
              go_simp
              exact ⟨rfl, HJ.out⟩
            simp only [Act.put, List.setIfInBounds_toArray, List.set_cons_succ, List.set_cons_zero]
            apply jj_fun (by decide)
            · intro L x u hL hd hJ
              have c0 : u.cell? ⟨bx, 6, none⟩ = some (.slice (some ⟨lb, lo, none⟩) V.le.length s.lc) := HC6.out u (HXD.out.trans (mkJ_ext hJ HW21.out.1 HW21.out.2))
              have HJ := hid (mkJ_skip (k := 1) (by rfl) hJ)
              clear hJ hd hL
              go_simp
              exact ⟨rfl, HJ.out⟩
            simp only [Act.put, List.setIfInBounds_toArray, List.set_cons_succ, List.set_cons_zero]
            apply jj_fun (by decide)
            · intro L x u hL hd hJ
              have HJ := hid (mkJ_skip (k := 2) (by rfl) hJ)
              clear hJ hd hL
              go_simp
              exact ⟨rfl, HJ.out⟩
            simp only [Act.put, List.setIfInBounds_toArray, List.set_cons_succ, List.set_cons_zero]
            apply jj_fun (by decide)
            · intro L x u hL hd hJ
              have HJ := hid (mkJ_skip (k := 3) (by rfl) hJ)
              clear hJ hd hL
              go_simp
              exact ⟨rfl, HJ.out⟩
            simp only [Act.put, List.setIfInBounds_toArray, List.set_cons_succ, List.set_cons_zero]
            apply jj_fun (by decide)
            · intro L x u hL hd hJ
              have HJ := hid (mkJ_skip (k := 4) (by rfl) hJ)
              clear hJ hd hL
              go_simp
              exact ⟨rfl, HJ.out⟩
            simp only [Act.put, List.setIfInBounds_toArray, List.set_cons_succ, List.set_cons_zero]
            apply jj_fun (by decide)
            · intro L x u hL hd hJ
              have c0 : u.cell? ⟨lb, lo + a * 2, none⟩ = some (.string na) := HCA.out u (HXD.out.trans (mkJ_ext hJ HW21.out.1 HW21.out.2))
              have HJ := hid (mkJ_skip (k := 5) (by rfl) hJ)
              clear hJ hd hL
              go_simp
              exact ⟨rfl, HJ.out⟩
            simp only [Act.put, List.setIfInBounds_toArray, List.set_cons_succ, List.set_cons_zero]
            apply jj_fun (by decide)
            · intro L x u hL hd hJ
              have HJ := hid (mkJ_skip (k := 6) (by rfl) hJ)
              clear hJ hd hL
              go_simp
              exact ⟨rfl, HJ.out⟩
            simp only [Act.put, List.setIfInBounds_toArray, List.set_cons_succ, List.set_cons_zero]
            apply jj_fun (by decide)
            · intro L x u hL hd hJ
              have c0 : u.cell? ⟨bx, 6, none⟩ = some (.slice (some ⟨lb, lo, none⟩) V.le.length s.lc) := HC6.out u (HXD.out.trans (mkJ_ext hJ HW21.out.1 HW21.out.2))
              have HJ := hid (mkJ_skip (k := 7) (by rfl) hJ)
              clear hJ hd hL
              go_simp
              exact ⟨rfl, HJ.out⟩
            simp only [Act.put, List.setIfInBounds_toArray, List.set_cons_succ, List.set_cons_zero]
            apply jj_fun (by decide)
            · intro L x u hL hd hJ
              have HJ := hid (mkJ_skip (k := 8) (by rfl) hJ)
              clear hJ hd hL
              go_simp
              exact ⟨rfl, HJ.out⟩
            simp only [Act.put, List.setIfInBounds_toArray, List.set_cons_succ, List.set_cons_zero]
            apply jj_fun (by decide)
            · intro L x u hL hd hJ
              have HJ := hid (mkJ_skip (k := 9) (by rfl) hJ)
              clear hJ hd hL
              go_simp
              exact ⟨rfl, HJ.out⟩
            simp only [Act.put, List.setIfInBounds_toArray, List.set_cons_succ, List.set_cons_zero]
            apply jj_fun (by decide)
            · intro L x u hL hd hJ
              have HJ := hid (mkJ_skip (k := 10) (by rfl) hJ)
              clear hJ hd hL
              go_simp
              exact ⟨rfl, HJ.out⟩
            simp only [Act.put, List.setIfInBounds_toArray, List.set_cons_succ, List.set_cons_zero]
            apply jj_fun (by decide)
            · intro L x u hL hd hJ
              have c0 : u.cell? ⟨lb, lo + b * 2, none⟩ = some (.string nb) := HCB.out u (HXD.out.trans (mkJ_ext hJ HW21.out.1 HW21.out.2))
              have HJ := hid (mkJ_skip (k := 11) (by rfl) hJ)
              clear hJ hd hL
              go_simp
              exact ⟨rfl, HJ.out⟩
            simp only [Act.put, List.setIfInBounds_toArray, List.set_cons_succ, List.set_cons_zero]
            apply jj_fun (by decide)
            · intro L x u hL hd hJ
              have HJ := hid (mkJ_skip (k := 12) (by rfl) hJ)
              clear hJ hd hL
              go_simp
              exact ⟨rfl, HJ.out⟩
            simp only [Act.put, List.setIfInBounds_toArray, List.set_cons_succ, List.set_cons_zero]
            apply jj_fun (by decide)
            · intro L x u hL hd hJ
              have c0 : u.cell? ⟨bx + 1, 2, none⟩ = some (.int .i64 n2) := (HCN.out u (HXD.out.trans (mkJ_ext hJ HW21.out.1 HW21.out.2))).1
              have HJ := hid (mkJ_skip (k := 13) (by rfl) hJ)
              clear hJ hd hL
              go_simp
              exact ⟨rfl, HJ.out⟩
            simp only [Act.put, List.setIfInBounds_toArray, List.set_cons_succ, List.set_cons_zero]
            refine jj_fun (v := .int .i64 m2) (by decide) ?_ ?_
            · intro L x u hL hd hJ
              rw [if_pos (show Region.wanted _ _ = true from rfl)]
              exact gives_callJ (vs := #[.int .i64 n2, .int .i64 100]) rfl Tryz.func32 (by kernel_rfl) rfl (by simp only [List.map_toArray, List.map_cons, List.map_nil]; rfl) ((HM2.out u).mono fun e w'' ⟨he, hw⟩ => ⟨_, he, rfl, by rw [← hw]; exact mkJ_skip (by rfl) hJ⟩)
            simp only [Act.put, List.setIfInBounds_toArray, List.set_cons_succ, List.set_cons_zero]
            apply jj_fun (by decide)
            · intro L x u hL hd hJ
              have HJ := hid (mkJ_skip (k := 15) (by rfl) hJ)
              clear hJ hd hL
              go_simp
              exact ⟨rfl, HJ.out⟩
            simp only [Act.put, List.setIfInBounds_toArray, List.set_cons_succ, List.set_cons_zero]
            apply jj_fun (by decide)
            · intro L x u hL hd hJ
              have HJ := hid (mkJ_skip (k := 16) (by rfl) hJ)
              clear hJ hd hL
              go_simp
              exact ⟨rfl, HJ.out⟩
            simp only [Act.put, List.setIfInBounds_toArray, List.set_cons_succ, List.set_cons_zero]
            apply jj_fun (by decide)
            · intro L x u hL hd hJ
              have c0 : u.cell? ⟨bx + 1, 3, none⟩ = some (.int .i64 n3) := (HCN.out u (HXD.out.trans (mkJ_ext hJ HW21.out.1 HW21.out.2))).2
              have HJ := hid (mkJ_skip (k := 17) (by rfl) hJ)
              clear hJ hd hL
              go_simp
              exact ⟨rfl, HJ.out⟩
            simp only [Act.put, List.setIfInBounds_toArray, List.set_cons_succ, List.set_cons_zero]
            refine jj_fun (v := .int .i64 m3) (by decide) ?_ ?_
            · intro L x u hL hd hJ
              rw [if_pos (show Region.wanted _ _ = true from rfl)]
              exact gives_callJ (vs := #[.int .i64 n3, .int .i64 9]) rfl Tryz.func32 (by kernel_rfl) rfl (by simp only [List.map_toArray, List.map_cons, List.map_nil]; rfl) ((HM3.out u).mono fun e w'' ⟨he, hw⟩ => ⟨_, he, rfl, by rw [← hw]; exact mkJ_skip (by rfl) hJ⟩)
            simp only [Act.put, List.setIfInBounds_toArray, List.set_cons_succ, List.set_cons_zero]
            apply jj_fun (by decide)
            · intro L x u hL hd hJ
              have HJ := hid (mkJ_skip (k := 19) (by rfl) hJ)
              clear hJ hd hL
              go_simp
              exact ⟨rfl, HJ.out⟩
            simp only [Act.put, List.setIfInBounds_toArray, List.set_cons_succ, List.set_cons_zero]
            refine jj_fun (v := .pointer (some ⟨wd.heap.size, 0, none⟩)) (by decide) ?_ ?_
            · intro L x u hL hd hJ
              obtain ⟨rfl, hJ2⟩ := mkJ_make hJ hL (by decide)
              have HJ := hid hJ2
              clear hJ hJ2 hd hL
              go_simp
              exact HJ.out
            simp only [Act.put, List.setIfInBounds_toArray, List.set_cons_succ, List.set_cons_zero]
            refine jj_fun (v := undef) (by decide) ?_ ?_
            · intro L x u hL hd hJ
              obtain ⟨hu, hJ2⟩ := mkJ_fill hJ (hd.1 rfl) hL (by decide)
              rw [if_pos (show Region.wanted _ _ = true from rfl)]
              exact gives_storeF 59 (.tmp 12) (.tmp 126) rfl (W := wd) (c := #[.string ByteArray.empty, .string ByteArray.empty, .int .i64 0, .int .i64 0]) (c' := #[.string na, .string nb, .int .i64 (1 + m2), .int .i64 m3]) rfl rfl hu size59 rfl (by simp [Value.oneCell']) ⟨⟨rfl, hJ2⟩, trivial⟩
            simp only [Act.put, List.setIfInBounds_toArray, List.set_cons_succ, List.set_cons_zero]
            refine jj_nil fun L x u6 hall hJ => ?_
            have hu := hJ.2.2.1 (hall 21 (by omega))
            clear hJ hall x L hwA hwB hai hbi
            have HG1 : Hid (u6.heap[wd.heap.size]? = some (.cells #[.string na, .string nb, .int .i64 (1 + m2), .int .i64 m3] 59 (0, 0))) := hid (by rw [hu]; exact Ext.new (Ext.refl _))
            have HX6 : Hid (Ext w5 u6) := hid (by rw [hu]; exact HXD.out.trans HW21.out.2)
            clear hu
            generalize wd.heap.size = g1 at *
            clear HXD HW21 HC6 HCA HCB HCN HM2 HM3 wd
            have c0 := cell_of HG1.out
            gi_wp2_with (refine wpIn_store_fresh (fun _ => trivial) 59 (.tmp 13) (.tmp 127) rfl (W := u6) (c' := #[.string na, .string nb, .int .i64 (1 + m2), .int .i64 m3]) rfl rfl rfl size59 rfl (by simp [Value.oneCell']) ?_; refine Hid.out ?_)
            clear c0
            have HX7 : Hid (Ext u6 (u6.alloc (.cells #[.string na, .string nb, .int .i64 (1 + m2), .int .i64 m3] 59))) := hid ((Ext.refl _).alloc _)
            have HB2 : Hid ((u6.alloc (.cells #[.string na, .string nb, .int .i64 (1 + m2), .int .i64 m3] 59)).heap[u6.heap.size]? = some (.cells #[.string na, .string nb, .int .i64 (1 + m2), .int .i64 m3] 59 (0, 0))) := hid (Ext.new (Ext.refl _))
            refine hid ?_
            generalize u6.alloc (.cells #[.string na, .string nb, .int .i64 (1 + m2), .int .i64 m3] 59) = u7 at *
            obtain ⟨g2, hg2⟩ : ∃ g2, g2 = u6.heap.size := ⟨_, rfl⟩
            rw [← hg2] at HB2 ⊢
            have HB13 : Hid (u6.heap.size ≤ g2) := hid (by omega)
            clear hg2
            gi_upto_region 23 with fail
            have HST : bkJ u6 g2 na nb (1 + m2) m3 (fun _ => false) (fun _ => undef) { u7 with drawn := u7.drawn + 1 } := ⟨HX7.out.trans (Ext.drawn _), HB2.out⟩
            refine jj_own 8 [] _ (by kernel_rfl) (by kernel_rfl) HST ?_
            simp only [List.take_succ_cons, List.take_zero, List.drop_succ_cons, List.drop_zero]
            clear HST
            apply jj_fun (by decide)
            · intro L x u hL hd hJ
              have HJ := hid (bkJ_skip (k := 0) (by rfl) hJ)
              clear hJ hd hL
              go_simp
              exact ⟨rfl, HJ.out⟩
            simp only [Act.put, List.setIfInBounds_toArray, List.set_cons_succ, List.set_cons_zero]
            apply jj_fun (by decide)
            · intro L x u hL hd hJ
              have c0 : u.cell? ⟨g1, 1, none⟩ = some (.string nb) := (cell_of (hJ.1.block HG1.out) 1).trans rfl
              have HJ := hid (bkJ_skip (k := 1) (by rfl) hJ)
              clear hJ hd hL
              go_simp
              exact ⟨rfl, HJ.out⟩
            simp only [Act.put, List.setIfInBounds_toArray, List.set_cons_succ, List.set_cons_zero]
            apply jj_fun (by decide)
            · intro L x u hL hd hJ
              have HJ := hid (bkJ_skip (k := 2) (by rfl) hJ)
              clear hJ hd hL
              go_simp
              exact ⟨rfl, HJ.out⟩
            simp only [Act.put, List.setIfInBounds_toArray, List.set_cons_succ, List.set_cons_zero]
            apply jj_fun (by decide)
            · intro L x u hL hd hJ
              have c0 : u.cell? ⟨g1, 0, none⟩ = some (.string na) := (cell_of (hJ.1.block HG1.out) 0).trans rfl
              have HJ := hid (bkJ_skip (k := 3) (by rfl) hJ)
              clear hJ hd hL
              go_simp
              exact ⟨rfl, HJ.out⟩
            simp only [Act.put, List.setIfInBounds_toArray, List.set_cons_succ, List.set_cons_zero]
            apply jj_fun (by decide)
            · intro L x u hL hd hJ
              have HJ := hid (bkJ_skip (k := 4) (by rfl) hJ)
              clear hJ hd hL
              go_simp
              exact ⟨rfl, HJ.out⟩
            simp only [Act.put, List.setIfInBounds_toArray, List.set_cons_succ, List.set_cons_zero]
            refine jj_fun (v := undef) (by decide) ?_ ?_
            · intro L x u hL hd hJ
              have HJ := hid (bkJ_5 hJ HB13.out)
              have fb := free_of hJ.2
              have c0 : u.cell? ⟨g2, 0, none⟩ = some (.string na) := by
                have hb := hJ.2
                rw [hL] at hb
                exact (cell_of hb 0).trans rfl
              clear hJ hd hL
              go_simp
              exact HJ.out
            simp only [Act.put, List.setIfInBounds_toArray, List.set_cons_succ, List.set_cons_zero]
            apply jj_fun (by decide)
            · intro L x u hL hd hJ
              have HJ := hid (bkJ_skip (k := 6) (by rfl) hJ)
              clear hJ hd hL
              go_simp
              exact ⟨rfl, HJ.out⟩
            simp only [Act.put, List.setIfInBounds_toArray, List.set_cons_succ, List.set_cons_zero]
            refine jj_fun (v := undef) (by decide) ?_ ?_
            · intro L x u hL hd hJ
              have HJ := hid (bkJ_7 hJ HB13.out)
              have fb := free_of hJ.2
              have c0 : u.cell? ⟨g2, 1, none⟩ = some (.string nb) := by
                have hb := hJ.2
                rw [hL] at hb
                exact (cell_of hb 1).trans rfl
              clear hJ hd hL
              go_simp
              exact HJ.out
            simp only [Act.put, List.setIfInBounds_toArray, List.set_cons_succ, List.set_cons_zero]
            refine jj_nil fun L x u8 hall hJ => ?_
            obtain ⟨k1, k2⟩ := hJ
            rw [hall 5 (by omega), hall 7 (by omega)] at k2
            have HG2 : Hid (u8.heap[g2]? = some (.cells #[.string nb, .string na, .int .i64 (1 + m2), .int .i64 m3] 59 (0, 0))) := hid k2
            have HG1 := hid (k1.block HG1.out)
            have HX8 := hid (HX6.out.trans k1)
            have HXw8 := hid (HXw5.out.trans HX8.out)
            have HBA := hid (HX8.out.block HBA.out)
            have HLO : Hid (LoansAt u8 (.slice s.xa V.lo.length s.xc) V.lo) := hid (HVA.out.lo.mono (HX5.out.trans HX8.out))
            have HVA := hid (HVA.out.mono (HX5.out.trans HX8.out))
            have HIC := hid (fun (u : World) (hu : Ext u8 u) => HIC.out u (HX5.out.trans (HX8.out.trans hu)))
            clear k1 k2 hall x L HX7 HB2 HB13 HX6 HX8 HXw5 HX5 u7
            gi_upto_region 24 with fail
            refine jj_own 6 [2, 3] (boxJ u8 #[.int .i64 0, .slice none 0 0, .int .i64 0, .int .i64 0, .int .i64 0, .slice none 0 0, .slice none 0 0, .slice none 0 0, .slice none 0 0] #[.int .i64 V.gr, .slice s.ca V.cs.length s.cc, .int .i64 V.bo, .int .i64 V.ne, .int .i64 V.cr, .slice s.oa V.ow.length s.oc, .slice s.la V.le.length s.lc, .slice s.ha V.ha.length s.hc, .slice s.xa V.lo.length s.xc] 32) (by kernel_rfl) (by kernel_rfl) (boxJ_start (Ext.refl _)) ?_
            simp only [List.take_succ_cons, List.take_zero, List.drop_succ_cons, List.drop_zero]
            apply jj_fun (by decide)
            · intro L x u hL hd hJ
              have c0 := cell_of (hJ.1.block HBA.out)
              have HJ := hid (boxJ_skip (k := 0) (by rfl) hJ)
              clear hJ hd hL
              go_simp
              exact ⟨rfl, HJ.out⟩
            simp only [Act.put, List.setIfInBounds_toArray, List.set_cons_succ, List.set_cons_zero]
            apply jj_fun (by decide)
            · intro L x u hL hd hJ
              have c0 := cell_of (hJ.1.block HBA.out)
              have HJ := hid (boxJ_skip (k := 1) (by rfl) hJ)
              clear hJ hd hL
              go_simp
              exact ⟨rfl, HJ.out⟩
            simp only [Act.put, List.setIfInBounds_toArray, List.set_cons_succ, List.set_cons_zero]
            refine jj_inv (by decide) ?_ ?_
            · intro L x u hL hd hJ
              have HJ := hid (boxJ_2 hJ hL)
              clear hJ hd hL
              go_simp
              exact HJ.out
            simp only [Act.put, List.setIfInBounds_toArray, List.set_cons_succ, List.set_cons_zero]
            refine jj_inv (by decide) ?_ ?_
            · intro L x u hL hd hJ
              have HJ := hid (boxJ_3 hJ hL)
              clear hJ hd hL
              go_simp
              exact HJ.out
            simp only [Act.put, List.setIfInBounds_toArray, List.set_cons_succ, List.set_cons_zero]
            refine jj_fun (v := undef) (by decide) ?_ ?_
            · intro L x u hL hd hJ
              have hq : L 2 = true := hd.1 rfl
              obtain ⟨g, e1, e2, e3⟩ := hJ.2.1 hq
              rw [hL] at e3
              have hrow : ((#[.int .i64 0, .slice none 0 0, .int .i64 0, .int .i64 0, .int .i64 0, .slice none 0 0, .slice none 0 0, .slice none 0 0, .slice none 0 0] : Array Value).toList.take 0 ++ (#[.int .i64 V.gr, .slice s.ca V.cs.length s.cc, .int .i64 V.bo, .int .i64 V.ne, .int .i64 V.cr, .slice s.oa V.ow.length s.oc, .slice s.la V.le.length s.lc, .slice s.ha V.ha.length s.hc, .slice s.xa V.lo.length s.xc] : Array Value).toList ++ (#[.int .i64 0, .slice none 0 0, .int .i64 0, .int .i64 0, .int .i64 0, .slice none 0 0, .slice none 0 0, .slice none 0 0, .slice none 0 0] : Array Value).toList.drop (0 + 9)).toArray = #[.int .i64 V.gr, .slice s.ca V.cs.length s.cc, .int .i64 V.bo, .int .i64 V.ne, .int .i64 V.cr, .slice s.oa V.ow.length s.oc, .slice s.la V.le.length s.lc, .slice s.ha V.ha.length s.hc, .slice s.xa V.lo.length s.xc] := rfl
              rw [if_pos (show Region.wanted _ _ = true from rfl)]
              refine gives_store 32 (.tmp 14) (.tmp 134) rfl (g := g) (off := 0) e1 (cells := #[.int .i64 V.gr, .slice s.ca V.cs.length s.cc, .int .i64 V.bo, .int .i64 V.ne, .int .i64 V.cr, .slice s.oa V.ow.length s.oc, .slice s.la V.le.length s.lc, .slice s.ha V.ha.length s.hc, .slice s.xa V.lo.length s.xc]) rfl e3 (by kernel_rfl) (by simp) (by simp [Value.oneCell']) ⟨⟨rfl, ?_⟩, trivial⟩
              exact boxJ_4 hJ hq e1 rfl (setRow_ext hJ.1 e2 _) (setRow_heap u g _ _ 32 _ e3)
            simp only [Act.put, List.setIfInBounds_toArray, List.set_cons_succ, List.set_cons_zero]
            refine jj_fun (v := undef) (by decide) ?_ ?_
            · intro L x u hL hd hJ
              have hq : L 3 = true := hd.1 rfl
              obtain ⟨g, e1, e2, e3⟩ := hJ.2.2.1 hq
              rw [hL] at e3
              have hrow : ((#[.int .i64 0, .slice none 0 0, .int .i64 0, .int .i64 0, .int .i64 0, .slice none 0 0, .slice none 0 0, .slice none 0 0, .slice none 0 0] : Array Value).toList.take 0 ++ (#[.int .i64 V.gr, .slice s.ca V.cs.length s.cc, .int .i64 V.bo, .int .i64 V.ne, .int .i64 V.cr, .slice s.oa V.ow.length s.oc, .slice s.la V.le.length s.lc, .slice s.ha V.ha.length s.hc, .slice s.xa V.lo.length s.xc] : Array Value).toList ++ (#[.int .i64 0, .slice none 0 0, .int .i64 0, .int .i64 0, .int .i64 0, .slice none 0 0, .slice none 0 0, .slice none 0 0, .slice none 0 0] : Array Value).toList.drop (0 + 9)).toArray = #[.int .i64 V.gr, .slice s.ca V.cs.length s.cc, .int .i64 V.bo, .int .i64 V.ne, .int .i64 V.cr, .slice s.oa V.ow.length s.oc, .slice s.la V.le.length s.lc, .slice s.ha V.ha.length s.hc, .slice s.xa V.lo.length s.xc] := rfl
              rw [if_pos (show Region.wanted _ _ = true from rfl)]
              refine gives_store 32 (.tmp 15) (.tmp 135) rfl (g := g) (off := 0) e1 (cells := #[.int .i64 V.gr, .slice s.ca V.cs.length s.cc, .int .i64 V.bo, .int .i64 V.ne, .int .i64 V.cr, .slice s.oa V.ow.length s.oc, .slice s.la V.le.length s.lc, .slice s.ha V.ha.length s.hc, .slice s.xa V.lo.length s.xc]) rfl e3 (by kernel_rfl) (by simp) (by simp [Value.oneCell']) ⟨⟨rfl, ?_⟩, trivial⟩
              exact boxJ_5 hJ hq e1 rfl (setRow_ext hJ.1 e2 _) (setRow_heap u g _ _ 32 _ e3)
            simp only [Act.put, List.setIfInBounds_toArray, List.set_cons_succ, List.set_cons_zero]
            refine jj_nil fun L x u9 hall hJ => ?_
            obtain ⟨k1, k2, k3, k4, k9, k10⟩ := hJ
            obtain ⟨g3, e1, k5, k6⟩ := k2 (hall 2 (by omega))
            obtain ⟨g4, e2, k7, k8⟩ := k3 (hall 3 (by omega))
            have hne := k4 (hall 2 (by omega)) (hall 3 (by omega))
            rw [hall 4 (by omega)] at k6
            rw [hall 5 (by omega)] at k8
            generalize x 2 = y2 at *
            generalize x 3 = y3 at *
            subst e1
            subst e2
            have hne : g4 ≠ g3 := fun e => hne (by rw [e])
            have HX9 := hid k1
            have HS3 := hid (And.intro k5 (lt_of_block k6))
            have HS4 := hid (And.intro k7 (lt_of_block k8))
            have HB3 : Hid (u9.heap[g3]? = some (.cells ((fun y => #[.int .i64 V.gr, .slice s.ca V.cs.length s.cc, .int .i64 V.bo, .int .i64 V.ne, .int .i64 V.cr, .slice s.oa V.ow.length s.oc, .slice s.la V.le.length s.lc, .slice s.ha V.ha.length s.hc, y]) (.slice s.xa V.lo.length s.xc)) 32 (0, 0))) := hid k6
            have HB4 : Hid (u9.heap[g4]? = some (.cells ((fun y => #[.int .i64 V.gr, .slice s.ca V.cs.length s.cc, .int .i64 V.bo, .int .i64 V.ne, .int .i64 V.cr, .slice s.oa V.ow.length s.oc, .slice s.la V.le.length s.lc, .slice s.ha V.ha.length s.hc, y]) (.slice s.xa V.lo.length s.xc)) 32 (0, 0))) := hid k8
            have HNE4 := hid hne
            clear k1 k2 k3 k4 k5 k6 k7 k8 k9 k10 hne hall x L
            gi_upto_region 25 with fail
            refine jj_own 10 [0, 3, 6, 7] (bld2J u8 u9 g3 0 3 6 7 9 (fun y => #[.int .i64 V.gr, .slice s.ca V.cs.length s.cc, .int .i64 V.bo, .int .i64 V.ne, .int .i64 V.cr, .slice s.oa V.ow.length s.oc, .slice s.la V.le.length s.lc, .slice s.ha V.ha.length s.hc, y]) 32 (.slice s.xa V.lo.length s.xc) V.lo 2 (lnF [⟨na, nb, 1 + m2, m3⟩, ⟨nb, na, 1 + m2, m3⟩])) (by kernel_rfl) (by kernel_rfl) (bld2J_start HX9.out HS3.out HB3.out) ?_
            simp only [List.take_succ_cons, List.take_zero, List.drop_succ_cons, List.drop_zero]
            refine jj_inv (by decide) ?_ ?_
            · intro L x u hL hd hJ
              have HJ := hid (bld2J_empty (by rfl) hJ hL)
              clear hJ hd hL
              go_simp
              exact HJ.out
            simp only [Act.put, List.setIfInBounds_toArray, List.set_cons_succ, List.set_cons_zero]
            apply jj_fun (by decide)
            · intro L x u hL hd hJ
              have HJ := hid (bld2J_skip (k := 1) (by rfl) hJ)
              clear hJ hd hL
              go_simp
              exact ⟨rfl, HJ.out⟩
            simp only [Act.put, List.setIfInBounds_toArray, List.set_cons_succ, List.set_cons_zero]
            apply jj_fun (by decide)
            · intro L x u hL hd hJ
              have c0 : u.cell? ⟨bx, 8, none⟩ = some (.slice s.xa V.lo.length s.xc) := (cell_of (hJ.1.ext.block HBA.out) 8).trans rfl
              have HJ := hid (bld2J_skip (k := 2) (by rfl) hJ)
              clear hJ hd hL
              go_simp
              exact ⟨rfl, HJ.out⟩
            simp only [Act.put, List.setIfInBounds_toArray, List.set_cons_succ, List.set_cons_zero]
            refine jj_inv (by decide) ?_ ?_
            · intro L x u hL hd hJ
              obtain ⟨v', u', h1, h2⟩ := bld2J_first (by rfl) hJ (hd.1 rfl) hL HLO.out (by have := HLB.out; omega)
              rw [if_pos (show Region.wanted _ _ = true from rfl)]
              exact gives_append (.tmp 136) (.tmp 138) 30 rfl rfl rfl h1 ⟨h2, trivial⟩
            simp only [Act.put, List.setIfInBounds_toArray, List.set_cons_succ, List.set_cons_zero]
            apply jj_fun (by decide)
            · intro L x u hL hd hJ
              have c0 := cell_of (hJ.1.ext.block HG1.out)
              have HJ := hid (bld2J_skip (k := 4) (by rfl) hJ)
              clear hJ hd hL
              go_simp
              exact ⟨rfl, HJ.out⟩
            simp only [Act.put, List.setIfInBounds_toArray, List.set_cons_succ, List.set_cons_zero]
            apply jj_fun (by decide)
            · intro L x u hL hd hJ
              have c0 := cell_of (hJ.1.ext.block HG2.out)
              have HJ := hid (bld2J_skip (k := 5) (by rfl) hJ)
              clear hJ hd hL
              go_simp
              exact ⟨rfl, HJ.out⟩
            simp only [Act.put, List.setIfInBounds_toArray, List.set_cons_succ, List.set_cons_zero]
            refine jj_inv (by decide) ?_ ?_
            · intro L x u hL hd hJ
              have HJ := hid (bld2J_make (by rfl) hJ hL (cs := #[.string na, .string nb, .int .i64 (1 + m2), .int .i64 m3, .string nb, .string na, .int .i64 (1 + m2), .int .i64 m3]) rfl)
              clear hJ hd hL
              go_simp
              exact HJ.out
            simp only [Act.put, List.setIfInBounds_toArray, List.set_cons_succ, List.set_cons_zero]
            refine jj_inv (by decide) ?_ ?_
            · intro L x u hL hd hJ
              obtain ⟨v', u', h1, h2⟩ := bld2J_app (by rfl) hJ (hd.1 rfl) (hd.2.1 rfl) hL (by omega) (by rfl) (fun u hu => by simp [lnF, lnC] at hu; rcases hu with rfl | rfl | rfl | rfl | rfl | rfl | rfl | rfl <;> rfl) (by have := HLB.out; omega)
              rw [if_pos (show Region.wanted _ _ = true from rfl)]
              exact gives_append (.tmp 139) (.tmp 142) 30 rfl rfl rfl h1 ⟨h2, trivial⟩
            simp only [Act.put, List.setIfInBounds_toArray, List.set_cons_succ, List.set_cons_zero]
            apply jj_fun (by decide)
            · intro L x u hL hd hJ
              have HJ := hid (bld2J_skip (k := 8) (by rfl) hJ)
              clear hJ hd hL
              go_simp
              exact ⟨rfl, HJ.out⟩
            simp only [Act.put, List.setIfInBounds_toArray, List.set_cons_succ, List.set_cons_zero]
            refine jj_fun (v := undef) (by decide) ?_ ?_
            · intro L x u hL hd hJ
              have hj : L 7 = true := hd.2.1 rfl
              have HJ := hid (bld2J_store (by rfl) hJ hj (off := 8) (fun y z => rfl))
              have hold := bld2J_old hJ hL
              have c0 : u.cell? ⟨g3, 8, none⟩ = some (.slice s.xa V.lo.length s.xc) := (cell_of hold 8).trans rfl
              have fb := free_of hold
              obtain ⟨qa, qc, hq⟩ := bld2J_row hJ hj
              rw [hq] at HJ
              clear hJ hd hL hj hold
              simp only [hq]
              go_simp
              exact HJ.out
            simp only [Act.put, List.setIfInBounds_toArray, List.set_cons_succ, List.set_cons_zero]
            refine jj_nil fun L x u10 hall hJ => ?_
            obtain ⟨k1, k2⟩ := bld2J_end hJ (hall 7 (by omega)) (hall 9 (by omega))
            clear hJ hall
            generalize x 0 = y0 at *
            generalize x 3 = y3 at *
            generalize x 6 = y6 at *
            generalize x 7 = y7 at *
            obtain ⟨da, dc, rfl⟩ := k1.row.isSliceN
            have HX10 : Hid (Ext u8 u10) := hid k1.ext
            have HB4 := hid (k1.km.2 _ _ HNE4.out HB4.out)
            have HB3 := hid k2
            have HCL1 : Hid (Cal 19 #[.agg ((fun y => #[.int .i64 V.gr, .slice s.ca V.cs.length s.cc, .int .i64 V.bo, .int .i64 V.ne, .int .i64 V.cr, .slice s.oa V.ow.length s.oc, .slice s.la V.le.length s.lc, .slice s.ha V.ha.length s.hc, y]) (.slice da (V.lo.length + 2) dc))] u10 fun e w' => ∃ r, e = .returned (.tuple #[r, .int .i64 0]) ∧ Ext u10 w' ∧ Hid (Row w' 3 1 r V.le.length (intsV (clmW V)))) := hid (by
              have hat := lend_at (xs := [⟨na, nb, 1 + m2, m3⟩, ⟨nb, na, 1 + m2, m3⟩]) (m := 2) (HVA.out.mono k1.ext) rfl k1.row (by have := HLB.out; omega)
              have hc := Claims_ok _ _ u10 hat HBK.out.1
              rw [lend_cells V s _ da dc (m := 2) rfl] at hc
              exact hc.mono fun e w' ⟨r, h1, h2, h3⟩ => ⟨r, h1, h2, hid (by
                have h4 : Row w' 3 1 r V.le.length (intsV (clmW (lendV V [⟨na, nb, 1 + m2, m3⟩, ⟨nb, na, 1 + m2, m3⟩]))) := h3.out
                rw [HBK.out.2] at h4; exact h4)⟩)
            clear k1 k2 x L
            have c0 := cell_of HB3.out
            have c1 := cell_of (HX10.out.block HG1.out)
            gi_wp2_with (first | (gi_at_call 19; ((with_reducible refine (HCL1.out).mono ?_); rintro e u11 ⟨dr, rfl, hx11, HRD⟩; obtain ⟨dra, drc, rfl⟩ := HRD.out.isSliceN; have HX11 := hid hx11; have c1 := cell_of (hx11.block (HX10.out.block HG1.out)); clear hx11)) | (refine wpIn_store_fresh (fun _ => trivial) 59 (.tmp 18) (.tmp 150) rfl (W := u11) (c' := #[.string na, .string nb, .int .i64 (1 + m2), .int .i64 m3]) rfl rfl rfl size59 rfl (by simp [Value.oneCell']) ?_; refine Hid.out ?_))
            clear c0 c1
            have hb5 : (u11.alloc (.cells #[.string na, .string nb, .int .i64 (1 + m2), .int .i64 m3] 59)).heap[u11.heap.size]? = some (.cells #[.string na, .string nb, .int .i64 (1 + m2), .int .i64 m3] 59 (0, 0)) := Ext.new (Ext.refl _)
            have HB5 : Hid ((u11.alloc (.cells #[.string na, .string nb, .int .i64 (1 + m2), .int .i64 8] 59)).heap[u11.heap.size]? = some (.cells #[.string na, .string nb, .int .i64 (1 + m2), .int .i64 8] 59 (0, 0))) := hid (Ext.new (Ext.refl _))
            have HX13 : Hid (Ext u11 (u11.alloc (.cells #[.string na, .string nb, .int .i64 (1 + m2), .int .i64 8] 59))) := hid ((Ext.refl _).alloc _)
            have c0 : (u11.alloc (.cells #[.string na, .string nb, .int .i64 (1 + m2), .int .i64 m3] 59)).cell? ⟨u11.heap.size, 3, none⟩ = some (.int .i64 m3) := (cell_of hb5 3).trans rfl
            have z0 := free_of hb5 3
            clear hb5
            refine hid ?_
            have HG5L : Hid (u8.heap.size ≤ u11.heap.size) := hid (HX10.out.trans HX11.out).size
            have HNE : Hid (u11.heap.size ≠ g4) := hid (by have := lt_of_block (HX11.out.block HB4.out); omega)
            gi_upto_region 29 with fail
            clear c0 z0
            have HB4 := hid (HX13.out.block (HX11.out.block HB4.out))
            have HRD := hid (HRD.out.mono HX13.out)
            generalize u11.alloc (.cells #[.string na, .string nb, .int .i64 (1 + m2), .int .i64 8] 59) = u13 at *
            generalize u11.heap.size = g5 at *
            have HX13 := hid (HX10.out.trans (HX11.out.trans HX13.out))
            have HG5 := HB5
            have HS4 : Hid (u8.heap.size ≤ g4 ∧ g4 < u13.heap.size) := hid ⟨HS4.out.1, lt_of_block HB4.out⟩
            have HDN := hid (row_ne HRD.out HB4.out (by decide))
            refine jj_own 9 [0, 3, 5, 6] (bld2J u8 u13 g4 0 3 5 6 8 (fun y => #[.int .i64 V.gr, .slice s.ca V.cs.length s.cc, .int .i64 V.bo, .int .i64 V.ne, .int .i64 V.cr, .slice s.oa V.ow.length s.oc, .slice s.la V.le.length s.lc, .slice s.ha V.ha.length s.hc, y]) 32 (.slice s.xa V.lo.length s.xc) V.lo 1 (lnF [⟨na, nb, 1 + m2, 8⟩])) (by kernel_rfl) (by kernel_rfl) (bld2J_start HX13.out HS4.out HB4.out) ?_
            simp only [List.take_succ_cons, List.take_zero, List.drop_succ_cons, List.drop_zero]
            refine jj_inv (by decide) ?_ ?_
            · intro L x u hL hd hJ
              have HJ := hid (bld2J_empty (by rfl) hJ hL)
              clear hJ hd hL
              go_simp
              exact HJ.out
            simp only [Act.put, List.setIfInBounds_toArray, List.set_cons_succ, List.set_cons_zero]
            apply jj_fun (by decide)
            · intro L x u hL hd hJ
              have HJ := hid (bld2J_skip (k := 1) (by rfl) hJ)
              clear hJ hd hL
              go_simp
              exact ⟨rfl, HJ.out⟩
            simp only [Act.put, List.setIfInBounds_toArray, List.set_cons_succ, List.set_cons_zero]
            apply jj_fun (by decide)
            · intro L x u hL hd hJ
              have c0 : u.cell? ⟨bx, 8, none⟩ = some (.slice s.xa V.lo.length s.xc) := (cell_of (hJ.1.ext.block HBA.out) 8).trans rfl
              have HJ := hid (bld2J_skip (k := 2) (by rfl) hJ)
              clear hJ hd hL
              go_simp
              exact ⟨rfl, HJ.out⟩
            simp only [Act.put, List.setIfInBounds_toArray, List.set_cons_succ, List.set_cons_zero]
            refine jj_inv (by decide) ?_ ?_
            · intro L x u hL hd hJ
              obtain ⟨v', u', h1, h2⟩ := bld2J_first (by rfl) hJ (hd.1 rfl) hL HLO.out (by have := HLB.out; omega)
              rw [if_pos (show Region.wanted _ _ = true from rfl)]
              exact gives_append (.tmp 152) (.tmp 154) 30 rfl rfl rfl h1 ⟨h2, trivial⟩
            simp only [Act.put, List.setIfInBounds_toArray, List.set_cons_succ, List.set_cons_zero]
            apply jj_fun (by decide)
            · intro L x u hL hd hJ
              have c0 := cell_of (hJ.1.km.2 _ _ HNE.out HG5.out)
              have HJ := hid (bld2J_skip (k := 4) (by rfl) hJ)
              clear hJ hd hL
              go_simp
              exact ⟨rfl, HJ.out⟩
            simp only [Act.put, List.setIfInBounds_toArray, List.set_cons_succ, List.set_cons_zero]
            refine jj_inv (by decide) ?_ ?_
            · intro L x u hL hd hJ
              have HJ := hid (bld2J_make (by rfl) hJ hL (cs := #[.string na, .string nb, .int .i64 (1 + m2), .int .i64 8]) rfl)
              clear hJ hd hL
              go_simp
              exact HJ.out
            simp only [Act.put, List.setIfInBounds_toArray, List.set_cons_succ, List.set_cons_zero]
            refine jj_inv (by decide) ?_ ?_
            · intro L x u hL hd hJ
              obtain ⟨v', u', h1, h2⟩ := bld2J_app (by rfl) hJ (hd.1 rfl) (hd.2.1 rfl) hL (by omega) (by rfl) (fun u hu => by simp [lnF, lnC] at hu; rcases hu with rfl | rfl | rfl | rfl <;> rfl) (by have := HLB.out; omega)
              rw [if_pos (show Region.wanted _ _ = true from rfl)]
              exact gives_append (.tmp 155) (.tmp 157) 30 rfl rfl rfl h1 ⟨h2, trivial⟩
            simp only [Act.put, List.setIfInBounds_toArray, List.set_cons_succ, List.set_cons_zero]
            apply jj_fun (by decide)
            · intro L x u hL hd hJ
              have HJ := hid (bld2J_skip (k := 7) (by rfl) hJ)
              clear hJ hd hL
              go_simp
              exact ⟨rfl, HJ.out⟩
            simp only [Act.put, List.setIfInBounds_toArray, List.set_cons_succ, List.set_cons_zero]
            refine jj_fun (v := undef) (by decide) ?_ ?_
            · intro L x u hL hd hJ
              have hj : L 6 = true := hd.2.1 rfl
              have HJ := hid (bld2J_store (by rfl) hJ hj (off := 8) (fun y z => rfl))
              have hold := bld2J_old hJ hL
              have c0 : u.cell? ⟨g4, 8, none⟩ = some (.slice s.xa V.lo.length s.xc) := (cell_of hold 8).trans rfl
              have fb := free_of hold
              obtain ⟨qa, qc, hq⟩ := bld2J_row hJ hj
              rw [hq] at HJ
              clear hJ hd hL hj hold
              simp only [hq]
              go_simp
              exact HJ.out
            simp only [Act.put, List.setIfInBounds_toArray, List.set_cons_succ, List.set_cons_zero]
            refine jj_nil fun L x u14 hall hJ => ?_
            obtain ⟨k1, k2⟩ := bld2J_end hJ (hall 6 (by omega)) (hall 8 (by omega))
            clear hJ hall
            generalize x 0 = z0 at *
            generalize x 3 = z3 at *
            generalize x 5 = z5 at *
            generalize x 6 = z6 at *
            obtain ⟨fa, fc, rfl⟩ := k1.row.isSliceN
            have HX14 : Hid (Ext u8 u14) := hid k1.ext
            have HRD : Hid (Row u14 3 1 (.slice dra V.le.length drc) V.le.length (intsV (clmW V))) := hid (HRD.out.kept fun k o ho hb => k1.km.2 k o (HDN.out k ho) hb)
            have HB4 := hid k2
            have hat := lend_at (xs := [⟨na, nb, 1 + m2, 8⟩]) (m := 1) (HVA.out.mono k1.ext) rfl k1.row (by have := HLB.out; omega)
            have HAT := hid hat
            clear hat k1 k2 x L
            have HSA := hid (fun (u : World) (qa : Option Addr) (qc : Nat) (hr : Row u 3 1 (.slice qa V.le.length qc) V.le.length (intsV (clmW V))) (hu : Ext u8 u) => (show Cal 17 #[.slice qa V.le.length qc, .slice cra V.le.length crc] u fun e w' => e = .returned (.bool true) ∧ Ext u w' from by
              have h1 := IntsAt.of_row (xs := clmW V) (v := .slice qa V.le.length qc) (by rw [clmW_len]; exact hr) (by rw [clmW_len]; have := HLL.out; omega)
              have h2 := Same_any _ _ _ _ u h1 (HIC.out u hu)
              simpa using h2))
            have c0 := cell_of HB4.out
            rcases HFR.out.1 with hf | hf
            · have HCL2 : Hid (Cal 19 #[.agg ((fun y => #[.int .i64 V.gr, .slice s.ca V.cs.length s.cc, .int .i64 V.bo, .int .i64 V.ne, .int .i64 V.cr, .slice s.oa V.ow.length s.oc, .slice s.la V.le.length s.lc, .slice s.ha V.ha.length s.hc, y]) (.slice fa (V.lo.length + 1) fc))] u14 fun e w' => ∃ r, e = .returned (.tuple #[r, .int .i64 0]) ∧ Ext u14 w' ∧ Hid (Row w' 3 1 r V.le.length (intsV (clmW V)))) := hid (by
                have hc := Claims_ok _ _ u14 HAT.out hf
                rw [lend_cells V s _ fa fc (m := 1) rfl] at hc
                exact hc.mono fun e w' ⟨r, h1, h2, h3⟩ => ⟨r, h1, h2, hid (by
                  have h4 : Row w' 3 1 r V.le.length (intsV (clmW (lendV V [⟨na, nb, 1 + m2, 8⟩]))) := h3.out
                  rw [HFR.out.2] at h4; exact h4)⟩)
              clear hf
              gi_upto_region 31 with (gi_at_call 19; ((with_reducible refine (HCL2.out).mono ?_); rintro e u15 ⟨gr, rfl, hx15, HRG⟩))
              obtain ⟨gra, grc, rfl⟩ := HRG.out.isSliceN
              have HX15 := hid (HX14.out.trans hx15)
              have HRD := hid (HRD.out.mono hx15)
              clear hx15 c0
              gi_wp2_with (first | (gi_at_call 17; first | ((with_reducible refine (HSA.out _ dra drc HRD.out HX15.out).mono ?_); rintro e u16 ⟨rfl, hx16⟩; have HX16 := hid (HX15.out.trans hx16); have HRG := hid (HRG.out.mono hx16); clear hx16) | ((with_reducible refine (HSA.out _ gra grc HRG.out HX16.out).mono ?_); rintro e u17 ⟨rfl, hx17⟩; have HX17 := hid (HX16.out.trans hx17); clear hx17)) | (gi_at_call 18; ((with_reducible refine (HWK.out _).mono ?_); rintro e wz ⟨rfl, hxz⟩; have HXZ := hid (HX17.out.trans hxz); clear hxz)))
              all_goals first | exact (undef_no' ‹_›).elim | (go_ret; exact ⟨rfl, HXw8.out.trans HXZ.out⟩)
            · have HCL2 : Hid (Cal 19 #[.agg ((fun y => #[.int .i64 V.gr, .slice s.ca V.cs.length s.cc, .int .i64 V.bo, .int .i64 V.ne, .int .i64 V.cr, .slice s.oa V.ow.length s.oc, .slice s.la V.le.length s.lc, .slice s.ha V.ha.length s.hc, y]) (.slice fa (V.lo.length + 1) fc))] u14 fun e w' => e = .returned (.tuple #[.slice none 0 0, .int .i64 31]) ∧ Ext u14 w') := hid (by
                have hc := Claims_bad _ _ u14 HAT.out (by rw [hf]; decide)
                rw [lend_cells V s _ fa fc (m := 1) rfl, hf] at hc
                exact hc)
              clear hf
              gi_upto_region 31 with (gi_at_call 19; ((with_reducible refine (HCL2.out).mono ?_); rintro e u15 ⟨rfl, hx15⟩))
              have HX15 := hid (HX14.out.trans hx15)
              have HRD := hid (HRD.out.mono hx15)
              clear hx15 c0
              gi_wp2_with (first | (gi_at_call 17; ((with_reducible refine (HSA.out _ dra drc HRD.out HX15.out).mono ?_); rintro e u16 ⟨rfl, hx16⟩; have HX16 := hid (HX15.out.trans hx16); clear hx16)) | (gi_at_call 18; ((with_reducible refine (HWK.out _).mono ?_); rintro e wz ⟨rfl, hxz⟩; have HXZ := hid (HX16.out.trans hxz); clear hxz)))
              all_goals first | exact (undef_no' ‹_›).elim | (go_ret; exact ⟨rfl, HXw8.out.trans HXZ.out⟩)
  · have hz : (voyE V == 0) = false := by simpa using hE
    have hz2 : (voyE V != 0) = true := by simpa using hE
    have HCL := hid (fun (u : World) (hu : Ext w u) => Claims_bad V s u (h.mono hu) hE)
    generalize voyE V = E at *
    clear h hE
    unfold voyA at *
    gi_enter Tryz.func10, Tryz.ntmps10
    gi_upto_region 1 with fail
    rw [← hwa]
    clear hwa
    generalize w.heap.size = bx at *
    have c0 := cell_of HB0.out
    gi_wp2_with (first | (gi_at_call 19; ((with_reducible refine (HCL.out _ HX0.out).mono ?_); rintro e w1 ⟨rfl, hx1⟩; have HX1 := hid (HX0.out.trans hx1); clear hx1)) | (gi_at_call 18; ((with_reducible refine (HWK.out _).mono ?_); rintro e w4 ⟨rfl, hx4⟩; have HX := hid (HX1.out.trans hx4); clear hx4)))
    go_ret
    exact ⟨rfl, HX.out⟩

end Go.Proofs.YtjocoadhalimjaaGreat
