/- Nights: whether a pair fouls, the first that does. -/
import Derived.Test.YtmjelgonhpgmbaaMF
set_option linter.unusedSimpArgs false
set_option linter.unusedVariables false
namespace Go.Proofs.Ytmjelgonhpgmbaa
open Go Go.RowKit Go.Shelf

def NightAt (W : World) (cb : Nat) (F : FleetD) (T : TruthD) (ev nv sv mv te tn ts tm : Value) : Prop :=
  IntsAt W te T.east ∧ IntsAt W tn T.north ∧ IntsAt W ts T.se ∧ IntsAt W tm T.sn ∧ W.heap[cb]? = some (.cells #[.func (.func 56) #[.agg #[ev, nv, .int .i64 F.gap, sv, mv, te, tn, ts, tm]] #[]] 121 (0, 0))
theorem NightAt.mono {W W' : World} {cb : Nat} {F : FleetD} {T : TruthD} {ev nv sv mv te tn ts tm : Value} (h : NightAt W cb F T ev nv sv mv te tn ts tm) (hx : Ext W W') : NightAt W' cb F T ev nv sv mv te tn ts tm :=
  ⟨h.1.mono hx, h.2.1.mono hx, h.2.2.1.mono hx, h.2.2.2.1.mono hx, hx.block h.2.2.2.2⟩

def only_eF (T : TruthD) (a b : NetD) (i k : Nat) (h : Int) : Spn := ⟨where_eF T a i h - where_eF T b k h, where_eF T a i h - where_eF T b k h⟩
set_option maxRecDepth 100000 in
set_option maxHeartbeats 4000000 in
theorem lying_e (F : FleetD) (hF : FleetOk F) (T : TruthD) (hT : TruthOk F T) (eb eo ec nb no nc cb : Nat) (sv mv te tn ts tm : Value) (a b : NetD) (i k : Nat) (ha : F.nets[i]? = some a) (hb : F.nets[k]? = some b) (h : Int) (hh : (a.shot ≤ h ∧ h ≤ a.haul) ∧ (b.shot ≤ h ∧ h ≤ b.haul)) (w : World) (hN : NightAt w cb F T (.slice (some ⟨eb, eo, none⟩) F.east.length ec) (.slice (some ⟨nb, no, none⟩) F.north.length nc) sv mv te tn ts tm) :
    Cal 82 #[.agg #[.int .i64 0, .func (.func 84) #[] #[], .func (.func 85) #[] #[], .func (.func 86) #[] #[], .func (.func 87) #[] #[]], .agg #[.int .i64 a.east, .int .i64 a.north, .int .i64 a.long, .int .i64 a.along, .int .i64 a.shot, .int .i64 a.haul, .int .i64 a.se.lo, .int .i64 a.se.hi, .int .i64 a.sn.lo, .int .i64 a.sn.hi, .int .i64 (i : Int), .int .i64 b.east, .int .i64 b.north, .int .i64 b.long, .int .i64 b.along, .int .i64 b.shot, .int .i64 b.haul, .int .i64 b.se.lo, .int .i64 b.se.hi, .int .i64 b.sn.lo, .int .i64 b.sn.hi, .int .i64 (k : Int)], .int .i64 h, .pointer (some ⟨cb, 0, none⟩)] w fun x w' => x = .returned (spnV (only_eF T a b i k h)) ∧ Ext w w' := by
  obtain ⟨hi, ha⟩ := List.getElem?_eq_some_iff.1 ha
  obtain ⟨hk, hb⟩ := List.getElem?_eq_some_iff.1 hb
  have h1 := where_e_in hF hT hi ha hh.1
  have h2 := where_e_in hF hT hk hb hh.2
  have HCA := hid (fun (u : World) (hu : Ext w u) => where_e F hF T hT eb eo ec nb no nc sv mv te tn ts tm a i hi ha h hh.1 u (hN.1.mono hu) (hN.2.1.mono hu) (hN.2.2.1.mono hu) (hN.2.2.2.1.mono hu))
  have HCB := hid (fun (u : World) (hu : Ext w u) => where_e F hF T hT eb eo ec nb no nc sv mv te tn ts tm b k hk hb h hh.2 u (hN.1.mono hu) (hN.2.1.mono hu) (hN.2.2.1.mono hu) (hN.2.2.2.1.mono hu))
  have HBC := hid (fun (u : World) (hu : Ext w u) => hu.block hN.2.2.2.2)
  unfold only_eF
  clear hN ha hb hi hk hh hT hF
  generalize where_eF T a i h = x1 at *
  generalize where_eF T b k h = x2 at *
  have HWR : Hid (IntKind.i64.wrap (x1 - x2) = x1 - x2) := by show IntKind.i64.wrap _ = _; rw [IntKind.wrap_i64]; omega
  gi_enter Try.func82, Try.ntmps82
  gi_upto_region 1 with fail
  have hW : Ext w (((w.alloc (.cells #[.int .i64 0, .func (.func 84) #[] #[], .func (.func 85) #[] #[], .func (.func 86) #[] #[], .func (.func 87) #[] #[]] 133)).alloc (.cells #[.int .i64 a.east, .int .i64 a.north, .int .i64 a.long, .int .i64 a.along, .int .i64 a.shot, .int .i64 a.haul, .int .i64 a.se.lo, .int .i64 a.se.hi, .int .i64 a.sn.lo, .int .i64 a.sn.hi, .int .i64 (i : Int), .int .i64 b.east, .int .i64 b.north, .int .i64 b.long, .int .i64 b.along, .int .i64 b.shot, .int .i64 b.haul, .int .i64 b.se.lo, .int .i64 b.se.hi, .int .i64 b.sn.lo, .int .i64 b.sn.hi, .int .i64 (k : Int)] 127)).alloc (.cells #[.int .i64 0, .int .i64 0] 56)) := (((Ext.refl _).alloc _).alloc _).alloc _
  have hW0 : (((w.alloc (.cells #[.int .i64 0, .func (.func 84) #[] #[], .func (.func 85) #[] #[], .func (.func 86) #[] #[], .func (.func 87) #[] #[]] 133)).alloc (.cells #[.int .i64 a.east, .int .i64 a.north, .int .i64 a.long, .int .i64 a.along, .int .i64 a.shot, .int .i64 a.haul, .int .i64 a.se.lo, .int .i64 a.se.hi, .int .i64 a.sn.lo, .int .i64 a.sn.hi, .int .i64 (i : Int), .int .i64 b.east, .int .i64 b.north, .int .i64 b.long, .int .i64 b.along, .int .i64 b.shot, .int .i64 b.haul, .int .i64 b.se.lo, .int .i64 b.se.hi, .int .i64 b.sn.lo, .int .i64 b.sn.hi, .int .i64 (k : Int)] 127)).alloc (.cells #[.int .i64 0, .int .i64 0] 56)).heap[w.heap.size]? = some (.cells #[.int .i64 0, .func (.func 84) #[] #[], .func (.func 85) #[] #[], .func (.func 86) #[] #[], .func (.func 87) #[] #[]] 133 (0, 0)) := by simp only [alloc_at, World.size_alloc]; (repeat rw [if_neg (by omega)]); first | rfl | rw [if_pos (by omega)] | rw [if_pos trivial]
  have hW1 : (((w.alloc (.cells #[.int .i64 0, .func (.func 84) #[] #[], .func (.func 85) #[] #[], .func (.func 86) #[] #[], .func (.func 87) #[] #[]] 133)).alloc (.cells #[.int .i64 a.east, .int .i64 a.north, .int .i64 a.long, .int .i64 a.along, .int .i64 a.shot, .int .i64 a.haul, .int .i64 a.se.lo, .int .i64 a.se.hi, .int .i64 a.sn.lo, .int .i64 a.sn.hi, .int .i64 (i : Int), .int .i64 b.east, .int .i64 b.north, .int .i64 b.long, .int .i64 b.along, .int .i64 b.shot, .int .i64 b.haul, .int .i64 b.se.lo, .int .i64 b.se.hi, .int .i64 b.sn.lo, .int .i64 b.sn.hi, .int .i64 (k : Int)] 127)).alloc (.cells #[.int .i64 0, .int .i64 0] 56)).heap[w.heap.size + 1]? = some (.cells #[.int .i64 a.east, .int .i64 a.north, .int .i64 a.long, .int .i64 a.along, .int .i64 a.shot, .int .i64 a.haul, .int .i64 a.se.lo, .int .i64 a.se.hi, .int .i64 a.sn.lo, .int .i64 a.sn.hi, .int .i64 (i : Int), .int .i64 b.east, .int .i64 b.north, .int .i64 b.long, .int .i64 b.along, .int .i64 b.shot, .int .i64 b.haul, .int .i64 b.se.lo, .int .i64 b.se.hi, .int .i64 b.sn.lo, .int .i64 b.sn.hi, .int .i64 (k : Int)] 127 (0, 0)) := by simp only [alloc_at, World.size_alloc]; (repeat rw [if_neg (by omega)]); first | rfl | rw [if_pos (by omega)] | rw [if_pos trivial]
  have hW2 : (((w.alloc (.cells #[.int .i64 0, .func (.func 84) #[] #[], .func (.func 85) #[] #[], .func (.func 86) #[] #[], .func (.func 87) #[] #[]] 133)).alloc (.cells #[.int .i64 a.east, .int .i64 a.north, .int .i64 a.long, .int .i64 a.along, .int .i64 a.shot, .int .i64 a.haul, .int .i64 a.se.lo, .int .i64 a.se.hi, .int .i64 a.sn.lo, .int .i64 a.sn.hi, .int .i64 (i : Int), .int .i64 b.east, .int .i64 b.north, .int .i64 b.long, .int .i64 b.along, .int .i64 b.shot, .int .i64 b.haul, .int .i64 b.se.lo, .int .i64 b.se.hi, .int .i64 b.sn.lo, .int .i64 b.sn.hi, .int .i64 (k : Int)] 127)).alloc (.cells #[.int .i64 0, .int .i64 0] 56)).heap[w.heap.size + 1 + 1]? = some (.cells #[.int .i64 0, .int .i64 0] 56 (0, 0)) := by simp only [alloc_at, World.size_alloc]; (repeat rw [if_neg (by omega)]); first | rfl | rw [if_pos (by omega)] | rw [if_pos trivial]
  generalize ((w.alloc (.cells #[.int .i64 0, .func (.func 84) #[] #[], .func (.func 85) #[] #[], .func (.func 86) #[] #[], .func (.func 87) #[] #[]] 133)).alloc (.cells #[.int .i64 a.east, .int .i64 a.north, .int .i64 a.long, .int .i64 a.along, .int .i64 a.shot, .int .i64 a.haul, .int .i64 a.se.lo, .int .i64 a.se.hi, .int .i64 a.sn.lo, .int .i64 a.sn.hi, .int .i64 (i : Int), .int .i64 b.east, .int .i64 b.north, .int .i64 b.long, .int .i64 b.along, .int .i64 b.shot, .int .i64 b.haul, .int .i64 b.se.lo, .int .i64 b.se.hi, .int .i64 b.sn.lo, .int .i64 b.sn.hi, .int .i64 (k : Int)] 127)).alloc (.cells #[.int .i64 0, .int .i64 0] 56) = W at *
  have HB0 := hid hW0
  have HB1 := hid hW1
  have HB2 := hid hW2
  have HX := hid hW
  clear hW hW0 hW1 hW2
  refine lex_wide 14 [] (by kernel_rfl) (by kernel_rfl) (nStab_nil) ?_
  simp only [List.take_succ_cons, List.take_zero, List.drop_succ_cons, List.drop_zero]
  apply lex_fun (rfl : psAt _ _ = none)
  · intro x u hR hf
    have c9 := cell_of (HBC.out u (HX.out.trans hR))
    clear hR hf
    go_simp
    exact ⟨rfl, Ext.refl _⟩
  simp only [Act.put, List.setIfInBounds_toArray, List.set_cons_succ, List.set_cons_zero]
  apply lex_fun (rfl : psAt _ _ = none)
  · intro x u hR hf
    have c0 := cell_of (hR.block HB0.out)
    clear hR hf
    go_simp
    exact ⟨rfl, Ext.refl _⟩
  simp only [Act.put, List.setIfInBounds_toArray, List.set_cons_succ, List.set_cons_zero]
  apply lex_fun (rfl : psAt _ _ = none)
  · intro x u hR hf
    clear hR hf
    go_simp
    exact ⟨rfl, Ext.refl _⟩
  simp only [Act.put, List.setIfInBounds_toArray, List.set_cons_succ, List.set_cons_zero]
  apply lex_fun (rfl : psAt _ _ = none)
  · intro x u hR hf
    have c1 := cell_of (hR.block HB1.out)
    clear hR hf
    go_simp
    exact ⟨rfl, Ext.refl _⟩
  simp only [Act.put, List.setIfInBounds_toArray, List.set_cons_succ, List.set_cons_zero]
  apply lex_fun (rfl : psAt _ _ = none)
  · intro x u hR hf
    clear hR hf
    go_simp
    exact ⟨rfl, Ext.refl _⟩
  simp only [Act.put, List.setIfInBounds_toArray, List.set_cons_succ, List.set_cons_zero]
  refine lex_fun (v := .int .i64 x1) (rfl : psAt _ _ = none) ?_ ?_
  · intro x u hR hf
    have hcal := hid (HCA.out u (HX.out.trans hR))
    clear hR hf
    go_simp
    exact hcal.out.mono fun e w'' ⟨he, hx'⟩ => ⟨_, he, rfl, hx'⟩
  simp only [Act.put, List.setIfInBounds_toArray, List.set_cons_succ, List.set_cons_zero]
  apply lex_fun (rfl : psAt _ _ = none)
  · intro x u hR hf
    have c9 := cell_of (HBC.out u (HX.out.trans hR))
    clear hR hf
    go_simp
    exact ⟨rfl, Ext.refl _⟩
  simp only [Act.put, List.setIfInBounds_toArray, List.set_cons_succ, List.set_cons_zero]
  apply lex_fun (rfl : psAt _ _ = none)
  · intro x u hR hf
    have c0 := cell_of (hR.block HB0.out)
    clear hR hf
    go_simp
    exact ⟨rfl, Ext.refl _⟩
  simp only [Act.put, List.setIfInBounds_toArray, List.set_cons_succ, List.set_cons_zero]
  apply lex_fun (rfl : psAt _ _ = none)
  · intro x u hR hf
    clear hR hf
    go_simp
    exact ⟨rfl, Ext.refl _⟩
  simp only [Act.put, List.setIfInBounds_toArray, List.set_cons_succ, List.set_cons_zero]
  apply lex_fun (rfl : psAt _ _ = none)
  · intro x u hR hf
    have c1 := cell_of (hR.block HB1.out)
    clear hR hf
    go_simp
    exact ⟨rfl, Ext.refl _⟩
  simp only [Act.put, List.setIfInBounds_toArray, List.set_cons_succ, List.set_cons_zero]
  apply lex_fun (rfl : psAt _ _ = none)
  · intro x u hR hf
    clear hR hf
    go_simp
    exact ⟨rfl, Ext.refl _⟩
  simp only [Act.put, List.setIfInBounds_toArray, List.set_cons_succ, List.set_cons_zero]
  refine lex_fun (v := .int .i64 x2) (rfl : psAt _ _ = none) ?_ ?_
  · intro x u hR hf
    have hcal := hid (HCB.out u (HX.out.trans hR))
    clear hR hf
    go_simp
    exact hcal.out.mono fun e w'' ⟨he, hx'⟩ => ⟨_, he, rfl, hx'⟩
  simp only [Act.put, List.setIfInBounds_toArray, List.set_cons_succ, List.set_cons_zero]
  refine lex_fun (v := .int .i64 (x1 - x2)) (rfl : psAt _ _ = none) ?_ ?_
  · intro x u hR hf
    clear hR hf
    go_simp
    exact ⟨by simp [HWR.out], Ext.refl _⟩
  simp only [Act.put, List.setIfInBounds_toArray, List.set_cons_succ, List.set_cons_zero]
  refine lex_fun (v := spnV ⟨x1 - x2, x1 - x2⟩) (rfl : psAt _ _ = none) ?_ ?_
  · intro x u hR hf
    have hcal := hid (only_any (x1 - x2) u)
    clear hR hf
    go_simp
    exact hcal.out.mono fun e w'' ⟨he, hx'⟩ => ⟨_, he, rfl, hx'⟩
  simp only [Act.put, List.setIfInBounds_toArray, List.set_cons_succ, List.set_cons_zero]
  refine lex_nil fun x w6 hE hfacts => ?_
  clear hfacts x
  have hc := cell_of (hE.block HB2.out)
  have hf := free_of (hE.block HB2.out)
  simp only [spnV]
  gi_wp2
  refine bodyPost_ret (v := .agg #[.int .i64 (x1 - x2), .int .i64 (x1 - x2)]) (by simp [results, Try.results82, go_sem, hc]) rfl ⟨rfl, ?_⟩
  exact ((HX.out.trans hE).set (by omega) _ _).set (by omega) _ _

def only_nF (T : TruthD) (a b : NetD) (i k : Nat) (h : Int) : Spn := ⟨where_nF T a i h - where_nF T b k h, where_nF T a i h - where_nF T b k h⟩
set_option maxRecDepth 100000 in
set_option maxHeartbeats 4000000 in
theorem lying_n (F : FleetD) (hF : FleetOk F) (T : TruthD) (hT : TruthOk F T) (eb eo ec nb no nc cb : Nat) (sv mv te tn ts tm : Value) (a b : NetD) (i k : Nat) (ha : F.nets[i]? = some a) (hb : F.nets[k]? = some b) (h : Int) (hh : (a.shot ≤ h ∧ h ≤ a.haul) ∧ (b.shot ≤ h ∧ h ≤ b.haul)) (w : World) (hN : NightAt w cb F T (.slice (some ⟨eb, eo, none⟩) F.east.length ec) (.slice (some ⟨nb, no, none⟩) F.north.length nc) sv mv te tn ts tm) :
    Cal 82 #[.agg #[.int .i64 1, .func (.func 88) #[] #[], .func (.func 89) #[] #[], .func (.func 90) #[] #[], .func (.func 91) #[] #[]], .agg #[.int .i64 a.east, .int .i64 a.north, .int .i64 a.long, .int .i64 a.along, .int .i64 a.shot, .int .i64 a.haul, .int .i64 a.se.lo, .int .i64 a.se.hi, .int .i64 a.sn.lo, .int .i64 a.sn.hi, .int .i64 (i : Int), .int .i64 b.east, .int .i64 b.north, .int .i64 b.long, .int .i64 b.along, .int .i64 b.shot, .int .i64 b.haul, .int .i64 b.se.lo, .int .i64 b.se.hi, .int .i64 b.sn.lo, .int .i64 b.sn.hi, .int .i64 (k : Int)], .int .i64 h, .pointer (some ⟨cb, 0, none⟩)] w fun x w' => x = .returned (spnV (only_nF T a b i k h)) ∧ Ext w w' := by
  obtain ⟨hi, ha⟩ := List.getElem?_eq_some_iff.1 ha
  obtain ⟨hk, hb⟩ := List.getElem?_eq_some_iff.1 hb
  have h1 := where_n_in hF hT hi ha hh.1
  have h2 := where_n_in hF hT hk hb hh.2
  have HCA := hid (fun (u : World) (hu : Ext w u) => where_n F hF T hT eb eo ec nb no nc sv mv te tn ts tm a i hi ha h hh.1 u (hN.1.mono hu) (hN.2.1.mono hu) (hN.2.2.1.mono hu) (hN.2.2.2.1.mono hu))
  have HCB := hid (fun (u : World) (hu : Ext w u) => where_n F hF T hT eb eo ec nb no nc sv mv te tn ts tm b k hk hb h hh.2 u (hN.1.mono hu) (hN.2.1.mono hu) (hN.2.2.1.mono hu) (hN.2.2.2.1.mono hu))
  have HBC := hid (fun (u : World) (hu : Ext w u) => hu.block hN.2.2.2.2)
  unfold only_nF
  clear hN ha hb hi hk hh hT hF
  generalize where_nF T a i h = x1 at *
  generalize where_nF T b k h = x2 at *
  have HWR : Hid (IntKind.i64.wrap (x1 - x2) = x1 - x2) := by show IntKind.i64.wrap _ = _; rw [IntKind.wrap_i64]; omega
  gi_enter Try.func82, Try.ntmps82
  gi_upto_region 1 with fail
  have hW : Ext w (((w.alloc (.cells #[.int .i64 1, .func (.func 88) #[] #[], .func (.func 89) #[] #[], .func (.func 90) #[] #[], .func (.func 91) #[] #[]] 133)).alloc (.cells #[.int .i64 a.east, .int .i64 a.north, .int .i64 a.long, .int .i64 a.along, .int .i64 a.shot, .int .i64 a.haul, .int .i64 a.se.lo, .int .i64 a.se.hi, .int .i64 a.sn.lo, .int .i64 a.sn.hi, .int .i64 (i : Int), .int .i64 b.east, .int .i64 b.north, .int .i64 b.long, .int .i64 b.along, .int .i64 b.shot, .int .i64 b.haul, .int .i64 b.se.lo, .int .i64 b.se.hi, .int .i64 b.sn.lo, .int .i64 b.sn.hi, .int .i64 (k : Int)] 127)).alloc (.cells #[.int .i64 0, .int .i64 0] 56)) := (((Ext.refl _).alloc _).alloc _).alloc _
  have hW0 : (((w.alloc (.cells #[.int .i64 1, .func (.func 88) #[] #[], .func (.func 89) #[] #[], .func (.func 90) #[] #[], .func (.func 91) #[] #[]] 133)).alloc (.cells #[.int .i64 a.east, .int .i64 a.north, .int .i64 a.long, .int .i64 a.along, .int .i64 a.shot, .int .i64 a.haul, .int .i64 a.se.lo, .int .i64 a.se.hi, .int .i64 a.sn.lo, .int .i64 a.sn.hi, .int .i64 (i : Int), .int .i64 b.east, .int .i64 b.north, .int .i64 b.long, .int .i64 b.along, .int .i64 b.shot, .int .i64 b.haul, .int .i64 b.se.lo, .int .i64 b.se.hi, .int .i64 b.sn.lo, .int .i64 b.sn.hi, .int .i64 (k : Int)] 127)).alloc (.cells #[.int .i64 0, .int .i64 0] 56)).heap[w.heap.size]? = some (.cells #[.int .i64 1, .func (.func 88) #[] #[], .func (.func 89) #[] #[], .func (.func 90) #[] #[], .func (.func 91) #[] #[]] 133 (0, 0)) := by simp only [alloc_at, World.size_alloc]; (repeat rw [if_neg (by omega)]); first | rfl | rw [if_pos (by omega)] | rw [if_pos trivial]
  have hW1 : (((w.alloc (.cells #[.int .i64 1, .func (.func 88) #[] #[], .func (.func 89) #[] #[], .func (.func 90) #[] #[], .func (.func 91) #[] #[]] 133)).alloc (.cells #[.int .i64 a.east, .int .i64 a.north, .int .i64 a.long, .int .i64 a.along, .int .i64 a.shot, .int .i64 a.haul, .int .i64 a.se.lo, .int .i64 a.se.hi, .int .i64 a.sn.lo, .int .i64 a.sn.hi, .int .i64 (i : Int), .int .i64 b.east, .int .i64 b.north, .int .i64 b.long, .int .i64 b.along, .int .i64 b.shot, .int .i64 b.haul, .int .i64 b.se.lo, .int .i64 b.se.hi, .int .i64 b.sn.lo, .int .i64 b.sn.hi, .int .i64 (k : Int)] 127)).alloc (.cells #[.int .i64 0, .int .i64 0] 56)).heap[w.heap.size + 1]? = some (.cells #[.int .i64 a.east, .int .i64 a.north, .int .i64 a.long, .int .i64 a.along, .int .i64 a.shot, .int .i64 a.haul, .int .i64 a.se.lo, .int .i64 a.se.hi, .int .i64 a.sn.lo, .int .i64 a.sn.hi, .int .i64 (i : Int), .int .i64 b.east, .int .i64 b.north, .int .i64 b.long, .int .i64 b.along, .int .i64 b.shot, .int .i64 b.haul, .int .i64 b.se.lo, .int .i64 b.se.hi, .int .i64 b.sn.lo, .int .i64 b.sn.hi, .int .i64 (k : Int)] 127 (0, 0)) := by simp only [alloc_at, World.size_alloc]; (repeat rw [if_neg (by omega)]); first | rfl | rw [if_pos (by omega)] | rw [if_pos trivial]
  have hW2 : (((w.alloc (.cells #[.int .i64 1, .func (.func 88) #[] #[], .func (.func 89) #[] #[], .func (.func 90) #[] #[], .func (.func 91) #[] #[]] 133)).alloc (.cells #[.int .i64 a.east, .int .i64 a.north, .int .i64 a.long, .int .i64 a.along, .int .i64 a.shot, .int .i64 a.haul, .int .i64 a.se.lo, .int .i64 a.se.hi, .int .i64 a.sn.lo, .int .i64 a.sn.hi, .int .i64 (i : Int), .int .i64 b.east, .int .i64 b.north, .int .i64 b.long, .int .i64 b.along, .int .i64 b.shot, .int .i64 b.haul, .int .i64 b.se.lo, .int .i64 b.se.hi, .int .i64 b.sn.lo, .int .i64 b.sn.hi, .int .i64 (k : Int)] 127)).alloc (.cells #[.int .i64 0, .int .i64 0] 56)).heap[w.heap.size + 1 + 1]? = some (.cells #[.int .i64 0, .int .i64 0] 56 (0, 0)) := by simp only [alloc_at, World.size_alloc]; (repeat rw [if_neg (by omega)]); first | rfl | rw [if_pos (by omega)] | rw [if_pos trivial]
  generalize ((w.alloc (.cells #[.int .i64 1, .func (.func 88) #[] #[], .func (.func 89) #[] #[], .func (.func 90) #[] #[], .func (.func 91) #[] #[]] 133)).alloc (.cells #[.int .i64 a.east, .int .i64 a.north, .int .i64 a.long, .int .i64 a.along, .int .i64 a.shot, .int .i64 a.haul, .int .i64 a.se.lo, .int .i64 a.se.hi, .int .i64 a.sn.lo, .int .i64 a.sn.hi, .int .i64 (i : Int), .int .i64 b.east, .int .i64 b.north, .int .i64 b.long, .int .i64 b.along, .int .i64 b.shot, .int .i64 b.haul, .int .i64 b.se.lo, .int .i64 b.se.hi, .int .i64 b.sn.lo, .int .i64 b.sn.hi, .int .i64 (k : Int)] 127)).alloc (.cells #[.int .i64 0, .int .i64 0] 56) = W at *
  have HB0 := hid hW0
  have HB1 := hid hW1
  have HB2 := hid hW2
  have HX := hid hW
  clear hW hW0 hW1 hW2
  refine lex_wide 14 [] (by kernel_rfl) (by kernel_rfl) (nStab_nil) ?_
  simp only [List.take_succ_cons, List.take_zero, List.drop_succ_cons, List.drop_zero]
  apply lex_fun (rfl : psAt _ _ = none)
  · intro x u hR hf
    have c9 := cell_of (HBC.out u (HX.out.trans hR))
    clear hR hf
    go_simp
    exact ⟨rfl, Ext.refl _⟩
  simp only [Act.put, List.setIfInBounds_toArray, List.set_cons_succ, List.set_cons_zero]
  apply lex_fun (rfl : psAt _ _ = none)
  · intro x u hR hf
    have c0 := cell_of (hR.block HB0.out)
    clear hR hf
    go_simp
    exact ⟨rfl, Ext.refl _⟩
  simp only [Act.put, List.setIfInBounds_toArray, List.set_cons_succ, List.set_cons_zero]
  apply lex_fun (rfl : psAt _ _ = none)
  · intro x u hR hf
    clear hR hf
    go_simp
    exact ⟨rfl, Ext.refl _⟩
  simp only [Act.put, List.setIfInBounds_toArray, List.set_cons_succ, List.set_cons_zero]
  apply lex_fun (rfl : psAt _ _ = none)
  · intro x u hR hf
    have c1 := cell_of (hR.block HB1.out)
    clear hR hf
    go_simp
    exact ⟨rfl, Ext.refl _⟩
  simp only [Act.put, List.setIfInBounds_toArray, List.set_cons_succ, List.set_cons_zero]
  apply lex_fun (rfl : psAt _ _ = none)
  · intro x u hR hf
    clear hR hf
    go_simp
    exact ⟨rfl, Ext.refl _⟩
  simp only [Act.put, List.setIfInBounds_toArray, List.set_cons_succ, List.set_cons_zero]
  refine lex_fun (v := .int .i64 x1) (rfl : psAt _ _ = none) ?_ ?_
  · intro x u hR hf
    have hcal := hid (HCA.out u (HX.out.trans hR))
    clear hR hf
    go_simp
    exact hcal.out.mono fun e w'' ⟨he, hx'⟩ => ⟨_, he, rfl, hx'⟩
  simp only [Act.put, List.setIfInBounds_toArray, List.set_cons_succ, List.set_cons_zero]
  apply lex_fun (rfl : psAt _ _ = none)
  · intro x u hR hf
    have c9 := cell_of (HBC.out u (HX.out.trans hR))
    clear hR hf
    go_simp
    exact ⟨rfl, Ext.refl _⟩
  simp only [Act.put, List.setIfInBounds_toArray, List.set_cons_succ, List.set_cons_zero]
  apply lex_fun (rfl : psAt _ _ = none)
  · intro x u hR hf
    have c0 := cell_of (hR.block HB0.out)
    clear hR hf
    go_simp
    exact ⟨rfl, Ext.refl _⟩
  simp only [Act.put, List.setIfInBounds_toArray, List.set_cons_succ, List.set_cons_zero]
  apply lex_fun (rfl : psAt _ _ = none)
  · intro x u hR hf
    clear hR hf
    go_simp
    exact ⟨rfl, Ext.refl _⟩
  simp only [Act.put, List.setIfInBounds_toArray, List.set_cons_succ, List.set_cons_zero]
  apply lex_fun (rfl : psAt _ _ = none)
  · intro x u hR hf
    have c1 := cell_of (hR.block HB1.out)
    clear hR hf
    go_simp
    exact ⟨rfl, Ext.refl _⟩
  simp only [Act.put, List.setIfInBounds_toArray, List.set_cons_succ, List.set_cons_zero]
  apply lex_fun (rfl : psAt _ _ = none)
  · intro x u hR hf
    clear hR hf
    go_simp
    exact ⟨rfl, Ext.refl _⟩
  simp only [Act.put, List.setIfInBounds_toArray, List.set_cons_succ, List.set_cons_zero]
  refine lex_fun (v := .int .i64 x2) (rfl : psAt _ _ = none) ?_ ?_
  · intro x u hR hf
    have hcal := hid (HCB.out u (HX.out.trans hR))
    clear hR hf
    go_simp
    exact hcal.out.mono fun e w'' ⟨he, hx'⟩ => ⟨_, he, rfl, hx'⟩
  simp only [Act.put, List.setIfInBounds_toArray, List.set_cons_succ, List.set_cons_zero]
  refine lex_fun (v := .int .i64 (x1 - x2)) (rfl : psAt _ _ = none) ?_ ?_
  · intro x u hR hf
    clear hR hf
    go_simp
    exact ⟨by simp [HWR.out], Ext.refl _⟩
  simp only [Act.put, List.setIfInBounds_toArray, List.set_cons_succ, List.set_cons_zero]
  refine lex_fun (v := spnV ⟨x1 - x2, x1 - x2⟩) (rfl : psAt _ _ = none) ?_ ?_
  · intro x u hR hf
    have hcal := hid (only_any (x1 - x2) u)
    clear hR hf
    go_simp
    exact hcal.out.mono fun e w'' ⟨he, hx'⟩ => ⟨_, he, rfl, hx'⟩
  simp only [Act.put, List.setIfInBounds_toArray, List.set_cons_succ, List.set_cons_zero]
  refine lex_nil fun x w6 hE hfacts => ?_
  clear hfacts x
  have hc := cell_of (hE.block HB2.out)
  have hf := free_of (hE.block HB2.out)
  simp only [spnV]
  gi_wp2
  refine bodyPost_ret (v := .agg #[.int .i64 (x1 - x2), .int .i64 (x1 - x2)]) (by simp [results, Try.results82, go_sem, hc]) rfl ⟨rfl, ?_⟩
  exact ((HX.out.trans hE).set (by omega) _ _).set (by omega) _ _

def foulsL (F : FleetD) (T : TruthD) (a b : NetD) (i k : Nat) (h : Int) : Bool := meetS (only_eF T a b i k h) (near_eF a b F.gap) && meetS (only_nF T a b i k h) (near_nF a b F.gap)
set_option maxRecDepth 100000 in
set_option maxHeartbeats 4000000 in
theorem fouls_lie (F : FleetD) (hF : FleetOk F) (T : TruthD) (hT : TruthOk F T) (eb eo ec nb no nc cb : Nat) (sv mv te tn ts tm : Value) (a b : NetD) (i k : Nat) (ha : F.nets[i]? = some a) (hb : F.nets[k]? = some b) (h : Int) (hh : (a.shot ≤ h ∧ h ≤ a.haul) ∧ (b.shot ≤ h ∧ h ≤ b.haul)) (w : World) (hN : NightAt w cb F T (.slice (some ⟨eb, eo, none⟩) F.east.length ec) (.slice (some ⟨nb, no, none⟩) F.north.length nc) sv mv te tn ts tm) :
    Cal 74 #[.agg #[.slice (some ⟨eb, eo, none⟩) F.east.length ec, .slice (some ⟨nb, no, none⟩) F.north.length nc, .int .i64 F.gap, sv, mv], .agg #[.int .i64 a.east, .int .i64 a.north, .int .i64 a.long, .int .i64 a.along, .int .i64 a.shot, .int .i64 a.haul, .int .i64 a.se.lo, .int .i64 a.se.hi, .int .i64 a.sn.lo, .int .i64 a.sn.hi, .int .i64 i, .int .i64 b.east, .int .i64 b.north, .int .i64 b.long, .int .i64 b.along, .int .i64 b.shot, .int .i64 b.haul, .int .i64 b.se.lo, .int .i64 b.se.hi, .int .i64 b.sn.lo, .int .i64 b.sn.hi, .int .i64 k], .int .i64 h, .func (.func 82) #[] #[.pointer (some ⟨cb, 0, none⟩)]] w fun x w' => x = .returned (.bool (foulsL F T a b i k h)) ∧ Ext w w' := by
  have ha' := hF.nets _ (List.mem_of_getElem? ha)
  have hb' := hF.nets _ (List.mem_of_getElem? hb)
  have HA := hid ha'
  have HBN := hid hb'
  have HF := hid hF
  have HH := hid hh
  have HNI := hid hN
  have HT := hid hT
  have HI := hid (And.intro ha hb)
  clear hN hT
  clear ha hb hh hF ha' hb'
  gi_enter Try.func74, Try.ntmps74
  gi_upto_region 1 with fail
  have hW : Ext w ((w.alloc (.cells #[.slice (some ⟨eb, eo, none⟩) F.east.length ec, .slice (some ⟨nb, no, none⟩) F.north.length nc, .int .i64 F.gap, sv, mv] 108)).alloc (.cells #[.int .i64 a.east, .int .i64 a.north, .int .i64 a.long, .int .i64 a.along, .int .i64 a.shot, .int .i64 a.haul, .int .i64 a.se.lo, .int .i64 a.se.hi, .int .i64 a.sn.lo, .int .i64 a.sn.hi, .int .i64 i, .int .i64 b.east, .int .i64 b.north, .int .i64 b.long, .int .i64 b.along, .int .i64 b.shot, .int .i64 b.haul, .int .i64 b.se.lo, .int .i64 b.se.hi, .int .i64 b.sn.lo, .int .i64 b.sn.hi, .int .i64 k] 127)) := ((Ext.refl _).alloc _).alloc _
  have hW0 : ((w.alloc (.cells #[.slice (some ⟨eb, eo, none⟩) F.east.length ec, .slice (some ⟨nb, no, none⟩) F.north.length nc, .int .i64 F.gap, sv, mv] 108)).alloc (.cells #[.int .i64 a.east, .int .i64 a.north, .int .i64 a.long, .int .i64 a.along, .int .i64 a.shot, .int .i64 a.haul, .int .i64 a.se.lo, .int .i64 a.se.hi, .int .i64 a.sn.lo, .int .i64 a.sn.hi, .int .i64 i, .int .i64 b.east, .int .i64 b.north, .int .i64 b.long, .int .i64 b.along, .int .i64 b.shot, .int .i64 b.haul, .int .i64 b.se.lo, .int .i64 b.se.hi, .int .i64 b.sn.lo, .int .i64 b.sn.hi, .int .i64 k] 127)).heap[w.heap.size]? = some (.cells #[.slice (some ⟨eb, eo, none⟩) F.east.length ec, .slice (some ⟨nb, no, none⟩) F.north.length nc, .int .i64 F.gap, sv, mv] 108 (0, 0)) := by simp only [alloc_at, World.size_alloc]; (repeat rw [if_neg (by omega)]); first | rfl | rw [if_pos (by omega)] | rw [if_pos trivial]
  have hW1 : ((w.alloc (.cells #[.slice (some ⟨eb, eo, none⟩) F.east.length ec, .slice (some ⟨nb, no, none⟩) F.north.length nc, .int .i64 F.gap, sv, mv] 108)).alloc (.cells #[.int .i64 a.east, .int .i64 a.north, .int .i64 a.long, .int .i64 a.along, .int .i64 a.shot, .int .i64 a.haul, .int .i64 a.se.lo, .int .i64 a.se.hi, .int .i64 a.sn.lo, .int .i64 a.sn.hi, .int .i64 i, .int .i64 b.east, .int .i64 b.north, .int .i64 b.long, .int .i64 b.along, .int .i64 b.shot, .int .i64 b.haul, .int .i64 b.se.lo, .int .i64 b.se.hi, .int .i64 b.sn.lo, .int .i64 b.sn.hi, .int .i64 k] 127)).heap[w.heap.size + 1]? = some (.cells #[.int .i64 a.east, .int .i64 a.north, .int .i64 a.long, .int .i64 a.along, .int .i64 a.shot, .int .i64 a.haul, .int .i64 a.se.lo, .int .i64 a.se.hi, .int .i64 a.sn.lo, .int .i64 a.sn.hi, .int .i64 i, .int .i64 b.east, .int .i64 b.north, .int .i64 b.long, .int .i64 b.along, .int .i64 b.shot, .int .i64 b.haul, .int .i64 b.se.lo, .int .i64 b.se.hi, .int .i64 b.sn.lo, .int .i64 b.sn.hi, .int .i64 k] 127 (0, 0)) := by simp only [alloc_at, World.size_alloc]; (repeat rw [if_neg (by omega)]); first | rfl | rw [if_pos (by omega)] | rw [if_pos trivial]
  generalize (w.alloc (.cells #[.slice (some ⟨eb, eo, none⟩) F.east.length ec, .slice (some ⟨nb, no, none⟩) F.north.length nc, .int .i64 F.gap, sv, mv] 108)).alloc (.cells #[.int .i64 a.east, .int .i64 a.north, .int .i64 a.long, .int .i64 a.along, .int .i64 a.shot, .int .i64 a.haul, .int .i64 a.se.lo, .int .i64 a.se.hi, .int .i64 a.sn.lo, .int .i64 a.sn.hi, .int .i64 i, .int .i64 b.east, .int .i64 b.north, .int .i64 b.long, .int .i64 b.along, .int .i64 b.shot, .int .i64 b.haul, .int .i64 b.se.lo, .int .i64 b.se.hi, .int .i64 b.sn.lo, .int .i64 b.sn.hi, .int .i64 k] 127) = W at *
  have HB0 := hid hW0
  have HB1 := hid hW1
  have HW := hid hW
  clear hW hW0 hW1
  gi_wp2_with (gi_at_call 79; ((with_reducible refine (sides_any _).mono ?_); rintro e w1 ⟨rfl, hx1⟩))
  have HB0 := hid (hx1.block HB0.out)
  have HB1 := hid (hx1.block HB1.out)
  have HW := hid (HW.out.trans hx1)
  clear hx1
  gi_loopw [12] (fun j wr => ∃ m : Nat, m ≤ 2 ∧ j = .int .i64 m ∧ Hid (Ext w1 wr ∧ (1 ≤ m → meetS (only_eF T a b i k h) (near_eF a b F.gap) = true) ∧ (2 ≤ m → meetS (only_nF T a b i k h) (near_nF a b F.gap) = true))) (fun j _ => 2 - (intOf j).toNat)
  case atStart => exact ⟨0, by omega, rfl, Ext.refl _, fun h => absurd h (by omega), fun h => absurd h (by omega)⟩
  case round =>
    obtain ⟨m, hm, rfl, HI2⟩ := hrel
    rcases (by omega : m = 0 ∨ m = 1 ∨ m = 2) with rfl | rfl | rfl
    · have hxs : Ext wr (wr.alloc (.cells #[.int .i64 0, .func (.func 84) #[] #[], .func (.func 85) #[] #[], .func (.func 86) #[] #[], .func (.func 87) #[] #[]] 133)) := (Ext.refl _).alloc _
      have hbs : (wr.alloc (.cells #[.int .i64 0, .func (.func 84) #[] #[], .func (.func 85) #[] #[], .func (.func 86) #[] #[], .func (.func 87) #[] #[]] 133)).heap[wr.heap.size]? = some (.cells #[.int .i64 0, .func (.func 84) #[] #[], .func (.func 85) #[] #[], .func (.func 86) #[] #[], .func (.func 87) #[] #[]] 133 (0, 0)) := Ext.new (Ext.refl _)
      have hix := index_0 (.int .i64 0) (.func (.func 84) #[] #[]) (.func (.func 85) #[] #[]) (.func (.func 86) #[] #[]) (.func (.func 87) #[] #[]) (.int .i64 1) (.func (.func 88) #[] #[]) (.func (.func 89) #[] #[]) (.func (.func 90) #[] #[]) (.func (.func 91) #[] #[]) wr
      gi_upto_region 4 with fail
      clear hix
      have HBS := hid hbs
      have HX1 := hid (HI2.out.1.trans hxs)
      have HX := hid (HW.out.trans HX1.out)
      have HC0 := hid (HX1.out.block HB0.out)
      have HC1 := hid (HX1.out.block HB1.out)
      clear hxs hbs
      generalize wr.alloc (.cells #[.int .i64 0, .func (.func 84) #[] #[], .func (.func 85) #[] #[], .func (.func 86) #[] #[], .func (.func 87) #[] #[]] 133) = W3 at *
      cases hmt : meetS (only_eF T a b i k h) (near_eF a b F.gap)
      case false =>
        have HMT := hid hmt
        clear hmt
        refine lex_wide 13 [] (by kernel_rfl) (by kernel_rfl) (nStab_nil) ?_
        simp only [List.take_succ_cons, List.take_zero, List.drop_succ_cons, List.drop_zero]
        apply lex_fun (rfl : psAt _ _ = none)
        · intro x u hR hf
          clear hR hf
          go_simp
          exact ⟨rfl, Ext.refl _⟩
        simp only [Act.put, List.setIfInBounds_toArray, List.set_cons_succ, List.set_cons_zero]
        apply lex_fun (rfl : psAt _ _ = none)
        · intro x u hR hf
          have c0 := cell_of (hR.block HBS.out)
          clear hR hf
          go_simp
          exact ⟨rfl, Ext.refl _⟩
        simp only [Act.put, List.setIfInBounds_toArray, List.set_cons_succ, List.set_cons_zero]
        refine lex_fun (v := .agg #[.int .i64 a.east, .int .i64 a.north, .int .i64 a.long, .int .i64 a.along, .int .i64 a.shot, .int .i64 a.haul, .int .i64 a.se.lo, .int .i64 a.se.hi, .int .i64 a.sn.lo, .int .i64 a.sn.hi, .int .i64 i, .int .i64 b.east, .int .i64 b.north, .int .i64 b.long, .int .i64 b.along, .int .i64 b.shot, .int .i64 b.haul, .int .i64 b.se.lo, .int .i64 b.se.hi, .int .i64 b.sn.lo, .int .i64 b.sn.hi, .int .i64 k]) (rfl : psAt _ _ = none) ?_ ?_
        · intro x u hR hf
          rw [if_pos (show Region.wanted _ _ = true from rfl)]
          exact gives_load 127 (.tmp 5) rfl rfl (load_pair (hR.block HC1.out) rfl) ⟨rfl, Ext.refl _⟩
        simp only [Act.put, List.setIfInBounds_toArray, List.set_cons_succ, List.set_cons_zero]
        apply lex_fun (rfl : psAt _ _ = none)
        · intro x u hR hf
          clear hR hf
          go_simp
          exact ⟨rfl, Ext.refl _⟩
        simp only [Act.put, List.setIfInBounds_toArray, List.set_cons_succ, List.set_cons_zero]
        refine lex_fun (v := spnV (only_eF T a b i k h)) (rfl : psAt _ _ = none) ?_ ?_
        · intro x u hR hf
          have hcal := hid (lying_e F HF.out T HT.out eb eo ec nb no nc cb sv mv te tn ts tm a b i k HI.out.1 HI.out.2 h HH.out u (NightAt.mono HNI.out (HX.out.trans hR)))
          clear hR hf
          go_simp
          exact hcal.out.mono fun e w'' ⟨he, hx'⟩ => ⟨_, he, rfl, hx'⟩
        simp only [Act.put, List.setIfInBounds_toArray, List.set_cons_succ, List.set_cons_zero]
        apply lex_fun (rfl : psAt _ _ = none)
        · intro x u hR hf
          have c0 := cell_of (hR.block HBS.out)
          clear hR hf
          go_simp
          exact ⟨rfl, Ext.refl _⟩
        simp only [Act.put, List.setIfInBounds_toArray, List.set_cons_succ, List.set_cons_zero]
        refine lex_fun (v := .agg #[.int .i64 a.east, .int .i64 a.north, .int .i64 a.long, .int .i64 a.along, .int .i64 a.shot, .int .i64 a.haul, .int .i64 a.se.lo, .int .i64 a.se.hi, .int .i64 a.sn.lo, .int .i64 a.sn.hi, .int .i64 i, .int .i64 b.east, .int .i64 b.north, .int .i64 b.long, .int .i64 b.along, .int .i64 b.shot, .int .i64 b.haul, .int .i64 b.se.lo, .int .i64 b.se.hi, .int .i64 b.sn.lo, .int .i64 b.sn.hi, .int .i64 k]) (rfl : psAt _ _ = none) ?_ ?_
        · intro x u hR hf
          rw [if_pos (show Region.wanted _ _ = true from rfl)]
          exact gives_load 127 (.tmp 5) rfl rfl (load_pair (hR.block HC1.out) rfl) ⟨rfl, Ext.refl _⟩
        simp only [Act.put, List.setIfInBounds_toArray, List.set_cons_succ, List.set_cons_zero]
        apply lex_fun (rfl : psAt _ _ = none)
        · intro x u hR hf
          clear hR hf
          go_simp
          exact ⟨rfl, Ext.refl _⟩
        simp only [Act.put, List.setIfInBounds_toArray, List.set_cons_succ, List.set_cons_zero]
        apply lex_fun (rfl : psAt _ _ = none)
        · intro x u hR hf
          clear hR hf
          go_simp
          exact ⟨rfl, Ext.refl _⟩
        simp only [Act.put, List.setIfInBounds_toArray, List.set_cons_succ, List.set_cons_zero]
        apply lex_fun (rfl : psAt _ _ = none)
        · intro x u hR hf
          have c0 := cell_of (hR.block HC0.out)
          clear hR hf
          go_simp
          exact ⟨rfl, Ext.refl _⟩
        simp only [Act.put, List.setIfInBounds_toArray, List.set_cons_succ, List.set_cons_zero]
        refine lex_fun (v := spnV (near_eF a b F.gap)) (rfl : psAt _ _ = none) ?_ ?_
        · intro x u hR hf
          have hcal := hid (near_e a b i k F.gap HF.out.gap HA.out.long HBN.out.long u)
          clear hR hf
          go_simp
          exact hcal.out.mono fun e w'' ⟨he, hx'⟩ => ⟨_, he, rfl, hx'⟩
        simp only [Act.put, List.setIfInBounds_toArray, List.set_cons_succ, List.set_cons_zero]
        refine lex_fun (v := .bool false) (rfl : psAt _ _ = none) ?_ ?_
        · intro x u hR hf
          have hcal := hid ((by have h1 := meet_any (only_eF T a b i k h).lo (only_eF T a b i k h).hi (near_eF a b F.gap).lo (near_eF a b F.gap).hi u; rw [show meetB (only_eF T a b i k h).lo (only_eF T a b i k h).hi (near_eF a b F.gap).lo (near_eF a b F.gap).hi = false from HMT.out] at h1; exact h1 : Cal 95 #[.agg #[.int .i64 (only_eF T a b i k h).lo, .int .i64 (only_eF T a b i k h).hi], .agg #[.int .i64 (near_eF a b F.gap).lo, .int .i64 (near_eF a b F.gap).hi]] u _))
          clear hR hf
          simp only [spnV]
          go_simp
          exact hcal.out.mono fun e w'' ⟨he, hx'⟩ => ⟨_, he, rfl, hx'⟩
        simp only [Act.put, List.setIfInBounds_toArray, List.set_cons_succ, List.set_cons_zero]
        apply lex_fun (rfl : psAt _ _ = none)
        · intro x u hR hf
          clear hR hf
          go_simp
          exact ⟨rfl, Ext.refl _⟩
        simp only [Act.put, List.setIfInBounds_toArray, List.set_cons_succ, List.set_cons_zero]
        refine lex_nil fun x w6 hE hfacts => ?_
        clear hfacts x
        have HG : Hid (foulsL F T a b i k h = false) := by show foulsL F T a b i k h = false; unfold foulsL; rw [HMT.out]; simp
        gi_wp2
        go_ret
        exact ⟨by rw [HG.out]; rfl, HX.out.trans hE⟩
      case true =>
        have HMT := hid hmt
        clear hmt
        refine lex_wide 13 [] (by kernel_rfl) (by kernel_rfl) (nStab_nil) ?_
        simp only [List.take_succ_cons, List.take_zero, List.drop_succ_cons, List.drop_zero]
        apply lex_fun (rfl : psAt _ _ = none)
        · intro x u hR hf
          clear hR hf
          go_simp
          exact ⟨rfl, Ext.refl _⟩
        simp only [Act.put, List.setIfInBounds_toArray, List.set_cons_succ, List.set_cons_zero]
        apply lex_fun (rfl : psAt _ _ = none)
        · intro x u hR hf
          have c0 := cell_of (hR.block HBS.out)
          clear hR hf
          go_simp
          exact ⟨rfl, Ext.refl _⟩
        simp only [Act.put, List.setIfInBounds_toArray, List.set_cons_succ, List.set_cons_zero]
        refine lex_fun (v := .agg #[.int .i64 a.east, .int .i64 a.north, .int .i64 a.long, .int .i64 a.along, .int .i64 a.shot, .int .i64 a.haul, .int .i64 a.se.lo, .int .i64 a.se.hi, .int .i64 a.sn.lo, .int .i64 a.sn.hi, .int .i64 i, .int .i64 b.east, .int .i64 b.north, .int .i64 b.long, .int .i64 b.along, .int .i64 b.shot, .int .i64 b.haul, .int .i64 b.se.lo, .int .i64 b.se.hi, .int .i64 b.sn.lo, .int .i64 b.sn.hi, .int .i64 k]) (rfl : psAt _ _ = none) ?_ ?_
        · intro x u hR hf
          rw [if_pos (show Region.wanted _ _ = true from rfl)]
          exact gives_load 127 (.tmp 5) rfl rfl (load_pair (hR.block HC1.out) rfl) ⟨rfl, Ext.refl _⟩
        simp only [Act.put, List.setIfInBounds_toArray, List.set_cons_succ, List.set_cons_zero]
        apply lex_fun (rfl : psAt _ _ = none)
        · intro x u hR hf
          clear hR hf
          go_simp
          exact ⟨rfl, Ext.refl _⟩
        simp only [Act.put, List.setIfInBounds_toArray, List.set_cons_succ, List.set_cons_zero]
        refine lex_fun (v := spnV (only_eF T a b i k h)) (rfl : psAt _ _ = none) ?_ ?_
        · intro x u hR hf
          have hcal := hid (lying_e F HF.out T HT.out eb eo ec nb no nc cb sv mv te tn ts tm a b i k HI.out.1 HI.out.2 h HH.out u (NightAt.mono HNI.out (HX.out.trans hR)))
          clear hR hf
          go_simp
          exact hcal.out.mono fun e w'' ⟨he, hx'⟩ => ⟨_, he, rfl, hx'⟩
        simp only [Act.put, List.setIfInBounds_toArray, List.set_cons_succ, List.set_cons_zero]
        apply lex_fun (rfl : psAt _ _ = none)
        · intro x u hR hf
          have c0 := cell_of (hR.block HBS.out)
          clear hR hf
          go_simp
          exact ⟨rfl, Ext.refl _⟩
        simp only [Act.put, List.setIfInBounds_toArray, List.set_cons_succ, List.set_cons_zero]
        refine lex_fun (v := .agg #[.int .i64 a.east, .int .i64 a.north, .int .i64 a.long, .int .i64 a.along, .int .i64 a.shot, .int .i64 a.haul, .int .i64 a.se.lo, .int .i64 a.se.hi, .int .i64 a.sn.lo, .int .i64 a.sn.hi, .int .i64 i, .int .i64 b.east, .int .i64 b.north, .int .i64 b.long, .int .i64 b.along, .int .i64 b.shot, .int .i64 b.haul, .int .i64 b.se.lo, .int .i64 b.se.hi, .int .i64 b.sn.lo, .int .i64 b.sn.hi, .int .i64 k]) (rfl : psAt _ _ = none) ?_ ?_
        · intro x u hR hf
          rw [if_pos (show Region.wanted _ _ = true from rfl)]
          exact gives_load 127 (.tmp 5) rfl rfl (load_pair (hR.block HC1.out) rfl) ⟨rfl, Ext.refl _⟩
        simp only [Act.put, List.setIfInBounds_toArray, List.set_cons_succ, List.set_cons_zero]
        apply lex_fun (rfl : psAt _ _ = none)
        · intro x u hR hf
          clear hR hf
          go_simp
          exact ⟨rfl, Ext.refl _⟩
        simp only [Act.put, List.setIfInBounds_toArray, List.set_cons_succ, List.set_cons_zero]
        apply lex_fun (rfl : psAt _ _ = none)
        · intro x u hR hf
          clear hR hf
          go_simp
          exact ⟨rfl, Ext.refl _⟩
        simp only [Act.put, List.setIfInBounds_toArray, List.set_cons_succ, List.set_cons_zero]
        apply lex_fun (rfl : psAt _ _ = none)
        · intro x u hR hf
          have c0 := cell_of (hR.block HC0.out)
          clear hR hf
          go_simp
          exact ⟨rfl, Ext.refl _⟩
        simp only [Act.put, List.setIfInBounds_toArray, List.set_cons_succ, List.set_cons_zero]
        refine lex_fun (v := spnV (near_eF a b F.gap)) (rfl : psAt _ _ = none) ?_ ?_
        · intro x u hR hf
          have hcal := hid (near_e a b i k F.gap HF.out.gap HA.out.long HBN.out.long u)
          clear hR hf
          go_simp
          exact hcal.out.mono fun e w'' ⟨he, hx'⟩ => ⟨_, he, rfl, hx'⟩
        simp only [Act.put, List.setIfInBounds_toArray, List.set_cons_succ, List.set_cons_zero]
        refine lex_fun (v := .bool true) (rfl : psAt _ _ = none) ?_ ?_
        · intro x u hR hf
          have hcal := hid ((by have h1 := meet_any (only_eF T a b i k h).lo (only_eF T a b i k h).hi (near_eF a b F.gap).lo (near_eF a b F.gap).hi u; rw [show meetB (only_eF T a b i k h).lo (only_eF T a b i k h).hi (near_eF a b F.gap).lo (near_eF a b F.gap).hi = true from HMT.out] at h1; exact h1 : Cal 95 #[.agg #[.int .i64 (only_eF T a b i k h).lo, .int .i64 (only_eF T a b i k h).hi], .agg #[.int .i64 (near_eF a b F.gap).lo, .int .i64 (near_eF a b F.gap).hi]] u _))
          clear hR hf
          simp only [spnV]
          go_simp
          exact hcal.out.mono fun e w'' ⟨he, hx'⟩ => ⟨_, he, rfl, hx'⟩
        simp only [Act.put, List.setIfInBounds_toArray, List.set_cons_succ, List.set_cons_zero]
        apply lex_fun (rfl : psAt _ _ = none)
        · intro x u hR hf
          clear hR hf
          go_simp
          exact ⟨rfl, Ext.refl _⟩
        simp only [Act.put, List.setIfInBounds_toArray, List.set_cons_succ, List.set_cons_zero]
        refine lex_nil fun x w6 hE hfacts => ?_
        clear hfacts x
        gi_wp2
        go_roundw
        case rel => exact ⟨1, by omega, by go_num, HX1.out.trans hE, fun _ => HMT.out, fun h => absurd h (by omega)⟩
        case measure => simp [intOf]
    · have hxs : Ext wr (wr.alloc (.cells #[.int .i64 1, .func (.func 88) #[] #[], .func (.func 89) #[] #[], .func (.func 90) #[] #[], .func (.func 91) #[] #[]] 133)) := (Ext.refl _).alloc _
      have hbs : (wr.alloc (.cells #[.int .i64 1, .func (.func 88) #[] #[], .func (.func 89) #[] #[], .func (.func 90) #[] #[], .func (.func 91) #[] #[]] 133)).heap[wr.heap.size]? = some (.cells #[.int .i64 1, .func (.func 88) #[] #[], .func (.func 89) #[] #[], .func (.func 90) #[] #[], .func (.func 91) #[] #[]] 133 (0, 0)) := Ext.new (Ext.refl _)
      have hix := index_1 (.int .i64 0) (.func (.func 84) #[] #[]) (.func (.func 85) #[] #[]) (.func (.func 86) #[] #[]) (.func (.func 87) #[] #[]) (.int .i64 1) (.func (.func 88) #[] #[]) (.func (.func 89) #[] #[]) (.func (.func 90) #[] #[]) (.func (.func 91) #[] #[]) wr
      gi_upto_region 4 with fail
      clear hix
      have HBS := hid hbs
      have HX1 := hid (HI2.out.1.trans hxs)
      have HX := hid (HW.out.trans HX1.out)
      have HC0 := hid (HX1.out.block HB0.out)
      have HC1 := hid (HX1.out.block HB1.out)
      clear hxs hbs
      generalize wr.alloc (.cells #[.int .i64 1, .func (.func 88) #[] #[], .func (.func 89) #[] #[], .func (.func 90) #[] #[], .func (.func 91) #[] #[]] 133) = W3 at *
      cases hmt : meetS (only_nF T a b i k h) (near_nF a b F.gap)
      case false =>
        have HMT := hid hmt
        clear hmt
        refine lex_wide 13 [] (by kernel_rfl) (by kernel_rfl) (nStab_nil) ?_
        simp only [List.take_succ_cons, List.take_zero, List.drop_succ_cons, List.drop_zero]
        apply lex_fun (rfl : psAt _ _ = none)
        · intro x u hR hf
          clear hR hf
          go_simp
          exact ⟨rfl, Ext.refl _⟩
        simp only [Act.put, List.setIfInBounds_toArray, List.set_cons_succ, List.set_cons_zero]
        apply lex_fun (rfl : psAt _ _ = none)
        · intro x u hR hf
          have c0 := cell_of (hR.block HBS.out)
          clear hR hf
          go_simp
          exact ⟨rfl, Ext.refl _⟩
        simp only [Act.put, List.setIfInBounds_toArray, List.set_cons_succ, List.set_cons_zero]
        refine lex_fun (v := .agg #[.int .i64 a.east, .int .i64 a.north, .int .i64 a.long, .int .i64 a.along, .int .i64 a.shot, .int .i64 a.haul, .int .i64 a.se.lo, .int .i64 a.se.hi, .int .i64 a.sn.lo, .int .i64 a.sn.hi, .int .i64 i, .int .i64 b.east, .int .i64 b.north, .int .i64 b.long, .int .i64 b.along, .int .i64 b.shot, .int .i64 b.haul, .int .i64 b.se.lo, .int .i64 b.se.hi, .int .i64 b.sn.lo, .int .i64 b.sn.hi, .int .i64 k]) (rfl : psAt _ _ = none) ?_ ?_
        · intro x u hR hf
          rw [if_pos (show Region.wanted _ _ = true from rfl)]
          exact gives_load 127 (.tmp 5) rfl rfl (load_pair (hR.block HC1.out) rfl) ⟨rfl, Ext.refl _⟩
        simp only [Act.put, List.setIfInBounds_toArray, List.set_cons_succ, List.set_cons_zero]
        apply lex_fun (rfl : psAt _ _ = none)
        · intro x u hR hf
          clear hR hf
          go_simp
          exact ⟨rfl, Ext.refl _⟩
        simp only [Act.put, List.setIfInBounds_toArray, List.set_cons_succ, List.set_cons_zero]
        refine lex_fun (v := spnV (only_nF T a b i k h)) (rfl : psAt _ _ = none) ?_ ?_
        · intro x u hR hf
          have hcal := hid (lying_n F HF.out T HT.out eb eo ec nb no nc cb sv mv te tn ts tm a b i k HI.out.1 HI.out.2 h HH.out u (NightAt.mono HNI.out (HX.out.trans hR)))
          clear hR hf
          go_simp
          exact hcal.out.mono fun e w'' ⟨he, hx'⟩ => ⟨_, he, rfl, hx'⟩
        simp only [Act.put, List.setIfInBounds_toArray, List.set_cons_succ, List.set_cons_zero]
        apply lex_fun (rfl : psAt _ _ = none)
        · intro x u hR hf
          have c0 := cell_of (hR.block HBS.out)
          clear hR hf
          go_simp
          exact ⟨rfl, Ext.refl _⟩
        simp only [Act.put, List.setIfInBounds_toArray, List.set_cons_succ, List.set_cons_zero]
        refine lex_fun (v := .agg #[.int .i64 a.east, .int .i64 a.north, .int .i64 a.long, .int .i64 a.along, .int .i64 a.shot, .int .i64 a.haul, .int .i64 a.se.lo, .int .i64 a.se.hi, .int .i64 a.sn.lo, .int .i64 a.sn.hi, .int .i64 i, .int .i64 b.east, .int .i64 b.north, .int .i64 b.long, .int .i64 b.along, .int .i64 b.shot, .int .i64 b.haul, .int .i64 b.se.lo, .int .i64 b.se.hi, .int .i64 b.sn.lo, .int .i64 b.sn.hi, .int .i64 k]) (rfl : psAt _ _ = none) ?_ ?_
        · intro x u hR hf
          rw [if_pos (show Region.wanted _ _ = true from rfl)]
          exact gives_load 127 (.tmp 5) rfl rfl (load_pair (hR.block HC1.out) rfl) ⟨rfl, Ext.refl _⟩
        simp only [Act.put, List.setIfInBounds_toArray, List.set_cons_succ, List.set_cons_zero]
        apply lex_fun (rfl : psAt _ _ = none)
        · intro x u hR hf
          clear hR hf
          go_simp
          exact ⟨rfl, Ext.refl _⟩
        simp only [Act.put, List.setIfInBounds_toArray, List.set_cons_succ, List.set_cons_zero]
        apply lex_fun (rfl : psAt _ _ = none)
        · intro x u hR hf
          clear hR hf
          go_simp
          exact ⟨rfl, Ext.refl _⟩
        simp only [Act.put, List.setIfInBounds_toArray, List.set_cons_succ, List.set_cons_zero]
        apply lex_fun (rfl : psAt _ _ = none)
        · intro x u hR hf
          have c0 := cell_of (hR.block HC0.out)
          clear hR hf
          go_simp
          exact ⟨rfl, Ext.refl _⟩
        simp only [Act.put, List.setIfInBounds_toArray, List.set_cons_succ, List.set_cons_zero]
        refine lex_fun (v := spnV (near_nF a b F.gap)) (rfl : psAt _ _ = none) ?_ ?_
        · intro x u hR hf
          have hcal := hid (near_n a b i k F.gap HF.out.gap HA.out.long HBN.out.long u)
          clear hR hf
          go_simp
          exact hcal.out.mono fun e w'' ⟨he, hx'⟩ => ⟨_, he, rfl, hx'⟩
        simp only [Act.put, List.setIfInBounds_toArray, List.set_cons_succ, List.set_cons_zero]
        refine lex_fun (v := .bool false) (rfl : psAt _ _ = none) ?_ ?_
        · intro x u hR hf
          have hcal := hid ((by have h1 := meet_any (only_nF T a b i k h).lo (only_nF T a b i k h).hi (near_nF a b F.gap).lo (near_nF a b F.gap).hi u; rw [show meetB (only_nF T a b i k h).lo (only_nF T a b i k h).hi (near_nF a b F.gap).lo (near_nF a b F.gap).hi = false from HMT.out] at h1; exact h1 : Cal 95 #[.agg #[.int .i64 (only_nF T a b i k h).lo, .int .i64 (only_nF T a b i k h).hi], .agg #[.int .i64 (near_nF a b F.gap).lo, .int .i64 (near_nF a b F.gap).hi]] u _))
          clear hR hf
          simp only [spnV]
          go_simp
          exact hcal.out.mono fun e w'' ⟨he, hx'⟩ => ⟨_, he, rfl, hx'⟩
        simp only [Act.put, List.setIfInBounds_toArray, List.set_cons_succ, List.set_cons_zero]
        apply lex_fun (rfl : psAt _ _ = none)
        · intro x u hR hf
          clear hR hf
          go_simp
          exact ⟨rfl, Ext.refl _⟩
        simp only [Act.put, List.setIfInBounds_toArray, List.set_cons_succ, List.set_cons_zero]
        refine lex_nil fun x w6 hE hfacts => ?_
        clear hfacts x
        have HG : Hid (foulsL F T a b i k h = false) := by show foulsL F T a b i k h = false; unfold foulsL; rw [HMT.out]; simp
        gi_wp2
        go_ret
        exact ⟨by rw [HG.out]; rfl, HX.out.trans hE⟩
      case true =>
        have HMT := hid hmt
        clear hmt
        refine lex_wide 13 [] (by kernel_rfl) (by kernel_rfl) (nStab_nil) ?_
        simp only [List.take_succ_cons, List.take_zero, List.drop_succ_cons, List.drop_zero]
        apply lex_fun (rfl : psAt _ _ = none)
        · intro x u hR hf
          clear hR hf
          go_simp
          exact ⟨rfl, Ext.refl _⟩
        simp only [Act.put, List.setIfInBounds_toArray, List.set_cons_succ, List.set_cons_zero]
        apply lex_fun (rfl : psAt _ _ = none)
        · intro x u hR hf
          have c0 := cell_of (hR.block HBS.out)
          clear hR hf
          go_simp
          exact ⟨rfl, Ext.refl _⟩
        simp only [Act.put, List.setIfInBounds_toArray, List.set_cons_succ, List.set_cons_zero]
        refine lex_fun (v := .agg #[.int .i64 a.east, .int .i64 a.north, .int .i64 a.long, .int .i64 a.along, .int .i64 a.shot, .int .i64 a.haul, .int .i64 a.se.lo, .int .i64 a.se.hi, .int .i64 a.sn.lo, .int .i64 a.sn.hi, .int .i64 i, .int .i64 b.east, .int .i64 b.north, .int .i64 b.long, .int .i64 b.along, .int .i64 b.shot, .int .i64 b.haul, .int .i64 b.se.lo, .int .i64 b.se.hi, .int .i64 b.sn.lo, .int .i64 b.sn.hi, .int .i64 k]) (rfl : psAt _ _ = none) ?_ ?_
        · intro x u hR hf
          rw [if_pos (show Region.wanted _ _ = true from rfl)]
          exact gives_load 127 (.tmp 5) rfl rfl (load_pair (hR.block HC1.out) rfl) ⟨rfl, Ext.refl _⟩
        simp only [Act.put, List.setIfInBounds_toArray, List.set_cons_succ, List.set_cons_zero]
        apply lex_fun (rfl : psAt _ _ = none)
        · intro x u hR hf
          clear hR hf
          go_simp
          exact ⟨rfl, Ext.refl _⟩
        simp only [Act.put, List.setIfInBounds_toArray, List.set_cons_succ, List.set_cons_zero]
        refine lex_fun (v := spnV (only_nF T a b i k h)) (rfl : psAt _ _ = none) ?_ ?_
        · intro x u hR hf
          have hcal := hid (lying_n F HF.out T HT.out eb eo ec nb no nc cb sv mv te tn ts tm a b i k HI.out.1 HI.out.2 h HH.out u (NightAt.mono HNI.out (HX.out.trans hR)))
          clear hR hf
          go_simp
          exact hcal.out.mono fun e w'' ⟨he, hx'⟩ => ⟨_, he, rfl, hx'⟩
        simp only [Act.put, List.setIfInBounds_toArray, List.set_cons_succ, List.set_cons_zero]
        apply lex_fun (rfl : psAt _ _ = none)
        · intro x u hR hf
          have c0 := cell_of (hR.block HBS.out)
          clear hR hf
          go_simp
          exact ⟨rfl, Ext.refl _⟩
        simp only [Act.put, List.setIfInBounds_toArray, List.set_cons_succ, List.set_cons_zero]
        refine lex_fun (v := .agg #[.int .i64 a.east, .int .i64 a.north, .int .i64 a.long, .int .i64 a.along, .int .i64 a.shot, .int .i64 a.haul, .int .i64 a.se.lo, .int .i64 a.se.hi, .int .i64 a.sn.lo, .int .i64 a.sn.hi, .int .i64 i, .int .i64 b.east, .int .i64 b.north, .int .i64 b.long, .int .i64 b.along, .int .i64 b.shot, .int .i64 b.haul, .int .i64 b.se.lo, .int .i64 b.se.hi, .int .i64 b.sn.lo, .int .i64 b.sn.hi, .int .i64 k]) (rfl : psAt _ _ = none) ?_ ?_
        · intro x u hR hf
          rw [if_pos (show Region.wanted _ _ = true from rfl)]
          exact gives_load 127 (.tmp 5) rfl rfl (load_pair (hR.block HC1.out) rfl) ⟨rfl, Ext.refl _⟩
        simp only [Act.put, List.setIfInBounds_toArray, List.set_cons_succ, List.set_cons_zero]
        apply lex_fun (rfl : psAt _ _ = none)
        · intro x u hR hf
          clear hR hf
          go_simp
          exact ⟨rfl, Ext.refl _⟩
        simp only [Act.put, List.setIfInBounds_toArray, List.set_cons_succ, List.set_cons_zero]
        apply lex_fun (rfl : psAt _ _ = none)
        · intro x u hR hf
          clear hR hf
          go_simp
          exact ⟨rfl, Ext.refl _⟩
        simp only [Act.put, List.setIfInBounds_toArray, List.set_cons_succ, List.set_cons_zero]
        apply lex_fun (rfl : psAt _ _ = none)
        · intro x u hR hf
          have c0 := cell_of (hR.block HC0.out)
          clear hR hf
          go_simp
          exact ⟨rfl, Ext.refl _⟩
        simp only [Act.put, List.setIfInBounds_toArray, List.set_cons_succ, List.set_cons_zero]
        refine lex_fun (v := spnV (near_nF a b F.gap)) (rfl : psAt _ _ = none) ?_ ?_
        · intro x u hR hf
          have hcal := hid (near_n a b i k F.gap HF.out.gap HA.out.long HBN.out.long u)
          clear hR hf
          go_simp
          exact hcal.out.mono fun e w'' ⟨he, hx'⟩ => ⟨_, he, rfl, hx'⟩
        simp only [Act.put, List.setIfInBounds_toArray, List.set_cons_succ, List.set_cons_zero]
        refine lex_fun (v := .bool true) (rfl : psAt _ _ = none) ?_ ?_
        · intro x u hR hf
          have hcal := hid ((by have h1 := meet_any (only_nF T a b i k h).lo (only_nF T a b i k h).hi (near_nF a b F.gap).lo (near_nF a b F.gap).hi u; rw [show meetB (only_nF T a b i k h).lo (only_nF T a b i k h).hi (near_nF a b F.gap).lo (near_nF a b F.gap).hi = true from HMT.out] at h1; exact h1 : Cal 95 #[.agg #[.int .i64 (only_nF T a b i k h).lo, .int .i64 (only_nF T a b i k h).hi], .agg #[.int .i64 (near_nF a b F.gap).lo, .int .i64 (near_nF a b F.gap).hi]] u _))
          clear hR hf
          simp only [spnV]
          go_simp
          exact hcal.out.mono fun e w'' ⟨he, hx'⟩ => ⟨_, he, rfl, hx'⟩
        simp only [Act.put, List.setIfInBounds_toArray, List.set_cons_succ, List.set_cons_zero]
        apply lex_fun (rfl : psAt _ _ = none)
        · intro x u hR hf
          clear hR hf
          go_simp
          exact ⟨rfl, Ext.refl _⟩
        simp only [Act.put, List.setIfInBounds_toArray, List.set_cons_succ, List.set_cons_zero]
        refine lex_nil fun x w6 hE hfacts => ?_
        clear hfacts x
        gi_wp2
        go_roundw
        case rel => exact ⟨2, by omega, by go_num, HX1.out.trans hE, fun _ => HI2.out.2.1 (by omega), fun _ => HMT.out⟩
        case measure => simp [intOf]
    · have HG : Hid (foulsL F T a b i k h = true) := by show foulsL F T a b i k h = true; unfold foulsL; rw [HI2.out.2.1 (by omega), HI2.out.2.2 (by omega)]; rfl
      gi_wp2
      go_ret
      exact ⟨by rw [HG.out]; rfl, HW.out.trans HI2.out.1⟩
def foulLt (F : FleetD) (T : TruthD) (t : Nat × Nat × Nat) : Bool := foulsL F T (F.nets.getD t.2.1 netZ) (F.nets.getD t.2.2 netZ) t.2.1 t.2.2 t.1
set_option maxRecDepth 100000 in
set_option maxHeartbeats 4000000 in
theorem firstFoul_lie (F : FleetD) (hF : FleetOk F) (T : TruthD) (hT : TruthOk F T) (eb eo ec nb no nc mc cb : Nat) (ma : Option Addr) (sv te tn ts tm : Value) (w : World) (hN : NightAt w cb F T (.slice (some ⟨eb, eo, none⟩) F.east.length ec) (.slice (some ⟨nb, no, none⟩) F.north.length nc) sv (.slice ma F.nets.length mc) te tn ts tm) (hM : NetsAt w (.slice ma F.nets.length mc) F.nets) :
    Cal 52 #[.agg #[.slice (some ⟨eb, eo, none⟩) F.east.length ec, .slice (some ⟨nb, no, none⟩) F.north.length nc, .int .i64 F.gap, sv, .slice ma F.nets.length mc], .func (.func 82) #[] #[.pointer (some ⟨cb, 0, none⟩)]] w fun x w' => x = .returned (.tuple #[.agg (foulV ((trips F).find? (foulLt F T))), .int .i64 (foulE ((trips F).find? (foulLt F T)))]) ∧ Ext w w' := by
  have HOK := hid hF
  have HT := hid hT
  have HMEM := hid (fun (W : World) (hx : Ext w W) => NightAt.mono hN hx)
  clear hN hT
  have HM := hid (fun (W : World) (hx : Ext w W) => hM.mono hx)
  have HTG := hid (together_iter F hF (some ⟨eb, eo, none⟩) ma ec mc (.slice (some ⟨nb, no, none⟩) F.north.length nc) sv)
  have hlenL : ((trips F).map (tripElem F)).length = (trips F).length := List.length_map _
  have HLEN := hid hlenL
  clear hF hM hlenL
  refine callsIn_of_wp_marks Try.func52 rfl trivial ?_
  simp only [Try.ntmps52, List.size_toArray, List.length_cons, List.length_nil, Nat.reduceAdd, Nat.reduceSub, Array.replicate_succ, Array.replicate_zero, List.push_toArray, List.append_toArray, List.nil_append, List.cons_append]
  gi_wp2_with fail
  have hW : Ext w ((((w.alloc (.cells #[.slice (some ⟨eb, eo, none⟩) F.east.length ec, .slice (some ⟨nb, no, none⟩) F.north.length nc, .int .i64 F.gap, sv, .slice ma F.nets.length mc] 108)).alloc (.cells #[.func (.func 82) #[] #[.pointer (some ⟨cb, 0, none⟩)]] 119)).alloc (.cells #[.int .i64 0, .int .i64 0, .int .i64 0] 43)).alloc (.cells #[.int .i64 0] 26)) := ((((Ext.refl _).alloc _).alloc _).alloc _).alloc _
  have hW0 : ((((w.alloc (.cells #[.slice (some ⟨eb, eo, none⟩) F.east.length ec, .slice (some ⟨nb, no, none⟩) F.north.length nc, .int .i64 F.gap, sv, .slice ma F.nets.length mc] 108)).alloc (.cells #[.func (.func 82) #[] #[.pointer (some ⟨cb, 0, none⟩)]] 119)).alloc (.cells #[.int .i64 0, .int .i64 0, .int .i64 0] 43)).alloc (.cells #[.int .i64 0] 26)).heap[w.heap.size]? = some (.cells #[.slice (some ⟨eb, eo, none⟩) F.east.length ec, .slice (some ⟨nb, no, none⟩) F.north.length nc, .int .i64 F.gap, sv, .slice ma F.nets.length mc] 108 (0, 0)) := by simp only [alloc_at, World.size_alloc]; (repeat rw [if_neg (by omega)]); first | rfl | rw [if_pos (by omega)] | rw [if_pos trivial]
  have hW1 : ((((w.alloc (.cells #[.slice (some ⟨eb, eo, none⟩) F.east.length ec, .slice (some ⟨nb, no, none⟩) F.north.length nc, .int .i64 F.gap, sv, .slice ma F.nets.length mc] 108)).alloc (.cells #[.func (.func 82) #[] #[.pointer (some ⟨cb, 0, none⟩)]] 119)).alloc (.cells #[.int .i64 0, .int .i64 0, .int .i64 0] 43)).alloc (.cells #[.int .i64 0] 26)).heap[w.heap.size + 1]? = some (.cells #[.func (.func 82) #[] #[.pointer (some ⟨cb, 0, none⟩)]] 119 (0, 0)) := by simp only [alloc_at, World.size_alloc]; (repeat rw [if_neg (by omega)]); first | rfl | rw [if_pos (by omega)] | rw [if_pos trivial]
  have hW2 : ((((w.alloc (.cells #[.slice (some ⟨eb, eo, none⟩) F.east.length ec, .slice (some ⟨nb, no, none⟩) F.north.length nc, .int .i64 F.gap, sv, .slice ma F.nets.length mc] 108)).alloc (.cells #[.func (.func 82) #[] #[.pointer (some ⟨cb, 0, none⟩)]] 119)).alloc (.cells #[.int .i64 0, .int .i64 0, .int .i64 0] 43)).alloc (.cells #[.int .i64 0] 26)).heap[w.heap.size + 1 + 1]? = some (.cells #[.int .i64 0, .int .i64 0, .int .i64 0] 43 (0, 0)) := by simp only [alloc_at, World.size_alloc]; (repeat rw [if_neg (by omega)]); first | rfl | rw [if_pos (by omega)] | rw [if_pos trivial]
  have hW3 : ((((w.alloc (.cells #[.slice (some ⟨eb, eo, none⟩) F.east.length ec, .slice (some ⟨nb, no, none⟩) F.north.length nc, .int .i64 F.gap, sv, .slice ma F.nets.length mc] 108)).alloc (.cells #[.func (.func 82) #[] #[.pointer (some ⟨cb, 0, none⟩)]] 119)).alloc (.cells #[.int .i64 0, .int .i64 0, .int .i64 0] 43)).alloc (.cells #[.int .i64 0] 26)).heap[w.heap.size + 1 + 1 + 1]? = some (.cells #[.int .i64 0] 26 (0, 0)) := by simp only [alloc_at, World.size_alloc]; (repeat rw [if_neg (by omega)]); first | rfl | rw [if_pos (by omega)] | rw [if_pos trivial]
  generalize (((w.alloc (.cells #[.slice (some ⟨eb, eo, none⟩) F.east.length ec, .slice (some ⟨nb, no, none⟩) F.north.length nc, .int .i64 F.gap, sv, .slice ma F.nets.length mc] 108)).alloc (.cells #[.func (.func 82) #[] #[.pointer (some ⟨cb, 0, none⟩)]] 119)).alloc (.cells #[.int .i64 0, .int .i64 0, .int .i64 0] 43)).alloc (.cells #[.int .i64 0] 26) = W at *
  have hbel : Below w.heap.size w W := hW
  have HWS := hid (show w.heap.size + 4 ≤ W.heap.size by have h := lt_of_block hW3; omega)
  clear hW
  refine range_boxedT rfl (enters_of Try.func73 (by kernel_rfl) rfl) HTG.out
    (fun i W => Hid (∀ j, j < i → (h : j < (trips F).length) → foulLt F T (trips F)[j] = false) ∧ Below w.heap.size w W ∧ W.heap[w.heap.size]? = some (.cells #[.slice (some ⟨eb, eo, none⟩) F.east.length ec, .slice (some ⟨nb, no, none⟩) F.north.length nc, .int .i64 F.gap, sv, .slice ma F.nets.length mc] 108 (0, 0)) ∧ W.heap[w.heap.size + 1]? = some (.cells #[.func (.func 82) #[] #[.pointer (some ⟨cb, 0, none⟩)]] 119 (0, 0)) ∧ W.heap[w.heap.size + 1 + 1]? = some (.cells #[.int .i64 0, .int .i64 0, .int .i64 0] 43 (0, 0)) ∧ W.heap[w.heap.size + 1 + 1 + 1]? = some (.cells #[.int .i64 0] 26 (0, 0)))
    (fun c i W => c = .ret ∧ Hid (∃ h : i < (trips F).length, (∀ j, j < i → (h : j < (trips F).length) → foulLt F T (trips F)[j] = false) ∧ foulLt F T (trips F)[i] = true ∧ W.heap[w.heap.size + 1 + 1]? = some (.cells (foulV (some (trips F)[i])) 43 (0, 0)) ∧ W.heap[w.heap.size + 1 + 1 + 1]? = some (.cells #[.int .i64 0] 26 (0, 0))) ∧ Below w.heap.size w W)
    (fun i W' W'' h hp => ⟨h.1, hp.below h.2.1 hbel.size (Nat.le_refl _), hp.block _ _ (by have := HWS.out; omega) h.2.2.1, hp.block _ _ (by have := HWS.out; omega) h.2.2.2.1, hp.block _ _ (by have := HWS.out; omega) h.2.2.2.2.1, hp.block _ _ (by have := HWS.out; omega) h.2.2.2.2.2⟩)
    (fun c i W' W'' h hp => ⟨h.1, ⟨h.2.1.out.1, h.2.1.out.2.1, h.2.1.out.2.2.1, hp.block _ _ (by have := HWS.out; omega) h.2.1.out.2.2.2.1, hp.block _ _ (by have := HWS.out; omega) h.2.1.out.2.2.2.2⟩, hp.below h.2.2 hbel.size (Nat.le_refl _)⟩)
    (fun i W' h => HM.out W' h.2.1) (fun i h => by simp [tripElem]) ⟨fun j h => absurd h (by omega), hbel, hW0, hW1, hW2, hW3⟩
    (fun i Bx => { tmps := #[.agg #[.slice (some ⟨eb, eo, none⟩) F.east.length ec, .slice (some ⟨nb, no, none⟩) F.north.length nc, .int .i64 F.gap, sv, .slice ma F.nets.length mc], .func (.func 82) #[] #[.pointer (some ⟨cb, 0, none⟩)], .pointer (some ⟨w.heap.size, 0, none⟩), .pointer (some ⟨w.heap.size + 1, 0, none⟩), .pointer (some ⟨w.heap.size + 1 + 1, 0, none⟩), .pointer (some ⟨w.heap.size + 1 + 1 + 1, 0, none⟩), .int .i64 ((trips F).getD i (0, 0, 0)).1, .pointer (some ⟨Bx, 0, none⟩), .agg #[.slice (some ⟨eb, eo, none⟩) F.east.length ec, .slice (some ⟨nb, no, none⟩) F.north.length nc, .int .i64 F.gap, sv, .slice ma F.nets.length mc], .func (.func 73) #[.agg #[.slice (some ⟨eb, eo, none⟩) F.east.length ec, .slice (some ⟨nb, no, none⟩) F.north.length nc, .int .i64 F.gap, sv, .slice ma F.nets.length mc]] #[],
      .int .i64 ((trips F).getD i (0, 0, 0)).1, .agg (pairA (F.nets.getD ((trips F).getD i (0, 0, 0)).2.1 netZ) (F.nets.getD ((trips F).getD i (0, 0, 0)).2.2 netZ) ((trips F).getD i (0, 0, 0)).2.1 ((trips F).getD i (0, 0, 0)).2.2), undef, undef, undef, undef, undef, undef, undef, undef, undef, undef, undef, undef, undef, undef], defers := [] })
    (fun i => pairA (F.nets.getD ((trips F).getD i (0, 0, 0)).2.1 netZ) (F.nets.getD ((trips F).getD i (0, 0, 0)).2.2 netZ) ((trips F).getD i (0, 0, 0)).2.1 ((trips F).getD i (0, 0, 0)).2.2) 127 ?assign ?body ?done ?stop
  case assign =>
    intro l i h W K' hK
    have he : ((trips F).map (tripElem F))[i] = #[.int .i64 ((trips F).getD i (0, 0, 0)).1, .agg (pairA (F.nets.getD ((trips F).getD i (0, 0, 0)).2.1 netZ) (F.nets.getD ((trips F).getD i (0, 0, 0)).2.2 netZ) ((trips F).getD i (0, 0, 0)).2.1 ((trips F).getD i (0, 0, 0)).2.2)] := by
      rw [List.getElem_map, getD_of (by rw [← HLEN.out]; exact h)]; rfl
    rw [he]
    generalize (trips F).getD i (0, 0, 0) = t at *
    obtain ⟨hr, i1, i2⟩ := t
    simp only at *
    generalize F.nets.getD i1 netZ = a at *
    generalize F.nets.getD i2 netZ = b at *
    gi_wp2_with (refine wpIn_store_fresh (fun _ => trivial) 127 (.tmp 7) (.tmp 11) rfl (W := W) (c' := pairA a b i1 i2) rfl rfl rfl info127 rfl (by kernel_rfl) ?_)
    exact hK
  case body =>
    rintro l i Bx W2 hi hl hrr ⟨hne, hbelW, hb0, hb1, hb2, hb3⟩ hBx hbx
    have hil : i < (trips F).length := by rw [← HLEN.out]; exact hi
    have htm := trips_mem (List.getElem_mem hil)
    have hgd : (trips F).getD i (0, 0, 0) = (trips F)[i] := getD_of hil
    have HGI := hid (show foulLt F T (trips F)[i] = foulLt F T ((trips F).getD i (0, 0, 0)) by rw [hgd])
    have HGV := hid (show foulV (some (trips F)[i]) = foulV (some ((trips F).getD i (0, 0, 0))) by rw [hgd])
    rw [← hgd] at htm
    have HNE := hid (And.intro hil hne.out)
    clear hgd hne hi
    generalize (trips F).getD i (0, 0, 0) = t at *
    obtain ⟨hr, i1, i2⟩ := t
    simp only at *
    obtain ⟨t1, t2, t3, t4⟩ := htm
    have hl1 : i1 < F.nets.length := by omega
    have HAB : Hid (NetOk (F.nets.getD i1 netZ) F.east.length ∧ NetOk (F.nets.getD i2 netZ) F.east.length ∧ (mx (F.nets.getD i1 netZ).shot (F.nets.getD i2 netZ).shot ≤ (hr : Int) ∧ (hr : Int) ≤ 24) ∧ F.nets[i1]? = some (F.nets.getD i1 netZ) ∧ F.nets[i2]? = some (F.nets.getD i2 netZ) ∧ (((F.nets.getD i1 netZ).shot ≤ (hr : Int) ∧ (hr : Int) ≤ (F.nets.getD i1 netZ).haul) ∧ ((F.nets.getD i2 netZ).shot ≤ (hr : Int) ∧ (hr : Int) ≤ (F.nets.getD i2 netZ).haul))) := by
      have hh := HOK.out.hours
      have e1 : F.nets.getD i1 netZ = F.nets[i1] := getD_of hl1
      have e2 : F.nets.getD i2 netZ = F.nets[i2] := getD_of t3
      unfold lieG at t4
      rw [Bool.and_eq_true] at t4
      have g1 := inB_spec t4.1
      have g2 := inB_spec t4.2
      refine ⟨by rw [e1]; exact HOK.out.nets _ (List.getElem_mem _), by rw [e2]; exact HOK.out.nets _ (List.getElem_mem _), ⟨mx_le g1.1 g2.1, by omega⟩, by rw [e1]; exact List.getElem?_eq_getElem hl1, by rw [e2]; exact List.getElem?_eq_getElem t3, g1, g2⟩
    have HG0 := hid (show foulLt F T (hr, i1, i2) = foulsL F T (F.nets.getD i1 netZ) (F.nets.getD i2 netZ) i1 i2 hr from rfl)
    clear t1 t2 t3 t4 hl1
    generalize F.nets.getD i1 netZ = a at *
    generalize F.nets.getD i2 netZ = b at *
    have HBW := hid (show Ext w W2 from hbelW)
    have HCAL := hid (fun (u : World) (hu : Ext W2 u) => fouls_lie F HOK.out T HT.out eb eo ec nb no nc cb sv (.slice ma F.nets.length mc) te tn ts tm a b i1 i2 HAB.out.2.2.2.1 HAB.out.2.2.2.2.1 hr HAB.out.2.2.2.2.2 u (HMEM.out u (HBW.out.trans hu)))
    have HB := hid (And.intro hb0 (And.intro hb1 (And.intro hb2 (And.intro hb3 hbx))))
    have hc0 := cell_of hb0
    have hc1 := cell_of hb1
    clear hb0 hb1 hb2 hb3 hbelW
    simp only [pairA] at hbx ⊢ HB
    have hld := load_pair hbx rfl
    have HLD := hid hld
    clear hbx hld
    cases hv : foulLt F T (hr, i1, i2)
    case false =>
      rw [← HG0.out, hv] at HCAL
      gi_wp2_with (first | (refine wpIn_load_one (fun _ => trivial) 127 (.tmp 7) rfl rfl HLD.out ?_) | (gi_at_call 74; ((with_reducible refine (callsIn_round l (HCAL.out _ (Ext.refl _))).mono ?_); rintro e w3 ⟨rfl, hx3⟩)))
      have HN := hid (show ∀ j, j < i + 1 → (h : j < (trips F).length) → foulLt F T (trips F)[j] = false from fun j hj h => by
        rcases Nat.lt_or_ge j i with h' | h'
        · exact HNE.out.2 j h' h
        · obtain rfl : j = i := by omega
          rw [HGI.out]; exact hv)
      exact ⟨⟨keepsFrom_ext hx3, HN, HBW.out.trans hx3, hx3.block HB.out.1, hx3.block HB.out.2.1, hx3.block HB.out.2.2.1, hx3.block HB.out.2.2.2.1⟩, KeepT.of_ext hx3⟩
    case true =>
      rw [← HG0.out, hv] at HCAL
      gi_wp2_with (first | (refine wpIn_load_one (fun _ => trivial) 127 (.tmp 7) rfl rfl HLD.out ?_) | (gi_at_call 74; ((with_reducible refine (callsIn_round l (HCAL.out _ (Ext.refl _))).mono ?_); rintro e w3 ⟨rfl, hx3⟩; have hcx := cell_of (hx3.block HB.out.2.2.2.2); have hcy := cell_of (hx3.block HB.out.2.2.1); have hfy := free_of (hx3.block HB.out.2.2.1); have hcz := cell_of (hx3.block HB.out.2.2.2.1); have hfz := free_of (hx3.block HB.out.2.2.2.1))))
      have k2 := hx3.block HB.out.2.2.1
      have k3 := hx3.block HB.out.2.2.2.1
      have s1 := set_same k2 0 (.int .i64 hr)
      have s2 := set_same s1 1 (.int .i64 i1)
      have s3 := set_same s2 2 (.int .i64 i2)
      simp only [List.setIfInBounds_toArray, List.set_cons_succ, List.set_cons_zero] at s1 s2 s3
      have z3 := (set_other (w := w3) (g := w.heap.size + 1 + 1) (k := w.heap.size + 1 + 1 + 1) (by omega) 0 (.int .i64 hr)).trans k3
      have z2 := (set_other (g := w.heap.size + 1 + 1) (k := w.heap.size + 1 + 1 + 1) (by omega) 1 (.int .i64 i1)).trans z3
      have z1 := (set_other (g := w.heap.size + 1 + 1) (k := w.heap.size + 1 + 1 + 1) (by omega) 2 (.int .i64 i2)).trans z2
      have z0 := set_same z1 0 (.int .i64 0)
      simp only [List.setIfInBounds_toArray, List.set_cons_zero] at z0
      have s4 := (set_other (g := w.heap.size + 1 + 1 + 1) (k := w.heap.size + 1 + 1) (by omega) 0 (.int .i64 0)).trans s3
      refine ⟨⟨((((keepsFrom_ext hx3).trans ((KeepsOthers.setCell _ _ _).from _)).trans ((KeepsOthers.setCell _ _ _).from _)).trans ((KeepsOthers.setCell _ _ _).from _)).trans ((KeepsOthers.setCell _ _ _).from _), rfl, ⟨HNE.out.1, HNE.out.2, by rw [HGI.out]; exact hv, by rw [HGV.out]; exact s4, z0⟩, ?_⟩, ?_⟩
      · exact ((((HBW.out.trans hx3).set (by omega) _ _).set (by omega) _ _).set (by omega) _ _).set (by omega) _ _
      · exact ((((KeepT.of_ext hx3).trans (KeepT.set k2 (by decide) (by decide) _ _)).trans (KeepT.set s1 (by decide) (by decide) _ _)).trans (KeepT.set s2 (by decide) (by decide) _ _)).trans (KeepT.set z1 (by decide) (by decide) _ _)
  case done =>
    rintro D W2 hD ⟨hne, hbelW, hb0, hb1, hb2, hb3⟩ hK
    have HFD := hid (find_none (p := foulLt F T) (l := trips F) (fun j hj => hne.out j (by rw [HLEN.out]; exact hj) hj))
    have hcy := cell_of hb2
    have hfy := free_of hb2
    have hcz := cell_of hb3
    have hfz := free_of hb3
    have hD2 : D ≠ w.heap.size + 1 + 1 := by have := HWS.out; omega
    have hD3 : D ≠ w.heap.size + 1 + 1 + 1 := by have := HWS.out; omega
    clear hne
    gi_wp2_with fail
    have s3 := set_same (set_same (set_same hb2 0 (.int .i64 0)) 1 (.int .i64 0)) 2 (.int .i64 0)
    simp only [List.setIfInBounds_toArray, List.set_cons_succ, List.set_cons_zero] at s3
    have z1 := (set_other (g := w.heap.size + 1 + 1) (k := w.heap.size + 1 + 1 + 1) (by omega) 2 (.int .i64 0)).trans ((set_other (g := w.heap.size + 1 + 1) (k := w.heap.size + 1 + 1 + 1) (by omega) 1 (.int .i64 0)).trans ((set_other (w := W2) (g := w.heap.size + 1 + 1) (k := w.heap.size + 1 + 1 + 1) (by omega) 0 (.int .i64 0)).trans hb3))
    have z0 := set_same z1 0 (.int .i64 4)
    simp only [List.setIfInBounds_toArray, List.set_cons_zero] at z0
    have s4 := (set_other (g := w.heap.size + 1 + 1 + 1) (k := w.heap.size + 1 + 1) (by omega) 0 (.int .i64 4)).trans s3
    have hKs := (set_other (g := w.heap.size + 1 + 1 + 1) (k := D) hD3 0 (.int .i64 4)).trans ((set_other (g := w.heap.size + 1 + 1) (k := D) hD2 2 (.int .i64 0)).trans ((set_other (g := w.heap.size + 1 + 1) (k := D) hD2 1 (.int .i64 0)).trans ((set_other (w := W2) (g := w.heap.size + 1 + 1) (k := D) hD2 0 (.int .i64 0)).trans hK)))
    have hEx : Ext w ((((W2.setCell ⟨w.heap.size + 1 + 1, 0, none⟩ (.int .i64 0)).setCell ⟨w.heap.size + 1 + 1, 1, none⟩ (.int .i64 0)).setCell ⟨w.heap.size + 1 + 1, 2, none⟩ (.int .i64 0)).setCell ⟨w.heap.size + 1 + 1 + 1, 0, none⟩ (.int .i64 4)) := ((((show Ext w W2 from hbelW).set (by omega) _ _).set (by omega) _ _).set (by omega) _ _).set (by omega) _ _
    clear hcy hfy hcz hfz hb0 hb1 hb2 hb3 hK hbelW z1 s3
    generalize (((W2.setCell ⟨w.heap.size + 1 + 1, 0, none⟩ (.int .i64 0)).setCell ⟨w.heap.size + 1 + 1, 1, none⟩ (.int .i64 0)).setCell ⟨w.heap.size + 1 + 1, 2, none⟩ (.int .i64 0)).setCell ⟨w.heap.size + 1 + 1 + 1, 0, none⟩ (.int .i64 4) = W3 at *
    refine leave_mark hKs (v := .tuple #[.agg #[.int .i64 0, .int .i64 0, .int .i64 0], .int .i64 4]) (by simp [results, Try.results52, go_sem, put_cell s4 (Ne.symm hD2), put_cell z0 (Ne.symm hD3)]) ⟨by rw [HFD.out]; rfl, ?_⟩
    exact (put_past (B := w.heap.size) _ _ (by have := HWS.out; omega)).below hEx (Nat.le_refl _) (Nat.le_refl _)
  case stop =>
    rintro D i c W2 hD hi ⟨rfl, hM2, hbelW⟩ hK
    obtain ⟨hil, hne, hv, s4, z0⟩ := hM2.out
    have HFD := hid (find_some (p := foulLt F T) (l := trips F) hil (fun j hj => hne j hj (by omega)) hv)
    have hD2 : D ≠ w.heap.size + 1 + 1 := by have := HWS.out; omega
    have hD3 : D ≠ w.heap.size + 1 + 1 + 1 := by have := HWS.out; omega
    clear hM2 hne hv
    generalize (trips F)[i] = t at *
    obtain ⟨hr, i1, i2⟩ := t
    simp only [foulV] at s4
    gi_wp2_with fail
    refine leave_mark hK (v := .tuple #[.agg #[.int .i64 hr, .int .i64 i1, .int .i64 i2], .int .i64 0]) (by simp [results, Try.results52, go_sem, put_cell s4 (Ne.symm hD2), put_cell z0 (Ne.symm hD3)]) ⟨by rw [HFD.out]; rfl, ?_⟩
    exact (put_past (B := w.heap.size) _ _ (by have := HWS.out; omega)).below hbelW (Nat.le_refl _) (Nat.le_refl _)

end Go.Proofs.Ytmjelgonhpgmbaa
