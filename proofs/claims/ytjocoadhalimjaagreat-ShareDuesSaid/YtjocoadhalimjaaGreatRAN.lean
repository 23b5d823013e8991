/- A voyage: its eighths, its stakes. -/
import Derived.Test.YtjocoadhalimjaaGreatRAM
set_option linter.unusedSimpArgs false
set_option linter.unusedVariables false
namespace Go.Proofs.YtjocoadhalimjaaGreat
section
open Go Go.RowKit Go.Shelf

set_option maxHeartbeats 2000000 in
theorem eighths_any (gr bo ne cr : Int) (cv lv mv : Value) (oa la ha : Option Addr) (on oc ln lc hn hc : Nat) (w : World) : Cal 77 #[.agg #[.int .i64 gr, cv, .int .i64 bo, .int .i64 ne, .int .i64 cr, .slice oa on oc, .slice la ln lc, .slice ha hn hc, lv, mv]] w fun e w' => e = .returned (.agg #[.int .i64 bo, .int .i64 ne, .int .i64 cr]) ∧ Ext w w' := by
  have HX : Hid (Ext w ((w.alloc (.cells #[.int .i64 gr, cv, .int .i64 bo, .int .i64 ne, .int .i64 cr, .slice oa on oc, .slice la ln lc, .slice ha hn hc, lv, mv] 83)).alloc (.cells #[.int .i64 bo, .int .i64 ne, .int .i64 cr] 90))) := hid (((Ext.refl _).alloc _).alloc _)
  gi_enter Tryz.func77, Tryz.ntmps77
  gi_wp2_with fail
  have hb : ((w.alloc (.cells #[.int .i64 gr, cv, .int .i64 bo, .int .i64 ne, .int .i64 cr, .slice oa on oc, .slice la ln lc, .slice ha hn hc, lv, mv] 83)).alloc (.cells #[.int .i64 bo, .int .i64 ne, .int .i64 cr] 90)).heap[w.heap.size + 1]? = some (.cells #[.int .i64 bo, .int .i64 ne, .int .i64 cr] 90 (0, 0)) := by
    have := Ext.new (w := w.alloc (.cells #[.int .i64 gr, cv, .int .i64 bo, .int .i64 ne, .int .i64 cr, .slice oa on oc, .slice la ln lc, .slice ha hn hc, lv, mv] 83)) (o := .cells #[.int .i64 bo, .int .i64 ne, .int .i64 cr] 90) (Ext.refl _); rwa [World.size_alloc] at this
  generalize (w.alloc (.cells #[.int .i64 gr, cv, .int .i64 bo, .int .i64 ne, .int .i64 cr, .slice oa on oc, .slice la ln lc, .slice ha hn hc, lv, mv] 83)).alloc (.cells #[.int .i64 bo, .int .i64 ne, .int .i64 cr] 90) = W at *
  have hc := cell_of hb
  exact bodyPost_ret (v := .agg #[.int .i64 bo, .int .i64 ne, .int .i64 cr]) (by simp [results, Tryz.results77, go_sem, hc]) rfl ⟨rfl, HX.out⟩

set_option maxHeartbeats 2000000 in
theorem owners_any (gr bo ne cr : Int) (cv lv mv : Value) (oa la ha : Option Addr) (on oc ln lc hn hc : Nat) (w : World) (hcap : on ≤ oc) : Cal 96 #[.agg #[.int .i64 gr, cv, .int .i64 bo, .int .i64 ne, .int .i64 cr, .slice oa on oc, .slice la ln lc, .slice ha hn hc, lv, mv]] w fun e w' => e = .returned (.slice oa on on) ∧ Ext w w' := by
  have HX : Hid (Ext w (w.alloc (.cells #[.int .i64 gr, cv, .int .i64 bo, .int .i64 ne, .int .i64 cr, .slice oa on oc, .slice la ln lc, .slice ha hn hc, lv, mv] 83))) := hid ((Ext.refl _).alloc _)
  gi_enter Tryz.func96, Tryz.ntmps96
  gi_wp2_with fail
  go_ret
  exact ⟨rfl, HX.out⟩

set_option maxHeartbeats 2000000 in
theorem lenders_any (gr bo ne cr : Int) (cv lv mv : Value) (oa la ha : Option Addr) (on oc ln lc hn hc : Nat) (w : World) (hcap : ln ≤ lc) : Cal 97 #[.agg #[.int .i64 gr, cv, .int .i64 bo, .int .i64 ne, .int .i64 cr, .slice oa on oc, .slice la ln lc, .slice ha hn hc, lv, mv]] w fun e w' => e = .returned (.slice la ln ln) ∧ Ext w w' := by
  have HX : Hid (Ext w (w.alloc (.cells #[.int .i64 gr, cv, .int .i64 bo, .int .i64 ne, .int .i64 cr, .slice oa on oc, .slice la ln lc, .slice ha hn hc, lv, mv] 83))) := hid ((Ext.refl _).alloc _)
  gi_enter Tryz.func97, Tryz.ntmps97
  gi_wp2_with fail
  go_ret
  exact ⟨rfl, HX.out⟩

set_option maxHeartbeats 2000000 in
theorem hands_any (gr bo ne cr : Int) (cv lv mv : Value) (oa la ha : Option Addr) (on oc ln lc hn hc : Nat) (w : World) (hcap : hn ≤ hc) : Cal 98 #[.agg #[.int .i64 gr, cv, .int .i64 bo, .int .i64 ne, .int .i64 cr, .slice oa on oc, .slice la ln lc, .slice ha hn hc, lv, mv]] w fun e w' => e = .returned (.slice ha hn hn) ∧ Ext w w' := by
  have HX : Hid (Ext w (w.alloc (.cells #[.int .i64 gr, cv, .int .i64 bo, .int .i64 ne, .int .i64 cr, .slice oa on oc, .slice la ln lc, .slice ha hn hc, lv, mv] 83))) := hid ((Ext.refl _).alloc _)
  gi_enter Tryz.func98, Tryz.ntmps98
  gi_wp2_with fail
  go_ret
  exact ⟨rfl, HX.out⟩
end
section
open Go Go.RowKit Go.Shelf

def boatS : ByteArray := ⟨#[98, 111, 97, 116]⟩
def netsS : ByteArray := ⟨#[110, 101, 116, 115]⟩
def crewS : ByteArray := ⟨#[99, 114, 101, 119]⟩
def partsC : Array Value := #[.string ⟨#[98, 111, 97, 116]⟩, fnV 96, fnV 96, .string ⟨#[110, 101, 116, 115]⟩, fnV 97, fnV 55, .string ⟨#[99, 114, 101, 119]⟩, fnV 98, fnV 98]
theorem size120 : (Tryz.prog.info? 120).map (·.size) = some 9 := by kernel_rfl
set_option maxHeartbeats 2000000 in
theorem parts_any (w : World) : Cal 78 #[] w fun e w' => e = .returned (.agg partsC) ∧ Ext w w' := by
  gi_enter Tryz.func78, Tryz.ntmps78
  gi_wp2_with (refine wpIn_store_fresh (fun _ => trivial) 120 (.tmp 0) (.tmp 4) rfl (W := w) (c' := partsC) rfl rfl rfl size120 rfl (by simp [partsC, Value.oneCell']) ?_)
  have hX : Ext w (w.alloc (.cells partsC 120)) := (Ext.refl _).alloc _
  have hb : (w.alloc (.cells partsC 120)).heap[w.heap.size]? = some (.cells partsC 120 (0, 0)) := Ext.new (Ext.refl _)
  generalize w.alloc (.cells partsC 120) = W at *
  have hc := cell_of hb
  unfold partsC at hc ⊢
  exact bodyPost_ret (v := .agg #[.string ⟨#[98, 111, 97, 116]⟩, fnV 96, fnV 96, .string ⟨#[110, 101, 116, 115]⟩, fnV 97, fnV 55, .string ⟨#[99, 114, 101, 119]⟩, fnV 98, fnV 98]) (by simp [results, Tryz.results78, go_sem, hc]) rfl ⟨rfl, hX⟩

set_option maxRecDepth 100000 in
set_option maxHeartbeats 2000000 in
theorem divided_any (gr bo ne cr : Int) (cv ov hv lv mv : Value) (la : Option Addr) (ln lc : Nat) (cs : List Int) (w : World) (hcv : IntsAt w cv cs) (hb : ∀ x ∈ cs, -1000000000 ≤ x ∧ x ≤ 1000000000) (hl : cs.length ≤ 1000) (hg : -1000000000 ≤ gr ∧ gr ≤ 1000000000) :
    Cal 79 #[.agg #[.int .i64 gr, cv, .int .i64 bo, .int .i64 ne, .int .i64 cr, ov, .slice la ln lc, hv, lv, mv]] w fun e w' => e = .returned (.int .i64 (gr - cs.sum)) ∧ Ext w w' := by
  have hs := sum_to cs hb hl cs.length
  rw [List.take_length] at hs
  have HWR : Hid (IntKind.i64.wrap (gr - cs.sum) = gr - cs.sum) := hid (by rw [IntKind.wrap_i64]; omega)
  have HV := hid (fun (u : World) (hu : Ext w u) => hcv.mono hu)
  have HBD := hid hb
  have HLN := hid hl
  have HX : Hid (Ext w (w.alloc (.cells #[.int .i64 gr, cv, .int .i64 bo, .int .i64 ne, .int .i64 cr, ov, .slice la ln lc, hv, lv, mv] 83))) := hid ((Ext.refl _).alloc _)
  have HB : Hid ((w.alloc (.cells #[.int .i64 gr, cv, .int .i64 bo, .int .i64 ne, .int .i64 cr, ov, .slice la ln lc, hv, lv, mv] 83)).heap[w.heap.size]? = some (.cells #[.int .i64 gr, cv, .int .i64 bo, .int .i64 ne, .int .i64 cr, ov, .slice la ln lc, hv, lv, mv] 83 (0, 0))) := hid (Ext.new (Ext.refl _))
  clear hcv hb hl hs hg
  gi_enter Tryz.func79, Tryz.ntmps79
  gi_wp2_with fail
  generalize w.alloc (.cells #[.int .i64 gr, cv, .int .i64 bo, .int .i64 ne, .int .i64 cr, ov, .slice la ln lc, hv, lv, mv] 83) = W at *
  refine lex_wide 8 [] (by kernel_rfl) (by kernel_rfl) (nStab_nil) ?_
  simp only [List.take_succ_cons, List.take_zero, List.drop_succ_cons, List.drop_zero]
  apply lex_fun (rfl : psAt _ _ = none)
  · intro x u hR hf
    clear hR hf
    go_simp
    exact ⟨rfl, Ext.refl _⟩
  simp only [Act.put, List.setIfInBounds_toArray, List.set_cons_succ, List.set_cons_zero]
  apply lex_fun (rfl : psAt _ _ = none)
  · intro x u hR hf
    clear hR hf
    go_simp
    exact ⟨rfl, Ext.refl _⟩
  simp only [Act.put, List.setIfInBounds_toArray, List.set_cons_succ, List.set_cons_zero]
  apply lex_fun (rfl : psAt _ _ = none)
  · intro x u hR hf
    have c0 := cell_of (hR.block HB.out)
    clear hR hf
    go_simp
    exact ⟨rfl, Ext.refl _⟩
  simp only [Act.put, List.setIfInBounds_toArray, List.set_cons_succ, List.set_cons_zero]
  apply lex_fun (rfl : psAt _ _ = none)
  · intro x u hR hf
    clear hR hf
    go_simp
    exact ⟨rfl, Ext.refl _⟩
  simp only [Act.put, List.setIfInBounds_toArray, List.set_cons_succ, List.set_cons_zero]
  apply lex_fun (rfl : psAt _ _ = none)
  · intro x u hR hf
    clear hR hf
    go_simp
    exact ⟨rfl, Ext.refl _⟩
  simp only [Act.put, List.setIfInBounds_toArray, List.set_cons_succ, List.set_cons_zero]
  apply lex_fun (rfl : psAt _ _ = none)
  · intro x u hR hf
    have c0 := cell_of (hR.block HB.out)
    clear hR hf
    go_simp
    exact ⟨rfl, Ext.refl _⟩
  simp only [Act.put, List.setIfInBounds_toArray, List.set_cons_succ, List.set_cons_zero]
  refine lex_fun (v := .int .i64 cs.sum) (rfl : psAt _ _ = none) ?_ ?_
  · intro x u hR hf
    have hcal := hid (sumI_any cv cs u (HV.out u (HX.out.trans hR)) HBD.out HLN.out)
    clear hR hf
    go_simp
    exact hcal.out.mono fun e w'' ⟨he, hx'⟩ => ⟨_, he, rfl, by subst hx'; exact Ext.refl _⟩
  simp only [Act.put, List.setIfInBounds_toArray, List.set_cons_succ, List.set_cons_zero]
  refine lex_fun (v := .int .i64 (gr - cs.sum)) (rfl : psAt _ _ = none) ?_ ?_
  · intro x u hR hf
    clear hR hf
    go_simp
    exact ⟨by simp [HWR.out], Ext.refl _⟩
  simp only [Act.put, List.setIfInBounds_toArray, List.set_cons_succ, List.set_cons_zero]
  refine lex_nil fun x w6 hE hfacts => ?_
  clear hfacts x
  gi_wp2
  go_ret
  exact ⟨rfl, HX.out.trans hE⟩
end
end Go.Proofs.YtjocoadhalimjaaGreat
