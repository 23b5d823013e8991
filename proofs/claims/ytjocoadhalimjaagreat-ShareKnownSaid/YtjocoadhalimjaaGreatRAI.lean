/- Loans; debts: small functions. -/
import Derived.Test.YtjocoadhalimjaaGreatRAH
set_option linter.unusedSimpArgs false
set_option linter.unusedVariables false
namespace Go.Proofs.YtjocoadhalimjaaGreat
section
open Go Go.RowKit Go.Shelf

/-- A loan is right but for who is who. -/
def loanB (f g : ByteArray) (n r : Int) : Bool := !(f.toList == g.toList) && (inB n 1 1000 && inB r 0 8)
set_option maxHeartbeats 2000000 in
theorem isLoan_any (f g : ByteArray) (n r : Int) (w : World) : Cal 95 #[.agg #[.string f, .string g, .int .i64 n, .int .i64 r]] w fun e w' => e = .returned (.bool (loanB f g n r)) ∧ Ext w w' := by
  have H1 := hid (fun (u : World) => isIn_any n 1 1000 u)
  have H2 := hid (fun (u : World) => isIn_any r 0 8 u)
  have HX : Hid (Ext w (w.alloc (.cells #[.string f, .string g, .int .i64 n, .int .i64 r] 59))) := hid ((Ext.refl _).alloc _)
  have HE : Hid (loanB f g n r = (!(f.toList == g.toList) && (inB n 1 1000 && inB r 0 8))) := hid rfl
  generalize inB n 1 1000 = p at *
  generalize inB r 0 8 = q at *
  generalize hb : (f.toList == g.toList) = b at *
  have hb2 : (f.toList = g.toList) ↔ b = true := by rw [← hb]; simp
  cases b <;> cases p <;> cases q
  all_goals
    have HR := hid (HE.out)
    simp only [Bool.not_true, Bool.not_false, Bool.and_true, Bool.and_false, Bool.false_and, Bool.true_and] at HR
    clear HE
    gi_enter Tryz.func95, Tryz.ntmps95
    gi_wp2_with (first | (gi_at_call 46; ((with_reducible refine (H1.out _).mono ?_); rintro e w1 ⟨rfl, rfl⟩)) | (gi_at_call 46; ((with_reducible refine (H2.out _).mono ?_); rintro e w1 ⟨rfl, rfl⟩)))
    go_ret
    exact ⟨by rw [HR.out]; first | rfl | simp, HX.out⟩
theorem debtsHas_any (a : Option Addr) (n cap : Nat) (i : Int) (hn : n ≤ 1000000) (w : World) : Cal 91 #[.slice a n cap, .int .i64 i] w fun e w' => e = .returned (.bool (inB i 0 ((n : Int) - 1))) ∧ w = w' := by
  have H1 := hid (fun (u : World) => isIn_any i 0 ((n : Int) - 1) u)
  have hw : wrap64 ((n : Int) - 1) = (n : Int) - 1 := by unfold wrap64; omega
  gi_enter Tryz.func91, Tryz.ntmps91
  gi_wp2_with (gi_at_call 46; ((with_reducible refine (H1.out _).mono ?_); rintro e w1 ⟨rfl, rfl⟩))
  go_ret
  exact ⟨rfl, rfl⟩
theorem pays_any (v : Value) (xs : List Int) (k : Nat) (hk : k < xs.length) (w : World) (hv : IntsAt w v xs) : Cal 105 #[v, .int .i64 k] w fun e w' => e = .returned (.bool (decide (xs[k] < 0))) ∧ w = w' := by
  obtain ⟨a, cap, rfl, ⟨hcap, hlen⟩, hc⟩ := hv
  obtain ⟨b, off, rfl, hbb, hck⟩ := hc k hk
  clear hc
  have hki : (k : Int) < (xs.length : Int) := by omega
  generalize xs[k] = x at *
  gi_enter Tryz.func105, Tryz.ntmps105
  gi_wp2
  go_ret
  exact ⟨rfl, rfl⟩
theorem gets_any (v : Value) (xs : List Int) (k : Nat) (hk : k < xs.length) (w : World) (hv : IntsAt w v xs) : Cal 107 #[v, .int .i64 k] w fun e w' => e = .returned (.bool (decide (0 < xs[k]))) ∧ w = w' := by
  obtain ⟨a, cap, rfl, ⟨hcap, hlen⟩, hc⟩ := hv
  obtain ⟨b, off, rfl, hbb, hck⟩ := hc k hk
  clear hc
  have hki : (k : Int) < (xs.length : Int) := by omega
  generalize xs[k] = x at *
  gi_enter Tryz.func107, Tryz.ntmps107
  gi_wp2
  go_ret
  exact ⟨rfl, rfl⟩
end
section
open Go Go.RowKit Go.Shelf

set_option maxHeartbeats 2000000 in
theorem eighths_any (gr bo ne cr : Int) (cv lv mv : Value) (oa la ha : Option Addr) (on oc ln lc hn hc : Nat) (w : World) : Cal 77 #[.agg #[.int .i64 gr, cv, .int .i64 bo, .int .i64 ne, .int .i64 cr, .slice oa on oc, .slice la ln lc, .slice ha hn hc, lv, mv]] w fun e w' => e = .returned (.agg #[.int .i64 bo, .int .i64 ne, .int .i64 cr]) ∧ Ext w w' := by
  have HX : Hid (Ext w ((w.alloc (.cells #[.int .i64 gr, cv, .int .i64 bo, .int .i64 ne, .int .i64 cr, .slice oa on oc, .slice la ln lc, .slice ha hn hc, lv, mv] 83)).alloc (.cells #[.int .i64 bo, .int .i64 ne, .int .i64 cr] 90))) := hid (((Ext.refl _).alloc _).alloc _)
  gi_enter Tryz.func77, Tryz.ntmps77
  gi_wp2_with fail
  have hb : ((w.alloc (.cells #[.int .i64 gr, cv, .int .i64 bo, .int .i64 ne, .int .i64 cr, .slice oa on oc, .slice la ln lc, .slice ha hn hc, lv, mv] 83)).alloc (.cells #[.int .i64 bo, .int .i64 ne, .int .i64 cr] 90)).heap[w.heap.size + 1]? = some (.cells #[.int .i64 bo, .int .i64 ne, .int .i64 cr] 90 (0, 0)) := by
    have := Ext.new (w := w.alloc (.cells #[.int .i64 gr, cv, .int .i64 bo, .int .i64 ne, .int .i64 cr, .slice oa on oc, .slice la ln lc, .slice ha hn hc, lv, mv] 83)) (o := .cells #[.int .i64 bo, .int .i64 ne, .int .i64 cr] 90) (Ext.refl _); rwa [World.size_alloc] at this
  generalize (w.alloc (.cells #[.int .i64 gr, cv, .int .i64 bo, .int .i64 ne, .int .i64 cr, .slice oa on oc, .slice la ln lc, .slice ha hn hc, lv, mv] 83)).alloc (.cells #[.int .i64 bo, .int .i64 ne, .int .i64 cr] 90) = W at *
  have hc := cell_of hb
  exact bodyPost_ret (v := .agg #[.int .i64 bo, .int .i64 ne, .int .i64 cr]) (by simp [results, Tryz.results77, go_sem, hc]) rfl ⟨rfl, HX.out⟩

set_option maxHeartbeats 2000000 in
theorem owners_any (gr bo ne cr : Int) (cv lv mv : Value) (oa la ha : Option Addr) (on oc ln lc hn hc : Nat) (w : World) (hcap : on ≤ oc) : Cal 96 #[.agg #[.int .i64 gr, cv, .int .i64 bo, .int .i64 ne, .int .i64 cr, .slice oa on oc, .slice la ln lc, .slice ha hn hc, lv, mv]] w fun e w' => e = .returned (.slice oa on on) ∧ Ext w w' := by
  have HX : Hid (Ext w (w.alloc (.cells #[.int .i64 gr, cv, .int .i64 bo, .int .i64 ne, .int .i64 cr, .slice oa on oc, .slice la ln lc, .slice ha hn hc, lv, mv] 83))) := hid ((Ext.refl _).alloc _)
  gi_enter Tryz.func96, Tryz.ntmps96
  gi_wp2_with fail
  go_ret
  exact ⟨rfl, HX.out⟩

set_option maxHeartbeats 2000000 in
theorem lenders_any (gr bo ne cr : Int) (cv lv mv : Value) (oa la ha : Option Addr) (on oc ln lc hn hc : Nat) (w : World) (hcap : ln ≤ lc) : Cal 97 #[.agg #[.int .i64 gr, cv, .int .i64 bo, .int .i64 ne, .int .i64 cr, .slice oa on oc, .slice la ln lc, .slice ha hn hc, lv, mv]] w fun e w' => e = .returned (.slice la ln ln) ∧ Ext w w' := by
  have HX : Hid (Ext w (w.alloc (.cells #[.int .i64 gr, cv, .int .i64 bo, .int .i64 ne, .int .i64 cr, .slice oa on oc, .slice la ln lc, .slice ha hn hc, lv, mv] 83))) := hid ((Ext.refl _).alloc _)
  gi_enter Tryz.func97, Tryz.ntmps97
  gi_wp2_with fail
  go_ret
  exact ⟨rfl, HX.out⟩

set_option maxHeartbeats 2000000 in
theorem hands_any (gr bo ne cr : Int) (cv lv mv : Value) (oa la ha : Option Addr) (on oc ln lc hn hc : Nat) (w : World) (hcap : hn ≤ hc) : Cal 98 #[.agg #[.int .i64 gr, cv, .int .i64 bo, .int .i64 ne, .int .i64 cr, .slice oa on oc, .slice la ln lc, .slice ha hn hc, lv, mv]] w fun e w' => e = .returned (.slice ha hn hn) ∧ Ext w w' := by
  have HX : Hid (Ext w (w.alloc (.cells #[.int .i64 gr, cv, .int .i64 bo, .int .i64 ne, .int .i64 cr, .slice oa on oc, .slice la ln lc, .slice ha hn hc, lv, mv] 83))) := hid ((Ext.refl _).alloc _)
  gi_enter Tryz.func98, Tryz.ntmps98
  gi_wp2_with fail
  go_ret
  exact ⟨rfl, HX.out⟩
end
section
open Go Go.RowKit Go.Shelf

def boatS : ByteArray := ⟨#[98, 111, 97, 116]⟩
def netsS : ByteArray := ⟨#[110, 101, 116, 115]⟩
def crewS : ByteArray := ⟨#[99, 114, 101, 119]⟩
def partsC : Array Value := #[.string ⟨#[98, 111, 97, 116]⟩, fnV 96, fnV 96, .string ⟨#[110, 101, 116, 115]⟩, fnV 97, fnV 55, .string ⟨#[99, 114, 101, 119]⟩, fnV 98, fnV 98]
theorem size120 : (Tryz.prog.info? 120).map (·.size) = some 9 := by kernel_rfl
set_option maxHeartbeats 2000000 in
theorem parts_any (w : World) : Cal 78 #[] w fun e w' => e = .returned (.agg partsC) ∧ Ext w w' := by
  gi_enter Tryz.func78, Tryz.ntmps78
  gi_wp2_with (refine wpIn_store_fresh (fun _ => trivial) 120 (.tmp 0) (.tmp 4) rfl (W := w) (c' := partsC) rfl rfl rfl size120 rfl (by simp [partsC, Value.oneCell']) ?_)
  have hX : Ext w (w.alloc (.cells partsC 120)) := (Ext.refl _).alloc _
  have hb : (w.alloc (.cells partsC 120)).heap[w.heap.size]? = some (.cells partsC 120 (0, 0)) := Ext.new (Ext.refl _)
  generalize w.alloc (.cells partsC 120) = W at *
  have hc := cell_of hb
  unfold partsC at hc ⊢
  exact bodyPost_ret (v := .agg #[.string ⟨#[98, 111, 97, 116]⟩, fnV 96, fnV 96, .string ⟨#[110, 101, 116, 115]⟩, fnV 97, fnV 55, .string ⟨#[99, 114, 101, 119]⟩, fnV 98, fnV 98]) (by simp [results, Tryz.results78, go_sem, hc]) rfl ⟨rfl, hX⟩

set_option maxRecDepth 100000 in
set_option maxHeartbeats 2000000 in
theorem divided_any (gr bo ne cr : Int) (cv ov hv lv mv : Value) (la : Option Addr) (ln lc : Nat) (cs : List Int) (w : World) (hcv : IntsAt w cv cs) (hb : ∀ x ∈ cs, -1000000000 ≤ x ∧ x ≤ 1000000000) (hl : cs.length ≤ 1000) (hg : -1000000000 ≤ gr ∧ gr ≤ 1000000000) :
    Cal 79 #[.agg #[.int .i64 gr, cv, .int .i64 bo, .int .i64 ne, .int .i64 cr, ov, .slice la ln lc, hv, lv, mv]] w fun e w' => e = .returned (.int .i64 (gr - cs.sum)) ∧ Ext w w' := by
  have hs := sum_to cs hb hl cs.length
  rw [List.take_length] at hs
  have HWR : Hid (IntKind.i64.wrap (gr - cs.sum) = gr - cs.sum) := hid (by rw [IntKind.wrap_i64]; omega)
  have HV := hid (fun (u : World) (hu : Ext w u) => hcv.mono hu)
  have HBD := hid hb
  have HLN := hid hl
  have HX : Hid (Ext w (w.alloc (.cells #[.int .i64 gr, cv, .int .i64 bo, .int .i64 ne, .int .i64 cr, ov, .slice la ln lc, hv, lv, mv] 83))) := hid ((Ext.refl _).alloc _)
  have HB : Hid ((w.alloc (.cells #[.int .i64 gr, cv, .int .i64 bo, .int .i64 ne, .int .i64 cr, ov, .slice la ln lc, hv, lv, mv] 83)).heap[w.heap.size]? = some (.cells #[.int .i64 gr, cv, .int .i64 bo, .int .i64 ne, .int .i64 cr, ov, .slice la ln lc, hv, lv, mv] 83 (0, 0))) := hid (Ext.new (Ext.refl _))
  clear hcv hb hl hs hg
  gi_enter Tryz.func79, Tryz.ntmps79
  gi_wp2_with fail
  generalize w.alloc (.cells #[.int .i64 gr, cv, .int .i64 bo, .int .i64 ne, .int .i64 cr, ov, .slice la ln lc, hv, lv, mv] 83) = W at *
  refine lex_wide 8 [] (by kernel_rfl) (by kernel_rfl) (nStab_nil) ?_
  simp only [List.take_succ_cons, List.take_zero, List.drop_succ_cons, List.drop_zero]
  apply lex_fun (rfl : psAt _ _ = none)
  · intro x u hR hf
    clear hR hf
    go_simp
    exact ⟨rfl, Ext.refl _⟩
  simp only [Act.put, List.setIfInBounds_toArray, List.set_cons_succ, List.set_cons_zero]
  apply lex_fun (rfl : psAt _ _ = none)
  · intro x u hR hf
    clear hR hf
    go_simp
    exact ⟨rfl, Ext.refl _⟩
  simp only [Act.put, List.setIfInBounds_toArray, List.set_cons_succ, List.set_cons_zero]
  apply lex_fun (rfl : psAt _ _ = none)
  · intro x u hR hf
    have c0 := cell_of (hR.block HB.out)
    clear hR hf
    go_simp
    exact ⟨rfl, Ext.refl _⟩
  simp only [Act.put, List.setIfInBounds_toArray, List.set_cons_succ, List.set_cons_zero]
  apply lex_fun (rfl : psAt _ _ = none)
  · intro x u hR hf
    clear hR hf
    go_simp
    exact ⟨rfl, Ext.refl _⟩
  simp only [Act.put, List.setIfInBounds_toArray, List.set_cons_succ, List.set_cons_zero]
  apply lex_fun (rfl : psAt _ _ = none)
  · intro x u hR hf
    clear hR hf
    go_simp
    exact ⟨rfl, Ext.refl _⟩
  simp only [Act.put, List.setIfInBounds_toArray, List.set_cons_succ, List.set_cons_zero]
  apply lex_fun (rfl : psAt _ _ = none)
  · intro x u hR hf
    have c0 := cell_of (hR.block HB.out)
    clear hR hf
    go_simp
    exact ⟨rfl, Ext.refl _⟩
  simp only [Act.put, List.setIfInBounds_toArray, List.set_cons_succ, List.set_cons_zero]
  refine lex_fun (v := .int .i64 cs.sum) (rfl : psAt _ _ = none) ?_ ?_
  · intro x u hR hf
    have hcal := hid (sumI_any cv cs u (HV.out u (HX.out.trans hR)) HBD.out HLN.out)
    clear hR hf
    go_simp
    exact hcal.out.mono fun e w'' ⟨he, hx'⟩ => ⟨_, he, rfl, by subst hx'; exact Ext.refl _⟩
  simp only [Act.put, List.setIfInBounds_toArray, List.set_cons_succ, List.set_cons_zero]
  refine lex_fun (v := .int .i64 (gr - cs.sum)) (rfl : psAt _ _ = none) ?_ ?_
  · intro x u hR hf
    clear hR hf
    go_simp
    exact ⟨by simp [HWR.out], Ext.refl _⟩
  simp only [Act.put, List.setIfInBounds_toArray, List.set_cons_succ, List.set_cons_zero]
  refine lex_nil fun x w6 hE hfacts => ?_
  clear hfacts x
  gi_wp2
  go_ret
  exact ⟨rfl, HX.out.trans hE⟩
end
end Go.Proofs.YtjocoadhalimjaaGreat
