/- The reference: the three parts. -/
import Derived.Test.YtjocoadhalimjaaGreatRBX
import Derived.Test.YtjocoadhalimjaaGreatRAO
import Derived.Test.YtjocoadhalimjaaGreatInv
import Derived.Test.YtjocoadhalimjaaGreatRAT
import Derived.Test.YtjocoadhalimjaaGreatRAZ
set_option linter.unusedSimpArgs false
set_option linter.unusedVariables false
namespace Go.Proofs.YtjocoadhalimjaaGreat
section
open Go Go.RowKit Go.Shelf

def pThree (a b c : Int) (v : Value) (u : World) : Prop := ∃ g, v = .slice (some ⟨g, 0, none⟩) 3 3 ∧ u.heap[g]? = some (.cells #[.string ⟨#[98, 111, 97, 116]⟩, .int .i64 a, .string ⟨#[110, 101, 116, 115]⟩, .int .i64 b, .string ⟨#[99, 114, 101, 119]⟩, .int .i64 c] 49 (0, 0))
theorem pThree_s (a b c : Int) : ∀ v u u', pThree a b c v u → Ext u u' → pThree a b c v u' := fun _ _ _ h k => by
  obtain ⟨g, h1, h2⟩ := h; exact ⟨g, h1, k.block h2⟩
theorem pThree_at {a b c : Int} {v : Value} {u : World} (h : pThree a b c v u) : StakesAt u v (threeS a b c) := by
  obtain ⟨g, rfl, hg⟩ := h
  refine ⟨_, 3, rfl, by simp [threeS], fun i hi => ⟨g, 0, rfl, lt_of_block hg, ?_, ?_⟩⟩
  · rw [cell_of hg]
    match i, hi with
    | 0, _ => rfl
    | 1, _ => rfl
    | 2, _ => rfl
  · rw [cell_of hg]
    match i, hi with
    | 0, _ => rfl
    | 1, _ => rfl
    | 2, _ => rfl
def pRow3 (F : Nat → Int) (v : Value) (u : World) : Prop := Row u 3 1 v 3 (intsF 3 F)
theorem pRow3_s (F : Nat → Int) : ∀ v u u', pRow3 F v u → Ext u u' → pRow3 F v u' := fun _ _ _ h k => Row.mono h k
set_option maxRecDepth 100000 in
set_option maxHeartbeats 4000000 in
theorem rParts_bad (V : Voy) (s : VS) (w : World) (h : VoyAt w V s) (hE : voyE V ≠ 0) : Cal 24 #[.agg (voyA V s)] w fun e w' => e = .returned (.tuple #[.int .i64 0, .int .i64 0, .int .i64 0, .int .i64 (voyE V)]) ∧ Ext w w' := by
  have HX0 : Hid (Ext w (w.alloc (.cells (voyA V s) 32))) := hid ((Ext.refl _).alloc _)
  have HB0 : Hid ((w.alloc (.cells (voyA V s) 32)).heap[w.heap.size]? = some (.cells (voyA V s) 32 (0, 0))) := hid (Ext.new (Ext.refl _))
  have HV := hid (fun (u : World) (hu : Ext w u) => rcheck_any V s u (h.mono hu))
  clear h
  obtain ⟨E, hEE⟩ : ∃ E, voyE V = E := ⟨_, rfl⟩
  rw [hEE] at HV hE ⊢
  have hb : (E != 0) = true := by simpa using hE
  clear hEE hE
  unfold voyA at *
  gi_enter Tryz.func24, Tryz.ntmps24
  gi_upto_region 1 with fail
  generalize w.alloc (.cells _ 32) = wa at *
  generalize w.heap.size = bx at *
  have cB := cell_of HB0.out
  gi_wp2_with (gi_at_call 22; (with_reducible refine (HV.out _ HX0.out).mono ?_); rintro e w1 ⟨rfl, hx1⟩)
  exact bodyPost_ret (v := .tuple #[.int .i64 0, .int .i64 0, .int .i64 0, .int .i64 E]) (by simp [results, Tryz.results24, go_sem]) rfl ⟨rfl, HX0.out.trans hx1⟩
set_option maxRecDepth 100000 in
set_option maxHeartbeats 8000000 in
theorem rParts_ok (V : Voy) (s : VS) (w : World) (h : VoyAt w V s) (hE : voyE V = 0) : Cal 24 #[.agg (voyA V s)] w fun e w' => e = .returned (.tuple #[.int .i64 (partP V 0), .int .i64 (partP V 1), .int .i64 (partP V 2), .int .i64 0]) ∧ Ext w w' := by
  have HX0 : Hid (Ext w (w.alloc (.cells (voyA V s) 32))) := hid ((Ext.refl _).alloc _)
  have HB0 : Hid ((w.alloc (.cells (voyA V s) 32)).heap[w.heap.size]? = some (.cells (voyA V s) 32 (0, 0))) := hid (Ext.new (Ext.refl _))
  have HV := hid (fun (u : World) (hu : Ext w u) => rcheck_any V s u (h.mono hu))
  have hok := (voyE_ok hE).1
  have hn := net_bound hok
  have HNET := hid (fun (u : World) (hu : Ext w u) => rnet_any V s u (h.mono hu) hok)
  obtain ⟨P, hP⟩ : ∃ P, netV V = P := ⟨_, rfl⟩
  have hP2 : V.gr - V.cs.sum = P := hP
  rw [hP2] at HNET
  rw [hP] at hn
  rw [hE] at HV
  have HDV := hid (fun (v : Value) (u : World) (hv : pThree V.bo V.ne V.cr v u) => refdiv_any P v (threeS V.bo V.ne V.cr) u (pThree_at hv) hn (fun s hs => by simp [threeS] at hs; have := hok.bo; have := hok.ne; have := hok.cr; rcases hs with rfl | rfl | rfl <;> simp only <;> omega) (by simp [threeS]) (by rw [three_sum]; have := hok.all; omega) (three_names _ _ _))
  have HPP : Hid (∀ i, partP V i = giveTo P (threeS V.bo V.ne V.cr) i) := hid (fun i => by unfold partP; rw [hP])
  rw [HPP.out 0, HPP.out 1, HPP.out 2]
  generalize giveTo P (threeS V.bo V.ne V.cr) = G at *
  clear h hE hok hn hP hP2 HPP
  unfold voyA at *
  gi_enter Tryz.func24, Tryz.ntmps24
  gi_upto_region 1 with fail
  generalize w.alloc (.cells _ 32) = wa at *
  generalize w.heap.size = bx at *
  have cB := cell_of HB0.out
  gi_upto_region 4 with (gi_at_call 22; (with_reducible refine (HV.out _ HX0.out).mono ?_); rintro e w1 ⟨rfl, hx1⟩)
  have HX1 := hid (HX0.out.trans hx1)
  have HB1 := hid (hx1.block HB0.out)
  clear cB hx1
  refine lex_wide 13 [(11, pThree V.bo V.ne V.cr), (12, pRow3 G)] (by kernel_rfl) (by kernel_rfl) (nStab_cons (pThree_s _ _ _) (nStab_cons (pRow3_s _) nStab_nil)) ?_
  simp only [List.take_succ_cons, List.take_zero, List.drop_succ_cons, List.drop_zero]
  apply lex_fun (rfl : psAt _ _ = none)
  · intro x u hR hf
    have c0 := cell_of (hR.block HB1.out)
    clear hR hf
    go_simp
    first | exact ⟨rfl, Ext.refl _⟩ | rfl
  simp only [Act.put, List.setIfInBounds_toArray, List.set_cons_succ, List.set_cons_zero]
  refine lex_fun (v := .int .i64 P) (rfl : psAt _ _ = none) ?_ ?_
  · intro x u hR hf
    have hcal := hid (HNET.out u (HX1.out.trans hR))
    clear hR hf
    go_simp
    exact hcal.out.mono fun e w'' ⟨he, hx'⟩ => ⟨_, he, rfl, hx'⟩
  simp only [Act.put, List.setIfInBounds_toArray, List.set_cons_succ, List.set_cons_zero]
  apply lex_fun (rfl : psAt _ _ = none)
  · intro x u hR hf
    clear hR hf
    go_simp
    first | exact ⟨rfl, Ext.refl _⟩ | rfl
  simp only [Act.put, List.setIfInBounds_toArray, List.set_cons_succ, List.set_cons_zero]
  apply lex_fun (rfl : psAt _ _ = none)
  · intro x u hR hf
    have c0 := cell_of (hR.block HB1.out)
    clear hR hf
    go_simp
    first | exact ⟨rfl, Ext.refl _⟩ | rfl
  simp only [Act.put, List.setIfInBounds_toArray, List.set_cons_succ, List.set_cons_zero]
  apply lex_fun (rfl : psAt _ _ = none)
  · intro x u hR hf
    clear hR hf
    go_simp
    first | exact ⟨rfl, Ext.refl _⟩ | rfl
  simp only [Act.put, List.setIfInBounds_toArray, List.set_cons_succ, List.set_cons_zero]
  apply lex_fun (rfl : psAt _ _ = none)
  · intro x u hR hf
    clear hR hf
    go_simp
    first | exact ⟨rfl, Ext.refl _⟩ | rfl
  simp only [Act.put, List.setIfInBounds_toArray, List.set_cons_succ, List.set_cons_zero]
  apply lex_fun (rfl : psAt _ _ = none)
  · intro x u hR hf
    have c0 := cell_of (hR.block HB1.out)
    clear hR hf
    go_simp
    first | exact ⟨rfl, Ext.refl _⟩ | rfl
  simp only [Act.put, List.setIfInBounds_toArray, List.set_cons_succ, List.set_cons_zero]
  apply lex_fun (rfl : psAt _ _ = none)
  · intro x u hR hf
    clear hR hf
    go_simp
    first | exact ⟨rfl, Ext.refl _⟩ | rfl
  simp only [Act.put, List.setIfInBounds_toArray, List.set_cons_succ, List.set_cons_zero]
  apply lex_fun (rfl : psAt _ _ = none)
  · intro x u hR hf
    clear hR hf
    go_simp
    first | exact ⟨rfl, Ext.refl _⟩ | rfl
  simp only [Act.put, List.setIfInBounds_toArray, List.set_cons_succ, List.set_cons_zero]
  apply lex_fun (rfl : psAt _ _ = none)
  · intro x u hR hf
    have c0 := cell_of (hR.block HB1.out)
    clear hR hf
    go_simp
    first | exact ⟨rfl, Ext.refl _⟩ | rfl
  simp only [Act.put, List.setIfInBounds_toArray, List.set_cons_succ, List.set_cons_zero]
  apply lex_fun (rfl : psAt _ _ = none)
  · intro x u hR hf
    clear hR hf
    go_simp
    first | exact ⟨rfl, Ext.refl _⟩ | rfl
  simp only [Act.put, List.setIfInBounds_toArray, List.set_cons_succ, List.set_cons_zero]
  refine lex_pred (p := pThree V.bo V.ne V.cr) rfl ?_ ?_
  · intro x u hR hf
    clear hR hf
    go_simp
    exact ⟨⟨_, rfl, Ext.new (Ext.refl _)⟩, (Ext.refl _).alloc _⟩
  simp only [Act.put, List.setIfInBounds_toArray, List.set_cons_succ, List.set_cons_zero]
  refine lex_pred (p := pRow3 G) rfl ?_ ?_
  · intro x u hR hf
    have h11 : pThree V.bo V.ne V.cr (x 11) u := by first | exact hf.1 rfl | exact hf.2.1 rfl | exact hf.2.2.1 rfl
    have hcal := hid (HDV.out (x 11) u h11)
    clear hR hf h11
    go_simp
    exact hcal.out.mono fun e w'' ⟨r, he, hx', hr⟩ => ⟨_, he, hr.out.1, hx'⟩
  simp only [Act.put, List.setIfInBounds_toArray, List.set_cons_succ, List.set_cons_zero]
  refine lex_nil fun x' w5 hE hfacts => ?_
  have hr : pRow3 G (x' 12) w5 := hfacts 12 _ (by omega) rfl
  clear hfacts
  unfold pRow3 at hr
  obtain ⟨g0, p0, q0, e0, _, _, k0, _⟩ := hr.cells1 (j := 0) (by omega)
  obtain ⟨g1, p1, q1, e1, _, _, k1, _⟩ := hr.cells1 (j := 1) (by omega)
  obtain ⟨g2, p2, q2, e2, _, hblk, k2, _⟩ := hr.cells1 (j := 2) (by omega)
  rw [e0] at e1 e2
  cases e1
  cases e2
  generalize x' 12 = x12 at *
  subst e0
  generalize x' 11 = x11 at *
  clear x'
  have HXE := hid (HX1.out.trans hE)
  rw [show (intsF 3 G)[0]? = some (.int .i64 (G 0)) from rfl] at k0
  rw [show (intsF 3 G)[1]? = some (.int .i64 (G 1)) from rfl] at k1
  rw [show (intsF 3 G)[2]? = some (.int .i64 (G 2)) from rfl] at k2
  rw [cell_of hblk] at k0 k1 k2
  have HBK := hid hblk
  have K0 := hid k0
  have K1 := hid k1
  have K2 := hid k2
  clear hr hE hblk k0 k1 k2
  gi_upto_region 5 with fail
  have d0 : ∀ e : Later w5, e.1.cell? ⟨g0, 0, none⟩ = some (.int .i64 (G 0)) := fun e => (cell_of (Ext.block e.grown HBK.out) 0).trans K0.out
  have d1 : ∀ e : Later w5, e.1.cell? ⟨g0, 1, none⟩ = some (.int .i64 (G 1)) := fun e => (cell_of (Ext.block e.grown HBK.out) 1).trans K1.out
  have d2 : ∀ e : Later w5, e.1.cell? ⟨g0, 2, none⟩ = some (.int .i64 (G 2)) := fun e => (cell_of (Ext.block e.grown HBK.out) 2).trans K2.out
  refine quiet_wide 13 (by kernel_rfl) (by kernel_rfl) ?_
  simp only [List.take_succ_cons, List.take_zero, List.drop_succ_cons, List.drop_zero]
  repeat (any_goals (first | go_big_quiet_step (fail) | quiet_step (fail)))
  refine wpQuiet_nil ?_
  rintro w6 ⟨⟨w6q, hx6⟩, hew6⟩
  obtain rfl : w6 = w6q := hew6
  have hx6 : Ext w5 w6 := hx6
  clear d0 d1 d2
  gi_wp2_with fail
  exact bodyPost_ret (v := .tuple #[.int .i64 (G 0), .int .i64 (G 1), .int .i64 (G 2), .int .i64 0]) (by simp [results, Tryz.results24, go_sem]) rfl ⟨rfl, HXE.out.trans hx6⟩
end
section
open Go Go.RowKit Go.Shelf

theorem info59J : (Tryz.prog.info? 59).map (fun i => (i.zero, i.size, i.bytes)) = some (some (.agg #[.string ByteArray.empty, .string ByteArray.empty, .int .i64 0, .int .i64 0]), 4, 48) := by kernel_rfl
theorem gives_callJ {o : Oper} {f : Nat} {fn : Func} {args : Array Operand} {ts : Array TypeId} {a : Act} {u : World} {vs : Array Value} {K : Value → World → Prop} (ho : o.op = .call { callee := .value (.func f), args := args, argTypes := ts }) (hfn : Tryz.prog.funcs[f]? = some fn) (hn : (fn.name == "runtime.NumGoroutine") = false) (hb : fn.body.isNone = false) (he : args.map a.eval = vs) (hc : Cal f vs u fun e w' => ∃ v, e = .returned v ∧ K v w') :
    gives Fence.wide 0 Tryz.prog (fun _ _ => True) o a u K := by
  unfold gives
  rw [Oper.semAt_eq _ _ _ (by rw [ho]; intro c h; cases h)]
  unfold execOp
  simp only [ho, resolve, invoke, Sem.run_bind, Sem.run_pure, Result.andThen_ok, he]
  have hf : a.eval (.func f) = .func (.func f) #[] #[] := rfl
  rw [hf]
  simp only [Deferred.ofValue, Sem.run_pure, Result.andThen_ok, callFunc, Array.append_empty, Array.empty_append]
  rw [Sem.run_bind, show (program).run Tryz.prog u = .ok Tryz.prog u from rfl, Result.andThen_ok, hfn]
  simp only [hn, hb, Bool.false_eq_true, if_false, Sem.run_pure]
  unfold giveUpon
  exact CallsIn.mono hc fun e w' ⟨v, h1, h2⟩ => ⟨v, h1, h2, trivial⟩
def lnC (x : Ln) : List Value := [.string x.f, .string x.g, .int .i64 x.n, .int .i64 x.r]
def lnF (l : List Ln) : List Value := l.flatMap lnC
theorem lnF_len : ∀ l : List Ln, (lnF l).length = l.length * 4
  | [] => rfl
  | a :: l => by
    have := lnF_len l
    unfold lnF at this ⊢
    rw [List.flatMap_cons, List.length_append, this, List.length_cons]
    simp [lnC]; omega
theorem lnF_get : ∀ (l : List Ln) (i : Nat) (h : i < l.length), (lnF l)[i * 4]? = some (.string l[i].f) ∧ (lnF l)[i * 4 + 1]? = some (.string l[i].g) ∧ (lnF l)[i * 4 + 2]? = some (.int .i64 l[i].n) ∧ (lnF l)[i * 4 + 3]? = some (.int .i64 l[i].r)
  | a :: l, 0, _ => by unfold lnF; rw [List.flatMap_cons]; exact ⟨rfl, rfl, rfl, rfl⟩
  | a :: l, i + 1, h => by
    have := lnF_get l i (by simpa using h)
    unfold lnF at this ⊢
    rw [List.flatMap_cons, show (i + 1) * 4 = i * 4 + 1 + 1 + 1 + 1 by omega]
    exact this
theorem lnF_one (l : List Ln) : ∀ u ∈ lnF l, u.oneCell' = true := by
  intro u hu
  unfold lnF at hu
  obtain ⟨x, _, hx⟩ := List.mem_flatMap.1 hu
  simp [lnC] at hx
  rcases hx with rfl | rfl | rfl | rfl <;> rfl
theorem lnF_app (a b : List Ln) : lnF (a ++ b) = lnF a ++ lnF b := by unfold lnF; rw [List.flatMap_append]
theorem LoansAt.of_row {w : World} {v : Value} {l : List Ln} (h : Row w 59 4 v l.length (lnF l)) (hl : l.length ≤ 1000) : LoansAt w v l := by
  obtain ⟨_, h⟩ := h
  rcases h with ⟨rfl, h0⟩ | ⟨g, cap, cur, rfl, hg, h1, h2, h3, h4⟩
  · exact ⟨none, 0, by rw [h0], ⟨by omega, by omega⟩, fun i hi => by omega⟩
  · refine ⟨_, cap, rfl, ⟨h1, by omega⟩, fun i hi => ⟨g, 0, rfl, lt_of_block hg, ?_⟩⟩
    have k := lnF_get l i hi
    rw [← k.1, ← k.2.1, ← k.2.2.1, ← k.2.2.2, cell_of hg, cell_of hg, cell_of hg, cell_of hg, Nat.zero_add, ← h4, List.getElem?_take, List.getElem?_take, List.getElem?_take, List.getElem?_take, if_pos (by omega), if_pos (by omega), if_pos (by omega), if_pos (by omega), Array.getElem?_toList, Array.getElem?_toList, Array.getElem?_toList, Array.getElem?_toList]
    exact ⟨rfl, rfl, rfl, rfl⟩
theorem loans_cells {w : World} {p : Addr} {n sc : Nat} {l : List Ln} (h : LoansAt w (.slice (some p) n sc) l) (j : Nat) (u : Value) (hj : (lnF l)[j]? = some u) : w.cell? (p.add j) = some u := by
  obtain ⟨a', c', e, _, hc⟩ := h
  cases e
  have hj2 : j < l.length * 4 := by rw [← lnF_len]; exact (List.getElem?_eq_some_iff.1 hj).1
  obtain ⟨q, r, hr, rfl⟩ : ∃ q r, r < 4 ∧ j = q * 4 + r := ⟨j / 4, j % 4, by omega, by omega⟩
  have hq : q < l.length := by omega
  obtain ⟨b, o, e, _, c0, c1, c2, c3⟩ := hc q hq
  cases e
  have k := lnF_get l q hq
  rw [Addr.add_mid]
  rcases (by omega : r = 0 ∨ r = 1 ∨ r = 2 ∨ r = 3) with rfl | rfl | rfl | rfl
  · rw [Nat.add_zero, k.1] at hj; cases hj; exact c0
  · rw [k.2.1] at hj; cases hj; rw [← Nat.add_assoc]; exact c1
  · rw [k.2.2.1] at hj; cases hj; rw [← Nat.add_assoc]; exact c2
  · rw [k.2.2.2] at hj; cases hj; rw [← Nat.add_assoc]; exact c3
theorem row_blk2 {w : World} {T : TypeId} {sz n : Nat} {v : Value} {xs : List Value} (h : Row w T sz v n xs) {g : Nat} (hg : v.ownBlock = some g) : g < w.heap.size := by
  rcases h.2 with ⟨rfl, _⟩ | ⟨g', cap, cur, rfl, hb, _⟩
  · simp [Value.ownBlock] at hg
  · simp [Value.ownBlock] at hg; subst hg; exact lt_of_block hb
/-- A row that is built beside a box of the call's own; what is appended next, if it has been made. -/
structure Bld (v0 w0 u : World) (b : Nat) (T : TypeId) (sz : Nat) (cur : Value) (n : Nat) (xs : List Value) (made : Bool) (bx : Value) (m : Nat) (ne : List Value) : Prop where
  ext : Ext v0 u
  km : KM b w0 u
  blt : v0.heap.size ≤ b ∧ b < w0.heap.size
  row : Row u T sz cur n xs
  own : ∀ g, cur.ownBlock = some g → w0.heap.size ≤ g
  box : made = true → ∃ g, bx = .slice (some ⟨g, 0, none⟩) m m ∧ u.heap[g]? = some (.cells ne.toArray T (0, 0)) ∧ w0.heap.size ≤ g ∧ cur.ownBlock ≠ some g
section
variable {v0 w0 u u' : World} {b : Nat} {T : TypeId} {sz : Nat} {cur cur' : Value} {n : Nat} {xs : List Value} {made : Bool} {bx : Value} {m : Nat} {ne : List Value}
theorem KM.cell_set {b : Nat} {u v : World} (h : KM b u v) (off : Nat) (x : Value) : KM b u (v.setCell ⟨b, off, none⟩ x) := ⟨by simpa using h.1, fun q o hq ho => by rw [set_other hq]; exact h.2 q o hq ho⟩
theorem KM.drawn {b : Nat} {u v : World} (h : KM b u v) : KM b u { v with drawn := v.drawn + 1 } := h.trans (KM.of_ext (Ext.drawn _))
theorem Bld.ext' (h : Bld v0 w0 u b T sz cur n xs made bx m ne) (hx : Ext u u') : Bld v0 w0 u' b T sz cur n xs made bx m ne :=
  ⟨h.ext.trans hx, h.km.trans (KM.of_ext hx), h.blt, h.row.mono hx, h.own, fun hm => by
    obtain ⟨g, h1, h2, h3, h4⟩ := h.box hm
    exact ⟨g, h1, hx.block h2, h3, h4⟩⟩
theorem Bld.make (h : Bld v0 w0 u b T sz cur n xs made bx m ne) {cs : Array Value} (hcs : cs = ne.toArray) : Bld v0 w0 (u.alloc (.cells cs T)) b T sz cur n xs true (.slice (some ⟨u.heap.size, 0, none⟩) m m) m ne := by
  subst hcs
  have hx : Ext u (u.alloc (.cells ne.toArray T)) := (Ext.refl _).alloc _
  refine ⟨h.ext.trans hx, h.km.trans (KM.of_ext hx), h.blt, h.row.mono hx, h.own, fun _ => ⟨u.heap.size, rfl, Ext.new (Ext.refl _), h.km.1, fun hq => ?_⟩⟩
  have := row_blk2 h.row hq; omega
theorem Bld.empty (h : Bld v0 w0 u b T sz cur n xs made bx m ne) : Bld v0 w0 (u.alloc (.cells #[] T)) b T sz (.slice (some ⟨u.heap.size, 0, none⟩) 0 0) 0 [] made bx m ne := by
  have hx : Ext u (u.alloc (.cells #[] T)) := (Ext.refl _).alloc _
  refine ⟨h.ext.trans hx, h.km.trans (KM.of_ext hx), h.blt, row_empty u T sz, fun g hg => ?_, fun hm => ?_⟩
  · simp [Value.ownBlock] at hg; subst hg
    exact h.km.1
  · obtain ⟨g, h1, h2, h3, h4⟩ := h.box hm
    refine ⟨g, h1, hx.block h2, h3, fun hq => ?_⟩
    simp [Value.ownBlock] at hq; subst hq
    have := lt_of_block h2; omega
theorem Bld.grow (h : Bld v0 w0 u b T sz cur n xs made bx m ne) {n' : Nat} {ys : List Value} (hr : Row u' T sz cur' n' ys) (hg : u.grownBy u' cur.ownBlock) (how : cur'.ownBlock = cur.ownBlock ∨ cur'.ownBlock = some u.heap.size) : Bld v0 w0 u' b T sz cur' n' ys made bx m ne := by
  have hx' : Ext v0 u' := ext_grown h.ext hg fun g hq => by have := h.own g hq; have := h.blt; omega
  refine ⟨hx', ⟨Nat.le_trans h.km.1 hg.size, fun q o hq ho => grownBy_block hg (h.km.2 q o hq ho) fun e => by have := h.own q e.symm; have := lt_of_block ho; omega⟩, h.blt, hr, fun g hq => ?_, fun hm => ?_⟩
  · rcases how with e | e
    · exact h.own g (by rw [← e]; exact hq)
    · rw [hq] at e; cases e
      exact h.km.1
  · obtain ⟨g, h1, h2, h3, h4⟩ := h.box hm
    refine ⟨g, h1, grownBy_block hg h2 (fun e => h4 e.symm), h3, fun hq => ?_⟩
    rcases how with e | e
    · exact h4 (by rw [← e]; exact hq)
    · rw [hq] at e; cases e
      have := lt_of_block h2; omega
theorem Bld.keep (h : Bld v0 w0 u b T sz cur n xs made bx m ne) (hg : u.grownBy u' cur.ownBlock) {o : Obj} (hb : u.heap[b]? = some o) : u'.heap[b]? = some o :=
  grownBy_block hg hb fun e => by have := h.own b e.symm; have := h.blt; omega
theorem Bld.store (h : Bld v0 w0 u b T sz cur n xs made bx m ne) (off : Nat) (y : Value) : Bld v0 w0 (u.setCell ⟨b, off, none⟩ y) b T sz cur n xs made bx m ne := by
  refine ⟨h.ext.set h.blt.1 _ _, h.km.cell_set _ _, h.blt, h.row.kept fun k o hk ho => ?_, h.own, fun hm => ?_⟩
  · rw [set_other (by have := h.own k hk; have := h.blt; omega)]; exact ho
  · obtain ⟨g, h1, h2, h3, h4⟩ := h.box hm
    exact ⟨g, h1, by rw [set_other (by have := h.blt; omega)]; exact h2, h3, h4⟩
/-- The append of what was made. -/
theorem Bld.app (h : Bld v0 w0 u b T sz cur n xs true bx m ne) {t ty : TypeId} {bytes : Nat} {i : TypeInfo} {z : Value} (ht : Tryz.prog.underlying t = some (.slice T)) (hi : Tryz.prog.info? T = some i) (hz : i.zero = some z) (hs : i.size = sz) (hby : i.bytes = bytes) (hzs : z.cells.size = sz) (hsz : 0 < sz) (hm : 0 < m)
    (hl : ne.length = m * sz) (h1 : ∀ u ∈ ne, u.oneCell' = true) (h63 : n + m ≤ 1000000000) (hbytes : bytes ≤ 1000) :
    ∃ v' u', (Builtin.append_ #[t, t] ty #[cur, bx]).run Tryz.prog u = .ok v' u' ∧ Bld v0 w0 u' b T sz v' (n + m) (xs ++ ne) true bx m ne ∧ u.grownBy u' cur.ownBlock := by
  obtain ⟨g, hg1, hg2, hg3, hg4⟩ := h.box rfl
  subst hg1
  obtain ⟨v', u', k1, k2, k3, k4⟩ := append_rows (ty := ty) ht hi hz hs hby hzs hsz hm h.row ⟨g, 0, none⟩ m ne hl (fun j q hq => by
    rw [Addr.add_mid, Nat.zero_add, cell_of hg2]
    simpa using hq) h1 h63 hbytes
  exact ⟨v', u', k1, h.grow k2 k3 k4, k3⟩
/-- The append of a list of loans that lies in memory. -/
theorem Bld.loans {v : Value} {n : Nat} {xs : List Value} (h : Bld v0 w0 u b 59 4 cur n xs made bx m ne) {sa : Option Addr} {k sc : Nat} {l : List Ln} (hl : LoansAt v0 (.slice sa k sc) l) (hb : n + l.length ≤ 100000) (hn : ∃ ca cc, cur = .slice ca n cc ∧ n ≤ cc) :
    ∃ v' u', (Builtin.append_ #[30, 30] 30 #[cur, .slice sa k sc]).run Tryz.prog u = .ok v' u' ∧ Bld v0 w0 u' b 59 4 v' (n + l.length) (xs ++ lnF l) made bx m ne ∧ u.grownBy u' cur.ownBlock := by
  obtain ⟨i, hi, hz0, hz1, hz2⟩ := info_parts info59J
  have hl2 := hl.mono h.ext
  obtain ⟨a', c', e, _, hc⟩ := id hl
  cases e
  by_cases h0 : l.length = 0
  · obtain ⟨ca, cc, rfl, hcc⟩ := hn
    have : l = [] := List.eq_nil_of_length_eq_zero h0
    subst this
    refine ⟨_, u, append_none (w := u) (ty := 30) Tryz.underlying30 hi hcc sa sc, by simpa [lnF] using h, ⟨rfl, rfl, rfl, Nat.le_refl _, fun _ h _ => rfl⟩⟩
  · obtain ⟨bb, off, e, _⟩ := hc 0 (by omega)
    subst e
    obtain ⟨v', u', k1, k2, k3, k4⟩ := append_rows (ty := 30) Tryz.underlying30 hi hz0 hz1 hz2 (by simp [Value.cells]) (by omega) (m := l.length) (by omega) h.row ⟨bb, off, none⟩ sc (lnF l) (lnF_len l) (fun j q hq => loans_cells hl2 j q hq) (lnF_one l) (by omega) (by omega)
    exact ⟨v', u', k1, h.grow k2 k3 k4, k3⟩
end
/-- In a region: the box is made by operation i, appended by j, the row is stored by st; ld reads it. -/
def bldJ (v0 w0 : World) (b : Nat) (T : TypeId) (sz i j st ld : Nat) (arr : Value → Array Value) (ty : TypeId) (v : Value) (n : Nat) (xs : List Value) (m : Nat) (ne : List Value) : InvJ := fun L x u =>
  Bld v0 w0 u b T sz (if L j then x j else v) (if L j then n + m else n) (if L j then xs ++ ne else xs) (L i) (x i) m ne ∧ u.heap[b]? = some (.cells (arr (if L st then x j else v)) ty (0, 0)) ∧ (L st = true → L ld = true ∧ L j = true) ∧ (L j = true → L i = true)
section
variable {v0 w0 u : World} {b : Nat} {T : TypeId} {sz i j st ld : Nat} {arr : Value → Array Value} {ty : TypeId} {v : Value} {n : Nat} {xs : List Value} {m : Nat} {ne : List Value} {L : Nat → Bool} {x : Nat → Value}
theorem bldJ_start (h : Bld v0 w0 u b T sz v n xs false undef m ne) (hb : u.heap[b]? = some (.cells (arr v) ty (0, 0))) : bldJ v0 w0 b T sz i j st ld arr ty v n xs m ne (fun _ => false) (fun _ => undef) { u with drawn := u.drawn + 1 } :=
  ⟨h.ext' (Ext.drawn _), hb, fun h => (by cases h), fun h => (by cases h)⟩
theorem bldJ_skip {k : Nat} (hk : (i != k && j != k && st != k) = true) (h : bldJ v0 w0 b T sz i j st ld arr ty v n xs m ne L x u) : bldJ v0 w0 b T sz i j st ld arr ty v n xs m ne (updL L k) x u := by
  simp only [Bool.and_eq_true, bne_iff_ne, ne_eq] at hk
  unfold bldJ updL at *
  rw [if_neg hk.1.1, if_neg hk.1.2, if_neg hk.2]
  refine ⟨h.1, h.2.1, fun e => ⟨?_, (h.2.2.1 e).2⟩, h.2.2.2⟩
  split
  · rfl
  · exact (h.2.2.1 e).1
theorem bldJ_make (hk : (j != i && st != i && st != j) = true) (h : bldJ v0 w0 b T sz i j st ld arr ty v n xs m ne L x u) (hL : L i = false) {cs : Array Value} (hcs : cs = ne.toArray) : bldJ v0 w0 b T sz i j st ld arr ty v n xs m ne (updL L i) (updX x i (.slice (some ⟨u.heap.size, 0, none⟩) m m)) (u.alloc (.cells cs T)) := by
  simp only [Bool.and_eq_true, bne_iff_ne, ne_eq] at hk
  obtain ⟨h1, h2, h3, h4⟩ := h
  have hLj : L j = false := by
    cases e : L j with
    | false => rfl
    | true => rw [h4 e] at hL; cases hL
  have hLs : L st = false := by
    cases e : L st with
    | false => rfl
    | true => rw [(h3 e).2] at hLj; cases hLj
  rw [hLj] at h1
  rw [hLs] at h2
  unfold bldJ updL updX
  rw [if_neg hk.1.1, if_neg hk.1.2, if_pos rfl, if_pos rfl, hLj, hLs]
  exact ⟨h1.make hcs, ((Ext.refl u).alloc _).block h2, fun e => (by cases e), fun e => (by cases e)⟩
theorem bldJ_app (hk : (j != i && st != i && st != j) = true) (h : bldJ v0 w0 b T sz i j st ld arr ty v n xs m ne L x u) (hi : L i = true) (hL : L j = false) {t ty' : TypeId} {bytes : Nat} {inf : TypeInfo} {z : Value} (ht : Tryz.prog.underlying t = some (.slice T)) (hif : Tryz.prog.info? T = some inf) (hz : inf.zero = some z) (hs : inf.size = sz) (hby : inf.bytes = bytes) (hzs : z.cells.size = sz) (hsz : 0 < sz) (hm : 0 < m)
    (hl : ne.length = m * sz) (h1 : ∀ u ∈ ne, u.oneCell' = true) (h63 : n + m ≤ 1000000000) (hbytes : bytes ≤ 1000) :
    ∃ v' u', (Builtin.append_ #[t, t] ty' #[v, x i]).run Tryz.prog u = .ok v' u' ∧ bldJ v0 w0 b T sz i j st ld arr ty v n xs m ne (updL L j) (updX x j v') u' := by
  simp only [Bool.and_eq_true, bne_iff_ne, ne_eq] at hk
  obtain ⟨k1, k2, k3, k4⟩ := h
  have hLs : L st = false := by
    cases e : L st with
    | false => rfl
    | true => rw [(k3 e).2] at hL; cases hL
  rw [hL, hi] at k1
  simp only [Bool.false_eq_true, if_false] at k1
  rw [hLs] at k2
  obtain ⟨v', u', e1, e2, e3⟩ := Bld.app (ty := ty') k1 ht hif hz hs hby hzs hsz hm hl h1 h63 hbytes
  refine ⟨v', u', e1, ?_⟩
  unfold bldJ updL updX
  rw [if_pos rfl, if_neg (Ne.symm hk.1.1), if_neg hk.2, if_neg (Ne.symm hk.1.1), if_pos rfl, hi, hLs]
  simp only [if_true]
  exact ⟨e2, k1.keep e3 k2, fun e => (by cases e), fun _ => trivial⟩
theorem bldJ_store (hk : (j != i && st != i && st != j) = true) (h : bldJ v0 w0 b T sz i j st ld arr ty v n xs m ne L x u) (hj : L j = true) (hld : L ld = true) {off : Nat} (harr : ∀ y z, (arr y).setIfInBounds off z = arr z) : bldJ v0 w0 b T sz i j st ld arr ty v n xs m ne (updL L st) x (u.setCell ⟨b, off, none⟩ (x j)) := by
  simp only [Bool.and_eq_true, bne_iff_ne, ne_eq] at hk
  obtain ⟨k1, k2, k3, k4⟩ := h
  have e := set_same k2 off (x j)
  rw [harr] at e
  unfold bldJ updL
  rw [if_neg (Ne.symm hk.2), if_neg (Ne.symm hk.1.2), if_pos rfl]
  refine ⟨k1.store off _, e, fun _ => ⟨?_, hj⟩, k4⟩
  split
  · rfl
  · exact hld
theorem bldJ_load (h : bldJ v0 w0 b T sz i j st ld arr ty v n xs m ne L x u) (hL : L ld = false) : u.heap[b]? = some (.cells (arr v) ty (0, 0)) := by
  obtain ⟨k1, k2, k3, k4⟩ := h
  have hLs : L st = false := by
    cases e : L st with
    | false => rfl
    | true => rw [(k3 e).1] at hL; cases hL
  rw [hLs] at k2
  exact k2
theorem bldJ_old (h : bldJ v0 w0 b T sz i j st ld arr ty v n xs m ne L x u) (hL : L st = false) : u.heap[b]? = some (.cells (arr v) ty (0, 0)) := by
  have k2 := h.2.1
  rw [hL] at k2
  exact k2
theorem bldJ_end (h : bldJ v0 w0 b T sz i j st ld arr ty v n xs m ne L x u) (hj : L j = true) (hs : L st = true) : Bld v0 w0 u b T sz (x j) (n + m) (xs ++ ne) (L i) (x i) m ne ∧ u.heap[b]? = some (.cells (arr (x j)) ty (0, 0)) := by
  obtain ⟨k1, k2, _⟩ := h
  rw [hj] at k1
  rw [hs] at k2
  exact ⟨k1, k2⟩
theorem bldJ_row (h : bldJ v0 w0 b T sz i j st ld arr ty v n xs m ne L x u) (hj : L j = true) : ∃ a c, x j = .slice a (n + m) c := by
  have k1 := h.1.row
  rw [hj] at k1
  exact k1.isSliceN
end
theorem Row.slice_le {w : World} {T : TypeId} {sz : Nat} {v : Value} {n : Nat} {xs : List Value} (h : Row w T sz v n xs) : ∃ ca cc, v = .slice ca n cc ∧ n ≤ cc := by
  rcases h.2 with ⟨rfl, rfl⟩ | ⟨g, cap, cur, rfl, _, h1, _⟩
  · exact ⟨none, 0, rfl, Nat.le_refl _⟩
  · exact ⟨_, cap, rfl, h1⟩
end
section
open Go Go.RowKit Go.Shelf

theorem gives_storeF {F : Fence} {n : Nat} {R : World → World → Prop} {o : Oper} {a : Act} {w W : World} {V : Value → World → Prop} (ty : TypeId) (x y : Operand) (ho : o.op = .store ty x y) {c c' : Array Value}
    (hx : a.eval x = .pointer (some ⟨W.heap.size, 0, none⟩)) (hy : a.eval y = .agg c') (hw : w = W.alloc (.cells c ty)) (hi : (Tryz.prog.info? ty).map (·.size) = some c'.size) (hs : c.size = c'.size) (h1 : c'.all (·.oneCell') = true)
    (h : V undef (W.alloc (.cells c' ty)) ∧ R w (W.alloc (.cells c' ty))) : gives F n Tryz.prog R o a w V := by
  subst hw
  have hr := run_storeAt_new (P := Tryz.prog) W ty c c' hi hs h1
  unfold gives
  rw [Oper.semAt_eq _ _ _ (by rw [ho]; intro c h; cases h)]
  unfold execOp
  simp only [ho, hx, hy, Sem.run_bind, Sem.run_pure, Result.andThen_ok, hr]
  exact h
theorem updL_ne {L : Nat → Bool} {j k : Nat} (h : j ≠ k) : updL L k j = L j := if_neg h
theorem updL_eq {L : Nat → Bool} {k : Nat} : updL L k k = true := if_pos rfl
theorem updX_ne {x : Nat → Value} {j k : Nat} {v : Value} (h : j ≠ k) : updX x k v j = x j := if_neg h
theorem updX_eq {x : Nat → Value} {k : Nat} {v : Value} : updX x k v k = v := if_pos rfl
theorem info32 : (Tryz.prog.info? 32).map (·.size) = some 9 := by kernel_rfl
theorem size59J : (Tryz.prog.info? 59).map (·.size) = some 4 := by kernel_rfl
/-- One box: made by operation i, filled by j. -/
def mkJ (wd wa w1 : World) (i j : Nat) : InvJ := fun L x u => (L i = false → u = wd) ∧ (L i = true → L j = false → u = wa) ∧ (L j = true → u = w1) ∧ (L j = true → L i = true)
section
variable {wd wa w1 u w0 : World} {L : Nat → Bool} {x : Nat → Value} {i j : Nat}
theorem mkJ_start : mkJ wd wa w1 i j (fun _ => false) (fun _ => undef) wd := by refine ⟨fun _ => rfl, ?_, ?_, ?_⟩ <;> intro h <;> cases h
theorem mkJ_ext (h : mkJ wd wa w1 i j L x u) (ha : Ext wd wa) (h1 : Ext wd w1) : Ext wd u := by
  obtain ⟨a, b, c, d⟩ := h
  cases hi : L i with
  | false => rw [a hi]; exact Ext.refl _
  | true =>
    cases hj : L j with
    | false => rw [b hi hj]; exact ha
    | true => rw [c hj]; exact h1
theorem mkJ_skip {k : Nat} (hk : (i != k && j != k) = true) (h : mkJ wd wa w1 i j L x u) : mkJ wd wa w1 i j (updL L k) x u := by
  simp only [Bool.and_eq_true, bne_iff_ne, ne_eq] at hk
  unfold mkJ updL at *
  rw [if_neg hk.1, if_neg hk.2]; exact h
theorem mkJ_make (h : mkJ wd wa w1 i j L x u) (hL : L i = false) (hj : j ≠ i) : u = wd ∧ mkJ wd wa w1 i j (updL L i) x wa := by
  obtain ⟨a, b, c, d⟩ := h
  have hLj : L j = false := by cases hh : L j with | false => rfl | true => rw [d hh] at hL; cases hL
  refine ⟨a hL, ?_⟩
  unfold mkJ updL
  rw [if_pos rfl, if_neg hj, hLj]
  exact ⟨fun h => (by cases h), fun _ _ => rfl, fun h => (by cases h), fun h => (by cases h)⟩
theorem mkJ_fill (h : mkJ wd wa w1 i j L x u) (hi : L i = true) (hL : L j = false) (hj : i ≠ j) : u = wa ∧ mkJ wd wa w1 i j (updL L j) x w1 := by
  obtain ⟨a, b, c, d⟩ := h
  refine ⟨b hi hL, ?_⟩
  unfold mkJ updL
  rw [if_pos rfl, if_neg hj, hi]
  exact ⟨fun h => (by cases h), fun _ h => (by cases h), fun _ => rfl, fun _ => rfl⟩
end
/-- A loan whose two names are changed for each other. -/
def bkJ (w0 : World) (b : Nat) (A B : ByteArray) (n r : Int) : InvJ := fun L x u => Ext w0 u ∧ u.heap[b]? = some (.cells #[.string (if L 5 then B else A), .string (if L 7 then A else B), .int .i64 n, .int .i64 r] 59 (0, 0))
section
variable {w0 u : World} {b : Nat} {A B : ByteArray} {n r : Int} {L : Nat → Bool} {x : Nat → Value}
theorem bkJ_skip {k : Nat} (hk : (5 != k && 7 != k) = true) (h : bkJ w0 b A B n r L x u) : bkJ w0 b A B n r (updL L k) x u := by
  simp only [Bool.and_eq_true, bne_iff_ne, ne_eq] at hk
  unfold bkJ updL at *
  rw [if_neg hk.1, if_neg hk.2]; exact h
theorem bkJ_5 (h : bkJ w0 b A B n r L x u) (hb : w0.heap.size ≤ b) : bkJ w0 b A B n r (updL L 5) x (u.setCell ⟨b, 0, none⟩ (.string B)) := ⟨h.1.set hb _ _, set_same h.2 0 _⟩
theorem bkJ_7 (h : bkJ w0 b A B n r L x u) (hb : w0.heap.size ≤ b) : bkJ w0 b A B n r (updL L 7) x (u.setCell ⟨b, 1, none⟩ (.string A)) := ⟨h.1.set hb _ _, set_same h.2 1 _⟩
end
/-- Two boxes made by the operations 2 and 3, and filled by 4 and 5. -/
def boxJ (w0 : World) (Z C : Array Value) (T : TypeId) : InvJ := fun L x u => Ext w0 u ∧
  (L 2 = true → ∃ g, x 2 = .pointer (some ⟨g, 0, none⟩) ∧ w0.heap.size ≤ g ∧ u.heap[g]? = some (.cells (if L 4 then C else Z) T (0, 0))) ∧
  (L 3 = true → ∃ g, x 3 = .pointer (some ⟨g, 0, none⟩) ∧ w0.heap.size ≤ g ∧ u.heap[g]? = some (.cells (if L 5 then C else Z) T (0, 0))) ∧
  (L 2 = true → L 3 = true → x 2 ≠ x 3) ∧ (L 4 = true → L 2 = true) ∧ (L 5 = true → L 3 = true)
section
variable {w0 u : World} {Z C : Array Value} {T : TypeId} {L : Nat → Bool} {x : Nat → Value}
theorem boxJ_start {u : World} (h : Ext w0 u) : boxJ w0 Z C T (fun _ => false) (fun _ => undef) { u with drawn := u.drawn + 1 } :=
  ⟨h.trans (Ext.drawn _), fun h => (by cases h), fun h => (by cases h), fun h => (by cases h), fun h => (by cases h), fun h => (by cases h)⟩
theorem boxJ_skip {k : Nat} (hk : (2 != k && 3 != k && 4 != k && 5 != k) = true) (h : boxJ w0 Z C T L x u) : boxJ w0 Z C T (updL L k) x u := by
  simp only [Bool.and_eq_true, bne_iff_ne, ne_eq] at hk
  unfold boxJ updL at *
  rw [if_neg hk.1.1.1, if_neg hk.1.1.2, if_neg hk.1.2, if_neg hk.2]; exact h
theorem boxJ_2 (h : boxJ w0 Z C T L x u) (hL : L 2 = false) : boxJ w0 Z C T (updL L 2) (updX x 2 (.pointer (some ⟨u.heap.size, 0, none⟩))) (u.alloc (.cells Z T)) := by
  obtain ⟨h1, h2, h3, h4, h5, h6⟩ := h
  have hx : Ext u (u.alloc (.cells Z T)) := (Ext.refl _).alloc _
  have hL4 : L 4 = false := by cases hh : L 4 with | false => rfl | true => rw [h5 hh] at hL; cases hL
  unfold boxJ
  rw [updL_ne (show 3 ≠ 2 by decide), updL_ne (show 4 ≠ 2 by decide), updL_ne (show 5 ≠ 2 by decide), updX_eq, updX_ne (show 3 ≠ 2 by decide), hL4]
  refine ⟨h1.trans hx, fun _ => ⟨u.heap.size, rfl, h1.size, Ext.new (Ext.refl _)⟩, fun e => ?_, fun _ e => ?_, fun e => (by cases e), h6⟩
  · obtain ⟨g, k1, k2, k3⟩ := h3 e
    exact ⟨g, k1, k2, hx.block k3⟩
  · obtain ⟨g, k1, k2, k3⟩ := h3 e
    rw [k1]
    intro he
    cases he
    have := lt_of_block k3; omega
theorem boxJ_3 (h : boxJ w0 Z C T L x u) (hL : L 3 = false) : boxJ w0 Z C T (updL L 3) (updX x 3 (.pointer (some ⟨u.heap.size, 0, none⟩))) (u.alloc (.cells Z T)) := by
  obtain ⟨h1, h2, h3, h4, h5, h6⟩ := h
  have hx : Ext u (u.alloc (.cells Z T)) := (Ext.refl _).alloc _
  have hL5 : L 5 = false := by cases hh : L 5 with | false => rfl | true => rw [h6 hh] at hL; cases hL
  unfold boxJ
  rw [updL_ne (show 2 ≠ 3 by decide), updL_ne (show 4 ≠ 3 by decide), updL_ne (show 5 ≠ 3 by decide), updX_eq, updX_ne (show 2 ≠ 3 by decide), hL5]
  refine ⟨h1.trans hx, fun e => ?_, fun _ => ⟨u.heap.size, rfl, h1.size, Ext.new (Ext.refl _)⟩, fun e _ => ?_, h5, fun e => (by cases e)⟩
  · obtain ⟨g, k1, k2, k3⟩ := h2 e
    exact ⟨g, k1, k2, hx.block k3⟩
  · obtain ⟨g, k1, k2, k3⟩ := h2 e
    rw [k1]
    intro he
    cases he
    have := lt_of_block k3; omega
theorem boxJ_4 (h : boxJ w0 Z C T L x u) (h2 : L 2 = true) {g : Nat} (hg : x 2 = .pointer (some ⟨g, 0, none⟩)) {u' : World} (hu : u' = u.setRow g C) (hk : Ext w0 u') (hb : u'.heap[g]? = some (.cells C T (0, 0))) : boxJ w0 Z C T (updL L 4) x u' := by
  obtain ⟨k1, k2, k3, k4, k5, k6⟩ := h
  unfold boxJ
  rw [updL_ne (show 2 ≠ 4 by decide), updL_ne (show 3 ≠ 4 by decide), updL_ne (show 5 ≠ 4 by decide), updL_eq]
  refine ⟨hk, fun e => ?_, fun e => ?_, k4, fun _ => h2, k6⟩
  · obtain ⟨g', e1, e2, _⟩ := k2 h2
    rw [hg] at e1; cases e1
    exact ⟨g, hg, e2, hb⟩
  · obtain ⟨g', e1, e2, e3⟩ := k3 e
    refine ⟨g', e1, e2, ?_⟩
    have hne : g' ≠ g := by
      rintro rfl
      exact k4 h2 e (hg.trans e1.symm)
    rw [hu, setRow_other u g g' _ hne]; exact e3
theorem boxJ_5 (h : boxJ w0 Z C T L x u) (h3 : L 3 = true) {g : Nat} (hg : x 3 = .pointer (some ⟨g, 0, none⟩)) {u' : World} (hu : u' = u.setRow g C) (hk : Ext w0 u') (hb : u'.heap[g]? = some (.cells C T (0, 0))) : boxJ w0 Z C T (updL L 5) x u' := by
  obtain ⟨k1, k2, k3, k4, k5, k6⟩ := h
  unfold boxJ
  rw [updL_ne (show 2 ≠ 5 by decide), updL_ne (show 3 ≠ 5 by decide), updL_ne (show 4 ≠ 5 by decide), updL_eq]
  refine ⟨hk, fun e => ?_, fun e => ?_, k4, k5, fun _ => h3⟩
  · obtain ⟨g', e1, e2, e3⟩ := k2 e
    refine ⟨g', e1, e2, ?_⟩
    have hne : g' ≠ g := by
      rintro rfl
      exact k4 e h3 (e1.trans hg.symm)
    rw [hu, setRow_other u g g' _ hne]; exact e3
  · obtain ⟨g', e1, e2, _⟩ := k3 h3
    rw [hg] at e1; cases e1
    exact ⟨g, hg, e2, hb⟩
theorem setRow_ext {w0 u : World} (h : Ext w0 u) {g : Nat} (hg : w0.heap.size ≤ g) (cs : Array Value) : Ext w0 (u.setRow g cs) := by
  refine ext_grown (ob := some g) h ⟨rfl, rfl, rfl, by simp [World.setRow], fun k hk hne => setRow_other u g k _ (fun e => hne (by rw [e]))⟩ (fun g' h' => by cases h'; exact hg)
end
/-- A row of two parts, the second one made apart: i0 the empty row, i1 the first part, ib the box, j the second part, st the store. -/
def bld2J (v0 w0 : World) (b i0 i1 ib j st : Nat) (arr : Value → Array Value) (ty : TypeId) (v : Value) (l : List Ln) (m : Nat) (ne : List Value) : InvJ := fun L x u =>
  Bld v0 w0 u b 59 4 (if L j then x j else if L i1 then x i1 else if L i0 then x i0 else .slice none 0 0) (if L j then l.length + m else if L i1 then l.length else 0) (if L j then lnF l ++ ne else if L i1 then lnF l else []) (L ib) (x ib) m ne ∧
  u.heap[b]? = some (.cells (arr (if L st then x j else v)) ty (0, 0)) ∧ ((L st = true → L j = true) ∧ (L j = true → L i1 = true ∧ L ib = true) ∧ (L i1 = true → L i0 = true)) ∧ (L i0 = true → L i1 = false → ∃ ca cc, x i0 = .slice ca 0 cc)
section
variable {v0 w0 u : World} {b i0 i1 ib j st : Nat} {arr : Value → Array Value} {ty : TypeId} {v : Value} {l : List Ln} {m : Nat} {ne : List Value} {L : Nat → Bool} {x : Nat → Value}
theorem bld2J_start (h : Ext v0 u) (hb : v0.heap.size ≤ b ∧ b < u.heap.size) (hc : u.heap[b]? = some (.cells (arr v) ty (0, 0))) : bld2J v0 u b i0 i1 ib j st arr ty v l m ne (fun _ => false) (fun _ => undef) { u with drawn := u.drawn + 1 } :=
  ⟨⟨h.trans (Ext.drawn _), KM.of_ext (Ext.drawn _), hb, Row.nil _ _ _, fun g hg => by simp [Value.ownBlock] at hg, fun h => by cases h⟩, hc, ⟨fun h => (by cases h), fun h => (by cases h), fun h => (by cases h)⟩, fun h => by cases h⟩
theorem bld2J_skip {k : Nat} (hk : (i0 != k && i1 != k && ib != k && j != k && st != k) = true) (h : bld2J v0 w0 b i0 i1 ib j st arr ty v l m ne L x u) : bld2J v0 w0 b i0 i1 ib j st arr ty v l m ne (updL L k) x u := by
  simp only [Bool.and_eq_true, bne_iff_ne, ne_eq] at hk
  unfold bld2J at *
  rw [updL_ne hk.1.1.1.1, updL_ne hk.1.1.1.2, updL_ne hk.1.1.2, updL_ne hk.1.2, updL_ne hk.2]
  exact h
theorem bld2J_low (h : bld2J v0 w0 b i0 i1 ib j st arr ty v l m ne L x u) : (L i0 = false → L i1 = false) ∧ (L i1 = false → L j = false) ∧ (L ib = false → L j = false) ∧ (L j = false → L st = false) := by
  obtain ⟨_, _, ⟨a, b, c⟩, _⟩ := h
  refine ⟨fun e => ?_, fun e => ?_, fun e => ?_, fun e => ?_⟩
  · cases hh : L i1 with | false => rfl | true => rw [c hh] at e; cases e
  · cases hh : L j with | false => rfl | true => rw [(b hh).1] at e; cases e
  · cases hh : L j with | false => rfl | true => rw [(b hh).2] at e; cases e
  · cases hh : L st with | false => rfl | true => rw [a hh] at e; cases e
theorem bld2J_empty (hk : (i1 != i0 && ib != i0 && j != i0 && st != i0) = true) (h : bld2J v0 w0 b i0 i1 ib j st arr ty v l m ne L x u) (hL : L i0 = false) : bld2J v0 w0 b i0 i1 ib j st arr ty v l m ne (updL L i0) (updX x i0 (.slice (some ⟨u.heap.size, 0, none⟩) 0 0)) (u.alloc (.cells #[] 59)) := by
  simp only [Bool.and_eq_true, bne_iff_ne, ne_eq] at hk
  have hlow := bld2J_low h
  have l1 := hlow.1 hL
  have l2 := hlow.2.1 l1
  have l3 := hlow.2.2.2 l2
  obtain ⟨k1, k2, k3, k4⟩ := h
  rw [l2, l1] at k1
  rw [l3] at k2
  unfold bld2J
  rw [updL_ne hk.1.1.1, updL_ne hk.1.1.2, updL_ne hk.1.2, updL_ne hk.2, updL_eq, updX_ne hk.1.2, updX_ne hk.1.1.2, updX_eq, updX_ne hk.1.1.1, l1, l2, l3]
  refine ⟨k1.empty, ((Ext.refl u).alloc _).block k2, ⟨fun e => (by cases e), fun e => (by cases e), fun e => rfl⟩, fun _ _ => ⟨_, _, rfl⟩⟩
theorem bld2J_first (hk : (i0 != i1 && ib != i1 && j != i1 && st != i1) = true) (h : bld2J v0 w0 b i0 i1 ib j st arr ty v l m ne L x u) (h0 : L i0 = true) (hL : L i1 = false) {sa : Option Addr} {k sc : Nat} (hl : LoansAt v0 (.slice sa k sc) l) (hb : l.length ≤ 100000) :
    ∃ v' u', (Builtin.append_ #[30, 30] 30 #[x i0, .slice sa k sc]).run Tryz.prog u = .ok v' u' ∧ bld2J v0 w0 b i0 i1 ib j st arr ty v l m ne (updL L i1) (updX x i1 v') u' := by
  simp only [Bool.and_eq_true, bne_iff_ne, ne_eq] at hk
  have hlow := bld2J_low h
  have l2 := hlow.2.1 hL
  have l3 := hlow.2.2.2 l2
  obtain ⟨k1, k2, k3, k4⟩ := h
  have hs := k4 h0 hL
  rw [l2, hL, h0] at k1
  simp only [Bool.false_eq_true, if_false, if_true] at k1
  rw [l3] at k2
  obtain ⟨ca, cc, e⟩ := hs
  obtain ⟨v', u', r1, r2, r3⟩ := k1.loans (v := v) hl (by omega) ⟨ca, cc, e, Nat.zero_le _⟩
  rw [Nat.zero_add, List.nil_append] at r2
  refine ⟨v', u', r1, ?_⟩
  unfold bld2J
  rw [updL_ne hk.1.2, updL_eq, updL_ne hk.1.1.2, updL_ne hk.2, updL_ne hk.1.1.1, updX_ne hk.1.2, updX_eq, updX_ne hk.1.1.2, updX_ne hk.1.1.1, l2, l3, h0]
  simp only [Bool.false_eq_true, if_false, if_true]
  exact ⟨r2, k1.keep r3 k2, ⟨fun e => (by cases e), fun e => (by cases e), fun _ => trivial⟩, fun _ e => (by cases e)⟩
theorem bld2J_make (hk : (i0 != ib && i1 != ib && j != ib && st != ib) = true) (h : bld2J v0 w0 b i0 i1 ib j st arr ty v l m ne L x u) (hL : L ib = false) {cs : Array Value} (hcs : cs = ne.toArray) : bld2J v0 w0 b i0 i1 ib j st arr ty v l m ne (updL L ib) (updX x ib (.slice (some ⟨u.heap.size, 0, none⟩) m m)) (u.alloc (.cells cs 59)) := by
  simp only [Bool.and_eq_true, bne_iff_ne, ne_eq] at hk
  have hlow := bld2J_low h
  have l2 := hlow.2.2.1 hL
  have l3 := hlow.2.2.2 l2
  obtain ⟨k1, k2, k3, k4⟩ := h
  rw [l2] at k1
  rw [l3] at k2
  unfold bld2J
  rw [updL_ne hk.1.2, updL_ne hk.1.1.2, updL_ne hk.1.1.1, updL_ne hk.2, updL_eq, updX_ne hk.1.2, updX_ne hk.1.1.2, updX_ne hk.1.1.1, updX_eq, l2, l3]
  exact ⟨k1.make hcs, ((Ext.refl u).alloc _).block k2, ⟨fun e => (by cases e), fun e => (by cases e), k3.2.2⟩, k4⟩
theorem bld2J_app (hk : (i0 != j && i1 != j && ib != j && st != j) = true) (h : bld2J v0 w0 b i0 i1 ib j st arr ty v l m ne L x u) (h1 : L i1 = true) (hb : L ib = true) (hL : L j = false) (hm : 0 < m) (hl : ne.length = m * 4) (hne : ∀ u ∈ ne, u.oneCell' = true) (h63 : l.length + m ≤ 100000) :
    ∃ v' u', (Builtin.append_ #[30, 30] 30 #[x i1, x ib]).run Tryz.prog u = .ok v' u' ∧ bld2J v0 w0 b i0 i1 ib j st arr ty v l m ne (updL L j) (updX x j v') u' := by
  simp only [Bool.and_eq_true, bne_iff_ne, ne_eq] at hk
  obtain ⟨i, hi, hz0, hz1, hz2⟩ := info_parts info59J
  have hlow := bld2J_low h
  have l3 := hlow.2.2.2 hL
  obtain ⟨k1, k2, k3, k4⟩ := h
  rw [hL, h1, hb] at k1
  simp only [Bool.false_eq_true, if_false, if_true] at k1
  rw [l3] at k2
  obtain ⟨v', u', r1, r2, r3⟩ := k1.app (ty := 30) Tryz.underlying30 hi hz0 hz1 hz2 (by simp [Value.cells]) (by omega) hm hl hne (by omega) (by omega)
  refine ⟨v', u', r1, ?_⟩
  unfold bld2J
  rw [updL_eq, updL_ne hk.1.2, updL_ne hk.2, updL_ne hk.1.1.2, updL_ne hk.1.1.1, updX_eq, updX_ne hk.1.2, updX_ne hk.1.1.2, updX_ne hk.1.1.1, h1, hb, l3]
  simp only [if_true, Bool.false_eq_true, if_false]
  exact ⟨r2, k1.keep r3 k2, ⟨fun e => (by cases e), fun _ => ⟨trivial, trivial⟩, fun _ => k3.2.2 h1⟩, fun _ e => (by cases e)⟩
theorem bld2J_store (hk : (i0 != st && i1 != st && ib != st && j != st) = true) (h : bld2J v0 w0 b i0 i1 ib j st arr ty v l m ne L x u) (hj : L j = true) {off : Nat} (harr : ∀ y z, (arr y).setIfInBounds off z = arr z) : bld2J v0 w0 b i0 i1 ib j st arr ty v l m ne (updL L st) x (u.setCell ⟨b, off, none⟩ (x j)) := by
  simp only [Bool.and_eq_true, bne_iff_ne, ne_eq] at hk
  obtain ⟨k1, k2, k3, k4⟩ := h
  have e := set_same k2 off (x j)
  rw [harr] at e
  unfold bld2J
  rw [updL_ne hk.2, updL_ne hk.1.1.2, updL_ne hk.1.1.1, updL_ne hk.1.2, updL_eq]
  exact ⟨k1.store off _, e, ⟨fun _ => hj, k3.2⟩, k4⟩
theorem bld2J_old (h : bld2J v0 w0 b i0 i1 ib j st arr ty v l m ne L x u) (hL : L st = false) : u.heap[b]? = some (.cells (arr v) ty (0, 0)) := by
  have k2 := h.2.1
  rw [hL] at k2; exact k2
theorem bld2J_end (h : bld2J v0 w0 b i0 i1 ib j st arr ty v l m ne L x u) (hj : L j = true) (hs : L st = true) : Bld v0 w0 u b 59 4 (x j) (l.length + m) (lnF l ++ ne) (L ib) (x ib) m ne ∧ u.heap[b]? = some (.cells (arr (x j)) ty (0, 0)) := by
  obtain ⟨k1, k2, _⟩ := h
  rw [hj] at k1
  rw [hs] at k2
  exact ⟨k1, k2⟩
theorem bld2J_row (h : bld2J v0 w0 b i0 i1 ib j st arr ty v l m ne L x u) (hj : L j = true) : ∃ a c, x j = .slice a (l.length + m) c := by
  have k1 := h.1.row
  rw [hj] at k1
  exact k1.isSliceN
end
end
end Go.Proofs.YtjocoadhalimjaaGreat
