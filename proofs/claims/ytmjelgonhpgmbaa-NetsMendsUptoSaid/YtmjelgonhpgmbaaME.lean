/- Whether a pair fouls. -/
import Derived.Test.YtmjelgonhpgmbaaMD
import Derived.Deep.WholeRow
set_option linter.unusedSimpArgs false
set_option linter.unusedVariables false
namespace Go.Proofs.Ytmjelgonhpgmbaa
open Go Go.RowKit Go.Shelf

theorem info133 : (Try.prog.info? 133).map (fun i => (i.size)) = some 5 := by kernel_rfl
theorem size133 : ∃ i, Try.prog.info? 133 = some i ∧ i.size = 5 := by
  have := info133; cases h : Try.prog.info? 133 with
  | none => rw [h] at this; cases this
  | some i => rw [h] at this; exact ⟨i, rfl, by simpa using this⟩
theorem index_0 (a0 a1 a2 a3 a4 b0 b1 b2 b3 b4 : Value) (w : World) : (Instr.index 156 (.agg #[a0, a1, a2, a3, a4, b0, b1, b2, b3, b4]) (.int .i64 0)).run Try.prog w = .ok (.agg #[a0, a1, a2, a3, a4]) w := by
  obtain ⟨i, hi, hs⟩ := size133
  simp [Instr.index, run_underlying Try.underlying156, asIntOf, go_sem, hi, hs]
theorem index_1 (a0 a1 a2 a3 a4 b0 b1 b2 b3 b4 : Value) (w : World) : (Instr.index 156 (.agg #[a0, a1, a2, a3, a4, b0, b1, b2, b3, b4]) (.int .i64 1)).run Try.prog w = .ok (.agg #[b0, b1, b2, b3, b4]) w := by
  obtain ⟨i, hi, hs⟩ := size133
  simp [Instr.index, run_underlying Try.underlying156, asIntOf, go_sem, hi, hs]
theorem info127 : (Try.prog.info? 127).map (·.size) = some 22 := by kernel_rfl
theorem load_pair {u : World} {g : Nat} {C : Array Value} (h : u.heap[g]? = some (.cells C 127 (0, 0))) (hs : C.size = 22) : (Instr.loadAt 127 (.pointer (some ⟨g, 0, none⟩))).run Try.prog u = .ok (.agg C) u := by
  have := run_loadAt_mid (P := Try.prog) u g 0 127 C.toList _ (fun j v hv => by rw [Nat.zero_add, cell_of h, ← hv, Array.getElem?_toList]) Try.underlying127 rfl (by rw [info127, Array.length_toList, hs])
  simpa using this
theorem gives_load {F : Fence} {n : Nat} {P : Program} {R : World → World → Prop} {o : Oper} {a : Act} {w : World} {V : Value → World → Prop} {p v : Value} (ty : TypeId) (x : Operand)
    (ho : o.op = .load ty x) (hx : a.eval x = p) (hr : (Instr.loadAt ty p).run P w = .ok v w) (h : V v w ∧ R w w) : gives F n P R o a w V := by
  unfold gives
  rw [Oper.semAt_eq _ _ _ (by rw [ho]; intro c h; cases h)]
  unfold execOp
  simp only [ho, hx, Sem.run_bind, Sem.run_pure, Result.andThen_ok, hr]
  exact h
def meetS (s t : Spn) : Bool := meetB s.lo s.hi t.lo t.hi

def foulsC (F : FleetD) (a b : NetD) (h : Int) : Bool := meetS (apart_eF F a b h) (near_eF a b F.gap) && meetS (apart_nF F a b h) (near_nF a b F.gap)
set_option maxRecDepth 100000 in
set_option maxHeartbeats 4000000 in
theorem fouls_can (F : FleetD) (hF : FleetOk F) (eb eo ec nb no nc : Nat) (sv mv : Value) (a b : NetD) (ha : NetOk a F.east.length) (hb : NetOk b F.east.length) (i k h : Int) (hh : mx a.shot b.shot ≤ h ∧ h ≤ 24) (w : World) (hE : SpansAt w (.slice (some ⟨eb, eo, none⟩) F.east.length ec) F.east) (hN : SpansAt w (.slice (some ⟨nb, no, none⟩) F.north.length nc) F.north) :
    Cal 74 #[.agg #[.slice (some ⟨eb, eo, none⟩) F.east.length ec, .slice (some ⟨nb, no, none⟩) F.north.length nc, .int .i64 F.gap, sv, mv], .agg #[.int .i64 a.east, .int .i64 a.north, .int .i64 a.long, .int .i64 a.along, .int .i64 a.shot, .int .i64 a.haul, .int .i64 a.se.lo, .int .i64 a.se.hi, .int .i64 a.sn.lo, .int .i64 a.sn.hi, .int .i64 i, .int .i64 b.east, .int .i64 b.north, .int .i64 b.long, .int .i64 b.along, .int .i64 b.shot, .int .i64 b.haul, .int .i64 b.se.lo, .int .i64 b.se.hi, .int .i64 b.sn.lo, .int .i64 b.sn.hi, .int .i64 k], .int .i64 h, .func (.func 53) #[.agg #[.slice (some ⟨eb, eo, none⟩) F.east.length ec, .slice (some ⟨nb, no, none⟩) F.north.length nc, .int .i64 F.gap, sv, mv]] #[]] w fun x w' => x = .returned (.bool (foulsC F a b h)) ∧ Ext w w' := by
  have HA := hid ha
  have HBN := hid hb
  have HF := hid hF
  have HH := hid hh
  have HE := hid hE
  have HN := hid hN
  clear hE hN
  clear ha hb hh hF
  gi_enter Try.func74, Try.ntmps74
  gi_upto_region 1 with fail
  have hW : Ext w ((w.alloc (.cells #[.slice (some ⟨eb, eo, none⟩) F.east.length ec, .slice (some ⟨nb, no, none⟩) F.north.length nc, .int .i64 F.gap, sv, mv] 108)).alloc (.cells #[.int .i64 a.east, .int .i64 a.north, .int .i64 a.long, .int .i64 a.along, .int .i64 a.shot, .int .i64 a.haul, .int .i64 a.se.lo, .int .i64 a.se.hi, .int .i64 a.sn.lo, .int .i64 a.sn.hi, .int .i64 i, .int .i64 b.east, .int .i64 b.north, .int .i64 b.long, .int .i64 b.along, .int .i64 b.shot, .int .i64 b.haul, .int .i64 b.se.lo, .int .i64 b.se.hi, .int .i64 b.sn.lo, .int .i64 b.sn.hi, .int .i64 k] 127)) := ((Ext.refl _).alloc _).alloc _
  have hW0 : ((w.alloc (.cells #[.slice (some ⟨eb, eo, none⟩) F.east.length ec, .slice (some ⟨nb, no, none⟩) F.north.length nc, .int .i64 F.gap, sv, mv] 108)).alloc (.cells #[.int .i64 a.east, .int .i64 a.north, .int .i64 a.long, .int .i64 a.along, .int .i64 a.shot, .int .i64 a.haul, .int .i64 a.se.lo, .int .i64 a.se.hi, .int .i64 a.sn.lo, .int .i64 a.sn.hi, .int .i64 i, .int .i64 b.east, .int .i64 b.north, .int .i64 b.long, .int .i64 b.along, .int .i64 b.shot, .int .i64 b.haul, .int .i64 b.se.lo, .int .i64 b.se.hi, .int .i64 b.sn.lo, .int .i64 b.sn.hi, .int .i64 k] 127)).heap[w.heap.size]? = some (.cells #[.slice (some ⟨eb, eo, none⟩) F.east.length ec, .slice (some ⟨nb, no, none⟩) F.north.length nc, .int .i64 F.gap, sv, mv] 108 (0, 0)) := by simp only [alloc_at, World.size_alloc]; (repeat rw [if_neg (by omega)]); first | rfl | rw [if_pos (by omega)] | rw [if_pos trivial]
  have hW1 : ((w.alloc (.cells #[.slice (some ⟨eb, eo, none⟩) F.east.length ec, .slice (some ⟨nb, no, none⟩) F.north.length nc, .int .i64 F.gap, sv, mv] 108)).alloc (.cells #[.int .i64 a.east, .int .i64 a.north, .int .i64 a.long, .int .i64 a.along, .int .i64 a.shot, .int .i64 a.haul, .int .i64 a.se.lo, .int .i64 a.se.hi, .int .i64 a.sn.lo, .int .i64 a.sn.hi, .int .i64 i, .int .i64 b.east, .int .i64 b.north, .int .i64 b.long, .int .i64 b.along, .int .i64 b.shot, .int .i64 b.haul, .int .i64 b.se.lo, .int .i64 b.se.hi, .int .i64 b.sn.lo, .int .i64 b.sn.hi, .int .i64 k] 127)).heap[w.heap.size + 1]? = some (.cells #[.int .i64 a.east, .int .i64 a.north, .int .i64 a.long, .int .i64 a.along, .int .i64 a.shot, .int .i64 a.haul, .int .i64 a.se.lo, .int .i64 a.se.hi, .int .i64 a.sn.lo, .int .i64 a.sn.hi, .int .i64 i, .int .i64 b.east, .int .i64 b.north, .int .i64 b.long, .int .i64 b.along, .int .i64 b.shot, .int .i64 b.haul, .int .i64 b.se.lo, .int .i64 b.se.hi, .int .i64 b.sn.lo, .int .i64 b.sn.hi, .int .i64 k] 127 (0, 0)) := by simp only [alloc_at, World.size_alloc]; (repeat rw [if_neg (by omega)]); first | rfl | rw [if_pos (by omega)] | rw [if_pos trivial]
  generalize (w.alloc (.cells #[.slice (some ⟨eb, eo, none⟩) F.east.length ec, .slice (some ⟨nb, no, none⟩) F.north.length nc, .int .i64 F.gap, sv, mv] 108)).alloc (.cells #[.int .i64 a.east, .int .i64 a.north, .int .i64 a.long, .int .i64 a.along, .int .i64 a.shot, .int .i64 a.haul, .int .i64 a.se.lo, .int .i64 a.se.hi, .int .i64 a.sn.lo, .int .i64 a.sn.hi, .int .i64 i, .int .i64 b.east, .int .i64 b.north, .int .i64 b.long, .int .i64 b.along, .int .i64 b.shot, .int .i64 b.haul, .int .i64 b.se.lo, .int .i64 b.se.hi, .int .i64 b.sn.lo, .int .i64 b.sn.hi, .int .i64 k] 127) = W at *
  have HB0 := hid hW0
  have HB1 := hid hW1
  have HW := hid hW
  clear hW hW0 hW1
  gi_wp2_with (gi_at_call 79; ((with_reducible refine (sides_any _).mono ?_); rintro e w1 ⟨rfl, hx1⟩))
  have HB0 := hid (hx1.block HB0.out)
  have HB1 := hid (hx1.block HB1.out)
  have HW := hid (HW.out.trans hx1)
  clear hx1
  gi_loopw [12] (fun j wr => ∃ m : Nat, m ≤ 2 ∧ j = .int .i64 m ∧ Hid (Ext w1 wr ∧ (1 ≤ m → meetS (apart_eF F a b h) (near_eF a b F.gap) = true) ∧ (2 ≤ m → meetS (apart_nF F a b h) (near_nF a b F.gap) = true))) (fun j _ => 2 - (intOf j).toNat)
  case atStart => exact ⟨0, by omega, rfl, Ext.refl _, fun h => absurd h (by omega), fun h => absurd h (by omega)⟩
  case round =>
    obtain ⟨m, hm, rfl, HI2⟩ := hrel
    rcases (by omega : m = 0 ∨ m = 1 ∨ m = 2) with rfl | rfl | rfl
    · have hxs : Ext wr (wr.alloc (.cells #[.int .i64 0, .func (.func 84) #[] #[], .func (.func 85) #[] #[], .func (.func 86) #[] #[], .func (.func 87) #[] #[]] 133)) := (Ext.refl _).alloc _
      have hbs : (wr.alloc (.cells #[.int .i64 0, .func (.func 84) #[] #[], .func (.func 85) #[] #[], .func (.func 86) #[] #[], .func (.func 87) #[] #[]] 133)).heap[wr.heap.size]? = some (.cells #[.int .i64 0, .func (.func 84) #[] #[], .func (.func 85) #[] #[], .func (.func 86) #[] #[], .func (.func 87) #[] #[]] 133 (0, 0)) := Ext.new (Ext.refl _)
      have hix := index_0 (.int .i64 0) (.func (.func 84) #[] #[]) (.func (.func 85) #[] #[]) (.func (.func 86) #[] #[]) (.func (.func 87) #[] #[]) (.int .i64 1) (.func (.func 88) #[] #[]) (.func (.func 89) #[] #[]) (.func (.func 90) #[] #[]) (.func (.func 91) #[] #[]) wr
      gi_upto_region 4 with fail
      clear hix
      have HBS := hid hbs
      have HX1 := hid (HI2.out.1.trans hxs)
      have HX := hid (HW.out.trans HX1.out)
      have HC0 := hid (HX1.out.block HB0.out)
      have HC1 := hid (HX1.out.block HB1.out)
      clear hxs hbs
      generalize wr.alloc (.cells #[.int .i64 0, .func (.func 84) #[] #[], .func (.func 85) #[] #[], .func (.func 86) #[] #[], .func (.func 87) #[] #[]] 133) = W3 at *
      cases hmt : meetS (apart_eF F a b h) (near_eF a b F.gap)
      case false =>
        have HMT := hid hmt
        clear hmt
        refine lex_wide 13 [] (by kernel_rfl) (by kernel_rfl) (nStab_nil) ?_
        simp only [List.take_succ_cons, List.take_zero, List.drop_succ_cons, List.drop_zero]
        apply lex_fun (rfl : psAt _ _ = none)
        · intro x u hR hf
          clear hR hf
          go_simp
          exact ⟨rfl, Ext.refl _⟩
        simp only [Act.put, List.setIfInBounds_toArray, List.set_cons_succ, List.set_cons_zero]
        apply lex_fun (rfl : psAt _ _ = none)
        · intro x u hR hf
          have c0 := cell_of (hR.block HBS.out)
          clear hR hf
          go_simp
          exact ⟨rfl, Ext.refl _⟩
        simp only [Act.put, List.setIfInBounds_toArray, List.set_cons_succ, List.set_cons_zero]
        refine lex_fun (v := .agg #[.int .i64 a.east, .int .i64 a.north, .int .i64 a.long, .int .i64 a.along, .int .i64 a.shot, .int .i64 a.haul, .int .i64 a.se.lo, .int .i64 a.se.hi, .int .i64 a.sn.lo, .int .i64 a.sn.hi, .int .i64 i, .int .i64 b.east, .int .i64 b.north, .int .i64 b.long, .int .i64 b.along, .int .i64 b.shot, .int .i64 b.haul, .int .i64 b.se.lo, .int .i64 b.se.hi, .int .i64 b.sn.lo, .int .i64 b.sn.hi, .int .i64 k]) (rfl : psAt _ _ = none) ?_ ?_
        · intro x u hR hf
          rw [if_pos (show Region.wanted _ _ = true from rfl)]
          exact gives_load 127 (.tmp 5) rfl rfl (load_pair (hR.block HC1.out) rfl) ⟨rfl, Ext.refl _⟩
        simp only [Act.put, List.setIfInBounds_toArray, List.set_cons_succ, List.set_cons_zero]
        apply lex_fun (rfl : psAt _ _ = none)
        · intro x u hR hf
          clear hR hf
          go_simp
          exact ⟨rfl, Ext.refl _⟩
        simp only [Act.put, List.setIfInBounds_toArray, List.set_cons_succ, List.set_cons_zero]
        refine lex_fun (v := spnV (apart_eF F a b h)) (rfl : psAt _ _ = none) ?_ ?_
        · intro x u hR hf
          have hcal := hid (apart_e F HF.out eb eo ec nb no nc sv mv a b HA.out HBN.out i k h HH.out u (HE.out.mono (HX.out.trans hR)))
          clear hR hf
          go_simp
          exact hcal.out.mono fun e w'' ⟨he, hx'⟩ => ⟨_, he, rfl, hx'⟩
        simp only [Act.put, List.setIfInBounds_toArray, List.set_cons_succ, List.set_cons_zero]
        apply lex_fun (rfl : psAt _ _ = none)
        · intro x u hR hf
          have c0 := cell_of (hR.block HBS.out)
          clear hR hf
          go_simp
          exact ⟨rfl, Ext.refl _⟩
        simp only [Act.put, List.setIfInBounds_toArray, List.set_cons_succ, List.set_cons_zero]
        refine lex_fun (v := .agg #[.int .i64 a.east, .int .i64 a.north, .int .i64 a.long, .int .i64 a.along, .int .i64 a.shot, .int .i64 a.haul, .int .i64 a.se.lo, .int .i64 a.se.hi, .int .i64 a.sn.lo, .int .i64 a.sn.hi, .int .i64 i, .int .i64 b.east, .int .i64 b.north, .int .i64 b.long, .int .i64 b.along, .int .i64 b.shot, .int .i64 b.haul, .int .i64 b.se.lo, .int .i64 b.se.hi, .int .i64 b.sn.lo, .int .i64 b.sn.hi, .int .i64 k]) (rfl : psAt _ _ = none) ?_ ?_
        · intro x u hR hf
          rw [if_pos (show Region.wanted _ _ = true from rfl)]
          exact gives_load 127 (.tmp 5) rfl rfl (load_pair (hR.block HC1.out) rfl) ⟨rfl, Ext.refl _⟩
        simp only [Act.put, List.setIfInBounds_toArray, List.set_cons_succ, List.set_cons_zero]
        apply lex_fun (rfl : psAt _ _ = none)
        · intro x u hR hf
          clear hR hf
          go_simp
          exact ⟨rfl, Ext.refl _⟩
        simp only [Act.put, List.setIfInBounds_toArray, List.set_cons_succ, List.set_cons_zero]
        apply lex_fun (rfl : psAt _ _ = none)
        · intro x u hR hf
          clear hR hf
          go_simp
          exact ⟨rfl, Ext.refl _⟩
        simp only [Act.put, List.setIfInBounds_toArray, List.set_cons_succ, List.set_cons_zero]
        apply lex_fun (rfl : psAt _ _ = none)
        · intro x u hR hf
          have c0 := cell_of (hR.block HC0.out)
          clear hR hf
          go_simp
          exact ⟨rfl, Ext.refl _⟩
        simp only [Act.put, List.setIfInBounds_toArray, List.set_cons_succ, List.set_cons_zero]
        refine lex_fun (v := spnV (near_eF a b F.gap)) (rfl : psAt _ _ = none) ?_ ?_
        · intro x u hR hf
          have hcal := hid (near_e a b i k F.gap HF.out.gap HA.out.long HBN.out.long u)
          clear hR hf
          go_simp
          exact hcal.out.mono fun e w'' ⟨he, hx'⟩ => ⟨_, he, rfl, hx'⟩
        simp only [Act.put, List.setIfInBounds_toArray, List.set_cons_succ, List.set_cons_zero]
        refine lex_fun (v := .bool false) (rfl : psAt _ _ = none) ?_ ?_
        · intro x u hR hf
          have hcal := hid ((by have h1 := meet_any (apart_eF F a b h).lo (apart_eF F a b h).hi (near_eF a b F.gap).lo (near_eF a b F.gap).hi u; rw [show meetB (apart_eF F a b h).lo (apart_eF F a b h).hi (near_eF a b F.gap).lo (near_eF a b F.gap).hi = false from HMT.out] at h1; exact h1 : Cal 95 #[.agg #[.int .i64 (apart_eF F a b h).lo, .int .i64 (apart_eF F a b h).hi], .agg #[.int .i64 (near_eF a b F.gap).lo, .int .i64 (near_eF a b F.gap).hi]] u _))
          clear hR hf
          simp only [spnV]
          go_simp
          exact hcal.out.mono fun e w'' ⟨he, hx'⟩ => ⟨_, he, rfl, hx'⟩
        simp only [Act.put, List.setIfInBounds_toArray, List.set_cons_succ, List.set_cons_zero]
        apply lex_fun (rfl : psAt _ _ = none)
        · intro x u hR hf
          clear hR hf
          go_simp
          exact ⟨rfl, Ext.refl _⟩
        simp only [Act.put, List.setIfInBounds_toArray, List.set_cons_succ, List.set_cons_zero]
        refine lex_nil fun x w6 hE hfacts => ?_
        clear hfacts x
        have HG : Hid (foulsC F a b h = false) := by show foulsC F a b h = false; unfold foulsC; rw [HMT.out]; simp
        gi_wp2
        go_ret
        exact ⟨by rw [HG.out]; rfl, HX.out.trans hE⟩
      case true =>
        have HMT := hid hmt
        clear hmt
        refine lex_wide 13 [] (by kernel_rfl) (by kernel_rfl) (nStab_nil) ?_
        simp only [List.take_succ_cons, List.take_zero, List.drop_succ_cons, List.drop_zero]
        apply lex_fun (rfl : psAt _ _ = none)
        · intro x u hR hf
          clear hR hf
          go_simp
          exact ⟨rfl, Ext.refl _⟩
        simp only [Act.put, List.setIfInBounds_toArray, List.set_cons_succ, List.set_cons_zero]
        apply lex_fun (rfl : psAt _ _ = none)
        · intro x u hR hf
          have c0 := cell_of (hR.block HBS.out)
          clear hR hf
          go_simp
          exact ⟨rfl, Ext.refl _⟩
        simp only [Act.put, List.setIfInBounds_toArray, List.set_cons_succ, List.set_cons_zero]
        refine lex_fun (v := .agg #[.int .i64 a.east, .int .i64 a.north, .int .i64 a.long, .int .i64 a.along, .int .i64 a.shot, .int .i64 a.haul, .int .i64 a.se.lo, .int .i64 a.se.hi, .int .i64 a.sn.lo, .int .i64 a.sn.hi, .int .i64 i, .int .i64 b.east, .int .i64 b.north, .int .i64 b.long, .int .i64 b.along, .int .i64 b.shot, .int .i64 b.haul, .int .i64 b.se.lo, .int .i64 b.se.hi, .int .i64 b.sn.lo, .int .i64 b.sn.hi, .int .i64 k]) (rfl : psAt _ _ = none) ?_ ?_
        · intro x u hR hf
          rw [if_pos (show Region.wanted _ _ = true from rfl)]
          exact gives_load 127 (.tmp 5) rfl rfl (load_pair (hR.block HC1.out) rfl) ⟨rfl, Ext.refl _⟩
        simp only [Act.put, List.setIfInBounds_toArray, List.set_cons_succ, List.set_cons_zero]
        apply lex_fun (rfl : psAt _ _ = none)
        · intro x u hR hf
          clear hR hf
          go_simp
          exact ⟨rfl, Ext.refl _⟩
        simp only [Act.put, List.setIfInBounds_toArray, List.set_cons_succ, List.set_cons_zero]
        refine lex_fun (v := spnV (apart_eF F a b h)) (rfl : psAt _ _ = none) ?_ ?_
        · intro x u hR hf
          have hcal := hid (apart_e F HF.out eb eo ec nb no nc sv mv a b HA.out HBN.out i k h HH.out u (HE.out.mono (HX.out.trans hR)))
          clear hR hf
          go_simp
          exact hcal.out.mono fun e w'' ⟨he, hx'⟩ => ⟨_, he, rfl, hx'⟩
        simp only [Act.put, List.setIfInBounds_toArray, List.set_cons_succ, List.set_cons_zero]
        apply lex_fun (rfl : psAt _ _ = none)
        · intro x u hR hf
          have c0 := cell_of (hR.block HBS.out)
          clear hR hf
          go_simp
          exact ⟨rfl, Ext.refl _⟩
        simp only [Act.put, List.setIfInBounds_toArray, List.set_cons_succ, List.set_cons_zero]
        refine lex_fun (v := .agg #[.int .i64 a.east, .int .i64 a.north, .int .i64 a.long, .int .i64 a.along, .int .i64 a.shot, .int .i64 a.haul, .int .i64 a.se.lo, .int .i64 a.se.hi, .int .i64 a.sn.lo, .int .i64 a.sn.hi, .int .i64 i, .int .i64 b.east, .int .i64 b.north, .int .i64 b.long, .int .i64 b.along, .int .i64 b.shot, .int .i64 b.haul, .int .i64 b.se.lo, .int .i64 b.se.hi, .int .i64 b.sn.lo, .int .i64 b.sn.hi, .int .i64 k]) (rfl : psAt _ _ = none) ?_ ?_
        · intro x u hR hf
          rw [if_pos (show Region.wanted _ _ = true from rfl)]
          exact gives_load 127 (.tmp 5) rfl rfl (load_pair (hR.block HC1.out) rfl) ⟨rfl, Ext.refl _⟩
        simp only [Act.put, List.setIfInBounds_toArray, List.set_cons_succ, List.set_cons_zero]
        apply lex_fun (rfl : psAt _ _ = none)
        · intro x u hR hf
          clear hR hf
          go_simp
          exact ⟨rfl, Ext.refl _⟩
        simp only [Act.put, List.setIfInBounds_toArray, List.set_cons_succ, List.set_cons_zero]
        apply lex_fun (rfl : psAt _ _ = none)
        · intro x u hR hf
          clear hR hf
          go_simp
          exact ⟨rfl, Ext.refl _⟩
        simp only [Act.put, List.setIfInBounds_toArray, List.set_cons_succ, List.set_cons_zero]
        apply lex_fun (rfl : psAt _ _ = none)
        · intro x u hR hf
          have c0 := cell_of (hR.block HC0.out)
          clear hR hf
          go_simp
          exact ⟨rfl, Ext.refl _⟩
        simp only [Act.put, List.setIfInBounds_toArray, List.set_cons_succ, List.set_cons_zero]
        refine lex_fun (v := spnV (near_eF a b F.gap)) (rfl : psAt _ _ = none) ?_ ?_
        · intro x u hR hf
          have hcal := hid (near_e a b i k F.gap HF.out.gap HA.out.long HBN.out.long u)
          clear hR hf
          go_simp
          exact hcal.out.mono fun e w'' ⟨he, hx'⟩ => ⟨_, he, rfl, hx'⟩
        simp only [Act.put, List.setIfInBounds_toArray, List.set_cons_succ, List.set_cons_zero]
        refine lex_fun (v := .bool true) (rfl : psAt _ _ = none) ?_ ?_
        · intro x u hR hf
          have hcal := hid ((by have h1 := meet_any (apart_eF F a b h).lo (apart_eF F a b h).hi (near_eF a b F.gap).lo (near_eF a b F.gap).hi u; rw [show meetB (apart_eF F a b h).lo (apart_eF F a b h).hi (near_eF a b F.gap).lo (near_eF a b F.gap).hi = true from HMT.out] at h1; exact h1 : Cal 95 #[.agg #[.int .i64 (apart_eF F a b h).lo, .int .i64 (apart_eF F a b h).hi], .agg #[.int .i64 (near_eF a b F.gap).lo, .int .i64 (near_eF a b F.gap).hi]] u _))
          clear hR hf
          simp only [spnV]
          go_simp
          exact hcal.out.mono fun e w'' ⟨he, hx'⟩ => ⟨_, he, rfl, hx'⟩
        simp only [Act.put, List.setIfInBounds_toArray, List.set_cons_succ, List.set_cons_zero]
        apply lex_fun (rfl : psAt _ _ = none)
        · intro x u hR hf
          clear hR hf
          go_simp
          exact ⟨rfl, Ext.refl _⟩
        simp only [Act.put, List.setIfInBounds_toArray, List.set_cons_succ, List.set_cons_zero]
        refine lex_nil fun x w6 hE hfacts => ?_
        clear hfacts x
        gi_wp2
        go_roundw
        case rel => exact ⟨1, by omega, by go_num, HX1.out.trans hE, fun _ => HMT.out, fun h => absurd h (by omega)⟩
        case measure => simp [intOf]
    · have hxs : Ext wr (wr.alloc (.cells #[.int .i64 1, .func (.func 88) #[] #[], .func (.func 89) #[] #[], .func (.func 90) #[] #[], .func (.func 91) #[] #[]] 133)) := (Ext.refl _).alloc _
      have hbs : (wr.alloc (.cells #[.int .i64 1, .func (.func 88) #[] #[], .func (.func 89) #[] #[], .func (.func 90) #[] #[], .func (.func 91) #[] #[]] 133)).heap[wr.heap.size]? = some (.cells #[.int .i64 1, .func (.func 88) #[] #[], .func (.func 89) #[] #[], .func (.func 90) #[] #[], .func (.func 91) #[] #[]] 133 (0, 0)) := Ext.new (Ext.refl _)
      have hix := index_1 (.int .i64 0) (.func (.func 84) #[] #[]) (.func (.func 85) #[] #[]) (.func (.func 86) #[] #[]) (.func (.func 87) #[] #[]) (.int .i64 1) (.func (.func 88) #[] #[]) (.func (.func 89) #[] #[]) (.func (.func 90) #[] #[]) (.func (.func 91) #[] #[]) wr
      gi_upto_region 4 with fail
      clear hix
      have HBS := hid hbs
      have HX1 := hid (HI2.out.1.trans hxs)
      have HX := hid (HW.out.trans HX1.out)
      have HC0 := hid (HX1.out.block HB0.out)
      have HC1 := hid (HX1.out.block HB1.out)
      clear hxs hbs
      generalize wr.alloc (.cells #[.int .i64 1, .func (.func 88) #[] #[], .func (.func 89) #[] #[], .func (.func 90) #[] #[], .func (.func 91) #[] #[]] 133) = W3 at *
      cases hmt : meetS (apart_nF F a b h) (near_nF a b F.gap)
      case false =>
        have HMT := hid hmt
        clear hmt
        refine lex_wide 13 [] (by kernel_rfl) (by kernel_rfl) (nStab_nil) ?_
        simp only [List.take_succ_cons, List.take_zero, List.drop_succ_cons, List.drop_zero]
        apply lex_fun (rfl : psAt _ _ = none)
        · intro x u hR hf
          clear hR hf
          go_simp
          exact ⟨rfl, Ext.refl _⟩
        simp only [Act.put, List.setIfInBounds_toArray, List.set_cons_succ, List.set_cons_zero]
        apply lex_fun (rfl : psAt _ _ = none)
        · intro x u hR hf
          have c0 := cell_of (hR.block HBS.out)
          clear hR hf
          go_simp
          exact ⟨rfl, Ext.refl _⟩
        simp only [Act.put, List.setIfInBounds_toArray, List.set_cons_succ, List.set_cons_zero]
        refine lex_fun (v := .agg #[.int .i64 a.east, .int .i64 a.north, .int .i64 a.long, .int .i64 a.along, .int .i64 a.shot, .int .i64 a.haul, .int .i64 a.se.lo, .int .i64 a.se.hi, .int .i64 a.sn.lo, .int .i64 a.sn.hi, .int .i64 i, .int .i64 b.east, .int .i64 b.north, .int .i64 b.long, .int .i64 b.along, .int .i64 b.shot, .int .i64 b.haul, .int .i64 b.se.lo, .int .i64 b.se.hi, .int .i64 b.sn.lo, .int .i64 b.sn.hi, .int .i64 k]) (rfl : psAt _ _ = none) ?_ ?_
        · intro x u hR hf
          rw [if_pos (show Region.wanted _ _ = true from rfl)]
          exact gives_load 127 (.tmp 5) rfl rfl (load_pair (hR.block HC1.out) rfl) ⟨rfl, Ext.refl _⟩
        simp only [Act.put, List.setIfInBounds_toArray, List.set_cons_succ, List.set_cons_zero]
        apply lex_fun (rfl : psAt _ _ = none)
        · intro x u hR hf
          clear hR hf
          go_simp
          exact ⟨rfl, Ext.refl _⟩
        simp only [Act.put, List.setIfInBounds_toArray, List.set_cons_succ, List.set_cons_zero]
        refine lex_fun (v := spnV (apart_nF F a b h)) (rfl : psAt _ _ = none) ?_ ?_
        · intro x u hR hf
          have hcal := hid (apart_n F HF.out eb eo ec nb no nc sv mv a b HA.out HBN.out i k h HH.out u (HN.out.mono (HX.out.trans hR)))
          clear hR hf
          go_simp
          exact hcal.out.mono fun e w'' ⟨he, hx'⟩ => ⟨_, he, rfl, hx'⟩
        simp only [Act.put, List.setIfInBounds_toArray, List.set_cons_succ, List.set_cons_zero]
        apply lex_fun (rfl : psAt _ _ = none)
        · intro x u hR hf
          have c0 := cell_of (hR.block HBS.out)
          clear hR hf
          go_simp
          exact ⟨rfl, Ext.refl _⟩
        simp only [Act.put, List.setIfInBounds_toArray, List.set_cons_succ, List.set_cons_zero]
        refine lex_fun (v := .agg #[.int .i64 a.east, .int .i64 a.north, .int .i64 a.long, .int .i64 a.along, .int .i64 a.shot, .int .i64 a.haul, .int .i64 a.se.lo, .int .i64 a.se.hi, .int .i64 a.sn.lo, .int .i64 a.sn.hi, .int .i64 i, .int .i64 b.east, .int .i64 b.north, .int .i64 b.long, .int .i64 b.along, .int .i64 b.shot, .int .i64 b.haul, .int .i64 b.se.lo, .int .i64 b.se.hi, .int .i64 b.sn.lo, .int .i64 b.sn.hi, .int .i64 k]) (rfl : psAt _ _ = none) ?_ ?_
        · intro x u hR hf
          rw [if_pos (show Region.wanted _ _ = true from rfl)]
          exact gives_load 127 (.tmp 5) rfl rfl (load_pair (hR.block HC1.out) rfl) ⟨rfl, Ext.refl _⟩
        simp only [Act.put, List.setIfInBounds_toArray, List.set_cons_succ, List.set_cons_zero]
        apply lex_fun (rfl : psAt _ _ = none)
        · intro x u hR hf
          clear hR hf
          go_simp
          exact ⟨rfl, Ext.refl _⟩
        simp only [Act.put, List.setIfInBounds_toArray, List.set_cons_succ, List.set_cons_zero]
        apply lex_fun (rfl : psAt _ _ = none)
        · intro x u hR hf
          clear hR hf
          go_simp
          exact ⟨rfl, Ext.refl _⟩
        simp only [Act.put, List.setIfInBounds_toArray, List.set_cons_succ, List.set_cons_zero]
        apply lex_fun (rfl : psAt _ _ = none)
        · intro x u hR hf
          have c0 := cell_of (hR.block HC0.out)
          clear hR hf
          go_simp
          exact ⟨rfl, Ext.refl _⟩
        simp only [Act.put, List.setIfInBounds_toArray, List.set_cons_succ, List.set_cons_zero]
        refine lex_fun (v := spnV (near_nF a b F.gap)) (rfl : psAt _ _ = none) ?_ ?_
        · intro x u hR hf
          have hcal := hid (near_n a b i k F.gap HF.out.gap HA.out.long HBN.out.long u)
          clear hR hf
          go_simp
          exact hcal.out.mono fun e w'' ⟨he, hx'⟩ => ⟨_, he, rfl, hx'⟩
        simp only [Act.put, List.setIfInBounds_toArray, List.set_cons_succ, List.set_cons_zero]
        refine lex_fun (v := .bool false) (rfl : psAt _ _ = none) ?_ ?_
        · intro x u hR hf
          have hcal := hid ((by have h1 := meet_any (apart_nF F a b h).lo (apart_nF F a b h).hi (near_nF a b F.gap).lo (near_nF a b F.gap).hi u; rw [show meetB (apart_nF F a b h).lo (apart_nF F a b h).hi (near_nF a b F.gap).lo (near_nF a b F.gap).hi = false from HMT.out] at h1; exact h1 : Cal 95 #[.agg #[.int .i64 (apart_nF F a b h).lo, .int .i64 (apart_nF F a b h).hi], .agg #[.int .i64 (near_nF a b F.gap).lo, .int .i64 (near_nF a b F.gap).hi]] u _))
          clear hR hf
          simp only [spnV]
          go_simp
          exact hcal.out.mono fun e w'' ⟨he, hx'⟩ => ⟨_, he, rfl, hx'⟩
        simp only [Act.put, List.setIfInBounds_toArray, List.set_cons_succ, List.set_cons_zero]
        apply lex_fun (rfl : psAt _ _ = none)
        · intro x u hR hf
          clear hR hf
          go_simp
          exact ⟨rfl, Ext.refl _⟩
        simp only [Act.put, List.setIfInBounds_toArray, List.set_cons_succ, List.set_cons_zero]
        refine lex_nil fun x w6 hE hfacts => ?_
        clear hfacts x
        have HG : Hid (foulsC F a b h = false) := by show foulsC F a b h = false; unfold foulsC; rw [HMT.out]; simp
        gi_wp2
        go_ret
        exact ⟨by rw [HG.out]; rfl, HX.out.trans hE⟩
      case true =>
        have HMT := hid hmt
        clear hmt
        refine lex_wide 13 [] (by kernel_rfl) (by kernel_rfl) (nStab_nil) ?_
        simp only [List.take_succ_cons, List.take_zero, List.drop_succ_cons, List.drop_zero]
        apply lex_fun (rfl : psAt _ _ = none)
        · intro x u hR hf
          clear hR hf
          go_simp
          exact ⟨rfl, Ext.refl _⟩
        simp only [Act.put, List.setIfInBounds_toArray, List.set_cons_succ, List.set_cons_zero]
        apply lex_fun (rfl : psAt _ _ = none)
        · intro x u hR hf
          have c0 := cell_of (hR.block HBS.out)
          clear hR hf
          go_simp
          exact ⟨rfl, Ext.refl _⟩
        simp only [Act.put, List.setIfInBounds_toArray, List.set_cons_succ, List.set_cons_zero]
        refine lex_fun (v := .agg #[.int .i64 a.east, .int .i64 a.north, .int .i64 a.long, .int .i64 a.along, .int .i64 a.shot, .int .i64 a.haul, .int .i64 a.se.lo, .int .i64 a.se.hi, .int .i64 a.sn.lo, .int .i64 a.sn.hi, .int .i64 i, .int .i64 b.east, .int .i64 b.north, .int .i64 b.long, .int .i64 b.along, .int .i64 b.shot, .int .i64 b.haul, .int .i64 b.se.lo, .int .i64 b.se.hi, .int .i64 b.sn.lo, .int .i64 b.sn.hi, .int .i64 k]) (rfl : psAt _ _ = none) ?_ ?_
        · intro x u hR hf
          rw [if_pos (show Region.wanted _ _ = true from rfl)]
          exact gives_load 127 (.tmp 5) rfl rfl (load_pair (hR.block HC1.out) rfl) ⟨rfl, Ext.refl _⟩
        simp only [Act.put, List.setIfInBounds_toArray, List.set_cons_succ, List.set_cons_zero]
        apply lex_fun (rfl : psAt _ _ = none)
        · intro x u hR hf
          clear hR hf
          go_simp
          exact ⟨rfl, Ext.refl _⟩
        simp only [Act.put, List.setIfInBounds_toArray, List.set_cons_succ, List.set_cons_zero]
        refine lex_fun (v := spnV (apart_nF F a b h)) (rfl : psAt _ _ = none) ?_ ?_
        · intro x u hR hf
          have hcal := hid (apart_n F HF.out eb eo ec nb no nc sv mv a b HA.out HBN.out i k h HH.out u (HN.out.mono (HX.out.trans hR)))
          clear hR hf
          go_simp
          exact hcal.out.mono fun e w'' ⟨he, hx'⟩ => ⟨_, he, rfl, hx'⟩
        simp only [Act.put, List.setIfInBounds_toArray, List.set_cons_succ, List.set_cons_zero]
        apply lex_fun (rfl : psAt _ _ = none)
        · intro x u hR hf
          have c0 := cell_of (hR.block HBS.out)
          clear hR hf
          go_simp
          exact ⟨rfl, Ext.refl _⟩
        simp only [Act.put, List.setIfInBounds_toArray, List.set_cons_succ, List.set_cons_zero]
        refine lex_fun (v := .agg #[.int .i64 a.east, .int .i64 a.north, .int .i64 a.long, .int .i64 a.along, .int .i64 a.shot, .int .i64 a.haul, .int .i64 a.se.lo, .int .i64 a.se.hi, .int .i64 a.sn.lo, .int .i64 a.sn.hi, .int .i64 i, .int .i64 b.east, .int .i64 b.north, .int .i64 b.long, .int .i64 b.along, .int .i64 b.shot, .int .i64 b.haul, .int .i64 b.se.lo, .int .i64 b.se.hi, .int .i64 b.sn.lo, .int .i64 b.sn.hi, .int .i64 k]) (rfl : psAt _ _ = none) ?_ ?_
        · intro x u hR hf
          rw [if_pos (show Region.wanted _ _ = true from rfl)]
          exact gives_load 127 (.tmp 5) rfl rfl (load_pair (hR.block HC1.out) rfl) ⟨rfl, Ext.refl _⟩
        simp only [Act.put, List.setIfInBounds_toArray, List.set_cons_succ, List.set_cons_zero]
        apply lex_fun (rfl : psAt _ _ = none)
        · intro x u hR hf
          clear hR hf
          go_simp
          exact ⟨rfl, Ext.refl _⟩
        simp only [Act.put, List.setIfInBounds_toArray, List.set_cons_succ, List.set_cons_zero]
        apply lex_fun (rfl : psAt _ _ = none)
        · intro x u hR hf
          clear hR hf
          go_simp
          exact ⟨rfl, Ext.refl _⟩
        simp only [Act.put, List.setIfInBounds_toArray, List.set_cons_succ, List.set_cons_zero]
        apply lex_fun (rfl : psAt _ _ = none)
        · intro x u hR hf
          have c0 := cell_of (hR.block HC0.out)
          clear hR hf
          go_simp
          exact ⟨rfl, Ext.refl _⟩
        simp only [Act.put, List.setIfInBounds_toArray, List.set_cons_succ, List.set_cons_zero]
        refine lex_fun (v := spnV (near_nF a b F.gap)) (rfl : psAt _ _ = none) ?_ ?_
        · intro x u hR hf
          have hcal := hid (near_n a b i k F.gap HF.out.gap HA.out.long HBN.out.long u)
          clear hR hf
          go_simp
          exact hcal.out.mono fun e w'' ⟨he, hx'⟩ => ⟨_, he, rfl, hx'⟩
        simp only [Act.put, List.setIfInBounds_toArray, List.set_cons_succ, List.set_cons_zero]
        refine lex_fun (v := .bool true) (rfl : psAt _ _ = none) ?_ ?_
        · intro x u hR hf
          have hcal := hid ((by have h1 := meet_any (apart_nF F a b h).lo (apart_nF F a b h).hi (near_nF a b F.gap).lo (near_nF a b F.gap).hi u; rw [show meetB (apart_nF F a b h).lo (apart_nF F a b h).hi (near_nF a b F.gap).lo (near_nF a b F.gap).hi = true from HMT.out] at h1; exact h1 : Cal 95 #[.agg #[.int .i64 (apart_nF F a b h).lo, .int .i64 (apart_nF F a b h).hi], .agg #[.int .i64 (near_nF a b F.gap).lo, .int .i64 (near_nF a b F.gap).hi]] u _))
          clear hR hf
          simp only [spnV]
          go_simp
          exact hcal.out.mono fun e w'' ⟨he, hx'⟩ => ⟨_, he, rfl, hx'⟩
        simp only [Act.put, List.setIfInBounds_toArray, List.set_cons_succ, List.set_cons_zero]
        apply lex_fun (rfl : psAt _ _ = none)
        · intro x u hR hf
          clear hR hf
          go_simp
          exact ⟨rfl, Ext.refl _⟩
        simp only [Act.put, List.setIfInBounds_toArray, List.set_cons_succ, List.set_cons_zero]
        refine lex_nil fun x w6 hE hfacts => ?_
        clear hfacts x
        gi_wp2
        go_roundw
        case rel => exact ⟨2, by omega, by go_num, HX1.out.trans hE, fun _ => HI2.out.2.1 (by omega), fun _ => HMT.out⟩
        case measure => simp [intOf]
    · have HG : Hid (foulsC F a b h = true) := by show foulsC F a b h = true; unfold foulsC; rw [HI2.out.2.1 (by omega), HI2.out.2.2 (by omega)]; rfl
      gi_wp2
      go_ret
      exact ⟨by rw [HG.out]; rfl, HW.out.trans HI2.out.1⟩



theorem wpIn_load_one {F : Fence} {n : Nat} {o : Oper} {a : Act} {w : World} {K : Act → World → Prop} {Q : Exit → Act → World → Prop} (hF : ∀ f, F.fn f) (ty : TypeId) (x : Operand) (ho : o.op = .load ty x) {p v : Value} (hx : a.eval x = p)
    (hr : (Instr.loadAt ty p).run Try.prog w = .ok v w) (h : K (a.put o.dst v) w) : o.wpIn F n Try.prog a w K Q := by
  refine ⟨fun f _ => hF f, ?_⟩
  rw [Oper.semAt_eq _ _ _ (by rw [ho]; intro c h; cases h)]
  unfold execOp
  simp only [ho, hx, Sem.run_bind, Sem.run_pure, Result.andThen_ok, hr]
  exact h
theorem wpIn_store_fresh {F : Fence} {n : Nat} {o : Oper} {a : Act} {w W : World} {K : Act → World → Prop} {Q : Exit → Act → World → Prop} (hF : ∀ f, F.fn f) (ty : TypeId) (x y : Operand) (ho : o.op = .store ty x y) {c c' : Array Value}
    (hx : a.eval x = .pointer (some ⟨W.heap.size, 0, none⟩)) (hy : a.eval y = .agg c') (hw : w = W.alloc (.cells c ty)) (hi : (Try.prog.info? ty).map (·.size) = some c'.size) (hs : c.size = c'.size) (h1 : c'.all (·.oneCell') = true)
    (h : K (a.put o.dst undef) (W.alloc (.cells c' ty))) : o.wpIn F n Try.prog a w K Q := by
  subst hw
  have hr := run_storeAt_new (P := Try.prog) W ty c c' hi hs h1
  refine ⟨fun f _ => hF f, ?_⟩
  rw [Oper.semAt_eq _ _ _ (by rw [ho]; intro c h; cases h)]
  unfold execOp
  simp only [ho, hx, hy, Sem.run_bind, Sem.run_pure, Result.andThen_ok, hr]
  exact h
theorem trips_mem {F : FleetD} {t : Nat × Nat × Nat} (h : t ∈ trips F) : t.1 ≤ F.east.length ∧ t.2.1 < t.2.2 ∧ t.2.2 < F.nets.length ∧ lieG F t.1 t.2.1 t.2.2 = true := by
  unfold trips outTo at h
  rw [List.mem_flatMap] at h
  obtain ⟨hr, hh, h⟩ := h
  unfold midTo at h
  rw [List.mem_flatMap] at h
  obtain ⟨i, hi, h⟩ := h
  unfold inTo at h
  rw [List.mem_flatMap] at h
  obtain ⟨m, hm, h⟩ := h
  split at h
  · next hg =>
    simp only [List.mem_singleton] at h
    subst h
    simp only [List.mem_range] at hh hi hm
    exact ⟨by simp only; omega, by simp only; omega, by simp only; omega, hg⟩
  · cases h
def foulV (o : Option (Nat × Nat × Nat)) : Array Value := match o with
  | some t => #[.int .i64 t.1, .int .i64 t.2.1, .int .i64 t.2.2]
  | none => #[.int .i64 0, .int .i64 0, .int .i64 0]
def foulE (o : Option (Nat × Nat × Nat)) : Int := match o with
  | some _ => 0
  | none => 4
theorem callsIn_round (r : Nat) {f : Nat} {args : Array Value} {w : World} {R : Ending → World → Prop} (h : Cal f args w R) : CallsIn (Fence.wide.inRound r) 0 Try.prog f args w R := calls_inRound (ro := some r) h.calls
theorem find_none {α : Type} {p : α → Bool} {l : List α} (h : ∀ j (hj : j < l.length), p l[j] = false) : l.find? p = none := by
  rw [List.find?_eq_none]
  intro x hx
  obtain ⟨j, hj, rfl⟩ := List.getElem_of_mem hx
  simp [h j hj]
theorem find_some {α : Type} {p : α → Bool} {l : List α} {i : Nat} (hi : i < l.length) (h : ∀ j (hj : j < i), p (l[j]'(by omega)) = false) (hp : p l[i] = true) : l.find? p = some l[i] := by
  rw [List.find?_eq_some_iff_getElem]
  exact ⟨hp, i, hi, rfl, fun j hj => by simp [h j hj]⟩
theorem keepsFrom_ext {B : Nat} {W W' : World} (hx : Ext W W') : KeepsFrom B W W' := ⟨hx.size, fun _ _ _ ho _ => Ext.block hx ho⟩
def foulCt (F : FleetD) (t : Nat × Nat × Nat) : Bool := foulsC F (F.nets.getD t.2.1 netZ) (F.nets.getD t.2.2 netZ) t.1
set_option maxRecDepth 100000 in
set_option maxHeartbeats 4000000 in
theorem firstFoul_can (F : FleetD) (hF : FleetOk F) (eb eo ec nb no nc mc : Nat) (ma : Option Addr) (sv : Value) (w : World) (hE : SpansAt w (.slice (some ⟨eb, eo, none⟩) F.east.length ec) F.east) (hN : SpansAt w (.slice (some ⟨nb, no, none⟩) F.north.length nc) F.north) (hM : NetsAt w (.slice ma F.nets.length mc) F.nets) :
    Cal 52 #[.agg #[.slice (some ⟨eb, eo, none⟩) F.east.length ec, .slice (some ⟨nb, no, none⟩) F.north.length nc, .int .i64 F.gap, sv, .slice ma F.nets.length mc], .func (.func 53) #[.agg #[.slice (some ⟨eb, eo, none⟩) F.east.length ec, .slice (some ⟨nb, no, none⟩) F.north.length nc, .int .i64 F.gap, sv, .slice ma F.nets.length mc]] #[]] w fun x w' => x = .returned (.tuple #[.agg (foulV ((trips F).find? (foulCt F))), .int .i64 (foulE ((trips F).find? (foulCt F)))]) ∧ Ext w w' := by
  have HOK := hid hF
  have HMEM := hid (fun (W : World) (hx : Ext w W) => And.intro (hE.mono hx) (hN.mono hx))
  clear hE hN
  have HM := hid (fun (W : World) (hx : Ext w W) => hM.mono hx)
  have HTG := hid (together_iter F hF (some ⟨eb, eo, none⟩) ma ec mc (.slice (some ⟨nb, no, none⟩) F.north.length nc) sv)
  have hlenL : ((trips F).map (tripElem F)).length = (trips F).length := List.length_map _
  have HLEN := hid hlenL
  clear hF hM hlenL
  refine callsIn_of_wp_marks Try.func52 rfl trivial ?_
  simp only [Try.ntmps52, List.size_toArray, List.length_cons, List.length_nil, Nat.reduceAdd, Nat.reduceSub, Array.replicate_succ, Array.replicate_zero, List.push_toArray, List.append_toArray, List.nil_append, List.cons_append]
  gi_wp2_with fail
  have hW : Ext w ((((w.alloc (.cells #[.slice (some ⟨eb, eo, none⟩) F.east.length ec, .slice (some ⟨nb, no, none⟩) F.north.length nc, .int .i64 F.gap, sv, .slice ma F.nets.length mc] 108)).alloc (.cells #[.func (.func 53) #[.agg #[.slice (some ⟨eb, eo, none⟩) F.east.length ec, .slice (some ⟨nb, no, none⟩) F.north.length nc, .int .i64 F.gap, sv, .slice ma F.nets.length mc]] #[]] 119)).alloc (.cells #[.int .i64 0, .int .i64 0, .int .i64 0] 43)).alloc (.cells #[.int .i64 0] 26)) := ((((Ext.refl _).alloc _).alloc _).alloc _).alloc _
  have hW0 : ((((w.alloc (.cells #[.slice (some ⟨eb, eo, none⟩) F.east.length ec, .slice (some ⟨nb, no, none⟩) F.north.length nc, .int .i64 F.gap, sv, .slice ma F.nets.length mc] 108)).alloc (.cells #[.func (.func 53) #[.agg #[.slice (some ⟨eb, eo, none⟩) F.east.length ec, .slice (some ⟨nb, no, none⟩) F.north.length nc, .int .i64 F.gap, sv, .slice ma F.nets.length mc]] #[]] 119)).alloc (.cells #[.int .i64 0, .int .i64 0, .int .i64 0] 43)).alloc (.cells #[.int .i64 0] 26)).heap[w.heap.size]? = some (.cells #[.slice (some ⟨eb, eo, none⟩) F.east.length ec, .slice (some ⟨nb, no, none⟩) F.north.length nc, .int .i64 F.gap, sv, .slice ma F.nets.length mc] 108 (0, 0)) := by simp only [alloc_at, World.size_alloc]; (repeat rw [if_neg (by omega)]); first | rfl | rw [if_pos (by omega)] | rw [if_pos trivial]
  have hW1 : ((((w.alloc (.cells #[.slice (some ⟨eb, eo, none⟩) F.east.length ec, .slice (some ⟨nb, no, none⟩) F.north.length nc, .int .i64 F.gap, sv, .slice ma F.nets.length mc] 108)).alloc (.cells #[.func (.func 53) #[.agg #[.slice (some ⟨eb, eo, none⟩) F.east.length ec, .slice (some ⟨nb, no, none⟩) F.north.length nc, .int .i64 F.gap, sv, .slice ma F.nets.length mc]] #[]] 119)).alloc (.cells #[.int .i64 0, .int .i64 0, .int .i64 0] 43)).alloc (.cells #[.int .i64 0] 26)).heap[w.heap.size + 1]? = some (.cells #[.func (.func 53) #[.agg #[.slice (some ⟨eb, eo, none⟩) F.east.length ec, .slice (some ⟨nb, no, none⟩) F.north.length nc, .int .i64 F.gap, sv, .slice ma F.nets.length mc]] #[]] 119 (0, 0)) := by simp only [alloc_at, World.size_alloc]; (repeat rw [if_neg (by omega)]); first | rfl | rw [if_pos (by omega)] | rw [if_pos trivial]
  have hW2 : ((((w.alloc (.cells #[.slice (some ⟨eb, eo, none⟩) F.east.length ec, .slice (some ⟨nb, no, none⟩) F.north.length nc, .int .i64 F.gap, sv, .slice ma F.nets.length mc] 108)).alloc (.cells #[.func (.func 53) #[.agg #[.slice (some ⟨eb, eo, none⟩) F.east.length ec, .slice (some ⟨nb, no, none⟩) F.north.length nc, .int .i64 F.gap, sv, .slice ma F.nets.length mc]] #[]] 119)).alloc (.cells #[.int .i64 0, .int .i64 0, .int .i64 0] 43)).alloc (.cells #[.int .i64 0] 26)).heap[w.heap.size + 1 + 1]? = some (.cells #[.int .i64 0, .int .i64 0, .int .i64 0] 43 (0, 0)) := by simp only [alloc_at, World.size_alloc]; (repeat rw [if_neg (by omega)]); first | rfl | rw [if_pos (by omega)] | rw [if_pos trivial]
  have hW3 : ((((w.alloc (.cells #[.slice (some ⟨eb, eo, none⟩) F.east.length ec, .slice (some ⟨nb, no, none⟩) F.north.length nc, .int .i64 F.gap, sv, .slice ma F.nets.length mc] 108)).alloc (.cells #[.func (.func 53) #[.agg #[.slice (some ⟨eb, eo, none⟩) F.east.length ec, .slice (some ⟨nb, no, none⟩) F.north.length nc, .int .i64 F.gap, sv, .slice ma F.nets.length mc]] #[]] 119)).alloc (.cells #[.int .i64 0, .int .i64 0, .int .i64 0] 43)).alloc (.cells #[.int .i64 0] 26)).heap[w.heap.size + 1 + 1 + 1]? = some (.cells #[.int .i64 0] 26 (0, 0)) := by simp only [alloc_at, World.size_alloc]; (repeat rw [if_neg (by omega)]); first | rfl | rw [if_pos (by omega)] | rw [if_pos trivial]
  generalize (((w.alloc (.cells #[.slice (some ⟨eb, eo, none⟩) F.east.length ec, .slice (some ⟨nb, no, none⟩) F.north.length nc, .int .i64 F.gap, sv, .slice ma F.nets.length mc] 108)).alloc (.cells #[.func (.func 53) #[.agg #[.slice (some ⟨eb, eo, none⟩) F.east.length ec, .slice (some ⟨nb, no, none⟩) F.north.length nc, .int .i64 F.gap, sv, .slice ma F.nets.length mc]] #[]] 119)).alloc (.cells #[.int .i64 0, .int .i64 0, .int .i64 0] 43)).alloc (.cells #[.int .i64 0] 26) = W at *
  have hbel : Below w.heap.size w W := hW
  have HWS := hid (show w.heap.size + 4 ≤ W.heap.size by have h := lt_of_block hW3; omega)
  clear hW
  refine range_boxedT rfl (enters_of Try.func73 (by kernel_rfl) rfl) HTG.out
    (fun i W => Hid (∀ j, j < i → (h : j < (trips F).length) → foulCt F (trips F)[j] = false) ∧ Below w.heap.size w W ∧ W.heap[w.heap.size]? = some (.cells #[.slice (some ⟨eb, eo, none⟩) F.east.length ec, .slice (some ⟨nb, no, none⟩) F.north.length nc, .int .i64 F.gap, sv, .slice ma F.nets.length mc] 108 (0, 0)) ∧ W.heap[w.heap.size + 1]? = some (.cells #[.func (.func 53) #[.agg #[.slice (some ⟨eb, eo, none⟩) F.east.length ec, .slice (some ⟨nb, no, none⟩) F.north.length nc, .int .i64 F.gap, sv, .slice ma F.nets.length mc]] #[]] 119 (0, 0)) ∧ W.heap[w.heap.size + 1 + 1]? = some (.cells #[.int .i64 0, .int .i64 0, .int .i64 0] 43 (0, 0)) ∧ W.heap[w.heap.size + 1 + 1 + 1]? = some (.cells #[.int .i64 0] 26 (0, 0)))
    (fun c i W => c = .ret ∧ Hid (∃ h : i < (trips F).length, (∀ j, j < i → (h : j < (trips F).length) → foulCt F (trips F)[j] = false) ∧ foulCt F (trips F)[i] = true ∧ W.heap[w.heap.size + 1 + 1]? = some (.cells (foulV (some (trips F)[i])) 43 (0, 0)) ∧ W.heap[w.heap.size + 1 + 1 + 1]? = some (.cells #[.int .i64 0] 26 (0, 0))) ∧ Below w.heap.size w W)
    (fun i W' W'' h hp => ⟨h.1, hp.below h.2.1 hbel.size (Nat.le_refl _), hp.block _ _ (by have := HWS.out; omega) h.2.2.1, hp.block _ _ (by have := HWS.out; omega) h.2.2.2.1, hp.block _ _ (by have := HWS.out; omega) h.2.2.2.2.1, hp.block _ _ (by have := HWS.out; omega) h.2.2.2.2.2⟩)
    (fun c i W' W'' h hp => ⟨h.1, ⟨h.2.1.out.1, h.2.1.out.2.1, h.2.1.out.2.2.1, hp.block _ _ (by have := HWS.out; omega) h.2.1.out.2.2.2.1, hp.block _ _ (by have := HWS.out; omega) h.2.1.out.2.2.2.2⟩, hp.below h.2.2 hbel.size (Nat.le_refl _)⟩)
    (fun i W' h => HM.out W' h.2.1) (fun i h => by simp [tripElem]) ⟨fun j h => absurd h (by omega), hbel, hW0, hW1, hW2, hW3⟩
    (fun i Bx => { tmps := #[.agg #[.slice (some ⟨eb, eo, none⟩) F.east.length ec, .slice (some ⟨nb, no, none⟩) F.north.length nc, .int .i64 F.gap, sv, .slice ma F.nets.length mc], .func (.func 53) #[.agg #[.slice (some ⟨eb, eo, none⟩) F.east.length ec, .slice (some ⟨nb, no, none⟩) F.north.length nc, .int .i64 F.gap, sv, .slice ma F.nets.length mc]] #[], .pointer (some ⟨w.heap.size, 0, none⟩), .pointer (some ⟨w.heap.size + 1, 0, none⟩), .pointer (some ⟨w.heap.size + 1 + 1, 0, none⟩), .pointer (some ⟨w.heap.size + 1 + 1 + 1, 0, none⟩), .int .i64 ((trips F).getD i (0, 0, 0)).1, .pointer (some ⟨Bx, 0, none⟩), .agg #[.slice (some ⟨eb, eo, none⟩) F.east.length ec, .slice (some ⟨nb, no, none⟩) F.north.length nc, .int .i64 F.gap, sv, .slice ma F.nets.length mc], .func (.func 73) #[.agg #[.slice (some ⟨eb, eo, none⟩) F.east.length ec, .slice (some ⟨nb, no, none⟩) F.north.length nc, .int .i64 F.gap, sv, .slice ma F.nets.length mc]] #[],
      .int .i64 ((trips F).getD i (0, 0, 0)).1, .agg (pairA (F.nets.getD ((trips F).getD i (0, 0, 0)).2.1 netZ) (F.nets.getD ((trips F).getD i (0, 0, 0)).2.2 netZ) ((trips F).getD i (0, 0, 0)).2.1 ((trips F).getD i (0, 0, 0)).2.2), undef, undef, undef, undef, undef, undef, undef, undef, undef, undef, undef, undef, undef, undef], defers := [] })
    (fun i => pairA (F.nets.getD ((trips F).getD i (0, 0, 0)).2.1 netZ) (F.nets.getD ((trips F).getD i (0, 0, 0)).2.2 netZ) ((trips F).getD i (0, 0, 0)).2.1 ((trips F).getD i (0, 0, 0)).2.2) 127 ?assign ?body ?done ?stop
  case assign =>
    intro l i h W K' hK
    have he : ((trips F).map (tripElem F))[i] = #[.int .i64 ((trips F).getD i (0, 0, 0)).1, .agg (pairA (F.nets.getD ((trips F).getD i (0, 0, 0)).2.1 netZ) (F.nets.getD ((trips F).getD i (0, 0, 0)).2.2 netZ) ((trips F).getD i (0, 0, 0)).2.1 ((trips F).getD i (0, 0, 0)).2.2)] := by
      rw [List.getElem_map, getD_of (by rw [← HLEN.out]; exact h)]; rfl
    rw [he]
    generalize (trips F).getD i (0, 0, 0) = t at *
    obtain ⟨hr, i1, i2⟩ := t
    simp only at *
    generalize F.nets.getD i1 netZ = a at *
    generalize F.nets.getD i2 netZ = b at *
    gi_wp2_with (refine wpIn_store_fresh (fun _ => trivial) 127 (.tmp 7) (.tmp 11) rfl (W := W) (c' := pairA a b i1 i2) rfl rfl rfl info127 rfl (by kernel_rfl) ?_)
    exact hK
  case body =>
    rintro l i Bx W2 hi hl hrr ⟨hne, hbelW, hb0, hb1, hb2, hb3⟩ hBx hbx
    have hil : i < (trips F).length := by rw [← HLEN.out]; exact hi
    have htm := trips_mem (List.getElem_mem hil)
    have hgd : (trips F).getD i (0, 0, 0) = (trips F)[i] := getD_of hil
    have HGI := hid (show foulCt F (trips F)[i] = foulCt F ((trips F).getD i (0, 0, 0)) by rw [hgd])
    have HGV := hid (show foulV (some (trips F)[i]) = foulV (some ((trips F).getD i (0, 0, 0))) by rw [hgd])
    rw [← hgd] at htm
    have HNE := hid (And.intro hil hne.out)
    clear hgd hne hi
    generalize (trips F).getD i (0, 0, 0) = t at *
    obtain ⟨hr, i1, i2⟩ := t
    simp only at *
    obtain ⟨t1, t2, t3, t4⟩ := htm
    have hl1 : i1 < F.nets.length := by omega
    have HAB : Hid (NetOk (F.nets.getD i1 netZ) F.east.length ∧ NetOk (F.nets.getD i2 netZ) F.east.length ∧ (mx (F.nets.getD i1 netZ).shot (F.nets.getD i2 netZ).shot ≤ (hr : Int) ∧ (hr : Int) ≤ 24) ∧ F.nets[i1]? = some (F.nets.getD i1 netZ) ∧ F.nets[i2]? = some (F.nets.getD i2 netZ) ∧ (((F.nets.getD i1 netZ).shot ≤ (hr : Int) ∧ (hr : Int) ≤ (F.nets.getD i1 netZ).haul) ∧ ((F.nets.getD i2 netZ).shot ≤ (hr : Int) ∧ (hr : Int) ≤ (F.nets.getD i2 netZ).haul))) := by
      have hh := HOK.out.hours
      have e1 : F.nets.getD i1 netZ = F.nets[i1] := getD_of hl1
      have e2 : F.nets.getD i2 netZ = F.nets[i2] := getD_of t3
      unfold lieG at t4
      rw [Bool.and_eq_true] at t4
      have g1 := inB_spec t4.1
      have g2 := inB_spec t4.2
      refine ⟨by rw [e1]; exact HOK.out.nets _ (List.getElem_mem _), by rw [e2]; exact HOK.out.nets _ (List.getElem_mem _), ⟨mx_le g1.1 g2.1, by omega⟩, by rw [e1]; exact List.getElem?_eq_getElem hl1, by rw [e2]; exact List.getElem?_eq_getElem t3, g1, g2⟩
    have HG0 := hid (show foulCt F (hr, i1, i2) = foulsC F (F.nets.getD i1 netZ) (F.nets.getD i2 netZ) hr from rfl)
    clear t1 t2 t3 t4 hl1
    generalize F.nets.getD i1 netZ = a at *
    generalize F.nets.getD i2 netZ = b at *
    have HBW := hid (show Ext w W2 from hbelW)
    have HCAL := hid (fun (u : World) (hu : Ext W2 u) => fouls_can F HOK.out eb eo ec nb no nc sv (.slice ma F.nets.length mc) a b HAB.out.1 HAB.out.2.1 i1 i2 hr HAB.out.2.2.1 u (HMEM.out u (HBW.out.trans hu)).1 (HMEM.out u (HBW.out.trans hu)).2)
    have HB := hid (And.intro hb0 (And.intro hb1 (And.intro hb2 (And.intro hb3 hbx))))
    have hc0 := cell_of hb0
    have hc1 := cell_of hb1
    clear hb0 hb1 hb2 hb3 hbelW
    simp only [pairA] at hbx ⊢ HB
    have hld := load_pair hbx rfl
    have HLD := hid hld
    clear hbx hld
    cases hv : foulCt F (hr, i1, i2)
    case false =>
      rw [← HG0.out, hv] at HCAL
      gi_wp2_with (first | (refine wpIn_load_one (fun _ => trivial) 127 (.tmp 7) rfl rfl HLD.out ?_) | (gi_at_call 74; ((with_reducible refine (callsIn_round l (HCAL.out _ (Ext.refl _))).mono ?_); rintro e w3 ⟨rfl, hx3⟩)))
      have HN := hid (show ∀ j, j < i + 1 → (h : j < (trips F).length) → foulCt F (trips F)[j] = false from fun j hj h => by
        rcases Nat.lt_or_ge j i with h' | h'
        · exact HNE.out.2 j h' h
        · obtain rfl : j = i := by omega
          rw [HGI.out]; exact hv)
      exact ⟨⟨keepsFrom_ext hx3, HN, HBW.out.trans hx3, hx3.block HB.out.1, hx3.block HB.out.2.1, hx3.block HB.out.2.2.1, hx3.block HB.out.2.2.2.1⟩, KeepT.of_ext hx3⟩
    case true =>
      rw [← HG0.out, hv] at HCAL
      gi_wp2_with (first | (refine wpIn_load_one (fun _ => trivial) 127 (.tmp 7) rfl rfl HLD.out ?_) | (gi_at_call 74; ((with_reducible refine (callsIn_round l (HCAL.out _ (Ext.refl _))).mono ?_); rintro e w3 ⟨rfl, hx3⟩; have hcx := cell_of (hx3.block HB.out.2.2.2.2); have hcy := cell_of (hx3.block HB.out.2.2.1); have hfy := free_of (hx3.block HB.out.2.2.1); have hcz := cell_of (hx3.block HB.out.2.2.2.1); have hfz := free_of (hx3.block HB.out.2.2.2.1))))
      have k2 := hx3.block HB.out.2.2.1
      have k3 := hx3.block HB.out.2.2.2.1
      have s1 := set_same k2 0 (.int .i64 hr)
      have s2 := set_same s1 1 (.int .i64 i1)
      have s3 := set_same s2 2 (.int .i64 i2)
      simp only [List.setIfInBounds_toArray, List.set_cons_succ, List.set_cons_zero] at s1 s2 s3
      have z3 := (set_other (w := w3) (g := w.heap.size + 1 + 1) (k := w.heap.size + 1 + 1 + 1) (by omega) 0 (.int .i64 hr)).trans k3
      have z2 := (set_other (g := w.heap.size + 1 + 1) (k := w.heap.size + 1 + 1 + 1) (by omega) 1 (.int .i64 i1)).trans z3
      have z1 := (set_other (g := w.heap.size + 1 + 1) (k := w.heap.size + 1 + 1 + 1) (by omega) 2 (.int .i64 i2)).trans z2
      have z0 := set_same z1 0 (.int .i64 0)
      simp only [List.setIfInBounds_toArray, List.set_cons_zero] at z0
      have s4 := (set_other (g := w.heap.size + 1 + 1 + 1) (k := w.heap.size + 1 + 1) (by omega) 0 (.int .i64 0)).trans s3
      refine ⟨⟨((((keepsFrom_ext hx3).trans ((KeepsOthers.setCell _ _ _).from _)).trans ((KeepsOthers.setCell _ _ _).from _)).trans ((KeepsOthers.setCell _ _ _).from _)).trans ((KeepsOthers.setCell _ _ _).from _), rfl, ⟨HNE.out.1, HNE.out.2, by rw [HGI.out]; exact hv, by rw [HGV.out]; exact s4, z0⟩, ?_⟩, ?_⟩
      · exact ((((HBW.out.trans hx3).set (by omega) _ _).set (by omega) _ _).set (by omega) _ _).set (by omega) _ _
      · exact ((((KeepT.of_ext hx3).trans (KeepT.set k2 (by decide) (by decide) _ _)).trans (KeepT.set s1 (by decide) (by decide) _ _)).trans (KeepT.set s2 (by decide) (by decide) _ _)).trans (KeepT.set z1 (by decide) (by decide) _ _)
  case done =>
    rintro D W2 hD ⟨hne, hbelW, hb0, hb1, hb2, hb3⟩ hK
    have HFD := hid (find_none (p := foulCt F) (l := trips F) (fun j hj => hne.out j (by rw [HLEN.out]; exact hj) hj))
    have hcy := cell_of hb2
    have hfy := free_of hb2
    have hcz := cell_of hb3
    have hfz := free_of hb3
    have hD2 : D ≠ w.heap.size + 1 + 1 := by have := HWS.out; omega
    have hD3 : D ≠ w.heap.size + 1 + 1 + 1 := by have := HWS.out; omega
    clear hne
    gi_wp2_with fail
    have s3 := set_same (set_same (set_same hb2 0 (.int .i64 0)) 1 (.int .i64 0)) 2 (.int .i64 0)
    simp only [List.setIfInBounds_toArray, List.set_cons_succ, List.set_cons_zero] at s3
    have z1 := (set_other (g := w.heap.size + 1 + 1) (k := w.heap.size + 1 + 1 + 1) (by omega) 2 (.int .i64 0)).trans ((set_other (g := w.heap.size + 1 + 1) (k := w.heap.size + 1 + 1 + 1) (by omega) 1 (.int .i64 0)).trans ((set_other (w := W2) (g := w.heap.size + 1 + 1) (k := w.heap.size + 1 + 1 + 1) (by omega) 0 (.int .i64 0)).trans hb3))
    have z0 := set_same z1 0 (.int .i64 4)
    simp only [List.setIfInBounds_toArray, List.set_cons_zero] at z0
    have s4 := (set_other (g := w.heap.size + 1 + 1 + 1) (k := w.heap.size + 1 + 1) (by omega) 0 (.int .i64 4)).trans s3
    have hKs := (set_other (g := w.heap.size + 1 + 1 + 1) (k := D) hD3 0 (.int .i64 4)).trans ((set_other (g := w.heap.size + 1 + 1) (k := D) hD2 2 (.int .i64 0)).trans ((set_other (g := w.heap.size + 1 + 1) (k := D) hD2 1 (.int .i64 0)).trans ((set_other (w := W2) (g := w.heap.size + 1 + 1) (k := D) hD2 0 (.int .i64 0)).trans hK)))
    have hEx : Ext w ((((W2.setCell ⟨w.heap.size + 1 + 1, 0, none⟩ (.int .i64 0)).setCell ⟨w.heap.size + 1 + 1, 1, none⟩ (.int .i64 0)).setCell ⟨w.heap.size + 1 + 1, 2, none⟩ (.int .i64 0)).setCell ⟨w.heap.size + 1 + 1 + 1, 0, none⟩ (.int .i64 4)) := ((((show Ext w W2 from hbelW).set (by omega) _ _).set (by omega) _ _).set (by omega) _ _).set (by omega) _ _
    clear hcy hfy hcz hfz hb0 hb1 hb2 hb3 hK hbelW z1 s3
    generalize (((W2.setCell ⟨w.heap.size + 1 + 1, 0, none⟩ (.int .i64 0)).setCell ⟨w.heap.size + 1 + 1, 1, none⟩ (.int .i64 0)).setCell ⟨w.heap.size + 1 + 1, 2, none⟩ (.int .i64 0)).setCell ⟨w.heap.size + 1 + 1 + 1, 0, none⟩ (.int .i64 4) = W3 at *
    refine leave_mark hKs (v := .tuple #[.agg #[.int .i64 0, .int .i64 0, .int .i64 0], .int .i64 4]) (by simp [results, Try.results52, go_sem, put_cell s4 (Ne.symm hD2), put_cell z0 (Ne.symm hD3)]) ⟨by rw [HFD.out]; rfl, ?_⟩
    exact (put_past (B := w.heap.size) _ _ (by have := HWS.out; omega)).below hEx (Nat.le_refl _) (Nat.le_refl _)
  case stop =>
    rintro D i c W2 hD hi ⟨rfl, hM2, hbelW⟩ hK
    obtain ⟨hil, hne, hv, s4, z0⟩ := hM2.out
    have HFD := hid (find_some (p := foulCt F) (l := trips F) hil (fun j hj => hne j hj (by omega)) hv)
    have hD2 : D ≠ w.heap.size + 1 + 1 := by have := HWS.out; omega
    have hD3 : D ≠ w.heap.size + 1 + 1 + 1 := by have := HWS.out; omega
    clear hM2 hne hv
    generalize (trips F)[i] = t at *
    obtain ⟨hr, i1, i2⟩ := t
    simp only [foulV] at s4
    gi_wp2_with fail
    refine leave_mark hK (v := .tuple #[.agg #[.int .i64 hr, .int .i64 i1, .int .i64 i2], .int .i64 0]) (by simp [results, Try.results52, go_sem, put_cell s4 (Ne.symm hD2), put_cell z0 (Ne.symm hD3)]) ⟨by rw [HFD.out]; rfl, ?_⟩
    exact (put_past (B := w.heap.size) _ _ (by have := HWS.out; omega)).below hbelW (Nat.le_refl _) (Nat.le_refl _)



def checkE (F : FleetD) : Int := if fleetB F then 0 else 20
set_option maxRecDepth 100000 in
theorem Check_any (F : FleetD) (ev nv sv : Value) (w : World) (he : SpansAt w ev F.east) (hn : SpansAt w nv F.north) (hs : ShotsAt w sv F.nets) : Cal 23 #[.agg #[ev, nv, .int .i64 F.gap, sv]] w fun e w' => e = .returned (.int .i64 (checkE F)) ∧ Ext w w' := by
  have hx0 : Ext w (w.alloc (.cells #[ev, nv, .int .i64 F.gap, sv] 40)) := (Ext.refl _).alloc _
  have HE := hid (he.mono hx0)
  have HN := hid (hn.mono hx0)
  have HS := hid (hs.mono hx0)
  clear he hn hs
  cases hF : fleetB F
  case false =>
    have HC : Hid (checkE F = 20) := by show checkE F = 20; unfold checkE; rw [hF]; rfl
    gi_enter Try.func23, Try.ntmps23
    gi_wp2_with (gi_at_call 51; ((with_reducible refine (newFleet_no F hF ev nv sv _ HE.out HN.out HS.out).mono ?_); rintro e w1 ⟨rfl, hx1⟩))
    go_ret
    exact ⟨by rw [HC.out]; rfl, (hx0.trans hx1).alloc _⟩
  case true =>
    have HC : Hid (checkE F = 0) := by show checkE F = 0; unfold checkE; rw [hF]; rfl
    gi_enter Try.func23, Try.ntmps23
    gi_wp2_with (gi_at_call 51; ((with_reducible refine (newFleet_yes F hF ev nv sv _ HE.out HN.out HS.out).mono ?_); rintro e w1 ⟨fv, rfl, hx1, hfa⟩; obtain ⟨eb, eo, ec, nb, no, nc, sa, sc, ma, mc, rfl, h1, h2, h3⟩ := hfa.out))
    go_ret
    exact ⟨by rw [HC.out]; rfl, (hx0.trans hx1).alloc _⟩
def canE (F : FleetD) : Int := if fleetB F then foulE ((trips F).find? (foulCt F)) else 20
def canV (F : FleetD) : Array Value := if fleetB F then foulV ((trips F).find? (foulCt F)) else #[.int .i64 0, .int .i64 0, .int .i64 0]
theorem foulV_three (o : Option (Nat × Nat × Nat)) : ∃ a b c : Int, foulV o = #[.int .i64 a, .int .i64 b, .int .i64 c] := by
  cases o with
  | none => exact ⟨0, 0, 0, rfl⟩
  | some t => exact ⟨t.1, t.2.1, t.2.2, rfl⟩
set_option maxRecDepth 100000 in
set_option maxHeartbeats 1000000 in
theorem Can_any (F : FleetD) (ev nv sv : Value) (w : World) (he : SpansAt w ev F.east) (hn : SpansAt w nv F.north) (hs : ShotsAt w sv F.nets) : Cal 21 #[.agg #[ev, nv, .int .i64 F.gap, sv]] w fun e w' => e = .returned (.tuple #[.agg (canV F), .int .i64 (canE F)]) ∧ Ext w w' := by
  have HIN := hid (fun (u : World) (hu : Ext w u) => And.intro (he.mono hu) (And.intro (hn.mono hu) (hs.mono hu)))
  clear he hn hs
  gi_enter Try.func21, Try.ntmps21
  gi_upto_region 1 with fail
  have hW : Ext w ((w.alloc (.cells #[ev, nv, .int .i64 F.gap, sv] 40)).alloc (.cells #[.int .i64 0, .int .i64 0, .int .i64 0] 43)) := ((Ext.refl _).alloc _).alloc _
  have hW0 : ((w.alloc (.cells #[ev, nv, .int .i64 F.gap, sv] 40)).alloc (.cells #[.int .i64 0, .int .i64 0, .int .i64 0] 43)).heap[w.heap.size]? = some (.cells #[ev, nv, .int .i64 F.gap, sv] 40 (0, 0)) := by simp only [alloc_at, World.size_alloc]; (repeat rw [if_neg (by omega)]); first | rfl | rw [if_pos (by omega)] | rw [if_pos trivial]
  have hW1 : ((w.alloc (.cells #[ev, nv, .int .i64 F.gap, sv] 40)).alloc (.cells #[.int .i64 0, .int .i64 0, .int .i64 0] 43)).heap[w.heap.size + 1]? = some (.cells #[.int .i64 0, .int .i64 0, .int .i64 0] 43 (0, 0)) := by simp only [alloc_at, World.size_alloc]; (repeat rw [if_neg (by omega)]); first | rfl | rw [if_pos (by omega)] | rw [if_pos trivial]
  generalize (w.alloc (.cells #[ev, nv, .int .i64 F.gap, sv] 40)).alloc (.cells #[.int .i64 0, .int .i64 0, .int .i64 0] 43) = W at *
  have hc := cell_of hW0
  have hd := cell_of hW1
  have hf := free_of hW1
  have HB1 := hid hW1
  have HW := hid hW
  clear hW hW0 hW1
  cases hF : fleetB F
  case false =>
    have HC : Hid (canE F = 20 ∧ canV F = #[.int .i64 0, .int .i64 0, .int .i64 0]) := by show _ ∧ _; unfold canE canV; rw [hF]; exact ⟨rfl, rfl⟩
    gi_wp2_with (gi_at_call 51; ((with_reducible refine (newFleet_no F hF ev nv sv _ (HIN.out _ HW.out).1 (HIN.out _ HW.out).2.1 (HIN.out _ HW.out).2.2).mono ?_); rintro e w1 ⟨rfl, hx1⟩; have hxa := hx1.alloc (.cells #[.slice none 0 0, .slice none 0 0, .int .i64 0, .slice none 0 0, .slice none 0 0] 108); have hf2 := free_of (hxa.block HB1.out); have hd2 := cell_of (hxa.block HB1.out)))
    have hx := HW.out.trans hxa
    have hbk := hxa.block HB1.out
    clear hc hd hf hf2 hd2
    have hb3 : ((((w1.alloc (.cells #[.slice none 0 0, .slice none 0 0, .int .i64 0, .slice none 0 0, .slice none 0 0] 108)).setCell ⟨w.heap.size + 1, 0, none⟩ (.int .i64 0)).setCell ⟨w.heap.size + 1, 1, none⟩ (.int .i64 0)).setCell ⟨w.heap.size + 1, 2, none⟩ (.int .i64 0)).heap[w.heap.size + 1]? = some (.cells #[.int .i64 0, .int .i64 0, .int .i64 0] 43 (0, 0)) := by
      have h := set_same (set_same (set_same (hbk) 0 (.int .i64 0)) 1 (.int .i64 0)) 2 (.int .i64 0)
      simpa using h
    have hE : Ext w ((((w1.alloc (.cells #[.slice none 0 0, .slice none 0 0, .int .i64 0, .slice none 0 0, .slice none 0 0] 108)).setCell ⟨w.heap.size + 1, 0, none⟩ (.int .i64 0)).setCell ⟨w.heap.size + 1, 1, none⟩ (.int .i64 0)).setCell ⟨w.heap.size + 1, 2, none⟩ (.int .i64 0)) := (((hx).set (b := w.heap.size + 1) (by omega) _ _).set (b := w.heap.size + 1) (by omega) _ _).set (b := w.heap.size + 1) (by omega) _ _
    generalize ((((w1.alloc (.cells #[.slice none 0 0, .slice none 0 0, .int .i64 0, .slice none 0 0, .slice none 0 0] 108)).setCell ⟨w.heap.size + 1, 0, none⟩ (.int .i64 0)).setCell ⟨w.heap.size + 1, 1, none⟩ (.int .i64 0)).setCell ⟨w.heap.size + 1, 2, none⟩ (.int .i64 0)) = WF at *
    have hc := cell_of hb3
    exact bodyPost_ret (v := .tuple #[.agg #[.int .i64 0, .int .i64 0, .int .i64 0], .int .i64 20]) (by simp [results, Try.results21, go_sem, hc]) rfl ⟨by rw [HC.out.1, HC.out.2], hE⟩
  case true =>
    have HC : Hid (canE F = foulE ((trips F).find? (foulCt F)) ∧ canV F = foulV ((trips F).find? (foulCt F))) := by show _ ∧ _; unfold canE canV; rw [hF]; exact ⟨rfl, rfl⟩
    have HOK := hid (fleetB_ok hF)
    obtain ⟨a, b, c, h3⟩ := foulV_three ((trips F).find? (foulCt F))
    have HV := hid h3
    clear h3
    gi_wp2_with (first | (gi_at_call 51; ((with_reducible refine (newFleet_yes F hF ev nv sv _ (HIN.out _ HW.out).1 (HIN.out _ HW.out).2.1 (HIN.out _ HW.out).2.2).mono ?_); rintro e w1 ⟨fv, rfl, hx1, hfa⟩; obtain ⟨eb, eo, ec, nb, no, nc, sa, sc, ma, mc, rfl, h1, h2, h3⟩ := hfa.out; have HFF := hid (firstFoul_can F HOK.out eb eo ec nb no nc mc ma (.slice sa F.nets.length sc) (w1.alloc (.cells #[.slice (some ⟨eb, eo, none⟩) F.east.length ec, .slice (some ⟨nb, no, none⟩) F.north.length nc, .int .i64 F.gap, .slice sa F.nets.length sc, .slice ma F.nets.length mc] 108)) (h1.mono ((Ext.refl _).alloc _)) (h2.mono ((Ext.refl _).alloc _)) (h3.mono ((Ext.refl _).alloc _))); rw [HV.out] at HFF; have HX1 := hid hx1)) | (gi_at_call 52; ((with_reducible refine HFF.out.mono ?_); rintro e w2 ⟨rfl, hx2⟩; have hxa := (HX1.out.alloc (.cells #[.slice (some ⟨eb, eo, none⟩) F.east.length ec, .slice (some ⟨nb, no, none⟩) F.north.length nc, .int .i64 F.gap, .slice sa F.nets.length sc, .slice ma F.nets.length mc] 108)).trans hx2; have hf2 := free_of (hxa.block HB1.out); have hd2 := cell_of (hxa.block HB1.out))))
    have hx := HW.out.trans hxa
    have hbk := hxa.block HB1.out
    clear hc hd hf hf2 hd2
    have hb3 : (((w2.setCell ⟨w.heap.size + 1, 0, none⟩ (.int .i64 a)).setCell ⟨w.heap.size + 1, 1, none⟩ (.int .i64 b)).setCell ⟨w.heap.size + 1, 2, none⟩ (.int .i64 c)).heap[w.heap.size + 1]? = some (.cells #[.int .i64 a, .int .i64 b, .int .i64 c] 43 (0, 0)) := by
      have h := set_same (set_same (set_same (hbk) 0 (.int .i64 a)) 1 (.int .i64 b)) 2 (.int .i64 c)
      simpa using h
    have hE : Ext w (((w2.setCell ⟨w.heap.size + 1, 0, none⟩ (.int .i64 a)).setCell ⟨w.heap.size + 1, 1, none⟩ (.int .i64 b)).setCell ⟨w.heap.size + 1, 2, none⟩ (.int .i64 c)) := (((hx).set (b := w.heap.size + 1) (by omega) _ _).set (b := w.heap.size + 1) (by omega) _ _).set (b := w.heap.size + 1) (by omega) _ _
    generalize (((w2.setCell ⟨w.heap.size + 1, 0, none⟩ (.int .i64 a)).setCell ⟨w.heap.size + 1, 1, none⟩ (.int .i64 b)).setCell ⟨w.heap.size + 1, 2, none⟩ (.int .i64 c)) = WF at *
    have hc := cell_of hb3
    exact bodyPost_ret (v := .tuple #[.agg #[.int .i64 a, .int .i64 b, .int .i64 c], .int .i64 (foulE ((trips F).find? (foulCt F)))]) (by simp [results, Try.results21, go_sem, hc]) rfl ⟨by rw [HC.out.1, HC.out.2, HV.out], hE⟩



def pNew (T : TypeId) (cs : Array Value) (n : Nat) (v : Value) (u : World) : Prop := ∃ g, v = .pointer (some ⟨g, 0, none⟩) ∧ n ≤ g ∧ u.heap[g]? = some (.cells cs T (0, 0))
theorem pNew_s (T : TypeId) (cs : Array Value) (n : Nat) : ∀ v u u', pNew T cs n v u → Ext u u' → pNew T cs n v u' := fun _ _ _ ⟨g, h1, h2, h3⟩ hx => ⟨g, h1, h2, hx.block h3⟩
theorem hasB_spec {F : FleetD} {n h : Int} (hb : hasB F n h = true) : ∃ k : Nat, n = k ∧ ∃ hk : k < F.nets.length, lieB F.nets[k] h = true := by
  unfold hasB at hb
  rw [Bool.and_eq_true] at hb
  have h1 := inB_spec hb.1
  refine ⟨n.toNat, by omega, by omega, ?_⟩
  have := hb.2
  rwa [getD_of (by omega)] at this
def apartE (F : FleetD) (i k h : Int) : Int := if fleetB F then (if i == k || !hasB F i h || !hasB F k h then 22 else 0) else 20
def netOf (F : FleetD) (i : Int) : NetD := F.nets.getD i.toNat netZ
def spZ : Spn := ⟨0, 0⟩
def apartVe (F : FleetD) (i k h : Int) : Spn := if apartE F i k h = 0 then apart_eF F (netOf F i) (netOf F k) h else spZ
def apartVn (F : FleetD) (i k h : Int) : Spn := if apartE F i k h = 0 then apart_nF F (netOf F i) (netOf F k) h else spZ
theorem two_box {W : World} {g1 g2 : Nat} {c1 c2 : Array Value} {T1 T2 : TypeId} (h1 : W.heap[g1]? = some (.cells c1 T1 (0, 0))) (h2 : W.heap[g2]? = some (.cells c2 T2 (0, 0))) (s1 : c1.size = 2) (s2 : c2.size = 2) (hne : g1 ≠ g2) (a b c d : Value) :
    ((((W.setCell ⟨g1, 0, none⟩ a).setCell ⟨g1, 1, none⟩ b).setCell ⟨g2, 0, none⟩ c).setCell ⟨g2, 1, none⟩ d).heap[g1]? = some (.cells #[a, b] T1 (0, 0)) ∧
    ((((W.setCell ⟨g1, 0, none⟩ a).setCell ⟨g1, 1, none⟩ b).setCell ⟨g2, 0, none⟩ c).setCell ⟨g2, 1, none⟩ d).heap[g2]? = some (.cells #[c, d] T2 (0, 0)) := by
  obtain ⟨x, y, rfl⟩ : ∃ x y, c1 = #[x, y] := ⟨c1[0], c1[1], by apply Array.ext; simp [s1]; intro i h1 h2; simp at h2; rcases (by omega : i = 0 ∨ i = 1) with rfl | rfl <;> rfl⟩
  obtain ⟨x', y', rfl⟩ : ∃ x y, c2 = #[x, y] := ⟨c2[0], c2[1], by apply Array.ext; simp [s2]; intro i h1 h2; simp at h2; rcases (by omega : i = 0 ∨ i = 1) with rfl | rfl <;> rfl⟩
  have k1 := set_same (set_same h1 0 a) 1 b
  have k2 := (set_other (g := g1) (k := g2) (Ne.symm hne) 1 b).trans ((set_other (w := W) (g := g1) (k := g2) (Ne.symm hne) 0 a).trans h2)
  have k3 := set_same (set_same k2 0 c) 1 d
  have k4 := (set_other (g := g2) (k := g1) hne 1 d).trans ((set_other (g := g2) (k := g1) hne 0 c).trans k1)
  simp at k3 k4
  exact ⟨k4, k3⟩
set_option maxRecDepth 100000 in
set_option maxHeartbeats 4000000 in
theorem Apart_any (F : FleetD) (ev nv sv : Value) (i k h : Int) (w : World) (he : SpansAt w ev F.east) (hn : SpansAt w nv F.north) (hs : ShotsAt w sv F.nets) : Cal 28 #[.agg #[ev, nv, .int .i64 F.gap, sv], .int .i64 i, .int .i64 k, .int .i64 h] w fun e w' => e = .returned (.tuple #[spnV (apartVe F i k h), spnV (apartVn F i k h), .int .i64 (apartE F i k h)]) ∧ Ext w w' := by
  have HIN := hid (fun (u : World) (hu : Ext w u) => And.intro (he.mono hu) (And.intro (hn.mono hu) (hs.mono hu)))
  clear he hn hs
  gi_enter Try.func28, Try.ntmps28
  gi_upto_region 1 with fail
  have hW : Ext w (((w.alloc (.cells #[ev, nv, .int .i64 F.gap, sv] 40)).alloc (.cells #[.int .i64 0, .int .i64 0] 56)).alloc (.cells #[.int .i64 0, .int .i64 0] 56)) := (((Ext.refl _).alloc _).alloc _).alloc _
  have hW0 : (((w.alloc (.cells #[ev, nv, .int .i64 F.gap, sv] 40)).alloc (.cells #[.int .i64 0, .int .i64 0] 56)).alloc (.cells #[.int .i64 0, .int .i64 0] 56)).heap[w.heap.size]? = some (.cells #[ev, nv, .int .i64 F.gap, sv] 40 (0, 0)) := by simp only [alloc_at, World.size_alloc]; (repeat rw [if_neg (by omega)]); first | rfl | rw [if_pos (by omega)] | rw [if_pos trivial]
  have hW1 : (((w.alloc (.cells #[ev, nv, .int .i64 F.gap, sv] 40)).alloc (.cells #[.int .i64 0, .int .i64 0] 56)).alloc (.cells #[.int .i64 0, .int .i64 0] 56)).heap[w.heap.size + 1]? = some (.cells #[.int .i64 0, .int .i64 0] 56 (0, 0)) := by simp only [alloc_at, World.size_alloc]; (repeat rw [if_neg (by omega)]); first | rfl | rw [if_pos (by omega)] | rw [if_pos trivial]
  have hW2 : (((w.alloc (.cells #[ev, nv, .int .i64 F.gap, sv] 40)).alloc (.cells #[.int .i64 0, .int .i64 0] 56)).alloc (.cells #[.int .i64 0, .int .i64 0] 56)).heap[w.heap.size + 1 + 1]? = some (.cells #[.int .i64 0, .int .i64 0] 56 (0, 0)) := by simp only [alloc_at, World.size_alloc]; (repeat rw [if_neg (by omega)]); first | rfl | rw [if_pos (by omega)] | rw [if_pos trivial]
  generalize ((w.alloc (.cells #[ev, nv, .int .i64 F.gap, sv] 40)).alloc (.cells #[.int .i64 0, .int .i64 0] 56)).alloc (.cells #[.int .i64 0, .int .i64 0] 56) = W at *
  have hc := cell_of hW0
  have HB1 := hid hW1
  have HB2 := hid hW2
  have HW := hid hW
  clear hW hW0 hW1 hW2
  cases hF : fleetB F
  case false =>
    have HC : Hid (apartE F i k h = 20) := by show apartE F i k h = 20; unfold apartE; rw [hF]; rfl
    have HV : Hid (apartVe F i k h = spZ ∧ apartVn F i k h = spZ) := by show _ ∧ _; unfold apartVe apartVn; rw [HC.out]; exact ⟨rfl, rfl⟩
    gi_wp2_with (gi_at_call 51; ((with_reducible refine (newFleet_no F hF ev nv sv _ (HIN.out _ HW.out).1 (HIN.out _ HW.out).2.1 (HIN.out _ HW.out).2.2).mono ?_); rintro e w1 ⟨rfl, hx1⟩; have hxa := hx1.alloc (.cells #[.slice none 0 0, .slice none 0 0, .int .i64 0, .slice none 0 0, .slice none 0 0] 108); have hf2 := free_of (hxa.block HB1.out); have hd2 := cell_of (hxa.block HB1.out); have hf3 := free_of (hxa.block HB2.out); have hd3 := cell_of (hxa.block HB2.out)))
    have hx := HW.out.trans hxa
    have hB1 := hxa.block HB1.out
    have hB2 := hxa.block HB2.out
    clear hf2 hd2 hf3 hd3 hc hxa
    have hb2 := two_box hB1 hB2 rfl rfl (by omega) (.int .i64 0) (.int .i64 0) (.int .i64 0) (.int .i64 0)
    have hE : Ext w (((((w1.alloc (.cells #[.slice none 0 0, .slice none 0 0, .int .i64 0, .slice none 0 0, .slice none 0 0] 108)).setCell ⟨w.heap.size + 1, 0, none⟩ (.int .i64 0)).setCell ⟨w.heap.size + 1, 1, none⟩ (.int .i64 0)).setCell ⟨w.heap.size + 1 + 1, 0, none⟩ (.int .i64 0)).setCell ⟨w.heap.size + 1 + 1, 1, none⟩ (.int .i64 0)) := ((((hx).set (b := w.heap.size + 1) (by omega) _ _).set (b := w.heap.size + 1) (by omega) _ _).set (b := w.heap.size + 1 + 1) (by omega) _ _).set (b := w.heap.size + 1 + 1) (by omega) _ _
    clear hB1 hB2 hx
    generalize ((((w1.alloc (.cells #[.slice none 0 0, .slice none 0 0, .int .i64 0, .slice none 0 0, .slice none 0 0] 108)).setCell ⟨w.heap.size + 1, 0, none⟩ (.int .i64 0)).setCell ⟨w.heap.size + 1, 1, none⟩ (.int .i64 0)).setCell ⟨w.heap.size + 1 + 1, 0, none⟩ (.int .i64 0)).setCell ⟨w.heap.size + 1 + 1, 1, none⟩ (.int .i64 0) = WF at *
    have hc1 := cell_of hb2.1
    have hc2 := cell_of hb2.2
    exact bodyPost_ret (v := .tuple #[.agg #[.int .i64 0, .int .i64 0], .agg #[.int .i64 0, .int .i64 0], .int .i64 20]) (by simp [results, Try.results28, go_sem, hc1, hc2]) rfl ⟨by rw [HC.out, HV.out.1, HV.out.2]; rfl, hE⟩

  case true =>
    have HOK := hid (fleetB_ok hF)
    gi_upto_region 2 with (gi_at_call 51; ((with_reducible refine (newFleet_yes F hF ev nv sv _ (HIN.out _ HW.out).1 (HIN.out _ HW.out).2.1 (HIN.out _ HW.out).2.2).mono ?_); rintro e w1 ⟨fv, rfl, hx1, hfa⟩; obtain ⟨eb, eo, ec, nb, no, nc, sa, sc, ma, mc, rfl, h1, h2, h3⟩ := hfa.out))
    have hxa := hx1.alloc (.cells #[.slice (some ⟨eb, eo, none⟩) F.east.length ec, .slice (some ⟨nb, no, none⟩) F.north.length nc, .int .i64 F.gap, .slice sa F.nets.length sc, .slice ma F.nets.length mc] 108)
    have HX := hid (HW.out.trans hxa)
    have HB1 := hid (hxa.block HB1.out)
    have HB2 := hid (hxa.block HB2.out)
    have HBF : Hid ((w1.alloc (.cells #[.slice (some ⟨eb, eo, none⟩) F.east.length ec, .slice (some ⟨nb, no, none⟩) F.north.length nc, .int .i64 F.gap, .slice sa F.nets.length sc, .slice ma F.nets.length mc] 108)).heap[w1.heap.size]? = some (.cells #[.slice (some ⟨eb, eo, none⟩) F.east.length ec, .slice (some ⟨nb, no, none⟩) F.north.length nc, .int .i64 F.gap, .slice sa F.nets.length sc, .slice ma F.nets.length mc] 108 (0, 0))) := Ext.new (Ext.refl _)
    have HM := hid (h3.mono ((Ext.refl w1).alloc (.cells #[.slice (some ⟨eb, eo, none⟩) F.east.length ec, .slice (some ⟨nb, no, none⟩) F.north.length nc, .int .i64 F.gap, .slice sa F.nets.length sc, .slice ma F.nets.length mc] 108)))
    have HE := hid (h1.mono ((Ext.refl w1).alloc (.cells #[.slice (some ⟨eb, eo, none⟩) F.east.length ec, .slice (some ⟨nb, no, none⟩) F.north.length nc, .int .i64 F.gap, .slice sa F.nets.length sc, .slice ma F.nets.length mc] 108)))
    have HN := hid (h2.mono ((Ext.refl w1).alloc (.cells #[.slice (some ⟨eb, eo, none⟩) F.east.length ec, .slice (some ⟨nb, no, none⟩) F.north.length nc, .int .i64 F.gap, .slice sa F.nets.length sc, .slice ma F.nets.length mc] 108)))
    clear hxa hx1 h1 h2 h3 hfa HW HIN hc
    generalize w1.alloc (.cells #[.slice (some ⟨eb, eo, none⟩) F.east.length ec, .slice (some ⟨nb, no, none⟩) F.north.length nc, .int .i64 F.gap, .slice sa F.nets.length sc, .slice ma F.nets.length mc] 108) = W1 at *
    generalize w1.heap.size = GF at *
    have HHA := hid (fun (n : Int) (u : World) (hu : Ext W1 u) => hasLying_any F (.slice (some ⟨eb, eo, none⟩) F.east.length ec) (.slice (some ⟨nb, no, none⟩) F.north.length nc) (.slice sa F.nets.length sc) (.slice ma F.nets.length mc) (by have := HOK.out.count; omega) n h u (HM.out.mono hu))
    have hcf := cell_of HBF.out
    have hd1 := cell_of HB1.out
    have hf1 := free_of HB1.out
    have hd2 := cell_of HB2.out
    have hf2 := free_of HB2.out
    cases hik : i == k
    case true =>
      have HC : Hid (apartE F i k h = 22) := by show apartE F i k h = 22; unfold apartE; rw [hF, hik]; rfl
      have HV : Hid (apartVe F i k h = spZ ∧ apartVn F i k h = spZ) := by show _ ∧ _; unfold apartVe apartVn; rw [HC.out]; exact ⟨rfl, rfl⟩
      gi_wp2_with fail
      have hx := HX.out
      have hB1 := HB1.out
      have hB2 := HB2.out
      clear hcf hd1 hf1 hd2 hf2
      have hb2 := two_box hB1 hB2 rfl rfl (by omega) (.int .i64 0) (.int .i64 0) (.int .i64 0) (.int .i64 0)
      have hE : Ext w ((((W1.setCell ⟨w.heap.size + 1, 0, none⟩ (.int .i64 0)).setCell ⟨w.heap.size + 1, 1, none⟩ (.int .i64 0)).setCell ⟨w.heap.size + 1 + 1, 0, none⟩ (.int .i64 0)).setCell ⟨w.heap.size + 1 + 1, 1, none⟩ (.int .i64 0)) := ((((hx).set (b := w.heap.size + 1) (by omega) _ _).set (b := w.heap.size + 1) (by omega) _ _).set (b := w.heap.size + 1 + 1) (by omega) _ _).set (b := w.heap.size + 1 + 1) (by omega) _ _
      clear hB1 hB2 hx
      generalize (((W1.setCell ⟨w.heap.size + 1, 0, none⟩ (.int .i64 0)).setCell ⟨w.heap.size + 1, 1, none⟩ (.int .i64 0)).setCell ⟨w.heap.size + 1 + 1, 0, none⟩ (.int .i64 0)).setCell ⟨w.heap.size + 1 + 1, 1, none⟩ (.int .i64 0) = WF at *
      have hc1 := cell_of hb2.1
      have hc2 := cell_of hb2.2
      exact bodyPost_ret (v := .tuple #[.agg #[.int .i64 0, .int .i64 0], .agg #[.int .i64 0, .int .i64 0], .int .i64 22]) (by simp [results, Try.results28, go_sem, hc1, hc2]) rfl ⟨by rw [HC.out, HV.out.1, HV.out.2]; rfl, hE⟩

    case false =>
    cases hh1 : hasB F i h
    case false =>
      have HC : Hid (apartE F i k h = 22) := by show apartE F i k h = 22; unfold apartE; rw [hF, hik, hh1]; rfl
      have HV : Hid (apartVe F i k h = spZ ∧ apartVn F i k h = spZ) := by show _ ∧ _; unfold apartVe apartVn; rw [HC.out]; exact ⟨rfl, rfl⟩
      have HH1 := hid (HHA.out i)
      rw [hh1] at HH1
      gi_wp2_with (gi_at_call 58; ((with_reducible refine (HH1.out _ (Ext.refl _)).mono ?_); rintro e w2 ⟨rfl, hx2⟩; have hf3 := free_of (hx2.block HB1.out); have hd3 := cell_of (hx2.block HB1.out); have hf4 := free_of (hx2.block HB2.out); have hd4 := cell_of (hx2.block HB2.out)))
      have hx := HX.out.trans hx2
      have hB1 := hx2.block HB1.out
      have hB2 := hx2.block HB2.out
      clear hcf hd1 hf1 hd2 hf2 hf3 hd3 hf4 hd4
      have hb2 := two_box hB1 hB2 rfl rfl (by omega) (.int .i64 0) (.int .i64 0) (.int .i64 0) (.int .i64 0)
      have hE : Ext w ((((w2.setCell ⟨w.heap.size + 1, 0, none⟩ (.int .i64 0)).setCell ⟨w.heap.size + 1, 1, none⟩ (.int .i64 0)).setCell ⟨w.heap.size + 1 + 1, 0, none⟩ (.int .i64 0)).setCell ⟨w.heap.size + 1 + 1, 1, none⟩ (.int .i64 0)) := ((((hx).set (b := w.heap.size + 1) (by omega) _ _).set (b := w.heap.size + 1) (by omega) _ _).set (b := w.heap.size + 1 + 1) (by omega) _ _).set (b := w.heap.size + 1 + 1) (by omega) _ _
      clear hB1 hB2 hx
      generalize (((w2.setCell ⟨w.heap.size + 1, 0, none⟩ (.int .i64 0)).setCell ⟨w.heap.size + 1, 1, none⟩ (.int .i64 0)).setCell ⟨w.heap.size + 1 + 1, 0, none⟩ (.int .i64 0)).setCell ⟨w.heap.size + 1 + 1, 1, none⟩ (.int .i64 0) = WF at *
      have hc1 := cell_of hb2.1
      have hc2 := cell_of hb2.2
      exact bodyPost_ret (v := .tuple #[.agg #[.int .i64 0, .int .i64 0], .agg #[.int .i64 0, .int .i64 0], .int .i64 22]) (by simp [results, Try.results28, go_sem, hc1, hc2]) rfl ⟨by rw [HC.out, HV.out.1, HV.out.2]; rfl, hE⟩

    cases hh2 : hasB F k h
    case false =>
      have HC : Hid (apartE F i k h = 22) := by show apartE F i k h = 22; unfold apartE; rw [hF, hik, hh1, hh2]; rfl
      have HV : Hid (apartVe F i k h = spZ ∧ apartVn F i k h = spZ) := by show _ ∧ _; unfold apartVe apartVn; rw [HC.out]; exact ⟨rfl, rfl⟩
      have HH1 := hid (HHA.out i)
      rw [hh1] at HH1
      have HH2 := hid (HHA.out k)
      rw [hh2] at HH2
      gi_wp2_with (first | (have _ := hx2; gi_at_call 58; ((with_reducible refine (HH2.out _ hx2).mono ?_); rintro e w3 ⟨rfl, hx3⟩; have hxx := hx2.trans hx3; have hf3 := free_of (hxx.block HB1.out); have hd3 := cell_of (hxx.block HB1.out); have hf4 := free_of (hxx.block HB2.out); have hd4 := cell_of (hxx.block HB2.out))) | (gi_at_call 58; ((with_reducible refine (HH1.out _ (Ext.refl _)).mono ?_); rintro e w2 ⟨rfl, hx2⟩; have hcg := cell_of (hx2.block HBF.out))))
      have hx := HX.out.trans hxx
      have hB1 := hxx.block HB1.out
      have hB2 := hxx.block HB2.out
      clear hcf hd1 hf1 hd2 hf2 hf3 hd3 hf4 hd4 hcg
      have hb2 := two_box hB1 hB2 rfl rfl (by omega) (.int .i64 0) (.int .i64 0) (.int .i64 0) (.int .i64 0)
      have hE : Ext w ((((w3.setCell ⟨w.heap.size + 1, 0, none⟩ (.int .i64 0)).setCell ⟨w.heap.size + 1, 1, none⟩ (.int .i64 0)).setCell ⟨w.heap.size + 1 + 1, 0, none⟩ (.int .i64 0)).setCell ⟨w.heap.size + 1 + 1, 1, none⟩ (.int .i64 0)) := ((((hx).set (b := w.heap.size + 1) (by omega) _ _).set (b := w.heap.size + 1) (by omega) _ _).set (b := w.heap.size + 1 + 1) (by omega) _ _).set (b := w.heap.size + 1 + 1) (by omega) _ _
      clear hB1 hB2 hx
      generalize (((w3.setCell ⟨w.heap.size + 1, 0, none⟩ (.int .i64 0)).setCell ⟨w.heap.size + 1, 1, none⟩ (.int .i64 0)).setCell ⟨w.heap.size + 1 + 1, 0, none⟩ (.int .i64 0)).setCell ⟨w.heap.size + 1 + 1, 1, none⟩ (.int .i64 0) = WF at *
      have hc1 := cell_of hb2.1
      have hc2 := cell_of hb2.2
      exact bodyPost_ret (v := .tuple #[.agg #[.int .i64 0, .int .i64 0], .agg #[.int .i64 0, .int .i64 0], .int .i64 22]) (by simp [results, Try.results28, go_sem, hc1, hc2]) rfl ⟨by rw [HC.out, HV.out.1, HV.out.2]; rfl, hE⟩

    have HC : Hid (apartE F i k h = 0) := by show apartE F i k h = 0; unfold apartE; rw [hF, hik, hh1, hh2]; rfl
    have HH1 := hid (HHA.out i)
    rw [hh1] at HH1
    have HH2 := hid (HHA.out k)
    rw [hh2] at HH2
    obtain ⟨i, rfl, hi, hli⟩ := hasB_spec hh1
    obtain ⟨k, rfl, hk, hlk⟩ := hasB_spec hh2
    have HV : Hid (apartVe F i k h = apart_eF F F.nets[i] F.nets[k] h ∧ apartVn F i k h = apart_nF F F.nets[i] F.nets[k] h) := by
      show _ ∧ _; unfold apartVe apartVn netOf; rw [HC.out, Int.toNat_natCast, Int.toNat_natCast, getD_of hi, getD_of hk]; exact ⟨rfl, rfl⟩
    have HNI := hid (HOK.out.nets _ (List.getElem_mem hi))
    have HNK := hid (HOK.out.nets _ (List.getElem_mem hk))
    have HH : Hid (mx F.nets[i].shot F.nets[k].shot ≤ h ∧ h ≤ 24) := by
      have g1 := inB_spec hli; have g2 := inB_spec hlk; have g3 := HNI.out.haul; have g4 := HOK.out.hours
      exact ⟨mx_le g1.1 g2.1, by omega⟩
    gi_upto_region 6 with (first | (have _ := hx2; gi_at_call 58; ((with_reducible refine (HH2.out _ hx2).mono ?_); rintro e w3 ⟨rfl, hx3⟩; have hxx := hx2.trans hx3)) | (gi_at_call 58; ((with_reducible refine (HH1.out _ (Ext.refl _)).mono ?_); rintro e w2 ⟨rfl, hx2⟩; have hcg := cell_of (hx2.block HBF.out))))
    have HX := hid (HX.out.trans hxx)
    have HB1 := hid (hxx.block HB1.out)
    have HB2 := hid (hxx.block HB2.out)
    have HBF := hid (hxx.block HBF.out)
    have hm := HM.out.mono hxx
    have HE := hid (HE.out.mono hxx)
    have HN := hid (HN.out.mono hxx)
    clear hx2 hx3 hxx hcg hcf hd1 hf1 hd2 hf2 HHA HH1 HH2 HM hik hh1 hh2 hli hlk hF
    obtain ⟨_, _, hcs⟩ := hm.get
    obtain ⟨b, off, e1, hb, c0, c1, c2, c3, c4, c5, c6, c7, c8, c9, c10⟩ := hcs i hi
    cases e1
    obtain ⟨b', off', e1, hb', d0, d1, d2, d3, d4, d5, d6, d7, d8, d9, d10⟩ := hcs k hk
    cases e1
    have HCI := hid (And.intro hb (And.intro c0 (And.intro c1 (And.intro c2 (And.intro c3 (And.intro c4 (And.intro c5 (And.intro c6 (And.intro c7 (And.intro c8 (And.intro c9 c10)))))))))))
    have HCK := hid (And.intro d0 (And.intro d1 (And.intro d2 (And.intro d3 (And.intro d4 (And.intro d5 (And.intro d6 (And.intro d7 (And.intro d8 (And.intro d9 d10))))))))))
    clear hcs hb' c0 c1 c2 c3 c4 c5 c6 c7 c8 c9 c10 d0 d1 d2 d3 d4 d5 d6 d7 d8 d9 d10 hb hm
    have hki : (i : Int) < F.nets.length := by omega
    have hkk : (k : Int) < F.nets.length := by omega
    generalize F.nets[i] = a at *
    generalize F.nets[k] = c at *
    refine lex_wide 12 [(11, pNew 127 #[.int .i64 0, .int .i64 0, .int .i64 0, .int .i64 0, .int .i64 0, .int .i64 0, .int .i64 0, .int .i64 0, .int .i64 0, .int .i64 0, .int .i64 0, .int .i64 0, .int .i64 0, .int .i64 0, .int .i64 0, .int .i64 0, .int .i64 0, .int .i64 0, .int .i64 0, .int .i64 0, .int .i64 0, .int .i64 0] w3.heap.size)] (by kernel_rfl) (by kernel_rfl) (nStab_cons (pNew_s _ _ _) nStab_nil) ?_
    simp only [List.take_succ_cons, List.take_zero, List.drop_succ_cons, List.drop_zero]
    apply lex_fun (rfl : psAt _ _ = none)
    · intro x u hR hf
      clear hR hf
      go_simp
      exact ⟨rfl, Ext.refl _⟩
    simp only [Act.put, List.setIfInBounds_toArray, List.set_cons_succ, List.set_cons_zero]
    apply lex_fun (rfl : psAt _ _ = none)
    · intro x u hR hf
      have cf := cell_of (hR.block HBF.out)
      clear hR hf
      go_simp
      exact ⟨rfl, Ext.refl _⟩
    simp only [Act.put, List.setIfInBounds_toArray, List.set_cons_succ, List.set_cons_zero]
    apply lex_fun (rfl : psAt _ _ = none)
    · intro x u hR hf
      clear hR hf
      go_simp
      exact ⟨rfl, Ext.refl _⟩
    simp only [Act.put, List.setIfInBounds_toArray, List.set_cons_succ, List.set_cons_zero]
    apply lex_fun (rfl : psAt _ _ = none)
    · intro x u hR hf
      clear hR hf
      go_simp
      exact ⟨rfl, Ext.refl _⟩
    simp only [Act.put, List.setIfInBounds_toArray, List.set_cons_succ, List.set_cons_zero]
    apply lex_fun (rfl : psAt _ _ = none)
    · intro x u hR hf
      obtain ⟨hb, c0, c1, c2, c3, c4, c5, c6, c7, c8, c9, c10⟩ := HCI.out; rw [← hR.cell (p := ⟨b, _, none⟩) hb] at c0 c1 c2 c3 c4 c5 c6 c7 c8 c9 c10
      clear hR hf
      go_simp
      exact ⟨rfl, Ext.refl _⟩
    simp only [Act.put, List.setIfInBounds_toArray, List.set_cons_succ, List.set_cons_zero]
    apply lex_fun (rfl : psAt _ _ = none)
    · intro x u hR hf
      clear hR hf
      go_simp
      exact ⟨rfl, Ext.refl _⟩
    simp only [Act.put, List.setIfInBounds_toArray, List.set_cons_succ, List.set_cons_zero]
    apply lex_fun (rfl : psAt _ _ = none)
    · intro x u hR hf
      have cf := cell_of (hR.block HBF.out)
      clear hR hf
      go_simp
      exact ⟨rfl, Ext.refl _⟩
    simp only [Act.put, List.setIfInBounds_toArray, List.set_cons_succ, List.set_cons_zero]
    apply lex_fun (rfl : psAt _ _ = none)
    · intro x u hR hf
      clear hR hf
      go_simp
      exact ⟨rfl, Ext.refl _⟩
    simp only [Act.put, List.setIfInBounds_toArray, List.set_cons_succ, List.set_cons_zero]
    apply lex_fun (rfl : psAt _ _ = none)
    · intro x u hR hf
      clear hR hf
      go_simp
      exact ⟨rfl, Ext.refl _⟩
    simp only [Act.put, List.setIfInBounds_toArray, List.set_cons_succ, List.set_cons_zero]
    apply lex_fun (rfl : psAt _ _ = none)
    · intro x u hR hf
      have hb := HCI.out.1; obtain ⟨c0, c1, c2, c3, c4, c5, c6, c7, c8, c9, c10⟩ := HCK.out; rw [← hR.cell (p := ⟨b, _, none⟩) hb] at c0 c1 c2 c3 c4 c5 c6 c7 c8 c9 c10
      clear hR hf
      go_simp
      exact ⟨rfl, Ext.refl _⟩
    simp only [Act.put, List.setIfInBounds_toArray, List.set_cons_succ, List.set_cons_zero]
    apply lex_fun (rfl : psAt _ _ = none)
    · intro x u hR hf
      clear hR hf
      go_simp
      exact ⟨rfl, Ext.refl _⟩
    simp only [Act.put, List.setIfInBounds_toArray, List.set_cons_succ, List.set_cons_zero]
    refine lex_pred (p := pNew 127 #[.int .i64 0, .int .i64 0, .int .i64 0, .int .i64 0, .int .i64 0, .int .i64 0, .int .i64 0, .int .i64 0, .int .i64 0, .int .i64 0, .int .i64 0, .int .i64 0, .int .i64 0, .int .i64 0, .int .i64 0, .int .i64 0, .int .i64 0, .int .i64 0, .int .i64 0, .int .i64 0, .int .i64 0, .int .i64 0] w3.heap.size) rfl ?_ ?_
    · intro x u hR hf
      have hsz : w3.heap.size ≤ u.heap.size := hR.size
      clear hR hf
      go_simp
      exact ⟨⟨_, rfl, hsz, Ext.new (Ext.refl _)⟩, (Ext.refl _).alloc _⟩
    simp only [Act.put, List.setIfInBounds_toArray, List.set_cons_succ, List.set_cons_zero]
    refine lex_nil fun x w6 hE hfacts => ?_
    obtain ⟨GP, hgp, hgl, hgb⟩ := (hfacts 11 _ (by omega) rfl : pNew _ _ _ (x 11) w6)
    clear hfacts
    rw [hgp]
    clear hgp x
    gi_upto_region 7 with (refine wpIn_store_new 127 (.tmp 12) (.tmp 52) rfl (fun _ => trivial) (g := GP) rfl (cells := #[.int .i64 a.east, .int .i64 a.north, .int .i64 a.long, .int .i64 a.along, .int .i64 a.shot, .int .i64 a.haul, .int .i64 a.se.lo, .int .i64 a.se.hi, .int .i64 a.sn.lo, .int .i64 a.sn.hi, .int .i64 i, .int .i64 c.east, .int .i64 c.north, .int .i64 c.long, .int .i64 c.along, .int .i64 c.shot, .int .i64 c.haul, .int .i64 c.se.lo, .int .i64 c.se.hi, .int .i64 c.sn.lo, .int .i64 c.sn.hi, .int .i64 k]) rfl hgb info127 rfl (by kernel_rfl) ?_; intro w7 hgb7 hoth hext)
    have hx7 : Ext w3 w7 := hext w3 hgl hE
    have HX := hid (HX.out.trans hx7)
    have HB1 := hid (hx7.block HB1.out)
    have HB2 := hid (hx7.block HB2.out)
    have HBF := hid (hx7.block HBF.out)
    have HBP := hid hgb7
    have HE := hid (HE.out.mono hx7)
    have HN := hid (HN.out.mono hx7)
    clear hgl hgb hE hoth hext hgb7 hx7 HCI HCK
    refine lex_wide 10 [] (by kernel_rfl) (by kernel_rfl) (nStab_nil) ?_
    simp only [List.take_succ_cons, List.take_zero, List.drop_succ_cons, List.drop_zero]
    apply lex_fun (rfl : psAt _ _ = none)
    · intro x u hR hf
      have cf := cell_of (hR.block HBF.out)
      clear hR hf
      go_simp
      exact ⟨rfl, Ext.refl _⟩
    simp only [Act.put, List.setIfInBounds_toArray, List.set_cons_succ, List.set_cons_zero]
    refine lex_fun (v := .agg #[.int .i64 0, .func (.func 84) #[] #[], .func (.func 85) #[] #[], .func (.func 86) #[] #[], .func (.func 87) #[] #[]]) (rfl : psAt _ _ = none) ?_ ?_
    · intro x u hR hf
      have hcal := hid (side_e u)
      clear hR hf
      go_simp
      exact hcal.out.mono fun e w'' ⟨he, hx'⟩ => ⟨_, he, rfl, hx'⟩
    simp only [Act.put, List.setIfInBounds_toArray, List.set_cons_succ, List.set_cons_zero]
    refine lex_fun (v := .agg #[.int .i64 a.east, .int .i64 a.north, .int .i64 a.long, .int .i64 a.along, .int .i64 a.shot, .int .i64 a.haul, .int .i64 a.se.lo, .int .i64 a.se.hi, .int .i64 a.sn.lo, .int .i64 a.sn.hi, .int .i64 i, .int .i64 c.east, .int .i64 c.north, .int .i64 c.long, .int .i64 c.along, .int .i64 c.shot, .int .i64 c.haul, .int .i64 c.se.lo, .int .i64 c.se.hi, .int .i64 c.sn.lo, .int .i64 c.sn.hi, .int .i64 k]) (rfl : psAt _ _ = none) ?_ ?_
    · intro x u hR hf
      rw [if_pos (show Region.wanted _ _ = true from rfl)]
      exact gives_load 127 (.tmp 12) rfl rfl (load_pair (hR.block HBP.out) rfl) ⟨rfl, Ext.refl _⟩
    simp only [Act.put, List.setIfInBounds_toArray, List.set_cons_succ, List.set_cons_zero]
    apply lex_fun (rfl : psAt _ _ = none)
    · intro x u hR hf
      clear hR hf
      go_simp
      exact ⟨rfl, Ext.refl _⟩
    simp only [Act.put, List.setIfInBounds_toArray, List.set_cons_succ, List.set_cons_zero]
    refine lex_fun (v := spnV (apart_eF F a c h)) (rfl : psAt _ _ = none) ?_ ?_
    · intro x u hR hf
      have hcal := hid (apart_e F HOK.out eb eo ec nb no nc (.slice sa F.nets.length sc) (.slice (some ⟨b, off, none⟩) F.nets.length mc) a c HNI.out HNK.out i k h HH.out u (HE.out.mono hR))
      clear hR hf
      go_simp
      exact hcal.out.mono fun e w'' ⟨he, hx'⟩ => ⟨_, he, rfl, hx'⟩
    simp only [Act.put, List.setIfInBounds_toArray, List.set_cons_succ, List.set_cons_zero]
    apply lex_fun (rfl : psAt _ _ = none)
    · intro x u hR hf
      have cf := cell_of (hR.block HBF.out)
      clear hR hf
      go_simp
      exact ⟨rfl, Ext.refl _⟩
    simp only [Act.put, List.setIfInBounds_toArray, List.set_cons_succ, List.set_cons_zero]
    refine lex_fun (v := .agg #[.int .i64 1, .func (.func 88) #[] #[], .func (.func 89) #[] #[], .func (.func 90) #[] #[], .func (.func 91) #[] #[]]) (rfl : psAt _ _ = none) ?_ ?_
    · intro x u hR hf
      have hcal := hid (side_n u)
      clear hR hf
      go_simp
      exact hcal.out.mono fun e w'' ⟨he, hx'⟩ => ⟨_, he, rfl, hx'⟩
    simp only [Act.put, List.setIfInBounds_toArray, List.set_cons_succ, List.set_cons_zero]
    refine lex_fun (v := .agg #[.int .i64 a.east, .int .i64 a.north, .int .i64 a.long, .int .i64 a.along, .int .i64 a.shot, .int .i64 a.haul, .int .i64 a.se.lo, .int .i64 a.se.hi, .int .i64 a.sn.lo, .int .i64 a.sn.hi, .int .i64 i, .int .i64 c.east, .int .i64 c.north, .int .i64 c.long, .int .i64 c.along, .int .i64 c.shot, .int .i64 c.haul, .int .i64 c.se.lo, .int .i64 c.se.hi, .int .i64 c.sn.lo, .int .i64 c.sn.hi, .int .i64 k]) (rfl : psAt _ _ = none) ?_ ?_
    · intro x u hR hf
      rw [if_pos (show Region.wanted _ _ = true from rfl)]
      exact gives_load 127 (.tmp 12) rfl rfl (load_pair (hR.block HBP.out) rfl) ⟨rfl, Ext.refl _⟩
    simp only [Act.put, List.setIfInBounds_toArray, List.set_cons_succ, List.set_cons_zero]
    apply lex_fun (rfl : psAt _ _ = none)
    · intro x u hR hf
      clear hR hf
      go_simp
      exact ⟨rfl, Ext.refl _⟩
    simp only [Act.put, List.setIfInBounds_toArray, List.set_cons_succ, List.set_cons_zero]
    refine lex_fun (v := spnV (apart_nF F a c h)) (rfl : psAt _ _ = none) ?_ ?_
    · intro x u hR hf
      have hcal := hid (apart_n F HOK.out eb eo ec nb no nc (.slice sa F.nets.length sc) (.slice (some ⟨b, off, none⟩) F.nets.length mc) a c HNI.out HNK.out i k h HH.out u (HN.out.mono hR))
      clear hR hf
      go_simp
      exact hcal.out.mono fun e w'' ⟨he, hx'⟩ => ⟨_, he, rfl, hx'⟩
    simp only [Act.put, List.setIfInBounds_toArray, List.set_cons_succ, List.set_cons_zero]
    refine lex_nil fun x w8 hE hfacts => ?_
    clear hfacts x
    generalize apart_eF F a c h = s1 at *
    generalize apart_nF F a c h = s2 at *
    simp only [spnV]
    have hd1 := cell_of (hE.block HB1.out)
    have hf1 := free_of (hE.block HB1.out)
    have hd2 := cell_of (hE.block HB2.out)
    have hf2 := free_of (hE.block HB2.out)
    gi_wp2_with fail
    have hx := HX.out.trans hE
    have hB1 := hE.block HB1.out
    have hB2 := hE.block HB2.out
    clear hd1 hf1 hd2 hf2
    have hb2 := two_box hB1 hB2 rfl rfl (by omega) (.int .i64 s1.lo) (.int .i64 s1.hi) (.int .i64 s2.lo) (.int .i64 s2.hi)
    have hE : Ext w ((((w8.setCell ⟨w.heap.size + 1, 0, none⟩ (.int .i64 s1.lo)).setCell ⟨w.heap.size + 1, 1, none⟩ (.int .i64 s1.hi)).setCell ⟨w.heap.size + 1 + 1, 0, none⟩ (.int .i64 s2.lo)).setCell ⟨w.heap.size + 1 + 1, 1, none⟩ (.int .i64 s2.hi)) := ((((hx).set (b := w.heap.size + 1) (by omega) _ _).set (b := w.heap.size + 1) (by omega) _ _).set (b := w.heap.size + 1 + 1) (by omega) _ _).set (b := w.heap.size + 1 + 1) (by omega) _ _
    clear hB1 hB2 hx
    generalize (((w8.setCell ⟨w.heap.size + 1, 0, none⟩ (.int .i64 s1.lo)).setCell ⟨w.heap.size + 1, 1, none⟩ (.int .i64 s1.hi)).setCell ⟨w.heap.size + 1 + 1, 0, none⟩ (.int .i64 s2.lo)).setCell ⟨w.heap.size + 1 + 1, 1, none⟩ (.int .i64 s2.hi) = WF at *
    have hc1 := cell_of hb2.1
    have hc2 := cell_of hb2.2
    exact bodyPost_ret (v := .tuple #[.agg #[.int .i64 s1.lo, .int .i64 s1.hi], .agg #[.int .i64 s2.lo, .int .i64 s2.hi], .int .i64 0]) (by simp [results, Try.results28, go_sem, hc1, hc2]) rfl ⟨by rw [HC.out, HV.out.1, HV.out.2]; rfl, hE⟩

end Go.Proofs.Ytmjelgonhpgmbaa
