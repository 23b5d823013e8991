/- The walk forth. -/
import Derived.Test.YtiklblbjnblkfaaWL
set_option linter.unusedSimpArgs false
set_option linter.unusedVariables false
namespace Go.Proofs.Ytiklblbjnblkfaa
open Go Go.RowKit Go.Shelf

theorem heap_setC (g : Nat) {k : Nat} (hk : k ≠ g) : ∀ (vs : List Value) (o : Nat) (w : World), (w.setCells g o vs).heap[k]? = w.heap[k]?
  | [], _, _ => rfl
  | v :: vs, o, w => by rw [World.setCells, heap_setC g hk vs, Below.heap_setCell _ _ _ _ hk]
theorem below_setC {B g : Nat} (hg : B ≤ g) {a : World} : ∀ (vs : List Value) (o : Nat) (w : World), Below B a w → Below B a (w.setCells g o vs)
  | [], _, _, h => h
  | v :: vs, o, w, h => by rw [World.setCells]; exact below_setC hg vs _ _ (h.setCell (p := ⟨g, o, none⟩) hg v)
/-- The box of a step. -/
def stepBox (n5 : Nat) (v : Value) (u : World) : Prop := ∃ g, v = .pointer (some ⟨g, 0, none⟩) ∧ u.heap[g]? = some (.cells #[.int .i64 0, .int .i64 0] 70 (0, 0)) ∧ n5 ≤ g
theorem stepBox_stab {n5 m : Nat} (i : Nat) (p : Value → World → Prop) (hp : psAt [(m, stepBox n5)] i = some p) (v : Value) (u u' : World) (hv : p v u) (hx : Ext u u') : p v u' := by
  unfold psAt at hp
  split at hp
  · cases hp
    obtain ⟨g, e, hg, hn⟩ := hv
    exact ⟨g, e, Ext.block hx hg, hn⟩
  · cases hp
/-- The hours forth, and how the water carries. -/
def forthS (D : SeaD) (i : Nat) : Int × Int := (-stepE D.drift (i - 1), -stepN D.drift (i - 1))

theorem walkF_forth (D : SeaD) (own : Nat → Nat → Int) (j : Nat) : walkF D own (fun i => i) (forthS D) (j + 1) = nextF D (walkF D own (fun i => i) (forthS D) j) (own (j + 1)) (-stepE D.drift j) (-stepN D.drift j) (opens D.land (D.wide * D.high).toNat).length := rfl
theorem seaB_80 {D : SeaD} (h : seaB D = true) : D.wide * D.high ≤ 80 := by
  unfold seaB at h
  simp only [Bool.and_eq_true] at h
  exact (mul_bounds (inB_spec h.1.1.1.1.1) (inB_spec h.1.1.1.1.2)).2
theorem walkF_same_forth {D : SeaD} (h80 : D.wide * D.high ≤ 80) {own : Nat → Nat → Int} {j : Nat} (hj : j ≠ 0) (hen : (-stepE D.drift j == -stepE D.drift (j - 1) && -stepN D.drift j == -stepN D.drift (j - 1)) = true)
    (ho : cntEq (own (j + 1)) (own j) = true) (hw : cntEq (walkF D own (fun i => i) (forthS D) j) (walkF D own (fun i => i) (forthS D) (j - 1)) = true) :
    ∀ c, c < 80 → walkF D own (fun i => i) (forthS D) j c = walkF D own (fun i => i) (forthS D) (j + 1) c := by
  obtain ⟨m, rfl⟩ : ∃ m, j = m + 1 := ⟨j - 1, by omega⟩
  simp only [Bool.and_eq_true, beq_iff_eq, Nat.add_sub_cancel] at hen
  intro c hc
  refine (walkF_same h80 (hf := fun i => i) (sf := forthS D) (i := m) ?_ ho hw c hc).symm
  unfold forthS
  show (-stepE D.drift (m + 1), -stepN D.drift (m + 1)) = (-stepE D.drift m, -stepN D.drift m)
  rw [hen.1, hen.2]
theorem eq_step (a b c d : Int) (w : World) : (Op.equalIn 10000 70 (.agg #[.int .i64 a, .int .i64 b]) (.agg #[.int .i64 c, .int .i64 d])).run Try.prog w = .ok (a == c && b == d) w := by
  simp [go_sem]
  by_cases h1 : a = c <;> by_cases h2 : b = d <;> simp [h1, h2]
theorem wpQuiet_eql_step {ops : Array Oper} {C : World → Prop} {Q : Act → Prop} {a : Act} {o : Oper} {rest : List Oper} (x y : Operand) {t : TypeId} (ho : o.op = .binOp .eql 70 x y t) (hw : Region.wanted o (yielded ops a.tmps) = true) {p q r s : Int} (hx : a.eval x = .agg #[.int .i64 p, .int .i64 q]) (hy : a.eval y = .agg #[.int .i64 r, .int .i64 s])
    {v : Bool} (hv : (p == r && q == s) = v) (hq : wpQuiet Try.prog ops C Q rest (a.put o.dst (.bool v))) : wpQuiet Try.prog ops C Q (o :: rest) a :=
  wpQuiet_run hw (fun w hC => by
    have hm : Try.prog.eqGuardType Try.prog.depth 70 = false := by kernel_rfl
    unfold execOp
    simp only [ho, hx, hy, run_eqGuard_agg _ _ _ _ _ _ _ hm, run_eql_struct, eq_step, hv, Sem.run_bind, Sem.run_pure, Result.andThen_ok]) hq
theorem wpList_load_row {F : Fence} {n : Nat} {ops : Array Oper} {o : Oper} {rest : List Oper} {a : Act} {w : World} {Q : Exit → Act → World → Prop} (x : Operand) (hF : ∀ f, F.fn f) {g h m off : Nat} {fs : Nat → Nat → Int} {f : Nat → Int} (hR : RowsBlk w g m fs) (hh : h < m) (hf : fs h = f) (hoff : off = h * 80)
    (ho : o.op = .load 124 x) (hg : o.guard = none) (hx : a.eval x = .pointer (some ⟨g, off, none⟩)) (hK : wpListIn F n Try.prog ops Q rest (a.put o.dst (.agg (cntArr f))) w) : wpListIn F n Try.prog ops Q (o :: rest) a w := by
  subst hf; subst hoff
  exact wpListIn_plain hg fun K hK' => wpIn_load_row x ho hF hx hR hh (hK' _ _ hK)
theorem wpList_store_row {F : Fence} {n : Nat} {ops : Array Oper} {o : Oper} {rest : List Oper} {a : Act} {w : World} {Q : Exit → Act → World → Prop} (x y : Operand) (hF : ∀ f, F.fn f) {g h m off : Nat} {fs : Nat → Nat → Int} {f : Nat → Int} (hR : RowsBlk w g m fs) (hh : h < m) (hoff : off = h * 80)
    (ho : o.op = .store 124 x y) (hg : o.guard = none) (hx : a.eval x = .pointer (some ⟨g, off, none⟩)) (hy : a.eval y = .agg (cntArr f)) (hK : wpListIn F n Try.prog ops Q rest (a.put o.dst undef) (w.setCells g (h * 80) (cntArr f).toList)) : wpListIn F n Try.prog ops Q (o :: rest) a w := by
  subst hoff
  exact wpListIn_plain hg fun K hK' => wpIn_store_row x y ho hF hx hy hR hh (hK' _ _ hK)
/-- A round of a walk: the list of the next hour is stored. -/
theorem walk_step {w W : World} {G H k : Nat} {f : Nat → Nat → Int} {bx : Nat} {o : Obj} (hx : Ext w W) (hG : w.heap.size ≤ G) (hbx : W.heap[bx]? = some o) (hL : RowsBlk W G H (fun h => if h < k then f h else fun _ => 0)) (hk : k < H) (v : Nat → Int) (hv : ∀ c, c < 80 → v c = f k c) (hne : bx ≠ G := by omega) :
    Ext w (W.setCells G (k * 80) (cntArr v).toList) ∧ (W.setCells G (k * 80) (cntArr v).toList).heap[bx]? = some o ∧ RowsBlk (W.setCells G (k * 80) (cntArr v).toList) G H (fun h => if h < k + 1 then f h else fun _ => 0) := by
  refine ⟨below_setC hG _ _ _ hx, by rw [heap_setC _ hne]; exact hbx, (hL.set hk v).congr fun i c hi hc => ?_⟩
  by_cases h0 : i = k
  · subst h0; rw [if_pos rfl, if_pos (by omega)]; exact hv c hc
  · rw [if_neg h0]
    by_cases hlt : i < k
    · rw [if_pos hlt, if_pos (by omega)]
    · rw [if_neg hlt, if_neg (by omega)]
theorem wpQuiet_load_row' {ops : Array Oper} {C : World → Prop} {Q : Act → Prop} {a : Act} {o : Oper} {rest : List Oper} (x : Operand) (ho : o.op = .load 124 x) (hw : Region.wanted o (yielded ops a.tmps) = true) {g h m off : Nat} (hx : a.eval x = .pointer (some ⟨g, off, none⟩)) (hoff : off = h * 80) {fs : Nat → Nat → Int} {f : Nat → Int} (hR : ∀ w, C w → RowsBlk w g m fs) (hh : h < m) (hf : fs h = f)
    (hq : wpQuiet Try.prog ops C Q rest (a.put o.dst (.agg (cntArr f)))) : wpQuiet Try.prog ops C Q (o :: rest) a := by
  subst hf; subst hoff
  exact wpQuiet_load_row x ho hw hx hR hh hq
set_option maxRecDepth 100000 in
set_option maxHeartbeats 4000000 in
theorem walkForth_any (b Bs g1 H : Nat) (D : SeaD) (S : SeaV) (rs : List Rep) (own : Nat → Nat → Int) (w : World) (hF : SeaFull w b S D rs) (hb : seaB D = true) (hH : D.hours = H) (hR : RowsBlk w g1 H own) (hB : w.heap[Bs]? = some (.cells #[.pointer (some ⟨b, 0, none⟩)] 75 (0, 0)))
    (ho : ∀ h c, 0 ≤ own h c ∧ own h c ≤ 1000) :
    Cal 84 #[.pointer (some ⟨b, 0, none⟩), .slice (some ⟨g1, 0, none⟩) H H, forthVal Bs] w fun e w' => ∃ g, e = .returned (.slice (some ⟨g, 0, none⟩) H H) ∧ Ext w w' ∧ w.heap.size ≤ g ∧ RowsBlk w' g H (walkF D own (fun i => i) (forthS D)) := by
  unfold forthVal
  gi_enter Try.func84, Try.ntmps84
  have hh := hF.ok.hours
  rw [hF.hours, hH] at hh
  have hx1 : Ext w (w.alloc (.cells #[.func (.func 100) #[] #[], .func (.func 101) #[] #[.pointer (some ⟨Bs, 0, none⟩)]] 129)) := (Ext.refl w).alloc _
  have hcs := (hF.at_.mono hx1).cells
  rw [hF.hours, hH] at hcs
  have hmk := make_cnts (w.alloc (.cells #[.func (.func 100) #[] #[], .func (.func 101) #[] #[.pointer (some ⟨Bs, 0, none⟩)]] 129)) H H rfl (by omega)
  have HF := hid hF
  have HR := hid hR
  have HBS := hid hB
  have HO := hid ho
  have HH := hid hH
  have HSB := hid hb
  clear hF hR hB ho hb hH
  have hbx : (w.alloc (.cells #[.func (.func 100) #[] #[], .func (.func 101) #[] #[.pointer (some ⟨Bs, 0, none⟩)]] 129)).heap[w.heap.size]? = some (.cells #[.func (.func 100) #[] #[], .func (.func 101) #[] #[.pointer (some ⟨Bs, 0, none⟩)]] 129 (0, 0)) := Ext.new (Ext.refl _)
  have HX1 := hid hx1
  have HBX := hid hbx
  clear hx1 hbx
  have hH0 : 0 < H := by omega
  gi_wp2_with (first | (refine wpIn_load_row (.tmp 26) rfl (fun _ => trivial) (h := 0) (hx := rfl) HR1.out hH0 ?_) | (refine wpIn_store_row (.tmp 28) (.tmp 27) rfl (fun _ => trivial) (h := 0) (hx := rfl) (hy := rfl) HL1.out hH0 ?_) | (gi_at_call 100; ((with_reducible refine (forthHour_any _ _).mono ?_); rintro e w2 ⟨rfl, hx2⟩; have HX2 : Hid (Ext w w2) := HX1.out.trans (Ext.after hx2); have HBX2 : Hid (w2.heap[w.heap.size]? = some (.cells #[.func (.func 100) #[] #[], .func (.func 101) #[] #[.pointer (some ⟨Bs, 0, none⟩)]] 129 (0, 0))) := (Ext.after hx2).block HBX.out; have HR1 : Hid (RowsBlk w2 g1 H own) := HR.out.mono HX2.out; have HL1 : Hid (RowsBlk w2 (w.heap.size + 1) H (fun _ _ => 0)) := (by have := (rows_new (w.alloc (.cells #[.func (.func 100) #[] #[], .func (.func 101) #[] #[.pointer (some ⟨Bs, 0, none⟩)]] 129)) H).mono hx2; rw [World.size_alloc] at this; exact this))))
  have HI0 : Hid (Ext w (w2.setCells (w.heap.size + 1) (0 * 80) (cntArr (own 0)).toList) ∧ (w2.setCells (w.heap.size + 1) (0 * 80) (cntArr (own 0)).toList).heap[w.heap.size]? = some (.cells #[.func (.func 100) #[] #[], .func (.func 101) #[] #[.pointer (some ⟨Bs, 0, none⟩)]] 129 (0, 0)) ∧
      RowsBlk (w2.setCells (w.heap.size + 1) (0 * 80) (cntArr (own 0)).toList) (w.heap.size + 1) H (fun h => if h < 1 then walkF D own (fun i => i) (forthS D) h else fun _ => 0)) := by
    refine ⟨below_setC (by omega) _ _ _ HX2.out, by rw [heap_setC _ (by omega)]; exact HBX2.out, (HL1.out.set hH0 (own 0)).congr fun i c hi hc => ?_⟩
    by_cases h0 : i = 0
    · subst h0; rfl
    · rw [if_neg h0, if_neg (by omega)]
  clear HBX2 HX2 HR1 HL1 HX1 HBX hx2
  generalize w2.setCells (w.heap.size + 1) (0 * 80) (cntArr (own 0)).toList = w3 at *
  gi_loopw [9] (fun i wr => ∃ k : Nat, 1 ≤ k ∧ k ≤ H ∧ i = .int .i64 k ∧ Hid (Ext w wr ∧ wr.heap[w.heap.size]? = some (.cells #[.func (.func 100) #[] #[], .func (.func 101) #[] #[.pointer (some ⟨Bs, 0, none⟩)]] 129 (0, 0)) ∧
    RowsBlk wr (w.heap.size + 1) H (fun h => if h < k then walkF D own (fun i => i) (forthS D) h else fun _ => 0))) (fun i _ => H - (intOf i).toNat)
  case atStart => exact ⟨1, Nat.le_refl _, by omega, rfl, HI0⟩
  case round =>
    clear HI0
    obtain ⟨k, hk1, hk, rfl, hI⟩ := hrel
    have hcs := (HF.out.at_.mono hI.out.1).cells
    rw [HF.out.hours, HH.out] at hcs
    by_cases hlt : k < H
    · gi_wp2_with fail
      obtain ⟨j, rfl⟩ : ∃ j, k = j + 1 := ⟨k - 1, by omega⟩
      have HG : Hid (∀ u, Ext wr u → ∀ o : Nat, u.cell? ⟨w.heap.size, o, none⟩ = #[.func (.func 100) #[] #[], .func (.func 101) #[] #[.pointer (some ⟨Bs, 0, none⟩)]][o]?) := fun u hu => cell_of (Ext.block hu hI.out.2.1)
      have hst := steps_ok HSB.out
      have hjl : j < D.drift.length := by have := hst.1; rw [HH.out] at this; omega
      have hbd : (-2 ≤ stepE D.drift j ∧ stepE D.drift j ≤ 2) ∧ (-2 ≤ stepN D.drift j ∧ stepN D.drift j ≤ 2) := by
        have := hst.2 j hjl
        unfold stepE stepN; rw [getD_of hjl]; exact this
      have HST : Hid (∀ u, Ext wr u → Cal 101 #[.int .i64 ((j + 1 : Nat) : Int), .pointer (some ⟨Bs, 0, none⟩)] u fun e w' => e = .returned (.agg #[.int .i64 (-stepE D.drift j), .int .i64 (-stepN D.drift j)]) ∧ Ext u w') := fun u hu =>
        forthStep_any b Bs S D.drift j hjl (by have := hst.1; rw [HH.out] at this; omega) u (HF.out.at_.mono (hI.out.1.trans hu)) (HF.out.drift.mono (hI.out.1.trans hu)) (Ext.block (hI.out.1.trans hu) HBS.out) hbd
      have hj1 : ((j + 1 : Nat) : Int) - 1 = j := by omega
      have hjw : IntKind.i64.wrap (j : Int) = j := by rw [IntKind.wrap_i64]; omega
      have HBD := hid hbd
      clear hst hbd hcs
      refine lex_wide 14 [(13, stepBox wr.heap.size)] (by kernel_rfl) (by kernel_rfl) stepBox_stab ?_
      simp only [List.take_succ_cons, List.take_zero, List.drop_succ_cons, List.drop_zero]
      apply lex_fun rfl
      · intro x u hR hf
        have q1 := HG.out u hR
        clear hR hf
        go_simp
        exact ⟨rfl, Ext.refl _⟩
      simp only [Act.put, List.setIfInBounds_toArray, List.set_cons_succ, List.set_cons_zero]
      apply lex_fun rfl
      · intro x u hR hf
        have q1 := HG.out u hR
        clear hR hf
        go_simp
        exact ⟨rfl, Ext.refl _⟩
      simp only [Act.put, List.setIfInBounds_toArray, List.set_cons_succ, List.set_cons_zero]
      apply lex_fun rfl
      · intro x u hR hf
        have q1 := HG.out u hR
        clear hR hf
        go_simp
        exact ⟨rfl, Ext.refl _⟩
      simp only [Act.put, List.setIfInBounds_toArray, List.set_cons_succ, List.set_cons_zero]
      refine lex_fun (v := .int .i64 ((j + 1 : Nat) : Int)) rfl ?_ ?_
      · intro x u hR hf
        have hcal := forthHour_any ((j + 1 : Nat) : Int) u
        have HCAL := hid hcal
        clear hR hf hcal
        go_simp
        exact HCAL.out.mono fun e w'' he => ⟨_, he.1, rfl, he.2⟩
      simp only [Act.put, List.setIfInBounds_toArray, List.set_cons_succ, List.set_cons_zero]
      apply lex_fun rfl
      · intro x u hR hf
        have q1 := HG.out u hR
        clear hR hf
        go_simp
        exact ⟨rfl, Ext.refl _⟩
      simp only [Act.put, List.setIfInBounds_toArray, List.set_cons_succ, List.set_cons_zero]
      apply lex_fun rfl
      · intro x u hR hf
        have q1 := HG.out u hR
        clear hR hf
        go_simp
        exact ⟨rfl, Ext.refl _⟩
      simp only [Act.put, List.setIfInBounds_toArray, List.set_cons_succ, List.set_cons_zero]
      apply lex_fun rfl
      · intro x u hR hf
        have q1 := HG.out u hR
        clear hR hf
        go_simp
        exact ⟨rfl, Ext.refl _⟩
      simp only [Act.put, List.setIfInBounds_toArray, List.set_cons_succ, List.set_cons_zero]
      apply lex_fun rfl
      · intro x u hR hf
        have q1 := HG.out u hR
        clear hR hf
        go_simp
        exact ⟨rfl, Ext.refl _⟩
      simp only [Act.put, List.setIfInBounds_toArray, List.set_cons_succ, List.set_cons_zero]
      refine lex_fun (v := .int .i64 (j : Int)) rfl ?_ ?_
      · intro x u hR hf
        have hcal := forthHour_any (j : Int) u
        have HCAL := hid hcal
        clear hR hf hcal
        go_simp
        exact HCAL.out.mono fun e w'' he => ⟨_, he.1, rfl, he.2⟩
      simp only [Act.put, List.setIfInBounds_toArray, List.set_cons_succ, List.set_cons_zero]
      apply lex_fun rfl
      · intro x u hR hf
        have q1 := HG.out u hR
        clear hR hf
        go_simp
        exact ⟨rfl, Ext.refl _⟩
      simp only [Act.put, List.setIfInBounds_toArray, List.set_cons_succ, List.set_cons_zero]
      apply lex_fun rfl
      · intro x u hR hf
        have q1 := HG.out u hR
        clear hR hf
        go_simp
        exact ⟨rfl, Ext.refl _⟩
      simp only [Act.put, List.setIfInBounds_toArray, List.set_cons_succ, List.set_cons_zero]
      apply lex_fun rfl
      · intro x u hR hf
        have q1 := HG.out u hR
        clear hR hf
        go_simp
        exact ⟨rfl, Ext.refl _⟩
      simp only [Act.put, List.setIfInBounds_toArray, List.set_cons_succ, List.set_cons_zero]
      refine lex_fun (v := .agg #[.int .i64 (-stepE D.drift j), .int .i64 (-stepN D.drift j)]) rfl ?_ ?_
      · intro x u hR hf
        have hcal := HST.out u hR
        have HCAL := hid hcal
        clear hR hf hcal
        go_simp
        exact HCAL.out.mono fun e w'' he => ⟨_, he.1, rfl, he.2⟩
      simp only [Act.put, List.setIfInBounds_toArray, List.set_cons_succ, List.set_cons_zero]
      refine lex_pred rfl ?_ ?_
      · intro x u hR hf
        have hsu := hR.size
        clear hR hf
        go_simp
        exact ⟨⟨_, rfl, Ext.new (Ext.refl _), hsu⟩, (Ext.refl _).alloc _⟩
      simp only [Act.put, List.setIfInBounds_toArray, List.set_cons_succ, List.set_cons_zero]
      refine lex_nil fun x u hR hfacts => ?_
      have h13 : stepBox wr.heap.size (x 13) u := hfacts 13 _ (by omega) rfl
      clear hfacts
      obtain ⟨gs, e13, hgs, hgn⟩ := h13
      simp only [e13]
      have hxu : Ext wr u := by assumption
      have hfz := free_of hgs
      have hcg := cell_of hgs
      have HU : Hid (Ext wr (u.setCell ⟨gs, 0, none⟩ (.int .i64 0))) := hxu.set hgn _ _
      clear HG HST hcs
      gi_wp2_with fail
      have hx4 : Ext wr ((u.setCell ⟨gs, 0, none⟩ (.int .i64 (-stepE D.drift j))).setCell ⟨gs, 1, none⟩ (.int .i64 (-stepN D.drift j))) := (hxu.set hgn _ _).set hgn _ _
      have hb4 : ((u.setCell ⟨gs, 0, none⟩ (.int .i64 (-stepE D.drift j))).setCell ⟨gs, 1, none⟩ (.int .i64 (-stepN D.drift j))).heap[gs]? = some (.cells #[.int .i64 (-stepE D.drift j), .int .i64 (-stepN D.drift j)] 70 (0, 0)) := by
        have h1 := heap_setCell_same u gs 0 _ 70 (.int .i64 (-stepE D.drift j)) hgs
        have h2 := heap_setCell_same (u.setCell ⟨gs, 0, none⟩ (.int .i64 (-stepE D.drift j))) gs 1 _ 70 (.int .i64 (-stepN D.drift j)) h1
        simpa using h2
      generalize (u.setCell ⟨gs, 0, none⟩ (.int .i64 (-stepE D.drift j))).setCell ⟨gs, 1, none⟩ (.int .i64 (-stepN D.drift j)) = w4 at *
      clear hgs hfz hcg HU hxu hR
      have HX4 := hid hx4
      have HB4 := hid fun e : Later w4 => cell_of (Ext.block e.grown hb4)
      have HC4 := hid fun e : Later w4 => cell_of (Ext.block (hx4.trans e.grown) hI.out.2.1)
      have HR4 := hid fun e : Later w4 => HR.out.mono (hI.out.1.trans (hx4.trans e.grown))
      have HL4 := hid fun e : Later w4 => hI.out.2.2.mono (hx4.trans e.grown)
      clear hx4 hb4
      have HWJ : Hid ((fun h => if h < j + 1 then walkF D own (fun i => i) (forthS D) h else fun _ => 0) j = walkF D own (fun i => i) (forthS D) j) := if_pos (by omega)
      by_cases hj0 : j = 0
      · have ht : decide ((1 : Int) < ((j + 1 : Nat) : Int)) = false := by rw [decide_eq_false_iff_not]; omega
        have ht2 : decide ((1 : Int) < (j : Int) + 1) = false := by rw [decide_eq_false_iff_not]; omega
        clear hj0
        refine quiet_wide 37 (by kernel_rfl) (by kernel_rfl) ?_
        simp only [List.take_succ_cons, List.take_zero, List.drop_succ_cons, List.drop_zero]
        have h1 := HB4.out
        have h2 := HC4.out
        repeat (any_goals (first | go_big_quiet_step (fail) | quiet_step (fail)))
        refine wpQuiet_nil ?_
        rintro w5 ⟨⟨_, hx5⟩, rfl⟩
        clear h1 h2

        gi_wp2_with fail
        have HL5 := hid fun e : Later w5 => HL4.out ⟨e.1, Ext.trans hx5 e.grown⟩
        have HR5 := hid fun e : Later w5 => HR4.out ⟨e.1, Ext.trans hx5 e.grown⟩
        have HB5 := hid fun e : Later w5 => HB4.out ⟨e.1, Ext.trans hx5 e.grown⟩
        have HN5 := hid fun e : Later w5 => next_any b D S rs (walkF D own (fun i => i) (forthS D) j) (own (j + 1)) (-stepE D.drift j) (-stepN D.drift j) e.val (HF.out.mono ((hI.out.1.trans HX4.out).trans (Ext.trans hx5 e.grown))) (walkF_bounds D HO.out _ _ j) (HO.out _) (by have := HBD.out; omega) (by have := HBD.out; omega)
        refine quiet_wide 13 (by kernel_rfl) (by kernel_rfl) ?_
        simp only [List.take_succ_cons, List.take_zero, List.drop_succ_cons, List.drop_zero]
        have h1 := HB5.out
        repeat (any_goals (first | (refine wpQuiet_load_row' (.tmp 100) rfl rfl (h := j) rfl (by omega) (by rintro _ ⟨e, rfl⟩; exact HL5.out e) (by omega) HWJ.out ?_) | (refine wpQuiet_load_row' (.tmp 104) rfl rfl (h := j + 1) rfl (by omega) (by rintro _ ⟨e, rfl⟩; exact HR5.out e) (by omega) rfl ?_) | go_big_quiet_step ((go_at_call 99; with_reducible exact Cal.quiet (HN5.out _))) | quiet_step ((go_at_call 99; with_reducible exact Cal.quiet (HN5.out _)))))
        refine wpQuiet_nil ?_
        rintro w6 ⟨e6, rfl⟩
        have HL6 : Hid (RowsBlk e6.val (w.heap.size + 1) H (fun h => if h < j + 1 then walkF D own (fun i => i) (forthS D) h else fun _ => 0)) := HL5.out e6
        have HX6 : Hid (Ext w e6.val) := hI.out.1.trans (HX4.out.trans (Ext.trans hx5 e6.grown))
        have HG6 : Hid (e6.val.heap[w.heap.size]? = some (.cells #[.func (.func 100) #[] #[], .func (.func 101) #[] #[.pointer (some ⟨Bs, 0, none⟩)]] 129 (0, 0))) := Ext.block (HX4.out.trans (Ext.trans hx5 e6.grown)) hI.out.2.1
        generalize e6.val = w6 at *
        clear h1 HN5 HR5 HB5 HL5 HL4 HR4 HB4 HC4
        refine wpListIn_plain rfl fun K1 hK1 => ?_
        go_simp
        rw [if_pos (by omega), Oper.uponIn_value]
        refine hK1 _ _ ?_
        simp only [Act.put, List.setIfInBounds_toArray, List.set_cons_succ, List.set_cons_zero]
        refine wpListIn_plain rfl fun K2 hK2 => ?_
        refine wpIn_store_row (.tmp 108) (.tmp 107) rfl (fun _ => trivial) (h := j + 1) (hx := rfl) (hy := rfl) HL6.out hlt ?_
        refine hK2 _ _ ?_
        gi_wp2_with fail
        have HI2 := hid (walk_step (f := walkF D own (fun i => i) (forthS D)) (k := j + 1) (W := w6) HX6.out (by omega) HG6.out HL6.out hlt (nextF D (walkF D own (fun i => i) (forthS D) j) (own (j + 1)) (-stepE D.drift j) (-stepN D.drift j) (opens D.land (D.wide * D.high).toNat).length) (fun c _ => by rw [walkF_forth]))
        go_roundw
        case rel => exact ⟨j + 1 + 1, by omega, by omega, by go_num, HI2⟩
        case measure => simp [intOf]; omega
      · have ht : decide ((1 : Int) < ((j + 1 : Nat) : Int)) = true := by rw [decide_eq_true_eq]; omega
        have ht2 : decide ((1 : Int) < (j : Int) + 1) = true := by rw [decide_eq_true_eq]; omega
        have HWJ1 : Hid ((fun h => if h < j + 1 then walkF D own (fun i => i) (forthS D) h else fun _ => 0) (j - 1) = walkF D own (fun i => i) (forthS D) (j - 1)) := if_pos (by omega)
        have hq1 : ((j + 1 : Nat) : Int) - 2 = ((j - 1 : Nat) : Int) := by omega
        have hq2 : (j : Int) + 1 - 2 = ((j - 1 : Nat) : Int) := by omega
        have hq3 : IntKind.i64.wrap ((j - 1 : Nat) : Int) = ((j - 1 : Nat) : Int) := by rw [IntKind.wrap_i64]; omega
        have HST4 : Hid (∀ e : Later w4, Cal 101 #[.int .i64 (j : Int), .pointer (some ⟨Bs, 0, none⟩)] e.val fun e' w' => e' = .returned (.agg #[.int .i64 (-stepE D.drift (j - 1)), .int .i64 (-stepN D.drift (j - 1))]) ∧ Ext e.val w') := fun e => by
          have hst := steps_ok HSB.out
          have hjl1 : j - 1 < D.drift.length := by omega
          have hbd1 : (-2 ≤ stepE D.drift (j - 1) ∧ stepE D.drift (j - 1) ≤ 2) ∧ (-2 ≤ stepN D.drift (j - 1) ∧ stepN D.drift (j - 1) ≤ 2) := by
            have := hst.2 (j - 1) hjl1
            unfold stepE stepN; rw [getD_of hjl1]; exact this
          have hXe := hI.out.1.trans (HX4.out.trans e.grown)
          have := forthStep_any b Bs S D.drift (j - 1) hjl1 (by have := hst.1; rw [HH.out] at this; omega) e.val (HF.out.at_.mono hXe) (HF.out.drift.mono hXe) (Ext.block hXe HBS.out) hbd1
          rwa [show ((j - 1 + 1 : Nat) : Int) = j by omega] at this
        refine quiet_wide 37 (by kernel_rfl) (by kernel_rfl) ?_
        simp only [List.take_succ_cons, List.take_zero, List.drop_succ_cons, List.drop_zero]
        have h1 := HB4.out
        have h2 := HC4.out
        iterate 9 (first | go_big_quiet_step ((go_at_call 101; with_reducible exact Cal.quiet (HST4.out _))) | quiet_step ((go_at_call 101; with_reducible exact Cal.quiet (HST4.out _))))
        cases hen : (-stepE D.drift j == -stepE D.drift (j - 1) && -stepN D.drift j == -stepN D.drift (j - 1)) with
        | false =>
          refine wpQuiet_eql_step (.tmp 54) (.tmp 59) rfl rfl rfl rfl hen ?_
          clear hen
          repeat (any_goals (first | go_big_quiet_step (fail) | quiet_step (fail)))
          refine wpQuiet_nil ?_
          rintro w5 ⟨⟨_, hx5⟩, rfl⟩
          clear h1 h2
          gi_wp2_with fail
          have HL5 := hid fun e : Later w5 => HL4.out ⟨e.1, Ext.trans hx5 e.grown⟩
          have HR5 := hid fun e : Later w5 => HR4.out ⟨e.1, Ext.trans hx5 e.grown⟩
          have HB5 := hid fun e : Later w5 => HB4.out ⟨e.1, Ext.trans hx5 e.grown⟩
          have HN5 := hid fun e : Later w5 => next_any b D S rs (walkF D own (fun i => i) (forthS D) j) (own (j + 1)) (-stepE D.drift j) (-stepN D.drift j) e.val (HF.out.mono ((hI.out.1.trans HX4.out).trans (Ext.trans hx5 e.grown))) (walkF_bounds D HO.out _ _ j) (HO.out _) (by have := HBD.out; omega) (by have := HBD.out; omega)
          refine quiet_wide 13 (by kernel_rfl) (by kernel_rfl) ?_
          simp only [List.take_succ_cons, List.take_zero, List.drop_succ_cons, List.drop_zero]
          have h1 := HB5.out
          repeat (any_goals (first | (refine wpQuiet_load_row' (.tmp 100) rfl rfl (h := j) rfl (by omega) (by rintro _ ⟨e, rfl⟩; exact HL5.out e) (by omega) HWJ.out ?_) | (refine wpQuiet_load_row' (.tmp 104) rfl rfl (h := j + 1) rfl (by omega) (by rintro _ ⟨e, rfl⟩; exact HR5.out e) (by omega) rfl ?_) | go_big_quiet_step ((go_at_call 99; with_reducible exact Cal.quiet (HN5.out _))) | quiet_step ((go_at_call 99; with_reducible exact Cal.quiet (HN5.out _)))))
          refine wpQuiet_nil ?_
          rintro w6 ⟨e6, rfl⟩
          have HL6 : Hid (RowsBlk e6.val (w.heap.size + 1) H (fun h => if h < j + 1 then walkF D own (fun i => i) (forthS D) h else fun _ => 0)) := HL5.out e6
          have HX6 : Hid (Ext w e6.val) := hI.out.1.trans (HX4.out.trans (Ext.trans hx5 e6.grown))
          have HG6 : Hid (e6.val.heap[w.heap.size]? = some (.cells #[.func (.func 100) #[] #[], .func (.func 101) #[] #[.pointer (some ⟨Bs, 0, none⟩)]] 129 (0, 0))) := Ext.block (HX4.out.trans (Ext.trans hx5 e6.grown)) hI.out.2.1
          generalize e6.val = w6 at *
          clear h1 HN5 HR5 HB5 HL5 HL4 HR4 HB4 HC4
          refine wpListIn_plain rfl fun K1 hK1 => ?_
          go_simp
          rw [if_pos (by omega), Oper.uponIn_value]
          refine hK1 _ _ ?_
          simp only [Act.put, List.setIfInBounds_toArray, List.set_cons_succ, List.set_cons_zero]
          refine wpListIn_plain rfl fun K2 hK2 => ?_
          refine wpIn_store_row (.tmp 108) (.tmp 107) rfl (fun _ => trivial) (h := j + 1) (hx := rfl) (hy := rfl) HL6.out hlt ?_
          refine hK2 _ _ ?_
          gi_wp2_with fail
          have HI2 := hid (walk_step (f := walkF D own (fun i => i) (forthS D)) (k := j + 1) (W := w6) HX6.out (by omega) HG6.out HL6.out hlt (nextF D (walkF D own (fun i => i) (forthS D) j) (own (j + 1)) (-stepE D.drift j) (-stepN D.drift j) (opens D.land (D.wide * D.high).toNat).length) (fun c _ => by rw [walkF_forth]))
          go_roundw
          case rel => exact ⟨j + 1 + 1, by omega, by omega, by go_num, HI2⟩
          case measure => simp [intOf]; omega
        | true =>
          refine wpQuiet_eql_step (.tmp 54) (.tmp 59) rfl rfl rfl rfl hen ?_
          have HEN := hid hen
          clear hen
          iterate 10 (first | (refine wpQuiet_load_row' (.tmp 65) rfl rfl (h := j + 1) rfl (by omega) (by rintro _ ⟨e, rfl⟩; exact HR4.out e) (by omega) rfl ?_) | (refine wpQuiet_load_row' (.tmp 69) rfl rfl (h := j) rfl (by omega) (by rintro _ ⟨e, rfl⟩; exact HR4.out e) (by omega) rfl ?_) | go_big_quiet_step (fail) | quiet_step (fail))
          cases heo : cntEq (own (j + 1)) (own j) with
          | false =>
            refine wpQuiet_eql_cnt (.tmp 66) (.tmp 70) rfl rfl rfl rfl ?_
            rw [heo]
            clear heo
            repeat (any_goals (first | go_big_quiet_step (fail) | quiet_step (fail)))
            refine wpQuiet_nil ?_
            rintro w5 ⟨⟨_, hx5⟩, rfl⟩
            clear h1 h2
            gi_wp2_with fail
            have HL5 := hid fun e : Later w5 => HL4.out ⟨e.1, Ext.trans hx5 e.grown⟩
            have HR5 := hid fun e : Later w5 => HR4.out ⟨e.1, Ext.trans hx5 e.grown⟩
            have HB5 := hid fun e : Later w5 => HB4.out ⟨e.1, Ext.trans hx5 e.grown⟩
            have HN5 := hid fun e : Later w5 => next_any b D S rs (walkF D own (fun i => i) (forthS D) j) (own (j + 1)) (-stepE D.drift j) (-stepN D.drift j) e.val (HF.out.mono ((hI.out.1.trans HX4.out).trans (Ext.trans hx5 e.grown))) (walkF_bounds D HO.out _ _ j) (HO.out _) (by have := HBD.out; omega) (by have := HBD.out; omega)
            refine quiet_wide 13 (by kernel_rfl) (by kernel_rfl) ?_
            simp only [List.take_succ_cons, List.take_zero, List.drop_succ_cons, List.drop_zero]
            have h1 := HB5.out
            repeat (any_goals (first | (refine wpQuiet_load_row' (.tmp 100) rfl rfl (h := j) rfl (by omega) (by rintro _ ⟨e, rfl⟩; exact HL5.out e) (by omega) HWJ.out ?_) | (refine wpQuiet_load_row' (.tmp 104) rfl rfl (h := j + 1) rfl (by omega) (by rintro _ ⟨e, rfl⟩; exact HR5.out e) (by omega) rfl ?_) | go_big_quiet_step ((go_at_call 99; with_reducible exact Cal.quiet (HN5.out _))) | quiet_step ((go_at_call 99; with_reducible exact Cal.quiet (HN5.out _)))))
            refine wpQuiet_nil ?_
            rintro w6 ⟨e6, rfl⟩
            have HL6 : Hid (RowsBlk e6.val (w.heap.size + 1) H (fun h => if h < j + 1 then walkF D own (fun i => i) (forthS D) h else fun _ => 0)) := HL5.out e6
            have HX6 : Hid (Ext w e6.val) := hI.out.1.trans (HX4.out.trans (Ext.trans hx5 e6.grown))
            have HG6 : Hid (e6.val.heap[w.heap.size]? = some (.cells #[.func (.func 100) #[] #[], .func (.func 101) #[] #[.pointer (some ⟨Bs, 0, none⟩)]] 129 (0, 0))) := Ext.block (HX4.out.trans (Ext.trans hx5 e6.grown)) hI.out.2.1
            generalize e6.val = w6 at *
            clear h1 HN5 HR5 HB5 HL5 HL4 HR4 HB4 HC4
            refine wpListIn_plain rfl fun K1 hK1 => ?_
            go_simp
            rw [if_pos (by omega), Oper.uponIn_value]
            refine hK1 _ _ ?_
            simp only [Act.put, List.setIfInBounds_toArray, List.set_cons_succ, List.set_cons_zero]
            refine wpListIn_plain rfl fun K2 hK2 => ?_
            refine wpIn_store_row (.tmp 108) (.tmp 107) rfl (fun _ => trivial) (h := j + 1) (hx := rfl) (hy := rfl) HL6.out hlt ?_
            refine hK2 _ _ ?_
            gi_wp2_with fail
            have HI2 := hid (walk_step (f := walkF D own (fun i => i) (forthS D)) (k := j + 1) (W := w6) HX6.out (by omega) HG6.out HL6.out hlt (nextF D (walkF D own (fun i => i) (forthS D) j) (own (j + 1)) (-stepE D.drift j) (-stepN D.drift j) (opens D.land (D.wide * D.high).toNat).length) (fun c _ => by rw [walkF_forth]))
            go_roundw
            case rel => exact ⟨j + 1 + 1, by omega, by omega, by go_num, HI2⟩
            case measure => simp [intOf]; omega
          | true =>
            refine wpQuiet_eql_cnt (.tmp 66) (.tmp 70) rfl rfl rfl rfl ?_
            rw [heo]
            have HEO := hid heo
            clear heo
            iterate 14 (first | (refine wpQuiet_load_row' (.tmp 76) rfl rfl (h := j) rfl (by omega) (by rintro _ ⟨e, rfl⟩; exact HL4.out e) (by omega) HWJ.out ?_) | (refine wpQuiet_load_row' (.tmp 84) rfl rfl (h := j - 1) rfl (by omega) (by rintro _ ⟨e, rfl⟩; exact HL4.out e) (by omega) HWJ1.out ?_) | go_big_quiet_step ((go_at_call 100; with_reducible exact Cal.quiet (forthHour_any _ _))) | quiet_step ((go_at_call 100; with_reducible exact Cal.quiet (forthHour_any _ _))))
            cases hew : cntEq (walkF D own (fun i => i) (forthS D) j) (walkF D own (fun i => i) (forthS D) (j - 1)) with
            | false =>
              refine wpQuiet_eql_cnt (.tmp 77) (.tmp 85) rfl rfl rfl rfl ?_
              rw [hew]
              clear hew
              repeat (any_goals (first | go_big_quiet_step (fail) | quiet_step (fail)))
              refine wpQuiet_nil ?_
              rintro w5 ⟨⟨_, hx5⟩, rfl⟩
              clear h1 h2
              gi_wp2_with fail
              have HL5 := hid fun e : Later w5 => HL4.out ⟨e.1, Ext.trans hx5 e.grown⟩
              have HR5 := hid fun e : Later w5 => HR4.out ⟨e.1, Ext.trans hx5 e.grown⟩
              have HB5 := hid fun e : Later w5 => HB4.out ⟨e.1, Ext.trans hx5 e.grown⟩
              have HN5 := hid fun e : Later w5 => next_any b D S rs (walkF D own (fun i => i) (forthS D) j) (own (j + 1)) (-stepE D.drift j) (-stepN D.drift j) e.val (HF.out.mono ((hI.out.1.trans HX4.out).trans (Ext.trans hx5 e.grown))) (walkF_bounds D HO.out _ _ j) (HO.out _) (by have := HBD.out; omega) (by have := HBD.out; omega)
              refine quiet_wide 13 (by kernel_rfl) (by kernel_rfl) ?_
              simp only [List.take_succ_cons, List.take_zero, List.drop_succ_cons, List.drop_zero]
              have h1 := HB5.out
              repeat (any_goals (first | (refine wpQuiet_load_row' (.tmp 100) rfl rfl (h := j) rfl (by omega) (by rintro _ ⟨e, rfl⟩; exact HL5.out e) (by omega) HWJ.out ?_) | (refine wpQuiet_load_row' (.tmp 104) rfl rfl (h := j + 1) rfl (by omega) (by rintro _ ⟨e, rfl⟩; exact HR5.out e) (by omega) rfl ?_) | go_big_quiet_step ((go_at_call 99; with_reducible exact Cal.quiet (HN5.out _))) | quiet_step ((go_at_call 99; with_reducible exact Cal.quiet (HN5.out _)))))
              refine wpQuiet_nil ?_
              rintro w6 ⟨e6, rfl⟩
              have HL6 : Hid (RowsBlk e6.val (w.heap.size + 1) H (fun h => if h < j + 1 then walkF D own (fun i => i) (forthS D) h else fun _ => 0)) := HL5.out e6
              have HX6 : Hid (Ext w e6.val) := hI.out.1.trans (HX4.out.trans (Ext.trans hx5 e6.grown))
              have HG6 : Hid (e6.val.heap[w.heap.size]? = some (.cells #[.func (.func 100) #[] #[], .func (.func 101) #[] #[.pointer (some ⟨Bs, 0, none⟩)]] 129 (0, 0))) := Ext.block (HX4.out.trans (Ext.trans hx5 e6.grown)) hI.out.2.1
              generalize e6.val = w6 at *
              clear h1 HN5 HR5 HB5 HL5 HL4 HR4 HB4 HC4
              refine wpListIn_plain rfl fun K1 hK1 => ?_
              go_simp
              rw [if_pos (by omega), Oper.uponIn_value]
              refine hK1 _ _ ?_
              simp only [Act.put, List.setIfInBounds_toArray, List.set_cons_succ, List.set_cons_zero]
              refine wpListIn_plain rfl fun K2 hK2 => ?_
              refine wpIn_store_row (.tmp 108) (.tmp 107) rfl (fun _ => trivial) (h := j + 1) (hx := rfl) (hy := rfl) HL6.out hlt ?_
              refine hK2 _ _ ?_
              gi_wp2_with fail
              have HI2 := hid (walk_step (f := walkF D own (fun i => i) (forthS D)) (k := j + 1) (W := w6) HX6.out (by omega) HG6.out HL6.out hlt (nextF D (walkF D own (fun i => i) (forthS D) j) (own (j + 1)) (-stepE D.drift j) (-stepN D.drift j) (opens D.land (D.wide * D.high).toNat).length) (fun c _ => by rw [walkF_forth]))
              go_roundw
              case rel => exact ⟨j + 1 + 1, by omega, by omega, by go_num, HI2⟩
              case measure => simp [intOf]; omega
            | true =>
              refine wpQuiet_eql_cnt (.tmp 77) (.tmp 85) rfl rfl rfl rfl ?_
              rw [hew]
              have HSAME := hid (walkF_same_forth (seaB_80 HSB.out) hj0 HEN.out HEO.out hew)
              clear hew
              repeat (any_goals (first | go_big_quiet_step (fail) | quiet_step (fail)))
              refine wpQuiet_nil ?_
              rintro w5 ⟨⟨_, hx5⟩, rfl⟩
              clear h1 h2
              have HL50 := hid (HL4.out ⟨w5, hx5⟩)
              have HX6 : Hid (Ext w w5) := hI.out.1.trans (HX4.out.trans hx5)
              have HG6 : Hid (w5.heap[w.heap.size]? = some (.cells #[.func (.func 100) #[] #[], .func (.func 101) #[] #[.pointer (some ⟨Bs, 0, none⟩)]] 129 (0, 0))) := Ext.block (HX4.out.trans hx5) hI.out.2.1
              have HWF : Hid (∀ f, Fence.wide.fn f) := fun _ => trivial
              have HOFF : Hid (j * 80 = j * 80) := rfl
              gi_wp2_with (first | ((with_reducible refine wpList_load_row (.tmp 92) HWF.out HL50.out (h := j) (by omega) HWJ.out (off := j * 80) HOFF.out ?_ ?_ ?_ ?_); exact rfl; exact rfl; exact rfl) | ((with_reducible refine wpList_store_row (.tmp 94) (.tmp 93) HWF.out HL50.out hlt (f := walkF D own (fun i => i) (forthS D) j) (off := (j + 1) * 80) (Eq.refl _) ?_ ?_ ?_ ?_ ?_); exact rfl; exact rfl; exact rfl; exact rfl))
              have HI2 := hid (walk_step (f := walkF D own (fun i => i) (forthS D)) (k := j + 1) (W := w5) HX6.out (by omega) HG6.out HL50.out hlt (walkF D own (fun i => i) (forthS D) j) (fun c hc => HSAME.out c hc))
              go_roundw
              case rel => exact ⟨j + 1 + 1, by omega, by omega, by go_num, HI2⟩
              case measure => simp [intOf]; omega
    · obtain rfl : k = H := by omega
      have HI2 := hid hI.out
      clear hI
      gi_wp2
      go_ret
      refine ⟨_, rfl, HI2.out.1, by omega, HI2.out.2.2.congr fun i c hi hc => by rw [if_pos hi]⟩
end Go.Proofs.Ytiklblbjnblkfaa
