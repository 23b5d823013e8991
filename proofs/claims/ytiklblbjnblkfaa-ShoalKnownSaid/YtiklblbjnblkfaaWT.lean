/- The walk back. -/
import Derived.Test.YtiklblbjnblkfaaWS
set_option linter.unusedSimpArgs false
set_option linter.unusedVariables false
namespace Go.Proofs.Ytiklblbjnblkfaa
open Go Go.RowKit Go.Shelf

/-- How the water carries, from hour to hour back. -/
def backS (D : SeaD) (H i : Nat) : Int × Int := (stepE D.drift (H - 1 - i), stepN D.drift (H - 1 - i))
theorem walkF_back (D : SeaD) (own : Nat → Nat → Int) (H j : Nat) : walkF D own (fun i => H - 1 - i) (backS D H) (j + 1) = nextF D (walkF D own (fun i => H - 1 - i) (backS D H) j) (own (H - 1 - (j + 1))) (stepE D.drift (H - 1 - (j + 1))) (stepN D.drift (H - 1 - (j + 1))) (opens D.land (D.wide * D.high).toNat).length := rfl
theorem walkF_same_back {D : SeaD} (h80 : D.wide * D.high ≤ 80) {own : Nat → Nat → Int} {H j p q : Nat} (hj : j ≠ 0) (hp : p = H - 1 - (j + 1)) (hq : q = H - 1 - j) (hen : (stepE D.drift p == stepE D.drift q && stepN D.drift p == stepN D.drift q) = true)
    (ho : cntEq (own p) (own q) = true) (hw : cntEq (walkF D own (fun i => H - 1 - i) (backS D H) j) (walkF D own (fun i => H - 1 - i) (backS D H) (j - 1)) = true) :
    ∀ c, c < 80 → walkF D own (fun i => H - 1 - i) (backS D H) j c = walkF D own (fun i => H - 1 - i) (backS D H) (j + 1) c := by
  obtain ⟨m, rfl⟩ : ∃ m, j = m + 1 := ⟨j - 1, by omega⟩
  simp only [Bool.and_eq_true, beq_iff_eq] at hen
  subst hp; subst hq
  intro c hc
  refine (walkF_same h80 (hf := fun i => H - 1 - i) (sf := backS D H) (i := m) ?_ ho hw c hc).symm
  unfold backS
  exact Prod.ext hen.1 hen.2
/-- A round of the walk back: the list of the next hour is stored. -/
theorem walk_stepB {w W : World} {G H k p : Nat} {f : Nat → Nat → Int} {bx : Nat} {o : Obj} (hx : Ext w W) (hG : w.heap.size ≤ G) (hbx : W.heap[bx]? = some o) (hL : RowsBlk W G H (fun h => if H - 1 - h < k then f (H - 1 - h) else fun _ => 0)) (hk : k < H) (hp : p = H - 1 - k) (v : Nat → Int) (hv : ∀ c, c < 80 → v c = f k c) (hne : bx ≠ G := by omega) :
    Ext w (W.setCells G (p * 80) (cntArr v).toList) ∧ (W.setCells G (p * 80) (cntArr v).toList).heap[bx]? = some o ∧ RowsBlk (W.setCells G (p * 80) (cntArr v).toList) G H (fun h => if H - 1 - h < k + 1 then f (H - 1 - h) else fun _ => 0) := by
  refine ⟨below_setC hG _ _ _ hx, by rw [heap_setC _ hne]; exact hbx, (hL.set (by omega : p < H) v).congr fun i c hi hc => ?_⟩
  by_cases h0 : i = p
  · have e1 : H - 1 - i = k := by omega
    rw [if_pos h0, e1, if_pos (by omega)]; exact hv c hc
  · rw [if_neg h0]
    by_cases hlt : H - 1 - i < k
    · rw [if_pos hlt, if_pos (by omega)]
    · rw [if_neg hlt, if_neg (by omega)]

set_option maxRecDepth 100000 in
set_option maxHeartbeats 4000000 in
theorem walkBack_any (b Bs Bl g1 H : Nat) (D : SeaD) (S : SeaV) (rs : List Rep) (own : Nat → Nat → Int) (w : World) (hF : SeaFull w b S D rs) (hb : seaB D = true) (hH : D.hours = H) (hR : RowsBlk w g1 H own) (hB : w.heap[Bs]? = some (.cells #[.pointer (some ⟨b, 0, none⟩)] 75 (0, 0))) (hBl : w.heap[Bl]? = some (.cells #[.int .i64 ((H - 1 : Nat) : Int)] 3 (0, 0)))
    (ho : ∀ h c, 0 ≤ own h c ∧ own h c ≤ 1000) :
    Cal 84 #[.pointer (some ⟨b, 0, none⟩), .slice (some ⟨g1, 0, none⟩) H H, backVal Bs Bl] w fun e w' => ∃ g, e = .returned (.slice (some ⟨g, 0, none⟩) H H) ∧ Ext w w' ∧ w.heap.size ≤ g ∧ RowsBlk w' g H (fun h => walkF D own (fun i => H - 1 - i) (backS D H) (H - 1 - h)) := by
  unfold backVal
  gi_enter Try.func84, Try.ntmps84
  have hh := hF.ok.hours
  rw [hF.hours, hH] at hh
  have hx1 : Ext w (w.alloc (.cells #[.func (.func 103) #[] #[.pointer (some ⟨Bl, 0, none⟩)], .func (.func 104) #[] #[.pointer (some ⟨Bs, 0, none⟩), .pointer (some ⟨Bl, 0, none⟩)]] 129)) := (Ext.refl w).alloc _
  have hcs := (hF.at_.mono hx1).cells
  rw [hF.hours, hH] at hcs
  have hmk := make_cnts (w.alloc (.cells #[.func (.func 103) #[] #[.pointer (some ⟨Bl, 0, none⟩)], .func (.func 104) #[] #[.pointer (some ⟨Bs, 0, none⟩), .pointer (some ⟨Bl, 0, none⟩)]] 129)) H H rfl (by omega)
  have HF := hid hF
  have HR := hid hR
  have HBS := hid hB
  have HO := hid ho
  have HH := hid hH
  have HSB := hid hb
  clear hF hR hB ho hb hH
  have hbx : (w.alloc (.cells #[.func (.func 103) #[] #[.pointer (some ⟨Bl, 0, none⟩)], .func (.func 104) #[] #[.pointer (some ⟨Bs, 0, none⟩), .pointer (some ⟨Bl, 0, none⟩)]] 129)).heap[w.heap.size]? = some (.cells #[.func (.func 103) #[] #[.pointer (some ⟨Bl, 0, none⟩)], .func (.func 104) #[] #[.pointer (some ⟨Bs, 0, none⟩), .pointer (some ⟨Bl, 0, none⟩)]] 129 (0, 0)) := Ext.new (Ext.refl _)
  have HX1 := hid hx1
  have HBX := hid hbx
  clear hx1 hbx
  have HB0 : Hid (∀ u, Ext w u → Cal 103 #[.int .i64 0, .pointer (some ⟨Bl, 0, none⟩)] u fun e w' => e = .returned (.int .i64 ((H - 1 : Nat) : Int)) ∧ Ext u w') := fun u hu => backHour_any 0 (H - 1) Bl u (Ext.block hu hBl) (by omega) (by omega)
  have HBL := hid hBl
  clear hBl
  obtain ⟨L, hL⟩ : ∃ L, L = H - 1 := ⟨_, rfl⟩
  rw [← hL] at HB0 HBL
  have hH1 : L < H := by omega
  have HLL := hid hL
  clear hL
  gi_wp2_with (first | (refine wpIn_load_row (.tmp 26) rfl (fun _ => trivial) (h := L) (hx := rfl) HR1.out hH1 ?_) | (refine wpIn_store_row (.tmp 28) (.tmp 27) rfl (fun _ => trivial) (h := L) (hx := rfl) (hy := rfl) HL1.out hH1 ?_) | (gi_at_call 103; ((with_reducible refine (HB0.out _ (HX1.out.alloc _)).mono ?_); rintro e w2 ⟨rfl, hx2⟩; have HX2 : Hid (Ext w w2) := HX1.out.trans (Ext.after hx2); have HBX2 : Hid (w2.heap[w.heap.size]? = some (.cells #[.func (.func 103) #[] #[.pointer (some ⟨Bl, 0, none⟩)], .func (.func 104) #[] #[.pointer (some ⟨Bs, 0, none⟩), .pointer (some ⟨Bl, 0, none⟩)]] 129 (0, 0))) := (Ext.after hx2).block HBX.out; have HR1 : Hid (RowsBlk w2 g1 H own) := HR.out.mono HX2.out; have HL1 : Hid (RowsBlk w2 (w.heap.size + 1) H (fun _ _ => 0)) := (by have := (rows_new (w.alloc (.cells #[.func (.func 103) #[] #[.pointer (some ⟨Bl, 0, none⟩)], .func (.func 104) #[] #[.pointer (some ⟨Bs, 0, none⟩), .pointer (some ⟨Bl, 0, none⟩)]] 129)) H).mono hx2; rw [World.size_alloc] at this; exact this))))
  have HI0 : Hid (Ext w (w2.setCells (w.heap.size + 1) (L * 80) (cntArr (own L)).toList) ∧ (w2.setCells (w.heap.size + 1) (L * 80) (cntArr (own L)).toList).heap[w.heap.size]? = some (.cells #[.func (.func 103) #[] #[.pointer (some ⟨Bl, 0, none⟩)], .func (.func 104) #[] #[.pointer (some ⟨Bs, 0, none⟩), .pointer (some ⟨Bl, 0, none⟩)]] 129 (0, 0)) ∧
      RowsBlk (w2.setCells (w.heap.size + 1) (L * 80) (cntArr (own L)).toList) (w.heap.size + 1) H (fun h => if H - 1 - h < 1 then walkF D own (fun i => H - 1 - i) (backS D H) (H - 1 - h) else fun _ => 0)) := by
    refine ⟨below_setC (by omega) _ _ _ HX2.out, by rw [heap_setC _ (by omega)]; exact HBX2.out, (HL1.out.set hH1 (own L)).congr fun i c hi hc => ?_⟩
    have hLL := HLL.out
    by_cases h0 : i = L
    · rw [if_pos h0, if_pos (by omega)]
      have e1 : H - 1 - i = 0 := by omega
      rw [e1]
      show own L c = own (H - 1 - 0) c
      rw [hLL]; rfl
    · rw [if_neg h0, if_neg (by omega)]
  clear HBX2 HX2 HR1 HL1 HX1 HBX hx2
  generalize w2.setCells (w.heap.size + 1) (L * 80) (cntArr (own L)).toList = w3 at *
  gi_loopw [9] (fun i wr => ∃ k : Nat, 1 ≤ k ∧ k ≤ H ∧ i = .int .i64 k ∧ Hid (Ext w wr ∧ wr.heap[w.heap.size]? = some (.cells #[.func (.func 103) #[] #[.pointer (some ⟨Bl, 0, none⟩)], .func (.func 104) #[] #[.pointer (some ⟨Bs, 0, none⟩), .pointer (some ⟨Bl, 0, none⟩)]] 129 (0, 0)) ∧
    RowsBlk wr (w.heap.size + 1) H (fun h => if H - 1 - h < k then walkF D own (fun i => H - 1 - i) (backS D H) (H - 1 - h) else fun _ => 0))) (fun i _ => H - (intOf i).toNat)
  case atStart => exact ⟨1, Nat.le_refl _, by omega, rfl, HI0⟩
  case round =>
    clear HI0
    obtain ⟨k, hk1, hk, rfl, hI⟩ := hrel
    have hcs := (HF.out.at_.mono hI.out.1).cells
    rw [HF.out.hours, HH.out] at hcs
    by_cases hlt : k < H
    · gi_wp2_with fail
      obtain ⟨j, rfl⟩ : ∃ j, k = j + 1 := ⟨k - 1, by omega⟩
      have HG : Hid (∀ u, Ext wr u → ∀ o : Nat, u.cell? ⟨w.heap.size, o, none⟩ = #[.func (.func 103) #[] #[.pointer (some ⟨Bl, 0, none⟩)], .func (.func 104) #[] #[.pointer (some ⟨Bs, 0, none⟩), .pointer (some ⟨Bl, 0, none⟩)]][o]?) := fun u hu => cell_of (Ext.block hu hI.out.2.1)
      have hst := steps_ok HSB.out
      obtain ⟨p, hp⟩ : ∃ p, p = H - 1 - (j + 1) := ⟨_, rfl⟩
      obtain ⟨q, hq⟩ : ∃ q, q = H - 1 - j := ⟨_, rfl⟩
      obtain ⟨r, hr⟩ : ∃ r, r = H - 1 - (j - 1) := ⟨_, rfl⟩
      have hpH : p < H := by omega
      have hqH : q < H := by omega
      have hrH : r < H := by omega
      have hll := HLL.out
      have hjl : p < D.drift.length := by have := hst.1; rw [HH.out] at this; omega
      have hbd : (-2 ≤ stepE D.drift p ∧ stepE D.drift p ≤ 2) ∧ (-2 ≤ stepN D.drift p ∧ stepN D.drift p ≤ 2) := by
        have := hst.2 p hjl
        unfold stepE stepN; rw [getD_of hjl]; exact this
      have HST : Hid (∀ u, Ext wr u → Cal 104 #[.int .i64 ((j + 1 : Nat) : Int), .pointer (some ⟨Bs, 0, none⟩), .pointer (some ⟨Bl, 0, none⟩)] u fun e w' => e = .returned (.agg #[.int .i64 (stepE D.drift p), .int .i64 (stepN D.drift p)]) ∧ Ext u w') := fun u hu => by
        have := backStep_any b Bs Bl S D.drift (j + 1) L (by omega) (by have h1 := hst.1; rw [HH.out] at h1; omega) (by have h1 := hst.1; rw [HH.out] at h1; omega) (by omega) u (HF.out.at_.mono (hI.out.1.trans hu)) (HF.out.drift.mono (hI.out.1.trans hu)) (Ext.block (hI.out.1.trans hu) HBS.out) (Ext.block (hI.out.1.trans hu) HBL.out)
        rwa [show L - (j + 1) = p by omega] at this
      have HBP : Hid (∀ u, Ext wr u → Cal 103 #[.int .i64 ((j + 1 : Nat) : Int), .pointer (some ⟨Bl, 0, none⟩)] u fun e w' => e = .returned (.int .i64 (p : Int)) ∧ Ext u w') := fun u hu => by
        have := backHour_any (j + 1) L Bl u (Ext.block (hI.out.1.trans hu) HBL.out) (by omega) (by omega)
        rwa [show L - (j + 1) = p by omega] at this
      have HBQ : Hid (∀ u, Ext wr u → Cal 103 #[.int .i64 (j : Int), .pointer (some ⟨Bl, 0, none⟩)] u fun e w' => e = .returned (.int .i64 (q : Int)) ∧ Ext u w') := fun u hu => by
        have := backHour_any j L Bl u (Ext.block (hI.out.1.trans hu) HBL.out) (by omega) (by omega)
        rwa [show L - j = q by omega] at this
      have HBR : Hid (∀ u, Ext wr u → Cal 103 #[.int .i64 ((j - 1 : Nat) : Int), .pointer (some ⟨Bl, 0, none⟩)] u fun e w' => e = .returned (.int .i64 (r : Int)) ∧ Ext u w') := fun u hu => by
        have := backHour_any (j - 1) L Bl u (Ext.block (hI.out.1.trans hu) HBL.out) (by omega) (by omega)
        rwa [show L - (j - 1) = r by omega] at this
      have HP := hid hp
      have HQ := hid hq
      have HRR := hid hr
      clear hp hq hr hll
      have hj1 : ((j + 1 : Nat) : Int) - 1 = j := by omega
      have hjw : IntKind.i64.wrap (j : Int) = j := by rw [IntKind.wrap_i64]; omega
      have HBD := hid hbd
      clear hst hbd hcs
      refine lex_wide 14 [(13, stepBox wr.heap.size)] (by kernel_rfl) (by kernel_rfl) stepBox_stab ?_
      simp only [List.take_succ_cons, List.take_zero, List.drop_succ_cons, List.drop_zero]
      apply lex_fun rfl
      · intro x u hR hf
        have q1 := HG.out u hR
        clear hR hf
        go_simp
        exact ⟨rfl, Ext.refl _⟩
      simp only [Act.put, List.setIfInBounds_toArray, List.set_cons_succ, List.set_cons_zero]
      apply lex_fun rfl
      · intro x u hR hf
        have q1 := HG.out u hR
        clear hR hf
        go_simp
        exact ⟨rfl, Ext.refl _⟩
      simp only [Act.put, List.setIfInBounds_toArray, List.set_cons_succ, List.set_cons_zero]
      apply lex_fun rfl
      · intro x u hR hf
        have q1 := HG.out u hR
        clear hR hf
        go_simp
        exact ⟨rfl, Ext.refl _⟩
      simp only [Act.put, List.setIfInBounds_toArray, List.set_cons_succ, List.set_cons_zero]
      refine lex_fun (v := .int .i64 (p : Int)) rfl ?_ ?_
      · intro x u hR hf
        have hcal := HBP.out u hR
        have HCAL := hid hcal
        clear hR hf hcal
        go_simp
        exact HCAL.out.mono fun e w'' he => ⟨_, he.1, rfl, he.2⟩
      simp only [Act.put, List.setIfInBounds_toArray, List.set_cons_succ, List.set_cons_zero]
      apply lex_fun rfl
      · intro x u hR hf
        have q1 := HG.out u hR
        clear hR hf
        go_simp
        exact ⟨rfl, Ext.refl _⟩
      simp only [Act.put, List.setIfInBounds_toArray, List.set_cons_succ, List.set_cons_zero]
      apply lex_fun rfl
      · intro x u hR hf
        have q1 := HG.out u hR
        clear hR hf
        go_simp
        exact ⟨rfl, Ext.refl _⟩
      simp only [Act.put, List.setIfInBounds_toArray, List.set_cons_succ, List.set_cons_zero]
      apply lex_fun rfl
      · intro x u hR hf
        have q1 := HG.out u hR
        clear hR hf
        go_simp
        exact ⟨rfl, Ext.refl _⟩
      simp only [Act.put, List.setIfInBounds_toArray, List.set_cons_succ, List.set_cons_zero]
      apply lex_fun rfl
      · intro x u hR hf
        have q1 := HG.out u hR
        clear hR hf
        go_simp
        exact ⟨rfl, Ext.refl _⟩
      simp only [Act.put, List.setIfInBounds_toArray, List.set_cons_succ, List.set_cons_zero]
      refine lex_fun (v := .int .i64 (q : Int)) rfl ?_ ?_
      · intro x u hR hf
        have hcal := HBQ.out u hR
        have HCAL := hid hcal
        clear hR hf hcal
        go_simp
        exact HCAL.out.mono fun e w'' he => ⟨_, he.1, rfl, he.2⟩
      simp only [Act.put, List.setIfInBounds_toArray, List.set_cons_succ, List.set_cons_zero]
      apply lex_fun rfl
      · intro x u hR hf
        have q1 := HG.out u hR
        clear hR hf
        go_simp
        exact ⟨rfl, Ext.refl _⟩
      simp only [Act.put, List.setIfInBounds_toArray, List.set_cons_succ, List.set_cons_zero]
      apply lex_fun rfl
      · intro x u hR hf
        have q1 := HG.out u hR
        clear hR hf
        go_simp
        exact ⟨rfl, Ext.refl _⟩
      simp only [Act.put, List.setIfInBounds_toArray, List.set_cons_succ, List.set_cons_zero]
      apply lex_fun rfl
      · intro x u hR hf
        have q1 := HG.out u hR
        clear hR hf
        go_simp
        exact ⟨rfl, Ext.refl _⟩
      simp only [Act.put, List.setIfInBounds_toArray, List.set_cons_succ, List.set_cons_zero]
      refine lex_fun (v := .agg #[.int .i64 (stepE D.drift p), .int .i64 (stepN D.drift p)]) rfl ?_ ?_
      · intro x u hR hf
        have hcal := HST.out u hR
        have HCAL := hid hcal
        clear hR hf hcal
        go_simp
        exact HCAL.out.mono fun e w'' he => ⟨_, he.1, rfl, he.2⟩
      simp only [Act.put, List.setIfInBounds_toArray, List.set_cons_succ, List.set_cons_zero]
      refine lex_pred rfl ?_ ?_
      · intro x u hR hf
        have hsu := hR.size
        clear hR hf
        go_simp
        exact ⟨⟨_, rfl, Ext.new (Ext.refl _), hsu⟩, (Ext.refl _).alloc _⟩
      simp only [Act.put, List.setIfInBounds_toArray, List.set_cons_succ, List.set_cons_zero]
      refine lex_nil fun x u hR hfacts => ?_
      have h13 : stepBox wr.heap.size (x 13) u := hfacts 13 _ (by omega) rfl
      clear hfacts
      obtain ⟨gs, e13, hgs, hgn⟩ := h13
      simp only [e13]
      have hxu : Ext wr u := by assumption
      have hfz := free_of hgs
      have hcg := cell_of hgs
      have HU : Hid (Ext wr (u.setCell ⟨gs, 0, none⟩ (.int .i64 0))) := hxu.set hgn _ _
      clear HG HST hcs
      gi_wp2_with fail
      have hx4 : Ext wr ((u.setCell ⟨gs, 0, none⟩ (.int .i64 (stepE D.drift p))).setCell ⟨gs, 1, none⟩ (.int .i64 (stepN D.drift p))) := (hxu.set hgn _ _).set hgn _ _
      have hb4 : ((u.setCell ⟨gs, 0, none⟩ (.int .i64 (stepE D.drift p))).setCell ⟨gs, 1, none⟩ (.int .i64 (stepN D.drift p))).heap[gs]? = some (.cells #[.int .i64 (stepE D.drift p), .int .i64 (stepN D.drift p)] 70 (0, 0)) := by
        have h1 := heap_setCell_same u gs 0 _ 70 (.int .i64 (stepE D.drift p)) hgs
        have h2 := heap_setCell_same (u.setCell ⟨gs, 0, none⟩ (.int .i64 (stepE D.drift p))) gs 1 _ 70 (.int .i64 (stepN D.drift p)) h1
        simpa using h2
      generalize (u.setCell ⟨gs, 0, none⟩ (.int .i64 (stepE D.drift p))).setCell ⟨gs, 1, none⟩ (.int .i64 (stepN D.drift p)) = w4 at *
      clear hgs hfz hcg HU hxu hR
      have HX4 := hid hx4
      have HB4 := hid fun e : Later w4 => cell_of (Ext.block e.grown hb4)
      have HC4 := hid fun e : Later w4 => cell_of (Ext.block (hx4.trans e.grown) hI.out.2.1)
      have HR4 := hid fun e : Later w4 => HR.out.mono (hI.out.1.trans (hx4.trans e.grown))
      have HL4 := hid fun e : Later w4 => hI.out.2.2.mono (hx4.trans e.grown)
      clear hx4 hb4
      have HWJ : Hid ((fun h => if H - 1 - h < j + 1 then walkF D own (fun i => H - 1 - i) (backS D H) (H - 1 - h) else fun _ => 0) q = walkF D own (fun i => H - 1 - i) (backS D H) j) := by
        have hq := HQ.out
        have e1 : H - 1 - q = j := by omega
        show (if H - 1 - q < j + 1 then walkF D own (fun i => H - 1 - i) (backS D H) (H - 1 - q) else fun _ => 0) = _
        rw [e1, if_pos (by omega)]
      by_cases hj0 : j = 0
      · have ht : decide ((1 : Int) < ((j + 1 : Nat) : Int)) = false := by rw [decide_eq_false_iff_not]; omega
        have ht2 : decide ((1 : Int) < (j : Int) + 1) = false := by rw [decide_eq_false_iff_not]; omega
        clear hj0
        refine quiet_wide 37 (by kernel_rfl) (by kernel_rfl) ?_
        simp only [List.take_succ_cons, List.take_zero, List.drop_succ_cons, List.drop_zero]
        have h1 := HB4.out
        have h2 := HC4.out
        repeat (any_goals (first | go_big_quiet_step (fail) | quiet_step (fail)))
        refine wpQuiet_nil ?_
        rintro w5 ⟨⟨_, hx5⟩, rfl⟩
        clear h1 h2

        gi_wp2_with fail
        have HL5 := hid fun e : Later w5 => HL4.out ⟨e.1, Ext.trans hx5 e.grown⟩
        have HR5 := hid fun e : Later w5 => HR4.out ⟨e.1, Ext.trans hx5 e.grown⟩
        have HB5 := hid fun e : Later w5 => HB4.out ⟨e.1, Ext.trans hx5 e.grown⟩
        have HN5 := hid fun e : Later w5 => next_any b D S rs (walkF D own (fun i => H - 1 - i) (backS D H) j) (own p) (stepE D.drift p) (stepN D.drift p) e.val (HF.out.mono ((hI.out.1.trans HX4.out).trans (Ext.trans hx5 e.grown))) (walkF_bounds D HO.out _ _ j) (HO.out _) (by have := HBD.out; omega) (by have := HBD.out; omega)
        refine quiet_wide 13 (by kernel_rfl) (by kernel_rfl) ?_
        simp only [List.take_succ_cons, List.take_zero, List.drop_succ_cons, List.drop_zero]
        have h1 := HB5.out
        repeat (any_goals (first | (refine wpQuiet_load_row' (.tmp 100) rfl rfl (h := q) rfl (by omega) (by rintro _ ⟨e, rfl⟩; exact HL5.out e) (by omega) HWJ.out ?_) | (refine wpQuiet_load_row' (.tmp 104) rfl rfl (h := p) rfl (by omega) (by rintro _ ⟨e, rfl⟩; exact HR5.out e) (by omega) rfl ?_) | go_big_quiet_step ((go_at_call 99; with_reducible exact Cal.quiet (HN5.out _))) | quiet_step ((go_at_call 99; with_reducible exact Cal.quiet (HN5.out _)))))
        refine wpQuiet_nil ?_
        rintro w6 ⟨e6, rfl⟩
        have HL6 : Hid (RowsBlk e6.val (w.heap.size + 1) H (fun h => if H - 1 - h < j + 1 then walkF D own (fun i => H - 1 - i) (backS D H) (H - 1 - h) else fun _ => 0)) := HL5.out e6
        have HX6 : Hid (Ext w e6.val) := hI.out.1.trans (HX4.out.trans (Ext.trans hx5 e6.grown))
        have HG6 : Hid (e6.val.heap[w.heap.size]? = some (.cells #[.func (.func 103) #[] #[.pointer (some ⟨Bl, 0, none⟩)], .func (.func 104) #[] #[.pointer (some ⟨Bs, 0, none⟩), .pointer (some ⟨Bl, 0, none⟩)]] 129 (0, 0))) := Ext.block (HX4.out.trans (Ext.trans hx5 e6.grown)) hI.out.2.1
        generalize e6.val = w6 at *
        clear h1 HN5 HR5 HB5 HL5 HL4 HR4 HB4 HC4
        refine wpListIn_plain rfl fun K1 hK1 => ?_
        go_simp
        refine hK1 _ _ ?_
        refine wpListIn_plain rfl fun K2 hK2 => ?_
        refine wpIn_store_row (.tmp 108) (.tmp 107) rfl (fun _ => trivial) (h := p) (hx := rfl) (hy := rfl) HL6.out hpH ?_
        refine hK2 _ _ ?_
        gi_wp2_with fail
        have HI2 := hid (walk_stepB (f := walkF D own (fun i => H - 1 - i) (backS D H)) (k := j + 1) (W := w6) HX6.out (by omega) HG6.out HL6.out hlt HP.out (nextF D (walkF D own (fun i => H - 1 - i) (backS D H) j) (own p) (stepE D.drift p) (stepN D.drift p) (opens D.land (D.wide * D.high).toNat).length) (fun c _ => by rw [walkF_back, ← HP.out]))
        go_roundw
        case rel => exact ⟨j + 1 + 1, by omega, by omega, by go_num, HI2⟩
        case measure => simp [intOf]; omega
      · have ht : decide ((1 : Int) < ((j + 1 : Nat) : Int)) = true := by rw [decide_eq_true_eq]; omega
        have ht2 : decide ((1 : Int) < (j : Int) + 1) = true := by rw [decide_eq_true_eq]; omega
        have HWJ1 : Hid ((fun h => if H - 1 - h < j + 1 then walkF D own (fun i => H - 1 - i) (backS D H) (H - 1 - h) else fun _ => 0) r = walkF D own (fun i => H - 1 - i) (backS D H) (j - 1)) := by
          have hr := HRR.out
          have e1 : H - 1 - r = j - 1 := by omega
          show (if H - 1 - r < j + 1 then walkF D own (fun i => H - 1 - i) (backS D H) (H - 1 - r) else fun _ => 0) = _
          rw [e1, if_pos (by omega)]
        have hq1 : ((j + 1 : Nat) : Int) - 2 = ((j - 1 : Nat) : Int) := by omega
        have hq2 : (j : Int) + 1 - 2 = ((j - 1 : Nat) : Int) := by omega
        have hq3 : IntKind.i64.wrap ((j - 1 : Nat) : Int) = ((j - 1 : Nat) : Int) := by rw [IntKind.wrap_i64]; omega
        have HST4 : Hid (∀ e : Later w4, Cal 104 #[.int .i64 (j : Int), .pointer (some ⟨Bs, 0, none⟩), .pointer (some ⟨Bl, 0, none⟩)] e.val fun e' w' => e' = .returned (.agg #[.int .i64 (stepE D.drift q), .int .i64 (stepN D.drift q)]) ∧ Ext e.val w') := fun e => by
          have hst := steps_ok HSB.out
          have hll := HLL.out
          have hq := HQ.out
          have hXe := hI.out.1.trans (HX4.out.trans e.grown)
          have := backStep_any b Bs Bl S D.drift j L (by omega) (by have h1 := hst.1; rw [HH.out] at h1; omega) (by have h1 := hst.1; rw [HH.out] at h1; omega) (by omega) e.val (HF.out.at_.mono hXe) (HF.out.drift.mono hXe) (Ext.block hXe HBS.out) (Ext.block hXe HBL.out)
          rwa [show L - j = q by omega] at this
        have HBR4 := hid fun e : Later w4 => HBR.out e.val (HX4.out.trans e.grown)
        refine quiet_wide 37 (by kernel_rfl) (by kernel_rfl) ?_
        simp only [List.take_succ_cons, List.take_zero, List.drop_succ_cons, List.drop_zero]
        have h1 := HB4.out
        have h2 := HC4.out
        iterate 9 (first | go_big_quiet_step ((go_at_call 104; with_reducible exact Cal.quiet (HST4.out _))) | quiet_step ((go_at_call 104; with_reducible exact Cal.quiet (HST4.out _))))
        cases hen : (stepE D.drift p == stepE D.drift q && stepN D.drift p == stepN D.drift q) with
        | false =>
          refine wpQuiet_eql_step (.tmp 54) (.tmp 59) rfl rfl rfl rfl hen ?_
          clear hen
          repeat (any_goals (first | go_big_quiet_step (fail) | quiet_step (fail)))
          refine wpQuiet_nil ?_
          rintro w5 ⟨⟨_, hx5⟩, rfl⟩
          clear h1 h2
          gi_wp2_with fail
          have HL5 := hid fun e : Later w5 => HL4.out ⟨e.1, Ext.trans hx5 e.grown⟩
          have HR5 := hid fun e : Later w5 => HR4.out ⟨e.1, Ext.trans hx5 e.grown⟩
          have HB5 := hid fun e : Later w5 => HB4.out ⟨e.1, Ext.trans hx5 e.grown⟩
          have HN5 := hid fun e : Later w5 => next_any b D S rs (walkF D own (fun i => H - 1 - i) (backS D H) j) (own p) (stepE D.drift p) (stepN D.drift p) e.val (HF.out.mono ((hI.out.1.trans HX4.out).trans (Ext.trans hx5 e.grown))) (walkF_bounds D HO.out _ _ j) (HO.out _) (by have := HBD.out; omega) (by have := HBD.out; omega)
          refine quiet_wide 13 (by kernel_rfl) (by kernel_rfl) ?_
          simp only [List.take_succ_cons, List.take_zero, List.drop_succ_cons, List.drop_zero]
          have h1 := HB5.out
          repeat (any_goals (first | (refine wpQuiet_load_row' (.tmp 100) rfl rfl (h := q) rfl (by omega) (by rintro _ ⟨e, rfl⟩; exact HL5.out e) (by omega) HWJ.out ?_) | (refine wpQuiet_load_row' (.tmp 104) rfl rfl (h := p) rfl (by omega) (by rintro _ ⟨e, rfl⟩; exact HR5.out e) (by omega) rfl ?_) | go_big_quiet_step ((go_at_call 99; with_reducible exact Cal.quiet (HN5.out _))) | quiet_step ((go_at_call 99; with_reducible exact Cal.quiet (HN5.out _)))))
          refine wpQuiet_nil ?_
          rintro w6 ⟨e6, rfl⟩
          have HL6 : Hid (RowsBlk e6.val (w.heap.size + 1) H (fun h => if H - 1 - h < j + 1 then walkF D own (fun i => H - 1 - i) (backS D H) (H - 1 - h) else fun _ => 0)) := HL5.out e6
          have HX6 : Hid (Ext w e6.val) := hI.out.1.trans (HX4.out.trans (Ext.trans hx5 e6.grown))
          have HG6 : Hid (e6.val.heap[w.heap.size]? = some (.cells #[.func (.func 103) #[] #[.pointer (some ⟨Bl, 0, none⟩)], .func (.func 104) #[] #[.pointer (some ⟨Bs, 0, none⟩), .pointer (some ⟨Bl, 0, none⟩)]] 129 (0, 0))) := Ext.block (HX4.out.trans (Ext.trans hx5 e6.grown)) hI.out.2.1
          generalize e6.val = w6 at *
          clear h1 HN5 HR5 HB5 HL5 HL4 HR4 HB4 HC4
          refine wpListIn_plain rfl fun K1 hK1 => ?_
          go_simp
          refine hK1 _ _ ?_
          refine wpListIn_plain rfl fun K2 hK2 => ?_
          refine wpIn_store_row (.tmp 108) (.tmp 107) rfl (fun _ => trivial) (h := p) (hx := rfl) (hy := rfl) HL6.out hpH ?_
          refine hK2 _ _ ?_
          gi_wp2_with fail
          have HI2 := hid (walk_stepB (f := walkF D own (fun i => H - 1 - i) (backS D H)) (k := j + 1) (W := w6) HX6.out (by omega) HG6.out HL6.out hlt HP.out (nextF D (walkF D own (fun i => H - 1 - i) (backS D H) j) (own p) (stepE D.drift p) (stepN D.drift p) (opens D.land (D.wide * D.high).toNat).length) (fun c _ => by rw [walkF_back, ← HP.out]))
          go_roundw
          case rel => exact ⟨j + 1 + 1, by omega, by omega, by go_num, HI2⟩
          case measure => simp [intOf]; omega
        | true =>
          refine wpQuiet_eql_step (.tmp 54) (.tmp 59) rfl rfl rfl rfl hen ?_
          have HEN := hid hen
          clear hen
          iterate 10 (first | (refine wpQuiet_load_row' (.tmp 65) rfl rfl (h := p) rfl (by omega) (by rintro _ ⟨e, rfl⟩; exact HR4.out e) (by omega) rfl ?_) | (refine wpQuiet_load_row' (.tmp 69) rfl rfl (h := q) rfl (by omega) (by rintro _ ⟨e, rfl⟩; exact HR4.out e) (by omega) rfl ?_) | go_big_quiet_step (fail) | quiet_step (fail))
          cases heo : cntEq (own p) (own q) with
          | false =>
            refine wpQuiet_eql_cnt (.tmp 66) (.tmp 70) rfl rfl rfl rfl ?_
            rw [heo]
            clear heo
            repeat (any_goals (first | go_big_quiet_step (fail) | quiet_step (fail)))
            refine wpQuiet_nil ?_
            rintro w5 ⟨⟨_, hx5⟩, rfl⟩
            clear h1 h2
            gi_wp2_with fail
            have HL5 := hid fun e : Later w5 => HL4.out ⟨e.1, Ext.trans hx5 e.grown⟩
            have HR5 := hid fun e : Later w5 => HR4.out ⟨e.1, Ext.trans hx5 e.grown⟩
            have HB5 := hid fun e : Later w5 => HB4.out ⟨e.1, Ext.trans hx5 e.grown⟩
            have HN5 := hid fun e : Later w5 => next_any b D S rs (walkF D own (fun i => H - 1 - i) (backS D H) j) (own p) (stepE D.drift p) (stepN D.drift p) e.val (HF.out.mono ((hI.out.1.trans HX4.out).trans (Ext.trans hx5 e.grown))) (walkF_bounds D HO.out _ _ j) (HO.out _) (by have := HBD.out; omega) (by have := HBD.out; omega)
            refine quiet_wide 13 (by kernel_rfl) (by kernel_rfl) ?_
            simp only [List.take_succ_cons, List.take_zero, List.drop_succ_cons, List.drop_zero]
            have h1 := HB5.out
            repeat (any_goals (first | (refine wpQuiet_load_row' (.tmp 100) rfl rfl (h := q) rfl (by omega) (by rintro _ ⟨e, rfl⟩; exact HL5.out e) (by omega) HWJ.out ?_) | (refine wpQuiet_load_row' (.tmp 104) rfl rfl (h := p) rfl (by omega) (by rintro _ ⟨e, rfl⟩; exact HR5.out e) (by omega) rfl ?_) | go_big_quiet_step ((go_at_call 99; with_reducible exact Cal.quiet (HN5.out _))) | quiet_step ((go_at_call 99; with_reducible exact Cal.quiet (HN5.out _)))))
            refine wpQuiet_nil ?_
            rintro w6 ⟨e6, rfl⟩
            have HL6 : Hid (RowsBlk e6.val (w.heap.size + 1) H (fun h => if H - 1 - h < j + 1 then walkF D own (fun i => H - 1 - i) (backS D H) (H - 1 - h) else fun _ => 0)) := HL5.out e6
            have HX6 : Hid (Ext w e6.val) := hI.out.1.trans (HX4.out.trans (Ext.trans hx5 e6.grown))
            have HG6 : Hid (e6.val.heap[w.heap.size]? = some (.cells #[.func (.func 103) #[] #[.pointer (some ⟨Bl, 0, none⟩)], .func (.func 104) #[] #[.pointer (some ⟨Bs, 0, none⟩), .pointer (some ⟨Bl, 0, none⟩)]] 129 (0, 0))) := Ext.block (HX4.out.trans (Ext.trans hx5 e6.grown)) hI.out.2.1
            generalize e6.val = w6 at *
            clear h1 HN5 HR5 HB5 HL5 HL4 HR4 HB4 HC4
            refine wpListIn_plain rfl fun K1 hK1 => ?_
            go_simp
            refine hK1 _ _ ?_
            refine wpListIn_plain rfl fun K2 hK2 => ?_
            refine wpIn_store_row (.tmp 108) (.tmp 107) rfl (fun _ => trivial) (h := p) (hx := rfl) (hy := rfl) HL6.out hpH ?_
            refine hK2 _ _ ?_
            gi_wp2_with fail
            have HI2 := hid (walk_stepB (f := walkF D own (fun i => H - 1 - i) (backS D H)) (k := j + 1) (W := w6) HX6.out (by omega) HG6.out HL6.out hlt HP.out (nextF D (walkF D own (fun i => H - 1 - i) (backS D H) j) (own p) (stepE D.drift p) (stepN D.drift p) (opens D.land (D.wide * D.high).toNat).length) (fun c _ => by rw [walkF_back, ← HP.out]))
            go_roundw
            case rel => exact ⟨j + 1 + 1, by omega, by omega, by go_num, HI2⟩
            case measure => simp [intOf]; omega
          | true =>
            refine wpQuiet_eql_cnt (.tmp 66) (.tmp 70) rfl rfl rfl rfl ?_
            rw [heo]
            have HEO := hid heo
            clear heo
            iterate 14 (first | (refine wpQuiet_load_row' (.tmp 76) rfl rfl (h := q) rfl (by omega) (by rintro _ ⟨e, rfl⟩; exact HL4.out e) (by omega) HWJ.out ?_) | (refine wpQuiet_load_row' (.tmp 84) rfl rfl (h := r) rfl (by omega) (by rintro _ ⟨e, rfl⟩; exact HL4.out e) (by omega) HWJ1.out ?_) | go_big_quiet_step ((go_at_call 103; with_reducible exact Cal.quiet (HBR4.out _))) | quiet_step ((go_at_call 103; with_reducible exact Cal.quiet (HBR4.out _))))
            cases hew : cntEq (walkF D own (fun i => H - 1 - i) (backS D H) j) (walkF D own (fun i => H - 1 - i) (backS D H) (j - 1)) with
            | false =>
              refine wpQuiet_eql_cnt (.tmp 77) (.tmp 85) rfl rfl rfl rfl ?_
              rw [hew]
              clear hew
              repeat (any_goals (first | go_big_quiet_step (fail) | quiet_step (fail)))
              refine wpQuiet_nil ?_
              rintro w5 ⟨⟨_, hx5⟩, rfl⟩
              clear h1 h2
              gi_wp2_with fail
              have HL5 := hid fun e : Later w5 => HL4.out ⟨e.1, Ext.trans hx5 e.grown⟩
              have HR5 := hid fun e : Later w5 => HR4.out ⟨e.1, Ext.trans hx5 e.grown⟩
              have HB5 := hid fun e : Later w5 => HB4.out ⟨e.1, Ext.trans hx5 e.grown⟩
              have HN5 := hid fun e : Later w5 => next_any b D S rs (walkF D own (fun i => H - 1 - i) (backS D H) j) (own p) (stepE D.drift p) (stepN D.drift p) e.val (HF.out.mono ((hI.out.1.trans HX4.out).trans (Ext.trans hx5 e.grown))) (walkF_bounds D HO.out _ _ j) (HO.out _) (by have := HBD.out; omega) (by have := HBD.out; omega)
              refine quiet_wide 13 (by kernel_rfl) (by kernel_rfl) ?_
              simp only [List.take_succ_cons, List.take_zero, List.drop_succ_cons, List.drop_zero]
              have h1 := HB5.out
              repeat (any_goals (first | (refine wpQuiet_load_row' (.tmp 100) rfl rfl (h := q) rfl (by omega) (by rintro _ ⟨e, rfl⟩; exact HL5.out e) (by omega) HWJ.out ?_) | (refine wpQuiet_load_row' (.tmp 104) rfl rfl (h := p) rfl (by omega) (by rintro _ ⟨e, rfl⟩; exact HR5.out e) (by omega) rfl ?_) | go_big_quiet_step ((go_at_call 99; with_reducible exact Cal.quiet (HN5.out _))) | quiet_step ((go_at_call 99; with_reducible exact Cal.quiet (HN5.out _)))))
              refine wpQuiet_nil ?_
              rintro w6 ⟨e6, rfl⟩
              have HL6 : Hid (RowsBlk e6.val (w.heap.size + 1) H (fun h => if H - 1 - h < j + 1 then walkF D own (fun i => H - 1 - i) (backS D H) (H - 1 - h) else fun _ => 0)) := HL5.out e6
              have HX6 : Hid (Ext w e6.val) := hI.out.1.trans (HX4.out.trans (Ext.trans hx5 e6.grown))
              have HG6 : Hid (e6.val.heap[w.heap.size]? = some (.cells #[.func (.func 103) #[] #[.pointer (some ⟨Bl, 0, none⟩)], .func (.func 104) #[] #[.pointer (some ⟨Bs, 0, none⟩), .pointer (some ⟨Bl, 0, none⟩)]] 129 (0, 0))) := Ext.block (HX4.out.trans (Ext.trans hx5 e6.grown)) hI.out.2.1
              generalize e6.val = w6 at *
              clear h1 HN5 HR5 HB5 HL5 HL4 HR4 HB4 HC4
              refine wpListIn_plain rfl fun K1 hK1 => ?_
              go_simp
              refine hK1 _ _ ?_
              refine wpListIn_plain rfl fun K2 hK2 => ?_
              refine wpIn_store_row (.tmp 108) (.tmp 107) rfl (fun _ => trivial) (h := p) (hx := rfl) (hy := rfl) HL6.out hpH ?_
              refine hK2 _ _ ?_
              gi_wp2_with fail
              have HI2 := hid (walk_stepB (f := walkF D own (fun i => H - 1 - i) (backS D H)) (k := j + 1) (W := w6) HX6.out (by omega) HG6.out HL6.out hlt HP.out (nextF D (walkF D own (fun i => H - 1 - i) (backS D H) j) (own p) (stepE D.drift p) (stepN D.drift p) (opens D.land (D.wide * D.high).toNat).length) (fun c _ => by rw [walkF_back, ← HP.out]))
              go_roundw
              case rel => exact ⟨j + 1 + 1, by omega, by omega, by go_num, HI2⟩
              case measure => simp [intOf]; omega
            | true =>
              refine wpQuiet_eql_cnt (.tmp 77) (.tmp 85) rfl rfl rfl rfl ?_
              rw [hew]
              have HSAME := hid (walkF_same_back (seaB_80 HSB.out) hj0 HP.out HQ.out HEN.out HEO.out hew)
              clear hew
              repeat (any_goals (first | go_big_quiet_step (fail) | quiet_step (fail)))
              refine wpQuiet_nil ?_
              rintro w5 ⟨⟨_, hx5⟩, rfl⟩
              clear h1 h2
              have HL50 := hid (HL4.out ⟨w5, hx5⟩)
              have HX6 : Hid (Ext w w5) := hI.out.1.trans (HX4.out.trans hx5)
              have HG6 : Hid (w5.heap[w.heap.size]? = some (.cells #[.func (.func 103) #[] #[.pointer (some ⟨Bl, 0, none⟩)], .func (.func 104) #[] #[.pointer (some ⟨Bs, 0, none⟩), .pointer (some ⟨Bl, 0, none⟩)]] 129 (0, 0))) := Ext.block (HX4.out.trans hx5) hI.out.2.1
              have HWF : Hid (∀ f, Fence.wide.fn f) := fun _ => trivial
              have HOFF : Hid (q * 80 = q * 80) := rfl
              gi_wp2_with (first | ((with_reducible refine wpList_load_row (.tmp 92) HWF.out HL50.out (h := q) hqH HWJ.out (off := q * 80) HOFF.out ?_ ?_ ?_ ?_); exact rfl; exact rfl; exact rfl) | ((with_reducible refine wpList_store_row (.tmp 94) (.tmp 93) HWF.out HL50.out hpH (f := walkF D own (fun i => H - 1 - i) (backS D H) j) (off := p * 80) (Eq.refl _) ?_ ?_ ?_ ?_ ?_); exact rfl; exact rfl; exact rfl; exact rfl))
              have HI2 := hid (walk_stepB (f := walkF D own (fun i => H - 1 - i) (backS D H)) (k := j + 1) (W := w5) HX6.out (by omega) HG6.out HL50.out hlt HP.out (walkF D own (fun i => H - 1 - i) (backS D H) j) (fun c hc => HSAME.out c hc))
              go_roundw
              case rel => exact ⟨j + 1 + 1, by omega, by omega, by go_num, HI2⟩
              case measure => simp [intOf]; omega
    · obtain rfl : k = H := by omega
      have HI2 := hid hI.out
      clear hI
      gi_wp2
      go_ret
      refine ⟨_, rfl, HI2.out.1, by omega, HI2.out.2.2.congr fun i c hi hc => by rw [if_pos (by omega)]⟩
end Go.Proofs.Ytiklblbjnblkfaa
