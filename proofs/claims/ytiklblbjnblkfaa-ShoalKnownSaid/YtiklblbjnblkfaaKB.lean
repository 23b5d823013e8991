/- What is said of single seas, reports and casts (a closed statement). -/
import Derived.Test.YtiklblbjnblkfaaKA
set_option linter.unusedSimpArgs false
set_option linter.unusedVariables false
namespace Go.Proofs.Ytiklblbjnblkfaa
open Go Go.RowKit Go.Shelf

theorem alloc_at (w : World) (o : Obj) (k : Nat) : (w.alloc o).heap[k]? = if k = w.heap.size then some o else w.heap[k]? := by
  show (w.heap.push o)[k]? = _
  rw [Array.getElem?_push]
structure KSt (w W : World) (B b1 b2 b3 b4 b5 b6 b7 : Nat) (cs : Array Value) (e : Int) : Prop where
  ext : Ext w W
  ge : w.heap.size ≤ B
  ge5 : w.heap.size ≤ b5
  blk : W.heap[B]? = some (.cells cs 25 (0, 0))
  d1 : W.heap[b1]? = some (.cells (driftC 1) 70 (0, 0))
  d2 : W.heap[b2]? = some (.cells (driftC 1) 70 (0, 0))
  d3 : W.heap[b3]? = some (.cells (driftC 1) 70 (0, 0))
  d4 : W.heap[b4]? = some (.cells (driftC 1) 70 (0, 0))
  d5 : W.heap[b5]? = some (.cells (driftC e) 70 (0, 0))
  d6 : W.heap[b6]? = some (.cells (driftC 1) 70 (0, 0))
  d7 : W.heap[b7]? = some (.cells (driftC 1) 70 (0, 0))
  lt : b1 < b2 ∧ b2 < b3 ∧ b3 < b4 ∧ b4 < b5 ∧ b5 < b6 ∧ b6 < b7 ∧ b7 < B
section
variable {w W : World} {B b1 b2 b3 b4 b5 b6 b7 : Nat} {cs : Array Value} {e : Int}
theorem KSt.set (h : KSt w W B b1 b2 b3 b4 b5 b6 b7 cs e) (o : Nat) (v : Value) : KSt w (W.setCell ⟨B, o, none⟩ v) B b1 b2 b3 b4 b5 b6 b7 (cs.setIfInBounds o v) e := by
  have hl := h.lt
  refine ⟨h.ext.set h.ge _ _, h.ge, h.ge5, heap_setCell_same W B o cs 25 v h.blk, ?_, ?_, ?_, ?_, ?_, ?_, ?_, hl⟩
  · rw [heap_setCell_other W ⟨B, o, none⟩ b1 v (by show b1 ≠ B; omega)]; exact h.d1
  · rw [heap_setCell_other W ⟨B, o, none⟩ b2 v (by show b2 ≠ B; omega)]; exact h.d2
  · rw [heap_setCell_other W ⟨B, o, none⟩ b3 v (by show b3 ≠ B; omega)]; exact h.d3
  · rw [heap_setCell_other W ⟨B, o, none⟩ b4 v (by show b4 ≠ B; omega)]; exact h.d4
  · rw [heap_setCell_other W ⟨B, o, none⟩ b5 v (by show b5 ≠ B; omega)]; exact h.d5
  · rw [heap_setCell_other W ⟨B, o, none⟩ b6 v (by show b6 ≠ B; omega)]; exact h.d6
  · rw [heap_setCell_other W ⟨B, o, none⟩ b7 v (by show b7 ≠ B; omega)]; exact h.d7
theorem KSt.setD (h : KSt w W B b1 b2 b3 b4 b5 b6 b7 cs e) (e' : Int) : KSt w (W.setCell ⟨b5, 0, none⟩ (.int .i64 e')) B b1 b2 b3 b4 b5 b6 b7 cs e' := by
  have hl := h.lt
  refine ⟨h.ext.set h.ge5 _ _, h.ge, h.ge5, ?_, ?_, ?_, ?_, ?_, heap_setCell_same W b5 0 (driftC e) 70 (.int .i64 e') h.d5, ?_, ?_, hl⟩
  · rw [heap_setCell_other W ⟨b5, 0, none⟩ B _ (by show B ≠ b5; omega)]; exact h.blk
  · rw [heap_setCell_other W ⟨b5, 0, none⟩ b1 _ (by show b1 ≠ b5; omega)]; exact h.d1
  · rw [heap_setCell_other W ⟨b5, 0, none⟩ b2 _ (by show b2 ≠ b5; omega)]; exact h.d2
  · rw [heap_setCell_other W ⟨b5, 0, none⟩ b3 _ (by show b3 ≠ b5; omega)]; exact h.d3
  · rw [heap_setCell_other W ⟨b5, 0, none⟩ b4 _ (by show b4 ≠ b5; omega)]; exact h.d4
  · rw [heap_setCell_other W ⟨b5, 0, none⟩ b6 _ (by show b6 ≠ b5; omega)]; exact h.d6
  · rw [heap_setCell_other W ⟨b5, 0, none⟩ b7 _ (by show b7 ≠ b5; omega)]; exact h.d7
theorem KSt.alloc (h : KSt w W B b1 b2 b3 b4 b5 b6 b7 cs e) (o : Obj) : KSt w (W.alloc o) B b1 b2 b3 b4 b5 b6 b7 cs e := by
  have hx : Ext W (W.alloc o) := (Ext.refl W).alloc o
  exact ⟨h.ext.trans hx, h.ge, h.ge5, hx.block h.blk, hx.block h.d1, hx.block h.d2, hx.block h.d3, hx.block h.d4, hx.block h.d5, hx.block h.d6, hx.block h.d7, h.lt⟩
theorem bad_at {A6 A7 : Nat} (K : KSt w W B b1 b2 b3 b4 b5 b6 b7 #[.int .i64 0, .int .i64 0, .slice none 0 0, .int .i64 0, .slice none 0 0, .int .i64 0, .int .i64 11, .int .i64 1, .slice none 0 0, .int .i64 3, .slice (some ⟨b1, 0, none⟩) 2 2, .int .i64 1, .int .i64 4, .int .i64 0, .slice none 0 0, .int .i64 3, .slice (some ⟨b2, 0, none⟩) 2 2, .int .i64 1, .int .i64 4, .int .i64 1, .slice none 0 0, .int .i64 13, .slice (some ⟨b3, 0, none⟩) 2 2, .int .i64 1, .int .i64 4, .int .i64 1, .slice none 0 0, .int .i64 3, .slice (some ⟨b4, 0, none⟩) 1 2, .int .i64 1, .int .i64 4, .int .i64 1, .slice none 0 0, .int .i64 3, .slice (some ⟨b5, 0, none⟩) 2 2, .int .i64 1, .int .i64 4, .int .i64 1, .slice (some ⟨A6, 0, none⟩) 1 1, .int .i64 3, .slice (some ⟨b6, 0, none⟩) 2 2, .int .i64 1, .int .i64 4, .int .i64 1, .slice (some ⟨A7, 0, none⟩) 2 2, .int .i64 3, .slice (some ⟨b7, 0, none⟩) 2 2, .int .i64 1] 3) (h6 : W.heap[A6]? = some (.cells #[.int .i64 4] 3 (0, 0))) (h7 : W.heap[A7]? = some (.cells #[.int .i64 1, .int .i64 1] 3 (0, 0))) : BadAt W B := by
  intro k hk
  have hB := lt_of_block K.blk
  have hc := cell_of K.blk
  have i6 : IntsAt W (.slice (some ⟨A6, 0, none⟩) 1 1) [4] := ⟨_, 1, rfl, by simp, fun i hi => ⟨A6, 0, rfl, lt_of_block h6, by rw [cell_of h6, Nat.zero_add]; obtain rfl : i = 0 := (by simp at hi; omega); rfl⟩⟩
  have i7 : IntsAt W (.slice (some ⟨A7, 0, none⟩) 2 2) [1, 1] := ⟨_, 2, rfl, by simp, fun i hi => ⟨A7, 0, rfl, lt_of_block h7, by rw [cell_of h7, Nat.zero_add]; rcases (by simp at hi; omega : i = 0 ∨ i = 1) with rfl | rfl <;> rfl⟩⟩
  rcases (by omega : k = 0 ∨ k = 1 ∨ k = 2 ∨ k = 3 ∨ k = 4 ∨ k = 5 ∨ k = 6 ∨ k = 7) with rfl | rfl | rfl | rfl | rfl | rfl | rfl | rfl
  · exact ⟨⟨0, 0, [], 0, [], 0⟩, _, _, by kernel_rfl, hB, (hc _).trans rfl, (hc _).trans rfl, (hc _).trans rfl, (hc _).trans rfl, (hc _).trans rfl, (hc _).trans rfl, ints_nil _, steps_nil _⟩
  · exact ⟨⟨11, 1, [], 3, [⟨1, 0⟩, ⟨0, 0⟩], 1⟩, _, _, by kernel_rfl, hB, (hc _).trans rfl, (hc _).trans rfl, (hc _).trans rfl, (hc _).trans rfl, (hc _).trans rfl, (hc _).trans rfl, ints_nil _, drift_at K.d1⟩
  · exact ⟨⟨4, 0, [], 3, [⟨1, 0⟩, ⟨0, 0⟩], 1⟩, _, _, by kernel_rfl, hB, (hc _).trans rfl, (hc _).trans rfl, (hc _).trans rfl, (hc _).trans rfl, (hc _).trans rfl, (hc _).trans rfl, ints_nil _, drift_at K.d2⟩
  · exact ⟨⟨4, 1, [], 13, [⟨1, 0⟩, ⟨0, 0⟩], 1⟩, _, _, by kernel_rfl, hB, (hc _).trans rfl, (hc _).trans rfl, (hc _).trans rfl, (hc _).trans rfl, (hc _).trans rfl, (hc _).trans rfl, ints_nil _, drift_at K.d3⟩
  · exact ⟨⟨4, 1, [], 3, [⟨1, 0⟩], 1⟩, _, _, by kernel_rfl, hB, (hc _).trans rfl, (hc _).trans rfl, (hc _).trans rfl, (hc _).trans rfl, (hc _).trans rfl, (hc _).trans rfl, ints_nil _, drift_one K.d4⟩
  · exact ⟨⟨4, 1, [], 3, [⟨3, 0⟩, ⟨0, 0⟩], 1⟩, _, _, by kernel_rfl, hB, (hc _).trans rfl, (hc _).trans rfl, (hc _).trans rfl, (hc _).trans rfl, (hc _).trans rfl, (hc _).trans rfl, ints_nil _, drift_at K.d5⟩
  · exact ⟨⟨4, 1, [4], 3, [⟨1, 0⟩, ⟨0, 0⟩], 1⟩, _, _, by kernel_rfl, hB, (hc _).trans rfl, (hc _).trans rfl, (hc _).trans rfl, (hc _).trans rfl, (hc _).trans rfl, (hc _).trans rfl, i6, drift_at K.d6⟩
  · exact ⟨⟨4, 1, [1, 1], 3, [⟨1, 0⟩, ⟨0, 0⟩], 1⟩, _, _, by kernel_rfl, hB, (hc _).trans rfl, (hc _).trans rfl, (hc _).trans rfl, (hc _).trans rfl, (hc _).trans rfl, (hc _).trans rfl, i7, drift_at K.d7⟩
end
theorem bad_get {W : World} {B : Nat} (h : BadAt W B) {k : Nat} (hk : k < 8) : ∃ D lv dv, seaB D = false ∧ ∀ u, Ext W u → (u.cell? ⟨B, k * 6, none⟩ = some (.int .i64 D.wide) ∧ u.cell? ⟨B, k * 6 + 1, none⟩ = some (.int .i64 D.high) ∧
    u.cell? ⟨B, k * 6 + 2, none⟩ = some lv ∧ u.cell? ⟨B, k * 6 + 3, none⟩ = some (.int .i64 D.hours) ∧ u.cell? ⟨B, k * 6 + 4, none⟩ = some dv ∧ u.cell? ⟨B, k * 6 + 5, none⟩ = some (.int .i64 D.speed)) ∧ IntsAt u lv D.land ∧ StepsAt u dv D.drift := by
  obtain ⟨D, lv, dv, hb, hB, c0, c1, c2, c3, c4, c5, hl, hd⟩ := h k hk
  refine ⟨D, lv, dv, hb, fun u hx => ⟨⟨?_, ?_, ?_, ?_, ?_, ?_⟩, hl.mono hx, hd.mono hx⟩⟩
  · rw [hx.cell (p := ⟨B, _, none⟩) hB]; exact c0
  · rw [hx.cell (p := ⟨B, _, none⟩) hB]; exact c1
  · rw [hx.cell (p := ⟨B, _, none⟩) hB]; exact c2
  · rw [hx.cell (p := ⟨B, _, none⟩) hB]; exact c3
  · rw [hx.cell (p := ⟨B, _, none⟩) hB]; exact c4
  · rw [hx.cell (p := ⟨B, _, none⟩) hB]; exact c5
theorem wrong_get {W : World} {B : Nat} (h : WrongAt W B) {k : Nat} (hk : k < 7) : ∃ rv rs, repsB 3 4 rs = false ∧ ∀ u, Ext W u → u.cell? ⟨B, k, none⟩ = some rv ∧ RepsAt u rv rs := by
  obtain ⟨rv, rs, hb, hB, c0, hr⟩ := h k hk
  exact ⟨rv, rs, hb, fun u hx => ⟨by rw [hx.cell (p := ⟨B, _, none⟩) hB]; exact c0, hr.mono hx⟩⟩
def pRv (v : Value) (u : World) : Prop := RepsAt u v (zeroReps 25)
def pAny (v : Value) (u : World) : Prop := True
def pRow (v : Value) (u : World) : Prop := ∃ b, v = .agg #[.int .i64 4, .int .i64 1, .slice none 0 0, .int .i64 3, .slice (some ⟨b, 0, none⟩) 2 2, .int .i64 1] ∧ u.heap[b]? = some (.cells (driftC 1) 70 (0, 0))
def pT3 (E : Int) (v : Value) (u : World) : Prop := ∃ n r, v = .tuple #[n, r, .int .i64 E]
def pT2 (E : Int) (v : Value) (u : World) : Prop := ∃ r, v = .tuple #[r, .int .i64 E]
def pCv (v : Value) (u : World) : Prop := CastsAt u v (zeroCasts 9)
def kStab (ps : Preds) : Prop := ∀ i p, psAt ps i = some p → ∀ v u u', p v u → Ext u u' → p v u'
theorem kStab_nil : kStab [] := fun i p h => by cases h
theorem kStab_cons {k : Nat} {q : Value → World → Prop} {ps : Preds} (hq : ∀ v u u', q v u → Ext u u' → q v u') (h : kStab ps) : kStab ((k, q) :: ps) := fun i p hp v u u' hv hx => by
  unfold psAt at hp
  split at hp
  · cases hp; exact hq v u u' hv hx
  · exact h i p hp v u u' hv hx
theorem pRv_s : ∀ v u u', pRv v u → Ext u u' → pRv v u' := fun _ _ _ h k => h.mono k
theorem pCv_s : ∀ v u u', pCv v u → Ext u u' → pCv v u' := fun _ _ _ h k => CastsAt.mono h k
theorem pAny_s : ∀ v u u', pAny v u → Ext u u' → pAny v u' := fun _ _ _ h k => h
theorem pRow_s : ∀ v u u', pRow v u → Ext u u' → pRow v u' := fun _ _ _ ⟨b, h, hb⟩ k => ⟨b, h, k.block hb⟩
theorem pT3_s (E : Int) : ∀ v u u', pT3 E v u → Ext u u' → pT3 E v u' := fun _ _ _ h k => h
theorem pT2_s (E : Int) : ∀ v u u', pT2 E v u → Ext u u' → pT2 E v u' := fun _ _ _ h k => h
theorem gives_part {F : Fence} {n : Nat} {P : Program} {R : World → World → Prop} {o : Oper} {a : Act} {w : World} {V : Value → World → Prop} (x : Operand) (i : Nat) (ho : o.op = .extract x i) {vs : Array Value} {v : Value} (hx : a.eval x = .tuple vs) (hv : vs[i]? = some v) (h : V v w ∧ R w w) : gives F n P R o a w V := by
  unfold gives
  rw [Oper.semAt_eq _ _ _ (by rw [ho]; intro c h; cases h)]
  unfold execOp
  simp [ho, hx, Instr.extract, hv]
  exact h


theorem reps_one {w : World} {b : Nat} {h c f : Int} (hb : w.heap[b]? = some (.cells #[.int .i64 h, .int .i64 c, .int .i64 f, .bool false] 52 (0, 0))) : RepsAt w (.slice (some ⟨b, 0, none⟩) 1 1) [⟨h, c, f, false⟩] :=
  ⟨_, 1, rfl, by simp, fun i hi => ⟨b, 0, rfl, lt_of_block hb, by obtain rfl : i = 0 := (by simp at hi; omega); exact ⟨(cell_of hb _).trans rfl, (cell_of hb _).trans rfl, (cell_of hb _).trans rfl, (cell_of hb _).trans rfl⟩⟩⟩
theorem land_sv (a b : Nat) : Value.agg #[.int .i64 4, .int .i64 1, .slice (some ⟨a, 0, none⟩) 4 4, .int .i64 3, .slice (some ⟨b, 0, none⟩) 2 2, .int .i64 1] = seaVal landD (.slice (some ⟨a, 0, none⟩) 4 4) (.slice (some ⟨b, 0, none⟩) 2 2) := rfl
theorem k_sv (D : SeaD) (lv dv : Value) : Value.agg #[.int .i64 D.wide, .int .i64 D.high, lv, .int .i64 D.hours, dv, .int .i64 D.speed] = seaVal D lv dv := rfl
theorem wrong_at {W : World} {a0 a1 a2 a3 a4 a5 a6 B : Nat} (h0 : W.heap[a0]? = some (.cells #[.int .i64 3, .int .i64 0, .int .i64 0, .bool false] 52 (0, 0))) (h1 : W.heap[a1]? = some (.cells #[.int .i64 (-1), .int .i64 0, .int .i64 0, .bool false] 52 (0, 0))) (h2 : W.heap[a2]? = some (.cells #[.int .i64 0, .int .i64 4, .int .i64 0, .bool false] 52 (0, 0))) (h3 : W.heap[a3]? = some (.cells #[.int .i64 0, .int .i64 (-1), .int .i64 0, .bool false] 52 (0, 0))) (h4 : W.heap[a4]? = some (.cells #[.int .i64 0, .int .i64 0, .int .i64 10, .bool false] 52 (0, 0))) (h5 : W.heap[a5]? = some (.cells #[.int .i64 0, .int .i64 0, .int .i64 (-1), .bool false] 52 (0, 0))) (h6 : RepsAt W (.slice (some ⟨a6, 0, none⟩) 25 25) (zeroReps 25)) (hB : W.heap[B]? = some (.cells #[.slice (some ⟨a0, 0, none⟩) 1 1, .slice (some ⟨a1, 0, none⟩) 1 1, .slice (some ⟨a2, 0, none⟩) 1 1, .slice (some ⟨a3, 0, none⟩) 1 1, .slice (some ⟨a4, 0, none⟩) 1 1, .slice (some ⟨a5, 0, none⟩) 1 1, .slice (some ⟨a6, 0, none⟩) 25 25] 26 (0, 0))) : WrongAt W B := by
  intro k hk
  have hl := lt_of_block hB
  have hc := cell_of hB
  rcases (by omega : k = 0 ∨ k = 1 ∨ k = 2 ∨ k = 3 ∨ k = 4 ∨ k = 5 ∨ k = 6) with rfl | rfl | rfl | rfl | rfl | rfl | rfl
  · exact ⟨_, _, by kernel_rfl, hl, (hc _).trans rfl, reps_one h0⟩
  · exact ⟨_, _, by kernel_rfl, hl, (hc _).trans rfl, reps_one h1⟩
  · exact ⟨_, _, by kernel_rfl, hl, (hc _).trans rfl, reps_one h2⟩
  · exact ⟨_, _, by kernel_rfl, hl, (hc _).trans rfl, reps_one h3⟩
  · exact ⟨_, _, by kernel_rfl, hl, (hc _).trans rfl, reps_one h4⟩
  · exact ⟨_, _, by kernel_rfl, hl, (hc _).trans rfl, reps_one h5⟩
  · exact ⟨_, _, z25, hl, (hc _).trans rfl, h6⟩

set_option maxRecDepth 1000000 in
set_option maxHeartbeats 0 in
theorem Known_any (w : World) : Cal 15 #[] w fun e w' => e = .returned (.bool true) ∧ Ext w w' := by
  gi_enter Try.func15, Try.ntmps15
  have hk0 : True := trivial
  gi_upto_region 2 with (first | (have _ := hk6; gi_at_call 45; ((with_reducible refine (row_known _).mono ?_); rintro e w7 ⟨b7, rfl, hx7, hb7, hd7⟩; have hk7 : True := trivial)) | (have _ := hk5; gi_at_call 45; ((with_reducible refine (row_known _).mono ?_); rintro e w6 ⟨b6, rfl, hx6, hb6, hd6⟩; have hk6 : True := trivial)) | (have _ := hk4; gi_at_call 45; ((with_reducible refine (row_known _).mono ?_); rintro e w5 ⟨b5, rfl, hx5, hb5, hd5⟩; have hk5 : True := trivial)) | (have _ := hk3; gi_at_call 45; ((with_reducible refine (row_known _).mono ?_); rintro e w4 ⟨b4, rfl, hx4, hb4, hd4⟩; have hk4 : True := trivial)) | (have _ := hk2; gi_at_call 45; ((with_reducible refine (row_known _).mono ?_); rintro e w3 ⟨b3, rfl, hx3, hb3, hd3⟩; have hk3 : True := trivial)) | (have _ := hk1; gi_at_call 45; ((with_reducible refine (row_known _).mono ?_); rintro e w2 ⟨b2, rfl, hx2, hb2, hd2⟩; have hk2 : True := trivial)) | (have _ := hk0; gi_at_call 45; ((with_reducible refine (row_known _).mono ?_); rintro e w1 ⟨b1, rfl, hx1, hb1, hd1⟩; have hk1 : True := trivial)))
  have K0 : KSt w (w7.alloc (.cells #[.int .i64 0, .int .i64 0, .slice none 0 0, .int .i64 0, .slice none 0 0, .int .i64 0, .int .i64 4, .int .i64 1, .slice none 0 0, .int .i64 3, .slice (some ⟨b1, 0, none⟩) 2 2, .int .i64 1, .int .i64 4, .int .i64 1, .slice none 0 0, .int .i64 3, .slice (some ⟨b2, 0, none⟩) 2 2, .int .i64 1, .int .i64 4, .int .i64 1, .slice none 0 0, .int .i64 3, .slice (some ⟨b3, 0, none⟩) 2 2, .int .i64 1, .int .i64 4, .int .i64 1, .slice none 0 0, .int .i64 3, .slice (some ⟨b4, 0, none⟩) 2 2, .int .i64 1, .int .i64 4, .int .i64 1, .slice none 0 0, .int .i64 3, .slice (some ⟨b5, 0, none⟩) 2 2, .int .i64 1, .int .i64 4, .int .i64 1, .slice none 0 0, .int .i64 3, .slice (some ⟨b6, 0, none⟩) 2 2, .int .i64 1, .int .i64 4, .int .i64 1, .slice none 0 0, .int .i64 3, .slice (some ⟨b7, 0, none⟩) 2 2, .int .i64 1] 25)) w7.heap.size b1 b2 b3 b4 b5 b6 b7 #[.int .i64 0, .int .i64 0, .slice none 0 0, .int .i64 0, .slice none 0 0, .int .i64 0, .int .i64 4, .int .i64 1, .slice none 0 0, .int .i64 3, .slice (some ⟨b1, 0, none⟩) 2 2, .int .i64 1, .int .i64 4, .int .i64 1, .slice none 0 0, .int .i64 3, .slice (some ⟨b2, 0, none⟩) 2 2, .int .i64 1, .int .i64 4, .int .i64 1, .slice none 0 0, .int .i64 3, .slice (some ⟨b3, 0, none⟩) 2 2, .int .i64 1, .int .i64 4, .int .i64 1, .slice none 0 0, .int .i64 3, .slice (some ⟨b4, 0, none⟩) 2 2, .int .i64 1, .int .i64 4, .int .i64 1, .slice none 0 0, .int .i64 3, .slice (some ⟨b5, 0, none⟩) 2 2, .int .i64 1, .int .i64 4, .int .i64 1, .slice none 0 0, .int .i64 3, .slice (some ⟨b6, 0, none⟩) 2 2, .int .i64 1, .int .i64 4, .int .i64 1, .slice none 0 0, .int .i64 3, .slice (some ⟨b7, 0, none⟩) 2 2, .int .i64 1] 1 := by
    have l1 := lt_of_block hd1
    have l2 := lt_of_block hd2
    have l3 := lt_of_block hd3
    have l4 := lt_of_block hd4
    have l5 := lt_of_block hd5
    have l6 := lt_of_block hd6
    have l7 := lt_of_block hd7
    have s1 := hx1.size
    have s2 := hx2.size
    have s3 := hx3.size
    have s4 := hx4.size
    have s5 := hx5.size
    have s6 := hx6.size
    have s7 := hx7.size
    have hW : Ext w7 (w7.alloc (.cells #[.int .i64 0, .int .i64 0, .slice none 0 0, .int .i64 0, .slice none 0 0, .int .i64 0, .int .i64 4, .int .i64 1, .slice none 0 0, .int .i64 3, .slice (some ⟨b1, 0, none⟩) 2 2, .int .i64 1, .int .i64 4, .int .i64 1, .slice none 0 0, .int .i64 3, .slice (some ⟨b2, 0, none⟩) 2 2, .int .i64 1, .int .i64 4, .int .i64 1, .slice none 0 0, .int .i64 3, .slice (some ⟨b3, 0, none⟩) 2 2, .int .i64 1, .int .i64 4, .int .i64 1, .slice none 0 0, .int .i64 3, .slice (some ⟨b4, 0, none⟩) 2 2, .int .i64 1, .int .i64 4, .int .i64 1, .slice none 0 0, .int .i64 3, .slice (some ⟨b5, 0, none⟩) 2 2, .int .i64 1, .int .i64 4, .int .i64 1, .slice none 0 0, .int .i64 3, .slice (some ⟨b6, 0, none⟩) 2 2, .int .i64 1, .int .i64 4, .int .i64 1, .slice none 0 0, .int .i64 3, .slice (some ⟨b7, 0, none⟩) 2 2, .int .i64 1] 25)) := (Ext.refl _).alloc _
    refine ⟨hx1.trans (hx2.trans (hx3.trans (hx4.trans (hx5.trans (hx6.trans (hx7.trans hW)))))), by omega, by omega, Ext.new (Ext.refl _), ?_, ?_, ?_, ?_, ?_, ?_, ?_, by omega⟩
    · exact Ext.block (hx2.trans (hx3.trans (hx4.trans (hx5.trans (hx6.trans (hx7.trans hW)))))) hd1
    · exact Ext.block (hx3.trans (hx4.trans (hx5.trans (hx6.trans (hx7.trans hW))))) hd2
    · exact Ext.block (hx4.trans (hx5.trans (hx6.trans (hx7.trans hW)))) hd3
    · exact Ext.block (hx5.trans (hx6.trans (hx7.trans hW))) hd4
    · exact Ext.block (hx6.trans (hx7.trans hW)) hd5
    · exact Ext.block (hx7.trans hW) hd6
    · exact Ext.block (hW) hd7
  clear hk0 hk1 hk2 hk3 hk4 hk5 hk6 hk7 hx7 hb7 hd7 hx6 hb6 hd6 hx5 hb5 hd5 hx4 hb4 hd4 hx3 hb3 hd3 hx2 hb2 hd2 hx1 hb1 hd1
  generalize w7.alloc (.cells #[.int .i64 0, .int .i64 0, .slice none 0 0, .int .i64 0, .slice none 0 0, .int .i64 0, .int .i64 4, .int .i64 1, .slice none 0 0, .int .i64 3, .slice (some ⟨b1, 0, none⟩) 2 2, .int .i64 1, .int .i64 4, .int .i64 1, .slice none 0 0, .int .i64 3, .slice (some ⟨b2, 0, none⟩) 2 2, .int .i64 1, .int .i64 4, .int .i64 1, .slice none 0 0, .int .i64 3, .slice (some ⟨b3, 0, none⟩) 2 2, .int .i64 1, .int .i64 4, .int .i64 1, .slice none 0 0, .int .i64 3, .slice (some ⟨b4, 0, none⟩) 2 2, .int .i64 1, .int .i64 4, .int .i64 1, .slice none 0 0, .int .i64 3, .slice (some ⟨b5, 0, none⟩) 2 2, .int .i64 1, .int .i64 4, .int .i64 1, .slice none 0 0, .int .i64 3, .slice (some ⟨b6, 0, none⟩) 2 2, .int .i64 1, .int .i64 4, .int .i64 1, .slice none 0 0, .int .i64 3, .slice (some ⟨b7, 0, none⟩) 2 2, .int .i64 1] 25) = W at *
  generalize w7.heap.size = B at *
  have hc := cell_of K0.blk
  have hf := free_of K0.blk
  gi_upto_region 5 with fail
  clear hc hf
  have K1 := ((K0.set 6 (.int .i64 11)).set 13 (.int .i64 0)).set 21 (.int .i64 13)
  simp only [List.setIfInBounds_toArray, List.set_cons_succ, List.set_cons_zero] at K1
  generalize ((W.setCell ⟨B, 6, none⟩ (.int .i64 11)).setCell ⟨B, 13, none⟩ (.int .i64 0)).setCell ⟨B, 21, none⟩ (.int .i64 13) = W1 at *
  clear K0
  have hc := cell_of K1.blk
  have hf := free_of K1.blk
  gi_upto_region 6 with fail
  clear hc hf
  have K2 := K1.set 28 (.slice (some ⟨b4, 0, none⟩) 1 2)
  simp only [List.setIfInBounds_toArray, List.set_cons_succ, List.set_cons_zero] at K2
  generalize W1.setCell ⟨B, 28, none⟩ (.slice (some ⟨b4, 0, none⟩) 1 2) = W2 at *
  clear K1
  have hc := cell_of K2.blk
  have hf := free_of K2.d5
  have hc5 := cell_of K2.d5
  simp only [driftC] at hc5
  gi_upto_region 7 with fail
  clear hc hf hc5
  have K3 := K2.setD 3
  generalize W2.setCell ⟨b5, 0, none⟩ (.int .i64 3) = W3 at *
  clear K2
  have hc := cell_of (K3.alloc (.cells #[.int .i64 4] 3)).blk
  have hf := free_of (K3.alloc (.cells #[.int .i64 4] 3)).blk
  have hc' := cell_of K3.blk
  have hf' := free_of K3.blk
  have hl : B ≠ W3.heap.size := by have := lt_of_block K3.blk; omega
  gi_upto_region 8 with fail
  clear hc hf hc' hf'
  have K4 := (K3.alloc (.cells #[.int .i64 4] 3)).set 38 (.slice (some ⟨W3.heap.size, 0, none⟩) 1 1)
  simp only [List.setIfInBounds_toArray, List.set_cons_succ, List.set_cons_zero] at K4
  have hA6 : ((W3.alloc (.cells #[.int .i64 4] 3)).setCell ⟨B, 38, none⟩ (.slice (some ⟨W3.heap.size, 0, none⟩) 1 1)).heap[W3.heap.size]? = some (.cells #[.int .i64 4] 3 (0, 0)) := by
    rw [heap_setCell_other _ ⟨B, 38, none⟩ W3.heap.size _ (by show W3.heap.size ≠ B; omega)]; exact Ext.new (Ext.refl _)
  generalize (W3.alloc (.cells #[.int .i64 4] 3)).setCell ⟨B, 38, none⟩ (.slice (some ⟨W3.heap.size, 0, none⟩) 1 1) = W4 at *
  generalize W3.heap.size = A6 at *
  clear K3 hl
  have hc := cell_of (K4.alloc (.cells #[.int .i64 1, .int .i64 1] 3)).blk
  have hf := free_of (K4.alloc (.cells #[.int .i64 1, .int .i64 1] 3)).blk
  have hc' := cell_of K4.blk
  have hf' := free_of K4.blk
  have hl : B ≠ W4.heap.size := by have := lt_of_block K4.blk; omega
  gi_upto_region 9 with fail
  clear hc hf hc' hf'
  have K5 := (K4.alloc (.cells #[.int .i64 1, .int .i64 1] 3)).set 44 (.slice (some ⟨W4.heap.size, 0, none⟩) 2 2)
  simp only [List.setIfInBounds_toArray, List.set_cons_succ, List.set_cons_zero] at K5
  have hA7 : ((W4.alloc (.cells #[.int .i64 1, .int .i64 1] 3)).setCell ⟨B, 44, none⟩ (.slice (some ⟨W4.heap.size, 0, none⟩) 2 2)).heap[W4.heap.size]? = some (.cells #[.int .i64 1, .int .i64 1] 3 (0, 0)) := by
    rw [heap_setCell_other _ ⟨B, 44, none⟩ W4.heap.size _ (by show W4.heap.size ≠ B; omega)]; exact Ext.new (Ext.refl _)
  have hA6' : ((W4.alloc (.cells #[.int .i64 1, .int .i64 1] 3)).setCell ⟨B, 44, none⟩ (.slice (some ⟨W4.heap.size, 0, none⟩) 2 2)).heap[A6]? = some (.cells #[.int .i64 4] 3 (0, 0)) := by
    rw [heap_setCell_other _ ⟨B, 44, none⟩ A6 _ (by show A6 ≠ B; intro e; subst e; have h1 := K4.blk; rw [hA6] at h1; cases h1)]; exact Ext.block ((Ext.refl _).alloc _) hA6
  generalize (W4.alloc (.cells #[.int .i64 1, .int .i64 1] 3)).setCell ⟨B, 44, none⟩ (.slice (some ⟨W4.heap.size, 0, none⟩) 2 2) = W5 at *
  generalize W4.heap.size = A7 at *
  have HBAD := hid (bad_at K5 hA6' hA7)
  have HW5 := hid K5.ext
  clear K4 K5 hA6 hA6' hA7 hl

  gi_wp2_with fail
  gi_loopw [2] (fun i wr => ∃ k : Nat, k ≤ 8 ∧ i = .int .i64 k ∧ Hid (Ext W5 wr)) (fun i _ => 8 - (intOf i).toNat)
  case atStart => exact ⟨0, by omega, rfl, Ext.refl _⟩
  case round =>
    obtain ⟨k, hk, rfl, HX⟩ := hrel
    by_cases hlt : k < 8
    · obtain ⟨D, lv, dv, hb, hall⟩ := bad_get HBAD.out hlt
      have HA := hid hall
      have HB := hid hb
      clear hall hb
      have hki : (k : Int) < 8 := by omega
      gi_wp2_with fail
      as_aux_lemma =>
        refine lex_wide 13 [(4, pRv)] (by kernel_rfl) (by kernel_rfl) (kStab_cons pRv_s kStab_nil) ?_
        simp only [List.take_succ_cons, List.take_zero, List.drop_succ_cons, List.drop_zero]
        apply lex_fun (rfl : psAt _ _ = none)
        · intro x u hR hf
          clear hR hf
          go_simp
          exact ⟨rfl, Ext.refl _⟩
        simp only [Act.put, List.setIfInBounds_toArray, List.set_cons_succ, List.set_cons_zero]
        apply lex_fun (rfl : psAt _ _ = none)
        · intro x u hR hf
          clear hR hf
          go_simp
          exact ⟨rfl, Ext.refl _⟩
        simp only [Act.put, List.setIfInBounds_toArray, List.set_cons_succ, List.set_cons_zero]
        apply lex_fun (rfl : psAt _ _ = none)
        · intro x u hR hf
          clear hR hf
          go_simp
          exact ⟨rfl, Ext.refl _⟩
        simp only [Act.put, List.setIfInBounds_toArray, List.set_cons_succ, List.set_cons_zero]
        apply lex_fun (rfl : psAt _ _ = none)
        · intro x u hR hf
          obtain ⟨c0, c1, c2, c3, c4, c5⟩ := (HA.out u (HX.out.trans hR)).1
          clear hR hf
          go_simp
          exact ⟨rfl, Ext.refl _⟩
        simp only [Act.put, List.setIfInBounds_toArray, List.set_cons_succ, List.set_cons_zero]
        refine lex_pred (p := pRv) rfl ?_ ?_
        · intro x u hR hf
          have hm := make_reps u
          clear hR hf
          go_simp
          exact ⟨reps_made (Ext.refl _), (Ext.refl _).alloc _⟩
        simp only [Act.put, List.setIfInBounds_toArray, List.set_cons_succ, List.set_cons_zero]
        refine lex_fun (v := .tuple #[.int .i64 0, .bool false, .int .i64 10]) (rfl : psAt _ _ = none) ?_ ?_
        · intro x u hR hf
          have h4 : pRv (x 4) u := by first | exact hf.1 rfl | exact hf.2.1 rfl | exact hf.2.2.1 rfl | exact hf.2.2.2.1 rfl
          have hcal := hid (kTrack (k_sv D lv dv) (HA.out u (HX.out.trans hR)).2.1 (HA.out u (HX.out.trans hR)).2.2 h4 (ints_nil u) (k_track HB.out _ _))
          clear hR hf h4
          go_simp
          exact hcal.out.mono fun e w'' ⟨he, hx'⟩ => ⟨_, he, rfl, hx'⟩
        simp only [Act.put, List.setIfInBounds_toArray, List.set_cons_succ, List.set_cons_zero]
        apply lex_fun (rfl : psAt _ _ = none)
        · intro x u hR hf
          clear hR hf
          go_simp
          exact ⟨rfl, Ext.refl _⟩
        simp only [Act.put, List.setIfInBounds_toArray, List.set_cons_succ, List.set_cons_zero]
        apply lex_fun (rfl : psAt _ _ = none)
        · intro x u hR hf
          clear hR hf
          go_simp
          exact ⟨rfl, Ext.refl _⟩
        simp only [Act.put, List.setIfInBounds_toArray, List.set_cons_succ, List.set_cons_zero]
        apply lex_fun (rfl : psAt _ _ = none)
        · intro x u hR hf
          clear hR hf
          go_simp
          exact ⟨rfl, Ext.refl _⟩
        simp only [Act.put, List.setIfInBounds_toArray, List.set_cons_succ, List.set_cons_zero]
        apply lex_fun (rfl : psAt _ _ = none)
        · intro x u hR hf
          clear hR hf
          go_simp
          exact ⟨rfl, Ext.refl _⟩
        simp only [Act.put, List.setIfInBounds_toArray, List.set_cons_succ, List.set_cons_zero]
        apply lex_fun (rfl : psAt _ _ = none)
        · intro x u hR hf
          clear hR hf
          go_simp
          exact ⟨rfl, Ext.refl _⟩
        simp only [Act.put, List.setIfInBounds_toArray, List.set_cons_succ, List.set_cons_zero]
        apply lex_fun (rfl : psAt _ _ = none)
        · intro x u hR hf
          clear hR hf
          go_simp
          exact ⟨rfl, Ext.refl _⟩
        simp only [Act.put, List.setIfInBounds_toArray, List.set_cons_succ, List.set_cons_zero]
        apply lex_fun (rfl : psAt _ _ = none)
        · intro x u hR hf
          clear hR hf
          go_simp
          exact ⟨rfl, Ext.refl _⟩
        simp only [Act.put, List.setIfInBounds_toArray, List.set_cons_succ, List.set_cons_zero]
        refine lex_nil fun x w6 hE hfacts => ?_
        clear hfacts
        generalize x 4 = x4
        clear x
        have HX6 := hid (HX.out.trans hE)
        obtain ⟨c0, c1, c2, c3, c4, c5⟩ := (HA.out w6 HX6.out).1
        gi_wp2_with ((gi_at_call 20; ((with_reducible refine (kLeast (k_sv D lv dv) (HA.out _ HX6.out).2.1 (HA.out _ HX6.out).2.2 (reps_nil _) (k_least HB.out [])).mono ?_); rintro e w7 ⟨⟨n7, r7, rfl⟩, hx7⟩; have HX7 := hid (HX6.out.trans hx7); obtain ⟨c0, c1, c2, c3, c4, c5⟩ := (HA.out w7 HX7.out).1)))
        gi_wp2_with ((gi_at_call 24; ((with_reducible refine (kCan (k_sv D lv dv) (HA.out _ HX7.out).2.1 (HA.out _ HX7.out).2.2 (reps_nil _) (k_can HB.out [] _ _)).mono ?_); rintro e w8 ⟨⟨r8, rfl⟩, hx8⟩; have HX8 := hid (HX7.out.trans hx8); obtain ⟨c0, c1, c2, c3, c4, c5⟩ := (HA.out w8 HX8.out).1)))
        gi_wp2_with ((gi_at_call 26; ((with_reducible refine (kLiars (k_sv D lv dv) (HA.out _ HX8.out).2.1 (HA.out _ HX8.out).2.2 (reps_nil _) (k_least HB.out [])).mono ?_); rintro e w9 ⟨⟨r9, rfl⟩, hx9⟩; have HX9 := hid (HX8.out.trans hx9); obtain ⟨c0, c1, c2, c3, c4, c5⟩ := (HA.out w9 HX9.out).1)))
        gi_wp2_with ((gi_at_call 28; ((with_reducible refine (kNext (k_sv D lv dv) (HA.out _ HX9.out).2.1 (HA.out _ HX9.out).2.2 (reps_nil _) (casts_nil _) (k_search HB.out [] _ _ [])).mono ?_); rintro e w10 ⟨⟨n10, r10, rfl⟩, hx10⟩; have HX10 := hid (HX9.out.trans hx10); obtain ⟨c0, c1, c2, c3, c4, c5⟩ := (HA.out w10 HX10.out).1)))
        gi_wp2_with ((gi_at_call 30; ((with_reducible refine (kSure (k_sv D lv dv) (HA.out _ HX10.out).2.1 (HA.out _ HX10.out).2.2 (reps_nil _) (casts_nil _) (k_sure HB.out [] _ _ [])).mono ?_); rintro e w11 ⟨⟨r11, rfl⟩, hx11⟩; have HX11 := hid (HX10.out.trans hx11); obtain ⟨c0, c1, c2, c3, c4, c5⟩ := (HA.out w11 HX11.out).1)))
        gi_wp2_with ((gi_at_call 18; ((with_reducible refine (kCheck (k_sv D lv dv) (HA.out _ HX11.out).2.1 (HA.out _ HX11.out).2.2 HB.out).mono ?_); rintro e w12 ⟨rfl, hx12⟩; have HX12 := hid (HX11.out.trans hx12); obtain ⟨c0, c1, c2, c3, c4, c5⟩ := (HA.out w12 HX12.out).1)))
        clear c0 c1 c2 c3 c4 c5
        go_roundw
        case rel => exact ⟨k + 1, by omega, by go_num, HX12.out⟩
        case measure => simp [intOf]; omega
    · obtain rfl : k = 8 := by omega
      skip
      have hmk := make_reps ((((((wr.alloc (.cells #[.int .i64 3, .int .i64 0, .int .i64 0, .bool false] 52)).alloc (.cells #[.int .i64 (-1), .int .i64 0, .int .i64 0, .bool false] 52)).alloc (.cells #[.int .i64 0, .int .i64 4, .int .i64 0, .bool false] 52)).alloc (.cells #[.int .i64 0, .int .i64 (-1), .int .i64 0, .bool false] 52)).alloc (.cells #[.int .i64 0, .int .i64 0, .int .i64 10, .bool false] 52)).alloc (.cells #[.int .i64 0, .int .i64 0, .int .i64 (-1), .bool false] 52))
      clear HBAD
      gi_upto_region 21 with fail
      clear hmk
      have hmade : RepsAt (((((((wr.alloc (.cells #[.int .i64 3, .int .i64 0, .int .i64 0, .bool false] 52)).alloc (.cells #[.int .i64 (-1), .int .i64 0, .int .i64 0, .bool false] 52)).alloc (.cells #[.int .i64 0, .int .i64 4, .int .i64 0, .bool false] 52)).alloc (.cells #[.int .i64 0, .int .i64 (-1), .int .i64 0, .bool false] 52)).alloc (.cells #[.int .i64 0, .int .i64 0, .int .i64 10, .bool false] 52)).alloc (.cells #[.int .i64 0, .int .i64 0, .int .i64 (-1), .bool false] 52)).alloc (.cells (madeCells #[.int .i64 0, .int .i64 0, .int .i64 0, .bool false] 100) 52)) (.slice (some ⟨wr.heap.size + 1 + 1 + 1 + 1 + 1 + 1, 0, none⟩) 25 25) (zeroReps 25) := by
        have := reps_made (w := (((((wr.alloc (.cells #[.int .i64 3, .int .i64 0, .int .i64 0, .bool false] 52)).alloc (.cells #[.int .i64 (-1), .int .i64 0, .int .i64 0, .bool false] 52)).alloc (.cells #[.int .i64 0, .int .i64 4, .int .i64 0, .bool false] 52)).alloc (.cells #[.int .i64 0, .int .i64 (-1), .int .i64 0, .bool false] 52)).alloc (.cells #[.int .i64 0, .int .i64 0, .int .i64 10, .bool false] 52)).alloc (.cells #[.int .i64 0, .int .i64 0, .int .i64 (-1), .bool false] 52)) (Ext.refl _)
        simpa only [World.size_alloc] using this
      have hmade := hmade.mono (((Ext.refl _).alloc (.cells #[.slice (some ⟨wr.heap.size, 0, none⟩) 1 1, .slice (some ⟨wr.heap.size + 1, 0, none⟩) 1 1, .slice (some ⟨wr.heap.size + 1 + 1, 0, none⟩) 1 1, .slice (some ⟨wr.heap.size + 1 + 1 + 1, 0, none⟩) 1 1, .slice (some ⟨wr.heap.size + 1 + 1 + 1 + 1, 0, none⟩) 1 1, .slice (some ⟨wr.heap.size + 1 + 1 + 1 + 1 + 1, 0, none⟩) 1 1, .slice (some ⟨wr.heap.size + 1 + 1 + 1 + 1 + 1 + 1, 0, none⟩) 25 25] 26)))
      have hW : Ext wr ((((((((wr.alloc (.cells #[.int .i64 3, .int .i64 0, .int .i64 0, .bool false] 52)).alloc (.cells #[.int .i64 (-1), .int .i64 0, .int .i64 0, .bool false] 52)).alloc (.cells #[.int .i64 0, .int .i64 4, .int .i64 0, .bool false] 52)).alloc (.cells #[.int .i64 0, .int .i64 (-1), .int .i64 0, .bool false] 52)).alloc (.cells #[.int .i64 0, .int .i64 0, .int .i64 10, .bool false] 52)).alloc (.cells #[.int .i64 0, .int .i64 0, .int .i64 (-1), .bool false] 52)).alloc (.cells (madeCells #[.int .i64 0, .int .i64 0, .int .i64 0, .bool false] 100) 52)).alloc (.cells #[.slice (some ⟨wr.heap.size, 0, none⟩) 1 1, .slice (some ⟨wr.heap.size + 1, 0, none⟩) 1 1, .slice (some ⟨wr.heap.size + 1 + 1, 0, none⟩) 1 1, .slice (some ⟨wr.heap.size + 1 + 1 + 1, 0, none⟩) 1 1, .slice (some ⟨wr.heap.size + 1 + 1 + 1 + 1, 0, none⟩) 1 1, .slice (some ⟨wr.heap.size + 1 + 1 + 1 + 1 + 1, 0, none⟩) 1 1, .slice (some ⟨wr.heap.size + 1 + 1 + 1 + 1 + 1 + 1, 0, none⟩) 25 25] 26)) := ((((((((Ext.refl _).alloc _).alloc _).alloc _).alloc _).alloc _).alloc _).alloc _).alloc _
      have hB0 : ((((((((wr.alloc (.cells #[.int .i64 3, .int .i64 0, .int .i64 0, .bool false] 52)).alloc (.cells #[.int .i64 (-1), .int .i64 0, .int .i64 0, .bool false] 52)).alloc (.cells #[.int .i64 0, .int .i64 4, .int .i64 0, .bool false] 52)).alloc (.cells #[.int .i64 0, .int .i64 (-1), .int .i64 0, .bool false] 52)).alloc (.cells #[.int .i64 0, .int .i64 0, .int .i64 10, .bool false] 52)).alloc (.cells #[.int .i64 0, .int .i64 0, .int .i64 (-1), .bool false] 52)).alloc (.cells (madeCells #[.int .i64 0, .int .i64 0, .int .i64 0, .bool false] 100) 52)).alloc (.cells #[.slice (some ⟨wr.heap.size, 0, none⟩) 1 1, .slice (some ⟨wr.heap.size + 1, 0, none⟩) 1 1, .slice (some ⟨wr.heap.size + 1 + 1, 0, none⟩) 1 1, .slice (some ⟨wr.heap.size + 1 + 1 + 1, 0, none⟩) 1 1, .slice (some ⟨wr.heap.size + 1 + 1 + 1 + 1, 0, none⟩) 1 1, .slice (some ⟨wr.heap.size + 1 + 1 + 1 + 1 + 1, 0, none⟩) 1 1, .slice (some ⟨wr.heap.size + 1 + 1 + 1 + 1 + 1 + 1, 0, none⟩) 25 25] 26)).heap[wr.heap.size]? = some (.cells #[.int .i64 3, .int .i64 0, .int .i64 0, .bool false] 52 (0, 0)) := by simp only [alloc_at, World.size_alloc]; (repeat rw [if_neg (by omega)]); first | rfl | rw [if_pos (by omega)] | rw [if_pos trivial]
      have hB1 : ((((((((wr.alloc (.cells #[.int .i64 3, .int .i64 0, .int .i64 0, .bool false] 52)).alloc (.cells #[.int .i64 (-1), .int .i64 0, .int .i64 0, .bool false] 52)).alloc (.cells #[.int .i64 0, .int .i64 4, .int .i64 0, .bool false] 52)).alloc (.cells #[.int .i64 0, .int .i64 (-1), .int .i64 0, .bool false] 52)).alloc (.cells #[.int .i64 0, .int .i64 0, .int .i64 10, .bool false] 52)).alloc (.cells #[.int .i64 0, .int .i64 0, .int .i64 (-1), .bool false] 52)).alloc (.cells (madeCells #[.int .i64 0, .int .i64 0, .int .i64 0, .bool false] 100) 52)).alloc (.cells #[.slice (some ⟨wr.heap.size, 0, none⟩) 1 1, .slice (some ⟨wr.heap.size + 1, 0, none⟩) 1 1, .slice (some ⟨wr.heap.size + 1 + 1, 0, none⟩) 1 1, .slice (some ⟨wr.heap.size + 1 + 1 + 1, 0, none⟩) 1 1, .slice (some ⟨wr.heap.size + 1 + 1 + 1 + 1, 0, none⟩) 1 1, .slice (some ⟨wr.heap.size + 1 + 1 + 1 + 1 + 1, 0, none⟩) 1 1, .slice (some ⟨wr.heap.size + 1 + 1 + 1 + 1 + 1 + 1, 0, none⟩) 25 25] 26)).heap[wr.heap.size + 1]? = some (.cells #[.int .i64 (-1), .int .i64 0, .int .i64 0, .bool false] 52 (0, 0)) := by simp only [alloc_at, World.size_alloc]; (repeat rw [if_neg (by omega)]); first | rfl | rw [if_pos (by omega)] | rw [if_pos trivial]
      have hB2 : ((((((((wr.alloc (.cells #[.int .i64 3, .int .i64 0, .int .i64 0, .bool false] 52)).alloc (.cells #[.int .i64 (-1), .int .i64 0, .int .i64 0, .bool false] 52)).alloc (.cells #[.int .i64 0, .int .i64 4, .int .i64 0, .bool false] 52)).alloc (.cells #[.int .i64 0, .int .i64 (-1), .int .i64 0, .bool false] 52)).alloc (.cells #[.int .i64 0, .int .i64 0, .int .i64 10, .bool false] 52)).alloc (.cells #[.int .i64 0, .int .i64 0, .int .i64 (-1), .bool false] 52)).alloc (.cells (madeCells #[.int .i64 0, .int .i64 0, .int .i64 0, .bool false] 100) 52)).alloc (.cells #[.slice (some ⟨wr.heap.size, 0, none⟩) 1 1, .slice (some ⟨wr.heap.size + 1, 0, none⟩) 1 1, .slice (some ⟨wr.heap.size + 1 + 1, 0, none⟩) 1 1, .slice (some ⟨wr.heap.size + 1 + 1 + 1, 0, none⟩) 1 1, .slice (some ⟨wr.heap.size + 1 + 1 + 1 + 1, 0, none⟩) 1 1, .slice (some ⟨wr.heap.size + 1 + 1 + 1 + 1 + 1, 0, none⟩) 1 1, .slice (some ⟨wr.heap.size + 1 + 1 + 1 + 1 + 1 + 1, 0, none⟩) 25 25] 26)).heap[wr.heap.size + 1 + 1]? = some (.cells #[.int .i64 0, .int .i64 4, .int .i64 0, .bool false] 52 (0, 0)) := by simp only [alloc_at, World.size_alloc]; (repeat rw [if_neg (by omega)]); first | rfl | rw [if_pos (by omega)] | rw [if_pos trivial]
      have hB3 : ((((((((wr.alloc (.cells #[.int .i64 3, .int .i64 0, .int .i64 0, .bool false] 52)).alloc (.cells #[.int .i64 (-1), .int .i64 0, .int .i64 0, .bool false] 52)).alloc (.cells #[.int .i64 0, .int .i64 4, .int .i64 0, .bool false] 52)).alloc (.cells #[.int .i64 0, .int .i64 (-1), .int .i64 0, .bool false] 52)).alloc (.cells #[.int .i64 0, .int .i64 0, .int .i64 10, .bool false] 52)).alloc (.cells #[.int .i64 0, .int .i64 0, .int .i64 (-1), .bool false] 52)).alloc (.cells (madeCells #[.int .i64 0, .int .i64 0, .int .i64 0, .bool false] 100) 52)).alloc (.cells #[.slice (some ⟨wr.heap.size, 0, none⟩) 1 1, .slice (some ⟨wr.heap.size + 1, 0, none⟩) 1 1, .slice (some ⟨wr.heap.size + 1 + 1, 0, none⟩) 1 1, .slice (some ⟨wr.heap.size + 1 + 1 + 1, 0, none⟩) 1 1, .slice (some ⟨wr.heap.size + 1 + 1 + 1 + 1, 0, none⟩) 1 1, .slice (some ⟨wr.heap.size + 1 + 1 + 1 + 1 + 1, 0, none⟩) 1 1, .slice (some ⟨wr.heap.size + 1 + 1 + 1 + 1 + 1 + 1, 0, none⟩) 25 25] 26)).heap[wr.heap.size + 1 + 1 + 1]? = some (.cells #[.int .i64 0, .int .i64 (-1), .int .i64 0, .bool false] 52 (0, 0)) := by simp only [alloc_at, World.size_alloc]; (repeat rw [if_neg (by omega)]); first | rfl | rw [if_pos (by omega)] | rw [if_pos trivial]
      have hB4 : ((((((((wr.alloc (.cells #[.int .i64 3, .int .i64 0, .int .i64 0, .bool false] 52)).alloc (.cells #[.int .i64 (-1), .int .i64 0, .int .i64 0, .bool false] 52)).alloc (.cells #[.int .i64 0, .int .i64 4, .int .i64 0, .bool false] 52)).alloc (.cells #[.int .i64 0, .int .i64 (-1), .int .i64 0, .bool false] 52)).alloc (.cells #[.int .i64 0, .int .i64 0, .int .i64 10, .bool false] 52)).alloc (.cells #[.int .i64 0, .int .i64 0, .int .i64 (-1), .bool false] 52)).alloc (.cells (madeCells #[.int .i64 0, .int .i64 0, .int .i64 0, .bool false] 100) 52)).alloc (.cells #[.slice (some ⟨wr.heap.size, 0, none⟩) 1 1, .slice (some ⟨wr.heap.size + 1, 0, none⟩) 1 1, .slice (some ⟨wr.heap.size + 1 + 1, 0, none⟩) 1 1, .slice (some ⟨wr.heap.size + 1 + 1 + 1, 0, none⟩) 1 1, .slice (some ⟨wr.heap.size + 1 + 1 + 1 + 1, 0, none⟩) 1 1, .slice (some ⟨wr.heap.size + 1 + 1 + 1 + 1 + 1, 0, none⟩) 1 1, .slice (some ⟨wr.heap.size + 1 + 1 + 1 + 1 + 1 + 1, 0, none⟩) 25 25] 26)).heap[wr.heap.size + 1 + 1 + 1 + 1]? = some (.cells #[.int .i64 0, .int .i64 0, .int .i64 10, .bool false] 52 (0, 0)) := by simp only [alloc_at, World.size_alloc]; (repeat rw [if_neg (by omega)]); first | rfl | rw [if_pos (by omega)] | rw [if_pos trivial]
      have hB5 : ((((((((wr.alloc (.cells #[.int .i64 3, .int .i64 0, .int .i64 0, .bool false] 52)).alloc (.cells #[.int .i64 (-1), .int .i64 0, .int .i64 0, .bool false] 52)).alloc (.cells #[.int .i64 0, .int .i64 4, .int .i64 0, .bool false] 52)).alloc (.cells #[.int .i64 0, .int .i64 (-1), .int .i64 0, .bool false] 52)).alloc (.cells #[.int .i64 0, .int .i64 0, .int .i64 10, .bool false] 52)).alloc (.cells #[.int .i64 0, .int .i64 0, .int .i64 (-1), .bool false] 52)).alloc (.cells (madeCells #[.int .i64 0, .int .i64 0, .int .i64 0, .bool false] 100) 52)).alloc (.cells #[.slice (some ⟨wr.heap.size, 0, none⟩) 1 1, .slice (some ⟨wr.heap.size + 1, 0, none⟩) 1 1, .slice (some ⟨wr.heap.size + 1 + 1, 0, none⟩) 1 1, .slice (some ⟨wr.heap.size + 1 + 1 + 1, 0, none⟩) 1 1, .slice (some ⟨wr.heap.size + 1 + 1 + 1 + 1, 0, none⟩) 1 1, .slice (some ⟨wr.heap.size + 1 + 1 + 1 + 1 + 1, 0, none⟩) 1 1, .slice (some ⟨wr.heap.size + 1 + 1 + 1 + 1 + 1 + 1, 0, none⟩) 25 25] 26)).heap[wr.heap.size + 1 + 1 + 1 + 1 + 1]? = some (.cells #[.int .i64 0, .int .i64 0, .int .i64 (-1), .bool false] 52 (0, 0)) := by simp only [alloc_at, World.size_alloc]; (repeat rw [if_neg (by omega)]); first | rfl | rw [if_pos (by omega)] | rw [if_pos trivial]
      have hB6 : ((((((((wr.alloc (.cells #[.int .i64 3, .int .i64 0, .int .i64 0, .bool false] 52)).alloc (.cells #[.int .i64 (-1), .int .i64 0, .int .i64 0, .bool false] 52)).alloc (.cells #[.int .i64 0, .int .i64 4, .int .i64 0, .bool false] 52)).alloc (.cells #[.int .i64 0, .int .i64 (-1), .int .i64 0, .bool false] 52)).alloc (.cells #[.int .i64 0, .int .i64 0, .int .i64 10, .bool false] 52)).alloc (.cells #[.int .i64 0, .int .i64 0, .int .i64 (-1), .bool false] 52)).alloc (.cells (madeCells #[.int .i64 0, .int .i64 0, .int .i64 0, .bool false] 100) 52)).alloc (.cells #[.slice (some ⟨wr.heap.size, 0, none⟩) 1 1, .slice (some ⟨wr.heap.size + 1, 0, none⟩) 1 1, .slice (some ⟨wr.heap.size + 1 + 1, 0, none⟩) 1 1, .slice (some ⟨wr.heap.size + 1 + 1 + 1, 0, none⟩) 1 1, .slice (some ⟨wr.heap.size + 1 + 1 + 1 + 1, 0, none⟩) 1 1, .slice (some ⟨wr.heap.size + 1 + 1 + 1 + 1 + 1, 0, none⟩) 1 1, .slice (some ⟨wr.heap.size + 1 + 1 + 1 + 1 + 1 + 1, 0, none⟩) 25 25] 26)).heap[wr.heap.size + 1 + 1 + 1 + 1 + 1 + 1]? = some (.cells (madeCells #[.int .i64 0, .int .i64 0, .int .i64 0, .bool false] 100) 52 (0, 0)) := by simp only [alloc_at, World.size_alloc]; (repeat rw [if_neg (by omega)]); first | rfl | rw [if_pos (by omega)] | rw [if_pos trivial]
      have hB7 : ((((((((wr.alloc (.cells #[.int .i64 3, .int .i64 0, .int .i64 0, .bool false] 52)).alloc (.cells #[.int .i64 (-1), .int .i64 0, .int .i64 0, .bool false] 52)).alloc (.cells #[.int .i64 0, .int .i64 4, .int .i64 0, .bool false] 52)).alloc (.cells #[.int .i64 0, .int .i64 (-1), .int .i64 0, .bool false] 52)).alloc (.cells #[.int .i64 0, .int .i64 0, .int .i64 10, .bool false] 52)).alloc (.cells #[.int .i64 0, .int .i64 0, .int .i64 (-1), .bool false] 52)).alloc (.cells (madeCells #[.int .i64 0, .int .i64 0, .int .i64 0, .bool false] 100) 52)).alloc (.cells #[.slice (some ⟨wr.heap.size, 0, none⟩) 1 1, .slice (some ⟨wr.heap.size + 1, 0, none⟩) 1 1, .slice (some ⟨wr.heap.size + 1 + 1, 0, none⟩) 1 1, .slice (some ⟨wr.heap.size + 1 + 1 + 1, 0, none⟩) 1 1, .slice (some ⟨wr.heap.size + 1 + 1 + 1 + 1, 0, none⟩) 1 1, .slice (some ⟨wr.heap.size + 1 + 1 + 1 + 1 + 1, 0, none⟩) 1 1, .slice (some ⟨wr.heap.size + 1 + 1 + 1 + 1 + 1 + 1, 0, none⟩) 25 25] 26)).heap[wr.heap.size + 1 + 1 + 1 + 1 + 1 + 1 + 1]? = some (.cells #[.slice (some ⟨wr.heap.size, 0, none⟩) 1 1, .slice (some ⟨wr.heap.size + 1, 0, none⟩) 1 1, .slice (some ⟨wr.heap.size + 1 + 1, 0, none⟩) 1 1, .slice (some ⟨wr.heap.size + 1 + 1 + 1, 0, none⟩) 1 1, .slice (some ⟨wr.heap.size + 1 + 1 + 1 + 1, 0, none⟩) 1 1, .slice (some ⟨wr.heap.size + 1 + 1 + 1 + 1 + 1, 0, none⟩) 1 1, .slice (some ⟨wr.heap.size + 1 + 1 + 1 + 1 + 1 + 1, 0, none⟩) 25 25] 26 (0, 0)) := by simp only [alloc_at, World.size_alloc]; (repeat rw [if_neg (by omega)]); first | rfl | rw [if_pos (by omega)] | rw [if_pos trivial]
      generalize (((((((wr.alloc (.cells #[.int .i64 3, .int .i64 0, .int .i64 0, .bool false] 52)).alloc (.cells #[.int .i64 (-1), .int .i64 0, .int .i64 0, .bool false] 52)).alloc (.cells #[.int .i64 0, .int .i64 4, .int .i64 0, .bool false] 52)).alloc (.cells #[.int .i64 0, .int .i64 (-1), .int .i64 0, .bool false] 52)).alloc (.cells #[.int .i64 0, .int .i64 0, .int .i64 10, .bool false] 52)).alloc (.cells #[.int .i64 0, .int .i64 0, .int .i64 (-1), .bool false] 52)).alloc (.cells (madeCells #[.int .i64 0, .int .i64 0, .int .i64 0, .bool false] 100) 52)).alloc (.cells #[.slice (some ⟨wr.heap.size, 0, none⟩) 1 1, .slice (some ⟨wr.heap.size + 1, 0, none⟩) 1 1, .slice (some ⟨wr.heap.size + 1 + 1, 0, none⟩) 1 1, .slice (some ⟨wr.heap.size + 1 + 1 + 1, 0, none⟩) 1 1, .slice (some ⟨wr.heap.size + 1 + 1 + 1 + 1, 0, none⟩) 1 1, .slice (some ⟨wr.heap.size + 1 + 1 + 1 + 1 + 1, 0, none⟩) 1 1, .slice (some ⟨wr.heap.size + 1 + 1 + 1 + 1 + 1 + 1, 0, none⟩) 25 25] 26) = W8 at *
      have HWR := hid (wrong_at hB0 hB1 hB2 hB3 hB4 hB5 hmade hB7)
      have HX := hid (HX.out.trans hW)
      clear hB0 hB1 hB2 hB3 hB4 hB5 hB6 hB7 hmade hW
      generalize wr.heap.size + 1 + 1 + 1 + 1 + 1 + 1 + 1 = BL at *
      gi_wp2_with fail
      gi_loopw [19] (fun i wr => ∃ k : Nat, k ≤ 7 ∧ i = .int .i64 k ∧ Hid (Ext W8 wr)) (fun i _ => 7 - (intOf i).toNat)
      case atStart => exact ⟨0, by omega, rfl, Ext.refl _⟩
      case round =>
        obtain ⟨k, hk, rfl, HY⟩ := hrel
        by_cases hlt : k < 7
        · obtain ⟨rv, rs, hb, hall⟩ := wrong_get HWR.out hlt
          have HA := hid hall
          have HB := hid hb
          clear hall hb
          have hki : (k : Int) < 7 := by omega
          gi_wp2_with fail
          as_aux_lemma =>
            refine lex_wide 13 [(0, pRow)] (by kernel_rfl) (by kernel_rfl) (kStab_cons pRow_s kStab_nil) ?_
            simp only [List.take_succ_cons, List.take_zero, List.drop_succ_cons, List.drop_zero]
            refine lex_pred (p := pRow) rfl ?_ ?_
            · intro x u hR hf
              have hcal := hid (row_known u)
              clear hR hf
              go_simp
              exact hcal.out.mono fun e w'' ⟨b, he, hx', _, hb⟩ => ⟨_, he, ⟨b, rfl, hb⟩, hx'⟩
            simp only [Act.put, List.setIfInBounds_toArray, List.set_cons_succ, List.set_cons_zero]
            apply lex_fun (rfl : psAt _ _ = none)
            · intro x u hR hf
              clear hR hf
              go_simp
              exact ⟨rfl, Ext.refl _⟩
            simp only [Act.put, List.setIfInBounds_toArray, List.set_cons_succ, List.set_cons_zero]
            apply lex_fun (rfl : psAt _ _ = none)
            · intro x u hR hf
              clear hR hf
              go_simp
              exact ⟨rfl, Ext.refl _⟩
            simp only [Act.put, List.setIfInBounds_toArray, List.set_cons_succ, List.set_cons_zero]
            apply lex_fun (rfl : psAt _ _ = none)
            · intro x u hR hf
              clear hR hf
              go_simp
              exact ⟨rfl, Ext.refl _⟩
            simp only [Act.put, List.setIfInBounds_toArray, List.set_cons_succ, List.set_cons_zero]
            apply lex_fun (rfl : psAt _ _ = none)
            · intro x u hR hf
              have c0 := (HA.out u (HY.out.trans hR)).1
              clear hR hf
              go_simp
              exact ⟨rfl, Ext.refl _⟩
            simp only [Act.put, List.setIfInBounds_toArray, List.set_cons_succ, List.set_cons_zero]
            refine lex_fun (v := .tuple #[.int .i64 0, .bool false, .int .i64 11]) (rfl : psAt _ _ = none) ?_ ?_
            · intro x u hR hf
              obtain ⟨b, hb1, hb2⟩ := (by first | exact hf.1 rfl | exact hf.2.1 rfl : pRow (x 0) u)
              have hcal := hid (kTrack (hb1.trans (row_sv b)) (ints_nil u) (drift_at hb2) (HA.out u (HY.out.trans hR)).2 (ints_nil u) (j_track HB.out []))
              clear hR hf hb1 hb2
              go_simp
              exact hcal.out.mono fun e w'' ⟨he, hx'⟩ => ⟨_, he, rfl, hx'⟩
            simp only [Act.put, List.setIfInBounds_toArray, List.set_cons_succ, List.set_cons_zero]
            apply lex_fun (rfl : psAt _ _ = none)
            · intro x u hR hf
              clear hR hf
              go_simp
              exact ⟨rfl, Ext.refl _⟩
            simp only [Act.put, List.setIfInBounds_toArray, List.set_cons_succ, List.set_cons_zero]
            apply lex_fun (rfl : psAt _ _ = none)
            · intro x u hR hf
              clear hR hf
              go_simp
              exact ⟨rfl, Ext.refl _⟩
            simp only [Act.put, List.setIfInBounds_toArray, List.set_cons_succ, List.set_cons_zero]
            apply lex_fun (rfl : psAt _ _ = none)
            · intro x u hR hf
              clear hR hf
              go_simp
              exact ⟨rfl, Ext.refl _⟩
            simp only [Act.put, List.setIfInBounds_toArray, List.set_cons_succ, List.set_cons_zero]
            apply lex_fun (rfl : psAt _ _ = none)
            · intro x u hR hf
              clear hR hf
              go_simp
              exact ⟨rfl, Ext.refl _⟩
            simp only [Act.put, List.setIfInBounds_toArray, List.set_cons_succ, List.set_cons_zero]
            apply lex_fun (rfl : psAt _ _ = none)
            · intro x u hR hf
              clear hR hf
              go_simp
              exact ⟨rfl, Ext.refl _⟩
            simp only [Act.put, List.setIfInBounds_toArray, List.set_cons_succ, List.set_cons_zero]
            apply lex_fun (rfl : psAt _ _ = none)
            · intro x u hR hf
              clear hR hf
              go_simp
              exact ⟨rfl, Ext.refl _⟩
            simp only [Act.put, List.setIfInBounds_toArray, List.set_cons_succ, List.set_cons_zero]
            apply lex_fun (rfl : psAt _ _ = none)
            · intro x u hR hf
              clear hR hf
              go_simp
              exact ⟨rfl, Ext.refl _⟩
            simp only [Act.put, List.setIfInBounds_toArray, List.set_cons_succ, List.set_cons_zero]
            refine lex_nil fun x w6 hE hfacts => ?_
            clear hfacts
            have HY := hid (HY.out.trans hE)
            clear hE
            generalize x 0 = y0
            clear x
            gi_wp2_with fail
            refine lex_wide 13 [(0, pRow), (5, pT3 11), (6, pT3 11), (7, pAny), (8, pAny), (10, pAny), (11, pAny)] (by kernel_rfl) (by kernel_rfl) (kStab_cons pRow_s (kStab_cons (pT3_s 11) (kStab_cons (pT3_s 11) (kStab_cons pAny_s (kStab_cons pAny_s (kStab_cons pAny_s (kStab_cons pAny_s kStab_nil))))))) ?_
            simp only [List.take_succ_cons, List.take_zero, List.drop_succ_cons, List.drop_zero]
            refine lex_pred (p := pRow) rfl ?_ ?_
            · intro x u hR hf
              have hcal := hid (row_known u)
              clear hR hf
              go_simp
              exact hcal.out.mono fun e w'' ⟨b, he, hx', _, hb⟩ => ⟨_, he, ⟨b, rfl, hb⟩, hx'⟩
            simp only [Act.put, List.setIfInBounds_toArray, List.set_cons_succ, List.set_cons_zero]
            apply lex_fun (rfl : psAt _ _ = none)
            · intro x u hR hf
              clear hR hf
              go_simp
              exact ⟨rfl, Ext.refl _⟩
            simp only [Act.put, List.setIfInBounds_toArray, List.set_cons_succ, List.set_cons_zero]
            apply lex_fun (rfl : psAt _ _ = none)
            · intro x u hR hf
              clear hR hf
              go_simp
              exact ⟨rfl, Ext.refl _⟩
            simp only [Act.put, List.setIfInBounds_toArray, List.set_cons_succ, List.set_cons_zero]
            apply lex_fun (rfl : psAt _ _ = none)
            · intro x u hR hf
              clear hR hf
              go_simp
              exact ⟨rfl, Ext.refl _⟩
            simp only [Act.put, List.setIfInBounds_toArray, List.set_cons_succ, List.set_cons_zero]
            apply lex_fun (rfl : psAt _ _ = none)
            · intro x u hR hf
              have c0 := (HA.out u (HY.out.trans hR)).1
              clear hR hf
              go_simp
              exact ⟨rfl, Ext.refl _⟩
            simp only [Act.put, List.setIfInBounds_toArray, List.set_cons_succ, List.set_cons_zero]
            refine lex_pred (p := pT3 11) rfl ?_ ?_
            · intro x u hR hf
              obtain ⟨b, hb1, hb2⟩ := (by first | exact hf.1 rfl | exact hf.2.1 rfl : pRow (x 0) u)
              have hcal := hid (kLeast (hb1.trans (row_sv b)) (ints_nil u) (drift_at hb2) (HA.out u (HY.out.trans hR)).2 (j_least HB.out))
              clear hR hf hb1 hb2
              go_simp
              exact hcal.out.mono fun e w'' ⟨⟨n, r, he⟩, hx'⟩ => ⟨_, he, ⟨n, r, rfl⟩, hx'⟩
            simp only [Act.put, List.setIfInBounds_toArray, List.set_cons_succ, List.set_cons_zero]
            refine lex_pred (p := pT3 11) rfl ?_ ?_
            · intro x u hR hf
              have hp : pT3 11 (x 5) u := by first | exact hf.1 rfl | exact hf.2.1 rfl | exact hf.2.2.1 rfl | exact hf.2.2.2.1 rfl
              clear hR hf
              go_simp
              first | exact ⟨hp, Ext.refl _⟩ | exact Ext.refl _
            simp only [Act.put, List.setIfInBounds_toArray, List.set_cons_succ, List.set_cons_zero]
            refine lex_pred (p := pAny) rfl ?_ ?_
            · intro x u hR hf
              obtain ⟨n, r, hp⟩ := (by first | exact hf.1 rfl | exact hf.2.1 rfl : pT3 11 (x 6) u)
              rw [if_pos (show Region.wanted _ _ = true from rfl)]
              exact gives_part (.tmp 232) 0 rfl hp rfl ⟨trivial, Ext.refl _⟩
            simp only [Act.put, List.setIfInBounds_toArray, List.set_cons_succ, List.set_cons_zero]
            refine lex_pred (p := pAny) rfl ?_ ?_
            · intro x u hR hf
              obtain ⟨n, r, hp⟩ := (by first | exact hf.1 rfl | exact hf.2.1 rfl : pT3 11 (x 6) u)
              rw [if_pos (show Region.wanted _ _ = true from rfl)]
              exact gives_part (.tmp 232) 1 rfl hp rfl ⟨trivial, Ext.refl _⟩
            simp only [Act.put, List.setIfInBounds_toArray, List.set_cons_succ, List.set_cons_zero]
            refine lex_fun (v := .int .i64 11) (rfl : psAt _ _ = none) ?_ ?_
            · intro x u hR hf
              obtain ⟨n, r, hp⟩ := (by first | exact hf.1 rfl | exact hf.2.1 rfl : pT3 11 (x 6) u)
              rw [if_pos (show Region.wanted _ _ = true from rfl)]
              exact gives_part (.tmp 232) 2 rfl hp rfl ⟨rfl, Ext.refl _⟩
            simp only [Act.put, List.setIfInBounds_toArray, List.set_cons_succ, List.set_cons_zero]
            refine lex_pred (p := pAny) rfl ?_ ?_
            · intro x u hR hf
              clear hR hf
              go_simp
              exact ⟨trivial, Ext.refl _⟩
            simp only [Act.put, List.setIfInBounds_toArray, List.set_cons_succ, List.set_cons_zero]
            refine lex_pred (p := pAny) rfl ?_ ?_
            · intro x u hR hf
              clear hR hf
              go_simp
              exact ⟨trivial, Ext.refl _⟩
            simp only [Act.put, List.setIfInBounds_toArray, List.set_cons_succ, List.set_cons_zero]
            apply lex_fun (rfl : psAt _ _ = none)
            · intro x u hR hf
              clear hR hf
              go_simp
              exact ⟨rfl, Ext.refl _⟩
            simp only [Act.put, List.setIfInBounds_toArray, List.set_cons_succ, List.set_cons_zero]
            refine lex_nil fun x w6 hE hfacts => ?_
            clear hfacts
            have HY := hid (HY.out.trans hE)
            clear hE
            generalize x 0 = y0
            generalize x 5 = y5
            generalize x 6 = y6
            generalize x 7 = y7
            generalize x 8 = y8
            generalize x 10 = y10
            generalize x 11 = y11
            clear x
            gi_wp2_with fail
            refine lex_wide 11 [(0, pRow), (5, pT2 11), (6, pT2 11), (7, pAny), (9, pAny)] (by kernel_rfl) (by kernel_rfl) (kStab_cons pRow_s (kStab_cons (pT2_s 11) (kStab_cons (pT2_s 11) (kStab_cons pAny_s (kStab_cons pAny_s kStab_nil))))) ?_
            simp only [List.take_succ_cons, List.take_zero, List.drop_succ_cons, List.drop_zero]
            refine lex_pred (p := pRow) rfl ?_ ?_
            · intro x u hR hf
              have hcal := hid (row_known u)
              clear hR hf
              go_simp
              exact hcal.out.mono fun e w'' ⟨b, he, hx', _, hb⟩ => ⟨_, he, ⟨b, rfl, hb⟩, hx'⟩
            simp only [Act.put, List.setIfInBounds_toArray, List.set_cons_succ, List.set_cons_zero]
            apply lex_fun (rfl : psAt _ _ = none)
            · intro x u hR hf
              clear hR hf
              go_simp
              exact ⟨rfl, Ext.refl _⟩
            simp only [Act.put, List.setIfInBounds_toArray, List.set_cons_succ, List.set_cons_zero]
            apply lex_fun (rfl : psAt _ _ = none)
            · intro x u hR hf
              clear hR hf
              go_simp
              exact ⟨rfl, Ext.refl _⟩
            simp only [Act.put, List.setIfInBounds_toArray, List.set_cons_succ, List.set_cons_zero]
            apply lex_fun (rfl : psAt _ _ = none)
            · intro x u hR hf
              clear hR hf
              go_simp
              exact ⟨rfl, Ext.refl _⟩
            simp only [Act.put, List.setIfInBounds_toArray, List.set_cons_succ, List.set_cons_zero]
            apply lex_fun (rfl : psAt _ _ = none)
            · intro x u hR hf
              have c0 := (HA.out u (HY.out.trans hR)).1
              clear hR hf
              go_simp
              exact ⟨rfl, Ext.refl _⟩
            simp only [Act.put, List.setIfInBounds_toArray, List.set_cons_succ, List.set_cons_zero]
            refine lex_pred (p := pT2 11) rfl ?_ ?_
            · intro x u hR hf
              obtain ⟨b, hb1, hb2⟩ := (by first | exact hf.1 rfl | exact hf.2.1 rfl : pRow (x 0) u)
              have hcal := hid (kCan (hb1.trans (row_sv b)) (ints_nil u) (drift_at hb2) (HA.out u (HY.out.trans hR)).2 (j_can HB.out (-1) 0))
              clear hR hf hb1 hb2
              go_simp
              exact hcal.out.mono fun e w'' ⟨⟨r, he⟩, hx'⟩ => ⟨_, he, ⟨r, rfl⟩, hx'⟩
            simp only [Act.put, List.setIfInBounds_toArray, List.set_cons_succ, List.set_cons_zero]
            refine lex_pred (p := pT2 11) rfl ?_ ?_
            · intro x u hR hf
              have hp : pT2 11 (x 5) u := by first | exact hf.1 rfl | exact hf.2.1 rfl | exact hf.2.2.1 rfl | exact hf.2.2.2.1 rfl
              clear hR hf
              go_simp
              first | exact ⟨hp, Ext.refl _⟩ | exact Ext.refl _
            simp only [Act.put, List.setIfInBounds_toArray, List.set_cons_succ, List.set_cons_zero]
            refine lex_pred (p := pAny) rfl ?_ ?_
            · intro x u hR hf
              obtain ⟨r, hp⟩ := (by first | exact hf.1 rfl | exact hf.2.1 rfl : pT2 11 (x 6) u)
              rw [if_pos (show Region.wanted _ _ = true from rfl)]
              exact gives_part (.tmp 242) 0 rfl hp rfl ⟨trivial, Ext.refl _⟩
            simp only [Act.put, List.setIfInBounds_toArray, List.set_cons_succ, List.set_cons_zero]
            refine lex_fun (v := .int .i64 11) (rfl : psAt _ _ = none) ?_ ?_
            · intro x u hR hf
              obtain ⟨r, hp⟩ := (by first | exact hf.1 rfl | exact hf.2.1 rfl : pT2 11 (x 6) u)
              rw [if_pos (show Region.wanted _ _ = true from rfl)]
              exact gives_part (.tmp 242) 1 rfl hp rfl ⟨rfl, Ext.refl _⟩
            simp only [Act.put, List.setIfInBounds_toArray, List.set_cons_succ, List.set_cons_zero]
            refine lex_pred (p := pAny) rfl ?_ ?_
            · intro x u hR hf
              clear hR hf
              go_simp
              exact ⟨trivial, Ext.refl _⟩
            simp only [Act.put, List.setIfInBounds_toArray, List.set_cons_succ, List.set_cons_zero]
            apply lex_fun (rfl : psAt _ _ = none)
            · intro x u hR hf
              clear hR hf
              go_simp
              exact ⟨rfl, Ext.refl _⟩
            simp only [Act.put, List.setIfInBounds_toArray, List.set_cons_succ, List.set_cons_zero]
            refine lex_nil fun x w6 hE hfacts => ?_
            clear hfacts
            have HY := hid (HY.out.trans hE)
            clear hE
            generalize x 0 = y0
            generalize x 5 = y5
            generalize x 6 = y6
            generalize x 7 = y7
            generalize x 9 = y9
            clear x
            gi_wp2_with fail
            refine lex_wide 11 [(0, pRow), (5, pT2 11), (6, pT2 11), (7, pAny), (9, pAny)] (by kernel_rfl) (by kernel_rfl) (kStab_cons pRow_s (kStab_cons (pT2_s 11) (kStab_cons (pT2_s 11) (kStab_cons pAny_s (kStab_cons pAny_s kStab_nil))))) ?_
            simp only [List.take_succ_cons, List.take_zero, List.drop_succ_cons, List.drop_zero]
            refine lex_pred (p := pRow) rfl ?_ ?_
            · intro x u hR hf
              have hcal := hid (row_known u)
              clear hR hf
              go_simp
              exact hcal.out.mono fun e w'' ⟨b, he, hx', _, hb⟩ => ⟨_, he, ⟨b, rfl, hb⟩, hx'⟩
            simp only [Act.put, List.setIfInBounds_toArray, List.set_cons_succ, List.set_cons_zero]
            apply lex_fun (rfl : psAt _ _ = none)
            · intro x u hR hf
              clear hR hf
              go_simp
              exact ⟨rfl, Ext.refl _⟩
            simp only [Act.put, List.setIfInBounds_toArray, List.set_cons_succ, List.set_cons_zero]
            apply lex_fun (rfl : psAt _ _ = none)
            · intro x u hR hf
              clear hR hf
              go_simp
              exact ⟨rfl, Ext.refl _⟩
            simp only [Act.put, List.setIfInBounds_toArray, List.set_cons_succ, List.set_cons_zero]
            apply lex_fun (rfl : psAt _ _ = none)
            · intro x u hR hf
              clear hR hf
              go_simp
              exact ⟨rfl, Ext.refl _⟩
            simp only [Act.put, List.setIfInBounds_toArray, List.set_cons_succ, List.set_cons_zero]
            apply lex_fun (rfl : psAt _ _ = none)
            · intro x u hR hf
              have c0 := (HA.out u (HY.out.trans hR)).1
              clear hR hf
              go_simp
              exact ⟨rfl, Ext.refl _⟩
            simp only [Act.put, List.setIfInBounds_toArray, List.set_cons_succ, List.set_cons_zero]
            refine lex_pred (p := pT2 11) rfl ?_ ?_
            · intro x u hR hf
              obtain ⟨b, hb1, hb2⟩ := (by first | exact hf.1 rfl | exact hf.2.1 rfl : pRow (x 0) u)
              have hcal := hid (kLiars (hb1.trans (row_sv b)) (ints_nil u) (drift_at hb2) (HA.out u (HY.out.trans hR)).2 (j_least HB.out))
              clear hR hf hb1 hb2
              go_simp
              exact hcal.out.mono fun e w'' ⟨⟨r, he⟩, hx'⟩ => ⟨_, he, ⟨r, rfl⟩, hx'⟩
            simp only [Act.put, List.setIfInBounds_toArray, List.set_cons_succ, List.set_cons_zero]
            refine lex_pred (p := pT2 11) rfl ?_ ?_
            · intro x u hR hf
              have hp : pT2 11 (x 5) u := by first | exact hf.1 rfl | exact hf.2.1 rfl | exact hf.2.2.1 rfl | exact hf.2.2.2.1 rfl
              clear hR hf
              go_simp
              first | exact ⟨hp, Ext.refl _⟩ | exact Ext.refl _
            simp only [Act.put, List.setIfInBounds_toArray, List.set_cons_succ, List.set_cons_zero]
            refine lex_pred (p := pAny) rfl ?_ ?_
            · intro x u hR hf
              obtain ⟨r, hp⟩ := (by first | exact hf.1 rfl | exact hf.2.1 rfl : pT2 11 (x 6) u)
              rw [if_pos (show Region.wanted _ _ = true from rfl)]
              exact gives_part (.tmp 251) 0 rfl hp rfl ⟨trivial, Ext.refl _⟩
            simp only [Act.put, List.setIfInBounds_toArray, List.set_cons_succ, List.set_cons_zero]
            refine lex_fun (v := .int .i64 11) (rfl : psAt _ _ = none) ?_ ?_
            · intro x u hR hf
              obtain ⟨r, hp⟩ := (by first | exact hf.1 rfl | exact hf.2.1 rfl : pT2 11 (x 6) u)
              rw [if_pos (show Region.wanted _ _ = true from rfl)]
              exact gives_part (.tmp 251) 1 rfl hp rfl ⟨rfl, Ext.refl _⟩
            simp only [Act.put, List.setIfInBounds_toArray, List.set_cons_succ, List.set_cons_zero]
            refine lex_pred (p := pAny) rfl ?_ ?_
            · intro x u hR hf
              clear hR hf
              go_simp
              exact ⟨trivial, Ext.refl _⟩
            simp only [Act.put, List.setIfInBounds_toArray, List.set_cons_succ, List.set_cons_zero]
            apply lex_fun (rfl : psAt _ _ = none)
            · intro x u hR hf
              clear hR hf
              go_simp
              exact ⟨rfl, Ext.refl _⟩
            simp only [Act.put, List.setIfInBounds_toArray, List.set_cons_succ, List.set_cons_zero]
            refine lex_nil fun x w6 hE hfacts => ?_
            clear hfacts
            have HY := hid (HY.out.trans hE)
            clear hE
            generalize x 0 = y0
            generalize x 5 = y5
            generalize x 6 = y6
            generalize x 7 = y7
            generalize x 9 = y9
            clear x
            gi_wp2_with fail
            refine lex_wide 13 [(0, pRow), (5, pT3 11), (6, pT3 11), (7, pAny), (8, pAny), (10, pAny), (11, pAny)] (by kernel_rfl) (by kernel_rfl) (kStab_cons pRow_s (kStab_cons (pT3_s 11) (kStab_cons (pT3_s 11) (kStab_cons pAny_s (kStab_cons pAny_s (kStab_cons pAny_s (kStab_cons pAny_s kStab_nil))))))) ?_
            simp only [List.take_succ_cons, List.take_zero, List.drop_succ_cons, List.drop_zero]
            refine lex_pred (p := pRow) rfl ?_ ?_
            · intro x u hR hf
              have hcal := hid (row_known u)
              clear hR hf
              go_simp
              exact hcal.out.mono fun e w'' ⟨b, he, hx', _, hb⟩ => ⟨_, he, ⟨b, rfl, hb⟩, hx'⟩
            simp only [Act.put, List.setIfInBounds_toArray, List.set_cons_succ, List.set_cons_zero]
            apply lex_fun (rfl : psAt _ _ = none)
            · intro x u hR hf
              clear hR hf
              go_simp
              exact ⟨rfl, Ext.refl _⟩
            simp only [Act.put, List.setIfInBounds_toArray, List.set_cons_succ, List.set_cons_zero]
            apply lex_fun (rfl : psAt _ _ = none)
            · intro x u hR hf
              clear hR hf
              go_simp
              exact ⟨rfl, Ext.refl _⟩
            simp only [Act.put, List.setIfInBounds_toArray, List.set_cons_succ, List.set_cons_zero]
            apply lex_fun (rfl : psAt _ _ = none)
            · intro x u hR hf
              clear hR hf
              go_simp
              exact ⟨rfl, Ext.refl _⟩
            simp only [Act.put, List.setIfInBounds_toArray, List.set_cons_succ, List.set_cons_zero]
            apply lex_fun (rfl : psAt _ _ = none)
            · intro x u hR hf
              have c0 := (HA.out u (HY.out.trans hR)).1
              clear hR hf
              go_simp
              exact ⟨rfl, Ext.refl _⟩
            simp only [Act.put, List.setIfInBounds_toArray, List.set_cons_succ, List.set_cons_zero]
            refine lex_pred (p := pT3 11) rfl ?_ ?_
            · intro x u hR hf
              obtain ⟨b, hb1, hb2⟩ := (by first | exact hf.1 rfl | exact hf.2.1 rfl : pRow (x 0) u)
              have hcal := hid (kNext (hb1.trans (row_sv b)) (ints_nil u) (drift_at hb2) (HA.out u (HY.out.trans hR)).2 (casts_nil u) (j_search HB.out (-1) 0 []))
              clear hR hf hb1 hb2
              go_simp
              exact hcal.out.mono fun e w'' ⟨⟨n, r, he⟩, hx'⟩ => ⟨_, he, ⟨n, r, rfl⟩, hx'⟩
            simp only [Act.put, List.setIfInBounds_toArray, List.set_cons_succ, List.set_cons_zero]
            refine lex_pred (p := pT3 11) rfl ?_ ?_
            · intro x u hR hf
              have hp : pT3 11 (x 5) u := by first | exact hf.1 rfl | exact hf.2.1 rfl | exact hf.2.2.1 rfl | exact hf.2.2.2.1 rfl
              clear hR hf
              go_simp
              first | exact ⟨hp, Ext.refl _⟩ | exact Ext.refl _
            simp only [Act.put, List.setIfInBounds_toArray, List.set_cons_succ, List.set_cons_zero]
            refine lex_pred (p := pAny) rfl ?_ ?_
            · intro x u hR hf
              obtain ⟨n, r, hp⟩ := (by first | exact hf.1 rfl | exact hf.2.1 rfl : pT3 11 (x 6) u)
              rw [if_pos (show Region.wanted _ _ = true from rfl)]
              exact gives_part (.tmp 260) 0 rfl hp rfl ⟨trivial, Ext.refl _⟩
            simp only [Act.put, List.setIfInBounds_toArray, List.set_cons_succ, List.set_cons_zero]
            refine lex_pred (p := pAny) rfl ?_ ?_
            · intro x u hR hf
              obtain ⟨n, r, hp⟩ := (by first | exact hf.1 rfl | exact hf.2.1 rfl : pT3 11 (x 6) u)
              rw [if_pos (show Region.wanted _ _ = true from rfl)]
              exact gives_part (.tmp 260) 1 rfl hp rfl ⟨trivial, Ext.refl _⟩
            simp only [Act.put, List.setIfInBounds_toArray, List.set_cons_succ, List.set_cons_zero]
            refine lex_fun (v := .int .i64 11) (rfl : psAt _ _ = none) ?_ ?_
            · intro x u hR hf
              obtain ⟨n, r, hp⟩ := (by first | exact hf.1 rfl | exact hf.2.1 rfl : pT3 11 (x 6) u)
              rw [if_pos (show Region.wanted _ _ = true from rfl)]
              exact gives_part (.tmp 260) 2 rfl hp rfl ⟨rfl, Ext.refl _⟩
            simp only [Act.put, List.setIfInBounds_toArray, List.set_cons_succ, List.set_cons_zero]
            refine lex_pred (p := pAny) rfl ?_ ?_
            · intro x u hR hf
              clear hR hf
              go_simp
              exact ⟨trivial, Ext.refl _⟩
            simp only [Act.put, List.setIfInBounds_toArray, List.set_cons_succ, List.set_cons_zero]
            refine lex_pred (p := pAny) rfl ?_ ?_
            · intro x u hR hf
              clear hR hf
              go_simp
              exact ⟨trivial, Ext.refl _⟩
            simp only [Act.put, List.setIfInBounds_toArray, List.set_cons_succ, List.set_cons_zero]
            apply lex_fun (rfl : psAt _ _ = none)
            · intro x u hR hf
              clear hR hf
              go_simp
              exact ⟨rfl, Ext.refl _⟩
            simp only [Act.put, List.setIfInBounds_toArray, List.set_cons_succ, List.set_cons_zero]
            refine lex_nil fun x w6 hE hfacts => ?_
            clear hfacts
            have HY := hid (HY.out.trans hE)
            clear hE
            generalize x 0 = y0
            generalize x 5 = y5
            generalize x 6 = y6
            generalize x 7 = y7
            generalize x 8 = y8
            generalize x 10 = y10
            generalize x 11 = y11
            clear x
            gi_wp2_with fail
            go_roundw
            case rel => exact ⟨k + 1, by omega, by go_num, HY.out⟩
            case measure => simp [intOf]; omega
        · skip
          obtain rfl : k = 7 := by omega
          have HX := hid (HX.out.trans HY.out)
          clear HY HWR
          gi_upto_region 33 with (gi_at_call 45; ((with_reducible refine (row_known _).mono ?_); rintro e wA ⟨bL, rfl, hxA, _, hdA⟩))
          have hL : Ext wA ((wA.alloc (.cells #[.int .i64 4, .int .i64 1, .slice (some ⟨wA.heap.size + 1, 0, none⟩) 4 4, .int .i64 3, .slice (some ⟨bL, 0, none⟩) 2 2, .int .i64 1] 25)).alloc (.cells #[.int .i64 0, .int .i64 1, .int .i64 2, .int .i64 3] 3)) := ((Ext.refl _).alloc _).alloc _
          have hL0 : ((wA.alloc (.cells #[.int .i64 4, .int .i64 1, .slice (some ⟨wA.heap.size + 1, 0, none⟩) 4 4, .int .i64 3, .slice (some ⟨bL, 0, none⟩) 2 2, .int .i64 1] 25)).alloc (.cells #[.int .i64 0, .int .i64 1, .int .i64 2, .int .i64 3] 3)).heap[wA.heap.size]? = some (.cells #[.int .i64 4, .int .i64 1, .slice (some ⟨wA.heap.size + 1, 0, none⟩) 4 4, .int .i64 3, .slice (some ⟨bL, 0, none⟩) 2 2, .int .i64 1] 25 (0, 0)) := by simp only [alloc_at, World.size_alloc]; (repeat rw [if_neg (by omega)]); first | rfl | rw [if_pos (by omega)] | rw [if_pos trivial]
          have hL1 : ((wA.alloc (.cells #[.int .i64 4, .int .i64 1, .slice (some ⟨wA.heap.size + 1, 0, none⟩) 4 4, .int .i64 3, .slice (some ⟨bL, 0, none⟩) 2 2, .int .i64 1] 25)).alloc (.cells #[.int .i64 0, .int .i64 1, .int .i64 2, .int .i64 3] 3)).heap[wA.heap.size + 1]? = some (.cells #[.int .i64 0, .int .i64 1, .int .i64 2, .int .i64 3] 3 (0, 0)) := by simp only [alloc_at, World.size_alloc]; (repeat rw [if_neg (by omega)]); first | rfl | rw [if_pos (by omega)] | rw [if_pos trivial]
          generalize (wA.alloc (.cells #[.int .i64 4, .int .i64 1, .slice (some ⟨wA.heap.size + 1, 0, none⟩) 4 4, .int .i64 3, .slice (some ⟨bL, 0, none⟩) 2 2, .int .i64 1] 25)).alloc (.cells #[.int .i64 0, .int .i64 1, .int .i64 2, .int .i64 3] 3) = wL at *
          have HLA := hid (show IntsAt wL (.slice (some ⟨wA.heap.size + 1, 0, none⟩) 4 4) [0, 1, 2, 3] from ⟨_, 4, rfl, by simp, fun i hi => ⟨_, 0, rfl, lt_of_block hL1, by rw [cell_of hL1, Nat.zero_add]; rcases (by simp at hi; omega : i = 0 ∨ i = 1 ∨ i = 2 ∨ i = 3) with rfl | rfl | rfl | rfl <;> rfl⟩⟩)
          have HDA := hid (drift_at (hL.block hdA))
          have HL0 := hid hL0
          have HX := hid (HX.out.trans (hxA.trans hL))
          clear hL hL0 hL1 hxA hdA
          generalize wA.heap.size + 1 = AL at *
          generalize wA.heap.size = BA at *
          have HZ := hid (Ext.refl wL)
          gi_wp2_with (gi_at_call 45; ((with_reducible refine (row_any _).mono ?_); rintro e u33a ⟨dv33, rfl, hx33a, hd33⟩))
          gi_wp2_with (gi_at_call 46; ((with_reducible refine (reports_3 _).mono ?_); rintro e u33b ⟨rv33, rfl, hx33b, hr33⟩))
          have HC := hid (kCan (sv := seaVal rowD _ _) rfl (ints_nil _) (hd33.mono (hx33b)) hr33 ex_7a)
          gi_wp2_with (gi_at_call 24; ((with_reducible refine (HC.out).mono ?_); rintro e u33c ⟨⟨r33, rfl⟩, hx33c⟩))
          clear HC
          have HZ := hid (HZ.out.trans (hx33a.trans (hx33b.trans hx33c)))
          clear hx33c hx33b hx33a
          clear hd33 hr33
          gi_wp2_with (gi_at_call 45; ((with_reducible refine (row_any _).mono ?_); rintro e u34a ⟨dv34, rfl, hx34a, hd34⟩))
          gi_wp2_with (gi_at_call 46; ((with_reducible refine (reports_3 _).mono ?_); rintro e u34b ⟨rv34, rfl, hx34b, hr34⟩))
          have HC := hid (kCan (sv := seaVal rowD _ _) rfl (ints_nil _) (hd34.mono (hx34b)) hr34 ex_7b)
          gi_wp2_with (gi_at_call 24; ((with_reducible refine (HC.out).mono ?_); rintro e u34c ⟨⟨r34, rfl⟩, hx34c⟩))
          clear HC
          have HZ := hid (HZ.out.trans (hx34a.trans (hx34b.trans hx34c)))
          clear hx34c hx34b hx34a
          clear hd34 hr34
          gi_wp2_with (gi_at_call 45; ((with_reducible refine (row_any _).mono ?_); rintro e u35a ⟨dv35, rfl, hx35a, hd35⟩))
          gi_wp2_with (gi_at_call 46; ((with_reducible refine (reports_3 _).mono ?_); rintro e u35b ⟨rv35, rfl, hx35b, hr35⟩))
          have HC := hid (kCan (sv := seaVal rowD _ _) rfl (ints_nil _) (hd35.mono (hx35b)) hr35 ex_12a)
          gi_wp2_with (gi_at_call 24; ((with_reducible refine (HC.out).mono ?_); rintro e u35c ⟨⟨r35, rfl⟩, hx35c⟩))
          clear HC
          have HZ := hid (HZ.out.trans (hx35a.trans (hx35b.trans hx35c)))
          clear hx35c hx35b hx35a
          clear hd35 hr35
          skip
          gi_wp2_with (gi_at_call 45; ((with_reducible refine (row_any _).mono ?_); rintro e u36a ⟨dv36, rfl, hx36a, hd36⟩))
          gi_wp2_with (gi_at_call 46; ((with_reducible refine (reports_3 _).mono ?_); rintro e u36b ⟨rv36, rfl, hx36b, hr36⟩))
          have HC := hid (kNext (sv := seaVal rowD _ _) rfl (ints_nil _) (hd36.mono (hx36b)) hr36 (casts_nil _) ex_7c)
          gi_wp2_with (gi_at_call 28; ((with_reducible refine (HC.out).mono ?_); rintro e u36c ⟨⟨n36, r36, rfl⟩, hx36c⟩))
          clear HC
          have HZ := hid (HZ.out.trans (hx36a.trans (hx36b.trans hx36c)))
          clear hx36c hx36b hx36a
          clear hd36 hr36
          gi_wp2_with (gi_at_call 45; ((with_reducible refine (row_any _).mono ?_); rintro e u37a ⟨dv37, rfl, hx37a, hd37⟩))
          gi_wp2_with (gi_at_call 46; ((with_reducible refine (reports_3 _).mono ?_); rintro e u37b ⟨rv37, rfl, hx37b, hr37⟩))
          have HC := hid (kNext (sv := seaVal rowD _ _) rfl (ints_nil _) (hd37.mono (hx37b)) hr37 (casts_nil _) ex_13a)
          gi_wp2_with (gi_at_call 28; ((with_reducible refine (HC.out).mono ?_); rintro e u37c ⟨⟨n37, r37, rfl⟩, hx37c⟩))
          clear HC
          have HZ := hid (HZ.out.trans (hx37a.trans (hx37b.trans hx37c)))
          clear hx37c hx37b hx37a
          clear hd37 hr37
          gi_wp2_with (gi_at_call 45; ((with_reducible refine (row_any _).mono ?_); rintro e u38a ⟨dv38, rfl, hx38a, hd38⟩))
          gi_wp2_with (gi_at_call 46; ((with_reducible refine (reports_3 _).mono ?_); rintro e u38b ⟨rv38, rfl, hx38b, hr38⟩))
          have ht38 : CastsAt (u38b.alloc (.cells #[.int .i64 0, .int .i64 0] 64)) (.slice (some ⟨u38b.heap.size, 0, none⟩) 1 1) [⟨0, 0⟩] := casts_new 1 (Ext.refl _) rfl (by omega) (fun i hi => by obtain rfl : i = 0 := (by simp [castsK] at hi; omega); exact ⟨rfl, rfl⟩)
          have hxs38 : Ext u38b (u38b.alloc (.cells #[.int .i64 0, .int .i64 0] 64)) := (Ext.refl _).alloc _
          have HC := hid (kNext (sv := seaVal rowD _ _) rfl (ints_nil _) (hd38.mono (hx38b.trans hxs38)) (hr38.mono (hxs38)) ht38 ex_12b)
          gi_wp2_with (gi_at_call 28; ((with_reducible refine (HC.out).mono ?_); rintro e u38c ⟨⟨n38, r38, rfl⟩, hx38c⟩))
          clear HC
          have HZ := hid (HZ.out.trans (hx38a.trans (hx38b.trans (hxs38.trans hx38c))))
          clear hx38c hxs38 hx38b hx38a
          clear hd38 hr38 ht38
          skip
          gi_wp2_with (gi_at_call 45; ((with_reducible refine (row_any _).mono ?_); rintro e u39a ⟨dv39, rfl, hx39a, hd39⟩))
          gi_wp2_with (gi_at_call 46; ((with_reducible refine (reports_3 _).mono ?_); rintro e u39b ⟨rv39, rfl, hx39b, hr39⟩))
          have ht39 : CastsAt (u39b.alloc (.cells #[.int .i64 4, .int .i64 0] 64)) (.slice (some ⟨u39b.heap.size, 0, none⟩) 1 1) [⟨4, 0⟩] := casts_new 1 (Ext.refl _) rfl (by omega) (fun i hi => by obtain rfl : i = 0 := (by simp [castsK] at hi; omega); exact ⟨rfl, rfl⟩)
          have hxs39 : Ext u39b (u39b.alloc (.cells #[.int .i64 4, .int .i64 0] 64)) := (Ext.refl _).alloc _
          have HC := hid (kSure (sv := seaVal rowD _ _) rfl (ints_nil _) (hd39.mono (hx39b.trans hxs39)) (hr39.mono (hxs39)) ht39 ex_13b)
          gi_wp2_with (gi_at_call 30; ((with_reducible refine (HC.out).mono ?_); rintro e u39c ⟨⟨r39, rfl⟩, hx39c⟩))
          clear HC
          have HZ := hid (HZ.out.trans (hx39a.trans (hx39b.trans (hxs39.trans hx39c))))
          clear hx39c hxs39 hx39b hx39a
          clear hd39 hr39 ht39
          gi_wp2_with (gi_at_call 45; ((with_reducible refine (row_any _).mono ?_); rintro e u40a ⟨dv40, rfl, hx40a, hd40⟩))
          gi_wp2_with (gi_at_call 46; ((with_reducible refine (reports_3 _).mono ?_); rintro e u40b ⟨rv40, rfl, hx40b, hr40⟩))
          have ht40 : CastsAt (u40b.alloc (.cells #[.int .i64 0, .int .i64 0] 64)) (.slice (some ⟨u40b.heap.size, 0, none⟩) 1 1) [⟨0, 0⟩] := casts_new 1 (Ext.refl _) rfl (by omega) (fun i hi => by obtain rfl : i = 0 := (by simp [castsK] at hi; omega); exact ⟨rfl, rfl⟩)
          have hxs40 : Ext u40b (u40b.alloc (.cells #[.int .i64 0, .int .i64 0] 64)) := (Ext.refl _).alloc _
          have HC := hid (kSure (sv := seaVal rowD _ _) rfl (ints_nil _) (hd40.mono (hx40b.trans hxs40)) (hr40.mono (hxs40)) ht40 ex_4a)
          gi_wp2_with (gi_at_call 30; ((with_reducible refine (HC.out).mono ?_); rintro e u40c ⟨⟨r40, rfl⟩, hx40c⟩; have hLc := cell_of (((HZ.out.trans (hx40a.trans (hx40b.trans (hxs40.trans hx40c)))).block HL0.out))))
          clear HC
          have HZ := hid (HZ.out.trans (hx40a.trans (hx40b.trans (hxs40.trans hx40c))))
          clear hx40c hxs40 hx40b hx40a
          clear hd40 hr40 ht40
          have HC := hid (kLeast (land_sv AL bL) (HLA.out.mono HZ.out) (HDA.out.mono HZ.out) (reps_nil _) ex_4b)
          gi_wp2_with (gi_at_call 20; ((with_reducible refine (HC.out).mono ?_); rintro e u41c ⟨⟨n41, r41, rfl⟩, hx41c⟩; have hLc := cell_of ((HZ.out.trans hx41c).block HL0.out)))
          clear HC
          have HZ := hid (HZ.out.trans (hx41c))
          clear hx41c
          have HC := hid (kLiars (land_sv AL bL) (HLA.out.mono HZ.out) (HDA.out.mono HZ.out) (reps_nil _) ex_4b)
          gi_wp2_with (gi_at_call 26; ((with_reducible refine (HC.out).mono ?_); rintro e u42c ⟨⟨r42, rfl⟩, hx42c⟩; have hLc := cell_of ((HZ.out.trans hx42c).block HL0.out)))
          clear HC
          have HZ := hid (HZ.out.trans (hx42c))
          clear hx42c
          have HC := hid (kCan (land_sv AL bL) (HLA.out.mono HZ.out) (HDA.out.mono HZ.out) (reps_nil _) ex_12c)
          gi_wp2_with (gi_at_call 24; ((with_reducible refine (HC.out).mono ?_); rintro e u43c ⟨⟨r43, rfl⟩, hx43c⟩))
          clear HC
          have HZ := hid (HZ.out.trans (hx43c))
          clear hx43c
          clear hLc HLA HDA HL0
          gi_wp2_with fail
          skip
          refine lex_wide 10 [(0, pRow), (1, pCv), (2, pT3 13), (3, pT3 13), (4, pAny), (5, pAny), (7, pAny), (8, pAny)] (by kernel_rfl) (by kernel_rfl) (kStab_cons pRow_s (kStab_cons pCv_s (kStab_cons (pT3_s 13) (kStab_cons (pT3_s 13) (kStab_cons pAny_s (kStab_cons pAny_s (kStab_cons pAny_s (kStab_cons pAny_s kStab_nil)))))))) ?_
          simp only [List.take_succ_cons, List.take_zero, List.drop_succ_cons, List.drop_zero]
          refine lex_pred (p := pRow) rfl ?_ ?_
          · intro x u hR hf
            have hcal := hid (row_known u)
            clear hR hf
            go_simp
            exact hcal.out.mono fun e w'' ⟨b, he, hx', _, hb⟩ => ⟨_, he, ⟨b, rfl, hb⟩, hx'⟩
          simp only [Act.put, List.setIfInBounds_toArray, List.set_cons_succ, List.set_cons_zero]
          refine lex_pred (p := pCv) rfl ?_ ?_
          · intro x u hR hf
            have hm := make_casts u
            clear hR hf
            go_simp
            exact ⟨casts_made (Ext.refl _), (Ext.refl _).alloc _⟩
          simp only [Act.put, List.setIfInBounds_toArray, List.set_cons_succ, List.set_cons_zero]
          refine lex_pred (p := pT3 13) rfl ?_ ?_
          · intro x u hR hf
            obtain ⟨b, hb1, hb2⟩ := (by first | exact hf.1 rfl | exact hf.2.1 rfl : pRow (x 0) u)
            have hcv : pCv (x 1) u := by first | exact hf.1 rfl | exact hf.2.1 rfl | exact hf.2.2.1 rfl | exact hf.2.2.2.1 rfl
            have hcal := hid (kNext (hb1.trans (row_sv b)) (ints_nil u) (drift_at hb2) (reps_nil u) hcv ex_13c)
            clear hR hf hb1 hb2 hcv
            go_simp
            exact hcal.out.mono fun e w'' ⟨⟨n, r, he⟩, hx'⟩ => ⟨_, he, ⟨n, r, rfl⟩, hx'⟩
          simp only [Act.put, List.setIfInBounds_toArray, List.set_cons_succ, List.set_cons_zero]
          refine lex_pred (p := pT3 13) rfl ?_ ?_
          · intro x u hR hf
            have hp : pT3 13 (x 2) u := by first | exact hf.1 rfl | exact hf.2.1 rfl | exact hf.2.2.1 rfl | exact hf.2.2.2.1 rfl
            clear hR hf
            go_simp
            first | exact ⟨hp, Ext.refl _⟩ | exact Ext.refl _
          simp only [Act.put, List.setIfInBounds_toArray, List.set_cons_succ, List.set_cons_zero]
          refine lex_pred (p := pAny) rfl ?_ ?_
          · intro x u hR hf
            obtain ⟨n, r, hp⟩ := (by first | exact hf.1 rfl | exact hf.2.1 rfl : pT3 13 (x 3) u)
            rw [if_pos (show Region.wanted _ _ = true from rfl)]
            exact gives_part (.tmp 364) 0 rfl hp rfl ⟨trivial, Ext.refl _⟩
          simp only [Act.put, List.setIfInBounds_toArray, List.set_cons_succ, List.set_cons_zero]
          refine lex_pred (p := pAny) rfl ?_ ?_
          · intro x u hR hf
            obtain ⟨n, r, hp⟩ := (by first | exact hf.1 rfl | exact hf.2.1 rfl : pT3 13 (x 3) u)
            rw [if_pos (show Region.wanted _ _ = true from rfl)]
            exact gives_part (.tmp 364) 1 rfl hp rfl ⟨trivial, Ext.refl _⟩
          simp only [Act.put, List.setIfInBounds_toArray, List.set_cons_succ, List.set_cons_zero]
          refine lex_fun (v := .int .i64 13) (rfl : psAt _ _ = none) ?_ ?_
          · intro x u hR hf
            obtain ⟨n, r, hp⟩ := (by first | exact hf.1 rfl | exact hf.2.1 rfl : pT3 13 (x 3) u)
            rw [if_pos (show Region.wanted _ _ = true from rfl)]
            exact gives_part (.tmp 364) 2 rfl hp rfl ⟨rfl, Ext.refl _⟩
          simp only [Act.put, List.setIfInBounds_toArray, List.set_cons_succ, List.set_cons_zero]
          refine lex_pred (p := pAny) rfl ?_ ?_
          · intro x u hR hf
            clear hR hf
            go_simp
            exact ⟨trivial, Ext.refl _⟩
          simp only [Act.put, List.setIfInBounds_toArray, List.set_cons_succ, List.set_cons_zero]
          refine lex_pred (p := pAny) rfl ?_ ?_
          · intro x u hR hf
            clear hR hf
            go_simp
            exact ⟨trivial, Ext.refl _⟩
          simp only [Act.put, List.setIfInBounds_toArray, List.set_cons_succ, List.set_cons_zero]
          apply lex_fun (rfl : psAt _ _ = none)
          · intro x u hR hf
            clear hR hf
            go_simp
            exact ⟨rfl, Ext.refl _⟩
          simp only [Act.put, List.setIfInBounds_toArray, List.set_cons_succ, List.set_cons_zero]
          refine lex_nil fun x u44 hE hfacts => ?_
          clear hfacts
          have HZ := hid (HZ.out.trans hE)
          clear hE
          generalize x 0 = z0
          generalize x 1 = z1
          generalize x 2 = z2
          generalize x 3 = z3
          generalize x 4 = z4
          generalize x 5 = z5
          generalize x 7 = z7
          generalize x 8 = z8
          clear x
          gi_wp2_with (gi_at_call 45; ((with_reducible refine (row_any _).mono ?_); rintro e u47a ⟨dv47, rfl, hx47a, hd47⟩))
          gi_wp2_with (gi_at_call 46; ((with_reducible refine (reports_2 _).mono ?_); rintro e u47b ⟨rv47, rfl, hx47b, hr47⟩))
          have ht47 : IntsAt (u47b.alloc (.cells #[.int .i64 0, .int .i64 0, .int .i64 3] 3)) (.slice (some ⟨u47b.heap.size, 0, none⟩) 3 3) [0, 0, 3] := ints_new 3 (Ext.refl _) rfl (by omega) (fun i hi => by rcases (by simp at hi; omega : i = 0 ∨ i = 1 ∨ i = 2) with rfl | rfl | rfl <;> rfl)
          have hxs47 : Ext u47b (u47b.alloc (.cells #[.int .i64 0, .int .i64 0, .int .i64 3] 3)) := (Ext.refl _).alloc _
          have HC := hid (IsTrack_any rowD _ dv47 rv47 _ (repsL.take 2) [0, 0, 3] _ (ints_nil _) (hd47.mono (hx47b.trans hxs47)) (hr47.mono (hxs47)) ht47)
          rw [ex_t1] at HC
          gi_wp2_with (gi_at_call 16; ((with_reducible refine (HC.out).mono ?_); rintro e u47c ⟨rfl, hx47c⟩))
          clear HC
          have HZ := hid (HZ.out.trans (hx47a.trans (hx47b.trans (hxs47.trans hx47c))))
          clear hx47c hxs47 hx47b hx47a
          clear hd47 hr47 ht47
          skip
          gi_wp2_with (gi_at_call 45; ((with_reducible refine (row_any _).mono ?_); rintro e u48a ⟨dv48, rfl, hx48a, hd48⟩))
          gi_wp2_with (gi_at_call 46; ((with_reducible refine (reports_2 _).mono ?_); rintro e u48b ⟨rv48, rfl, hx48b, hr48⟩))
          have ht48 : IntsAt (u48b.alloc (.cells #[.int .i64 1, .int .i64 1, .int .i64 0] 3)) (.slice (some ⟨u48b.heap.size, 0, none⟩) 3 3) [1, 1, 0] := ints_new 3 (Ext.refl _) rfl (by omega) (fun i hi => by rcases (by simp at hi; omega : i = 0 ∨ i = 1 ∨ i = 2) with rfl | rfl | rfl <;> rfl)
          have hxs48 : Ext u48b (u48b.alloc (.cells #[.int .i64 1, .int .i64 1, .int .i64 0] 3)) := (Ext.refl _).alloc _
          have HC := hid (IsTrack_any rowD _ dv48 rv48 _ (repsL.take 2) [1, 1, 0] _ (ints_nil _) (hd48.mono (hx48b.trans hxs48)) (hr48.mono (hxs48)) ht48)
          rw [ex_t2] at HC
          gi_wp2_with (gi_at_call 16; ((with_reducible refine (HC.out).mono ?_); rintro e u48c ⟨rfl, hx48c⟩))
          clear HC
          have HZ := hid (HZ.out.trans (hx48a.trans (hx48b.trans (hxs48.trans hx48c))))
          clear hx48c hxs48 hx48b hx48a
          clear hd48 hr48 ht48
          gi_wp2_with (gi_at_call 45; ((with_reducible refine (row_any _).mono ?_); rintro e u49a ⟨dv49, rfl, hx49a, hd49⟩))
          have ht49 : IntsAt (u49a.alloc (.cells #[.int .i64 0, .int .i64 0] 3)) (.slice (some ⟨u49a.heap.size, 0, none⟩) 2 2) [0, 0] := ints_new 2 (Ext.refl _) rfl (by omega) (fun i hi => by rcases (by simp at hi; omega : i = 0 ∨ i = 1) with rfl | rfl <;> rfl)
          have hxs49 : Ext u49a (u49a.alloc (.cells #[.int .i64 0, .int .i64 0] 3)) := (Ext.refl _).alloc _
          have HC := hid (IsTrack_any rowD _ dv49 _ _ [] [0, 0] _ (ints_nil _) (hd49.mono (hxs49)) (reps_nil _) ht49)
          rw [ex_t3] at HC
          gi_wp2_with (gi_at_call 16; ((with_reducible refine (HC.out).mono ?_); rintro e u49c ⟨rfl, hx49c⟩))
          clear HC
          have HZ := hid (HZ.out.trans (hx49a.trans (hxs49.trans hx49c)))
          clear hx49c hxs49 hx49a
          clear hd49 ht49
          gi_wp2_with (gi_at_call 45; ((with_reducible refine (row_any _).mono ?_); rintro e u50a ⟨dv50, rfl, hx50a, hd50⟩))
          gi_wp2_with (gi_at_call 46; ((with_reducible refine (reports_2 _).mono ?_); rintro e u50b ⟨rv50, rfl, hx50b, hr50⟩))
          have HC := hid (Can_any rowD _ dv50 rv50 (repsL.take 2) 0 1 _ (ints_nil _) (hd50.mono (hx50b)) hr50)
          rw [ex_c1.1, ex_c1.2] at HC
          gi_wp2_with (gi_at_call 24; ((with_reducible refine (HC.out).mono ?_); rintro e u50c ⟨v50, rfl, hx50c, hv50⟩))
          clear HC
          have HZ := hid (HZ.out.trans (hx50a.trans (hx50b.trans hx50c)))
          clear hx50c hx50b hx50a
          have HMID := hid (hv50.out.ints (by simp))
          clear hd50 hr50 hv50
          skip
          gi_wp2_with (gi_at_call 45; ((with_reducible refine (row_any _).mono ?_); rintro e u51a ⟨dv51, rfl, hx51a, hd51⟩))
          gi_wp2_with (gi_at_call 46; ((with_reducible refine (reports_3 _).mono ?_); rintro e u51b ⟨rv51, rfl, hx51b, hr51⟩))
          have HC := hid (Can_any rowD _ dv51 rv51 (repsL.take 3) 2 1 _ (ints_nil _) (hd51.mono (hx51b)) hr51)
          rw [ex_c2.1, ex_c2.2] at HC
          gi_wp2_with (gi_at_call 24; ((with_reducible refine (HC.out).mono ?_); rintro e u51c ⟨v51, rfl, hx51c, hv51⟩))
          clear HC
          have HZ := hid (HZ.out.trans (hx51a.trans (hx51b.trans hx51c)))
          have HMID := hid (HMID.out.mono (hx51a.trans (hx51b.trans hx51c)))
          clear hx51c hx51b hx51a
          have HALL := hid (hv51.out.ints (by simp))
          clear hd51 hr51 hv51
          gi_wp2_with (gi_at_call 45; ((with_reducible refine (row_any _).mono ?_); rintro e u52a ⟨dv52, rfl, hx52a, hd52⟩))
          gi_wp2_with (gi_at_call 46; ((with_reducible refine (reports_3 _).mono ?_); rintro e u52b ⟨rv52, rfl, hx52b, hr52⟩))
          have HC := hid (Liars_any rowD _ dv52 rv52 (repsL.take 3) _ (ints_nil _) (hd52.mono (hx52b)) hr52)
          rw [ex_l1.1, ex_l1.2] at HC
          gi_wp2_with (gi_at_call 26; ((with_reducible refine (HC.out).mono ?_); rintro e u52c ⟨v52, rfl, hx52c, hv52⟩))
          clear HC
          have HZ := hid (HZ.out.trans (hx52a.trans (hx52b.trans hx52c)))
          have HMID := hid (HMID.out.mono (hx52a.trans (hx52b.trans hx52c)))
          have HALL := hid (HALL.out.mono (hx52a.trans (hx52b.trans hx52c)))
          clear hx52c hx52b hx52a
          have HNO := hid (hv52.out.ints (by simp))
          clear hd52 hr52 hv52
          skip
          gi_wp2_with (gi_at_call 45; ((with_reducible refine (row_any _).mono ?_); rintro e u53a ⟨dv53, rfl, hx53a, hd53⟩))
          gi_wp2_with (gi_at_call 46; ((with_reducible refine (reports_3 _).mono ?_); rintro e u53b ⟨rv53, rfl, hx53b, hr53⟩))
          have ht53 : CastsAt (u53b.alloc (.cells #[.int .i64 0, .int .i64 0, .int .i64 2, .int .i64 0, .int .i64 1, .int .i64 0, .int .i64 1, .int .i64 1] 64)) (.slice (some ⟨u53b.heap.size, 0, none⟩) 4 4) castsK := casts_new 4 (Ext.refl _) rfl (by omega) (fun i hi => by rcases (by simp [castsK] at hi; omega : i = 0 ∨ i = 1 ∨ i = 2 ∨ i = 3) with rfl | rfl | rfl | rfl <;> exact ⟨rfl, rfl⟩)
          have hxs53 : Ext u53b (u53b.alloc (.cells #[.int .i64 0, .int .i64 0, .int .i64 2, .int .i64 0, .int .i64 1, .int .i64 0, .int .i64 1, .int .i64 1] 64)) := (Ext.refl _).alloc _
          have HC := hid (Sure_any rowD _ dv53 rv53 _ (repsL.take 3) 1 1 castsK _ (ints_nil _) (hd53.mono (hx53b.trans hxs53)) (hr53.mono (hxs53)) ht53)
          rw [ex_s1.1, ex_s1.2] at HC
          gi_wp2_with (gi_at_call 30; ((with_reducible refine (HC.out).mono ?_); rintro e u53c ⟨v53, rfl, hx53c, hv53⟩))
          clear HC
          have HZ := hid (HZ.out.trans (hx53a.trans (hx53b.trans (hxs53.trans hx53c))))
          have HMID := hid (HMID.out.mono (hx53a.trans (hx53b.trans (hxs53.trans hx53c))))
          have HALL := hid (HALL.out.mono (hx53a.trans (hx53b.trans (hxs53.trans hx53c))))
          have HNO := hid (HNO.out.mono (hx53a.trans (hx53b.trans (hxs53.trans hx53c))))
          clear hx53c hxs53 hx53b hx53a
          have HONE := hid (hv53.out.ints (by simp))
          clear hd53 hr53 ht53 hv53
          gi_wp2_with (gi_at_call 45; ((with_reducible refine (row_any _).mono ?_); rintro e u54a ⟨dv54, rfl, hx54a, hd54⟩))
          have HC := hid (Can_any rowD _ dv54 _ [] 0 0 _ (ints_nil _) hd54 (reps_nil _))
          rw [ex_c3.1, ex_c3.2] at HC
          gi_wp2_with (gi_at_call 24; ((with_reducible refine (HC.out).mono ?_); rintro e u54c ⟨v54, rfl, hx54c, hv54⟩))
          clear HC
          have HZ := hid (HZ.out.trans (hx54a.trans hx54c))
          have HMID := hid (HMID.out.mono (hx54a.trans hx54c))
          have HALL := hid (HALL.out.mono (hx54a.trans hx54c))
          have HNO := hid (HNO.out.mono (hx54a.trans hx54c))
          have HONE := hid (HONE.out.mono (hx54a.trans hx54c))
          clear hx54c hx54a
          have HFR := hid (hv54.out.ints (by simp))
          clear hd54 hv54
          skip
          obtain ⟨aN, capN, hN, _⟩ := HNO.out
          have hN : v52 = .slice aN 0 capN := hN
          subst hN
          have hn : IntsAt (u54c.alloc (.cells #[.int .i64 2] 3)) (.slice (some ⟨u54c.heap.size, 0, none⟩) 1 1) [2] := ints_new 1 (Ext.refl _) rfl (by omega) (fun i hi => by obtain rfl : i = 0 := (by simp at hi; omega); rfl)
          have hxa : Ext u54c (u54c.alloc (.cells #[.int .i64 2] 3)) := (Ext.refl _).alloc _
          have HC := hid (same_any v50 _ _ _ _ (HMID.out.mono hxa) hn (by simp [intsOf]))
          rw [show intsOf [2] = [2] from rfl, show decide (([2] : List Int) = [2]) = true by decide] at HC
          gi_wp2_with (gi_at_call 22; ((with_reducible refine (HC.out).mono ?_); rintro e s1 ⟨rfl, hxs⟩))
          have HZ := hid (HZ.out.trans (hxa.trans hxs))
          have HMID := hid (HMID.out.mono (hxa.trans hxs))
          have HALL := hid (HALL.out.mono (hxa.trans hxs))
          have HONE := hid (HONE.out.mono (hxa.trans hxs))
          have HFR := hid (HFR.out.mono (hxa.trans hxs))
          clear hn hxa hxs HC
          skip
          have hn : IntsAt (s1.alloc (.cells #[.int .i64 0, .int .i64 1, .int .i64 2, .int .i64 3] 3)) (.slice (some ⟨s1.heap.size, 0, none⟩) 4 4) [0, 1, 2, 3] := ints_new 4 (Ext.refl _) rfl (by omega) (fun i hi => by rcases (by simp at hi; omega : i = 0 ∨ i = 1 ∨ i = 2 ∨ i = 3) with rfl | rfl | rfl | rfl <;> rfl)
          have hxa : Ext s1 (s1.alloc (.cells #[.int .i64 0, .int .i64 1, .int .i64 2, .int .i64 3] 3)) := (Ext.refl _).alloc _
          have HC := hid (same_any v51 _ _ _ _ (HALL.out.mono hxa) hn (by simp [intsOf]))
          rw [show intsOf [0, 1, 2, 3] = [0, 1, 2, 3] from rfl, show decide (([0, 1, 2, 3] : List Int) = [0, 1, 2, 3]) = true by decide] at HC
          gi_wp2_with (gi_at_call 22; ((with_reducible refine (HC.out).mono ?_); rintro e s2 ⟨rfl, hxs⟩))
          have HZ := hid (HZ.out.trans (hxa.trans hxs))
          have HMID := hid (HMID.out.mono (hxa.trans hxs))
          have HALL := hid (HALL.out.mono (hxa.trans hxs))
          have HONE := hid (HONE.out.mono (hxa.trans hxs))
          have HFR := hid (HFR.out.mono (hxa.trans hxs))
          clear hn hxa hxs HC
          have hn : IntsAt (s2.alloc (.cells #[.int .i64 3] 3)) (.slice (some ⟨s2.heap.size, 0, none⟩) 1 1) [3] := ints_new 1 (Ext.refl _) rfl (by omega) (fun i hi => by obtain rfl : i = 0 := (by simp at hi; omega); rfl)
          have hxa : Ext s2 (s2.alloc (.cells #[.int .i64 3] 3)) := (Ext.refl _).alloc _
          have HC := hid (same_any v53 _ _ _ _ (HONE.out.mono hxa) hn (by simp [intsOf]))
          rw [show intsOf [3] = [3] from rfl, show decide (([3] : List Int) = [3]) = true by decide] at HC
          gi_wp2_with (gi_at_call 22; ((with_reducible refine (HC.out).mono ?_); rintro e s3 ⟨rfl, hxs⟩))
          have HZ := hid (HZ.out.trans (hxa.trans hxs))
          have HMID := hid (HMID.out.mono (hxa.trans hxs))
          have HALL := hid (HALL.out.mono (hxa.trans hxs))
          have HONE := hid (HONE.out.mono (hxa.trans hxs))
          have HFR := hid (HFR.out.mono (hxa.trans hxs))
          clear hn hxa hxs HC
          skip
          have hn : IntsAt (s3.alloc (.cells #[.int .i64 0, .int .i64 1, .int .i64 2, .int .i64 3] 3)) (.slice (some ⟨s3.heap.size, 0, none⟩) 4 4) [0, 1, 2, 3] := ints_new 4 (Ext.refl _) rfl (by omega) (fun i hi => by rcases (by simp at hi; omega : i = 0 ∨ i = 1 ∨ i = 2 ∨ i = 3) with rfl | rfl | rfl | rfl <;> rfl)
          have hxa : Ext s3 (s3.alloc (.cells #[.int .i64 0, .int .i64 1, .int .i64 2, .int .i64 3] 3)) := (Ext.refl _).alloc _
          have HC := hid (same_any v54 _ _ _ _ (HFR.out.mono hxa) hn (by simp [intsOf]))
          rw [show intsOf [0, 1, 2, 3] = [0, 1, 2, 3] from rfl, show decide (([0, 1, 2, 3] : List Int) = [0, 1, 2, 3]) = true by decide] at HC
          gi_wp2_with (gi_at_call 22; ((with_reducible refine (HC.out).mono ?_); rintro e s4 ⟨rfl, hxs⟩))
          have HZ := hid (HZ.out.trans (hxa.trans hxs))
          have HMID := hid (HMID.out.mono (hxa.trans hxs))
          have HALL := hid (HALL.out.mono (hxa.trans hxs))
          have HONE := hid (HONE.out.mono (hxa.trans hxs))
          have HFR := hid (HFR.out.mono (hxa.trans hxs))
          clear hn hxa hxs HC
          gi_wp2_with (gi_at_call 23; ((with_reducible refine (works_any _).mono ?_); rintro e s5 ⟨rfl, hxs⟩))
          go_ret
          exact ⟨rfl, HW5.out.trans (HX.out.trans (HZ.out.trans hxs))⟩
end Go.Proofs.Ytiklblbjnblkfaa
