/- Lists of counts in memory, and whether two counts are the same. -/
import Derived.Test.YtiklblbjnblkfaaWG
import Derived.Deep.MidRow
import Derived.Stop.BytesEq
set_option linter.unusedSimpArgs false
set_option linter.unusedVariables false
namespace Go.Proofs.Ytiklblbjnblkfaa
open Go Go.RowKit Go.Shelf

def cntEq (f g : Nat → Int) : Bool := (List.range 80).all fun i => f i == g i
theorem eq_cnt (f g : Nat → Int) (w : World) : (Op.equalIn 10000 124 (.agg (cntArr f)) (.agg (cntArr g))).run Try.prog w = .ok (cntEq f g) w := by
  have he : Try.prog.underlying 3 = some (.int .i64) := Try.underlying3
  have hsz : ∀ w, (sizeOf 3).run Try.prog w = .ok 1 w := fun w => by simp [go_sem]
  unfold cntEq
  rw [List.range_eq_range']
  rw [show (10000 : Nat) = 9998 + 1 + 1 from rfl, Op.equalIn]
  simp only [Sem.run_bind, run_underlying Try.underlying124, Result.andThen_ok, hsz, Std.Legacy.Range.forIn_eq_forIn_range', Std.Legacy.Range.size, Nat.sub_zero, Nat.add_sub_cancel, Nat.div_one]
  have hl : ∀ i ∈ List.range' 0 80 1, i < 80 := fun i hi => by simpa using (List.mem_range'_1.1 hi).2
  generalize List.range' 0 80 1 = l at hl ⊢
  induction l with
  | nil => simp
  | cons i l ih =>
    have hi : i < 80 := hl i (by simp)
    have px : ∀ f : Nat → Int, (part 3 (cntArr f) (i * 1)).run Try.prog w = .ok (.int .i64 (f i)) w := fun f => by
      simp [part, isAgg, run_underlying he, cntArr_get f hi]
    have pe : (Op.equalIn (9998 + 1) 3 (.int .i64 (f i)) (.int .i64 (g i))).run Try.prog w = .ok (f i == g i) w := by
      rw [run_equalIn_int w 9998 3 .i64 .i64 _ _ he]
    simp only [List.forIn_cons, Sem.run_bind, px, pe, Result.andThen_ok, List.all_cons]
    cases hb : (f i == g i)
    · simp
    · simp only [Bool.not_true, Bool.false_eq_true, if_false, Sem.run_pure, Result.andThen_ok, Bool.true_and]
      exact ih fun j hj => hl j (by simp [hj])
theorem cntEq_iff (f g : Nat → Int) : cntEq f g = true ↔ ∀ c, c < 80 → f c = g c := by
  unfold cntEq
  rw [List.all_eq_true]
  exact ⟨fun h c hc => by simpa using h c (List.mem_range.2 hc), fun h c hc => by simpa using h c (List.mem_range.1 hc)⟩
theorem cntArr_congr {f g : Nat → Int} (h : ∀ c, c < 80 → f c = g c) : cntArr f = cntArr g := by
  unfold cntArr
  rw [List.map_congr_left (fun c hc => by rw [h c (List.mem_range.1 hc)])]

theorem size_setC (b : Nat) : ∀ (vs : List Value) (o : Nat) (w : World), (w.setCells b o vs).heap.size = w.heap.size
  | [], _, _ => rfl
  | v :: vs, o, w => by rw [World.setCells, size_setC b vs]; simp
/-- A list of counts in memory: a block of the call's own. -/
structure RowsBlk (w : World) (g : Nat) (n : Nat) (fs : Nat → Nat → Int) : Prop where
  lt : g < w.heap.size
  cell : ∀ h c, h < n → c < 80 → w.cell? ⟨g, h * 80 + c, none⟩ = some (.int .i64 (fs h c))
  free : ∀ o, w.frozen? ⟨g, o, none⟩ = false
theorem cntArr_list (f : Nat → Int) {j : Nat} {v : Value} (hj : (cntArr f).toList[j]? = some v) : j < 80 ∧ v = .int .i64 (f j) := by
  have hj80 : j < 80 := by
    have := (List.getElem?_eq_some_iff.1 hj).1
    rw [Array.length_toList, cntArr_size] at this; exact this
  rw [Array.getElem?_toList, cntArr_get _ hj80] at hj
  exact ⟨hj80, (Option.some.inj hj).symm⟩
theorem RowsBlk.range {w : World} {g n : Nat} {fs : Nat → Nat → Int} (hR : RowsBlk w g n fs) {h : Nat} (hh : h < n) : w.rangeAt g (h * 80) (cntArr (fs h)).toList := fun j v hj => by
  obtain ⟨hj80, rfl⟩ := cntArr_list _ hj
  exact hR.cell h j hh hj80
theorem RowsBlk.there {w : World} {g n : Nat} {fs : Nat → Nat → Int} (hR : RowsBlk w g n fs) {h : Nat} (hh : h < n) : w.there g (h * 80) 80 := fun j hj =>
  ⟨by rw [hR.cell h j hh hj]; rfl, hR.free _⟩
theorem RowsBlk.mono {w w' : World} {g n : Nat} {fs : Nat → Nat → Int} (hR : RowsBlk w g n fs) (hx : Ext w w') : RowsBlk w' g n fs :=
  ⟨Nat.lt_of_lt_of_le hR.lt hx.size, fun h c hh hc => by rw [Below.cell hx (p := ⟨g, _, none⟩) hR.lt]; exact hR.cell h c hh hc, fun o => by rw [Below.frozen hx (p := ⟨g, o, none⟩) hR.lt]; exact hR.free o⟩
theorem RowsBlk.set {w : World} {g n : Nat} {fs : Nat → Nat → Int} (hR : RowsBlk w g n fs) {h : Nat} (hh : h < n) (f : Nat → Int) : RowsBlk (w.setCells g (h * 80) (cntArr f).toList) g n (fun h' => if h' = h then f else fs h') := by
  have hl : (cntArr f).toList.length = 80 := by rw [Array.length_toList, cntArr_size]
  refine ⟨by rw [size_setC]; exact hR.lt, fun h' c hh' hc => ?_, fun o => by rw [World.frozen?_setCells]; exact hR.free o⟩
  by_cases he : h' = h
  · subst he
    have hin := World.cell?_setCells_in g (cntArr f).toList (h' * 80) w (fun j hj => by rw [hR.cell h' j hh' (by rw [← hl]; exact hj)]; rfl) c (by rw [hl]; exact hc)
    rw [hin]
    have : (cntArr f).toList[c]? = some (.int .i64 (f c)) := by rw [Array.getElem?_toList]; exact cntArr_get f hc
    rw [List.getElem?_eq_getElem (by rw [hl]; exact hc)] at this
    rw [this, if_pos rfl]
  · rw [World.cell?_setCells_out g _ _ _ _ (fun _ _ => by
      rw [hl]
      show h' * 80 + c < h * 80 ∨ h * 80 + 80 ≤ h' * 80 + c
      rcases Nat.lt_or_ge h' h with hlt | hge
      · left; omega
      · right; omega), hR.cell h' c hh' hc]
    simp [he]
theorem RowsBlk.apart {w : World} {g n : Nat} {fs : Nat → Nat → Int} (hR : RowsBlk w g n fs) {b o : Nat} (vs : List Value) (hne : g ≠ b) : RowsBlk (w.setCells b o vs) g n fs :=
  ⟨by rw [size_setC]; exact hR.lt, fun h c hh hc => by rw [World.cell?_setCells_out b _ _ _ _ (fun e _ => absurd e hne)]; exact hR.cell h c hh hc, fun o => by rw [World.frozen?_setCells]; exact hR.free o⟩
theorem RowsBlk.congr {w : World} {g n : Nat} {fs gs : Nat → Nat → Int} (hR : RowsBlk w g n fs) (h : ∀ i c, i < n → c < 80 → fs i c = gs i c) : RowsBlk w g n gs :=
  ⟨hR.lt, fun i c hi hc => by rw [← h i c hi hc]; exact hR.cell i c hi hc, hR.free⟩

/-- One of them is read. -/
theorem run_load_row {w : World} {g n : Nat} {fs : Nat → Nat → Int} (hR : RowsBlk w g n fs) {h : Nat} (hh : h < n) : (Instr.loadAt 124 (.pointer (some ⟨g, h * 80, none⟩))).run Try.prog w = .ok (.agg (cntArr (fs h))) w := by
  have := run_loadAt_mid (P := Try.prog) w g (h * 80) 124 (cntArr (fs h)).toList _ (hR.range hh) Try.underlying124 rfl (by rw [Array.length_toList, cntArr_size]; kernel_rfl)
  simpa using this
/-- One of them is written. -/
theorem run_store_row {w : World} {g n : Nat} {fs : Nat → Nat → Int} (hR : RowsBlk w g n fs) {h : Nat} (hh : h < n) (f : Nat → Int) : (Instr.storeAt 124 (.pointer (some ⟨g, h * 80, none⟩)) (.agg (cntArr f))).run Try.prog w = .ok () (w.setCells g (h * 80) (cntArr f).toList) :=
  run_storeAt_mid (P := Try.prog) w g (h * 80) 124 (cntArr f) (by rw [cntArr_size]; exact hR.there hh) (by rw [cntArr_size]; kernel_rfl) (cntArr_one f)
theorem wpIn_load_row {F : Fence} {n : Nat} {o : Oper} {a : Act} {w : World} {K : Act → World → Prop} {Q : Exit → Act → World → Prop} (x : Operand) (ho : o.op = .load 124 x) (hF : ∀ f, F.fn f) {g h m : Nat} (hx : a.eval x = .pointer (some ⟨g, h * 80, none⟩)) {fs : Nat → Nat → Int}
    (hR : RowsBlk w g m fs) (hh : h < m) (hK : K (a.put o.dst (.agg (cntArr (fs h)))) w) : o.wpIn F n Try.prog a w K Q := by
  refine ⟨fun f _ => hF f, ?_⟩
  rw [Oper.semAt_eq _ _ _ (by rw [ho]; intro c h; cases h)]
  unfold execOp
  simp only [ho, hx, run_load_row hR hh, Sem.run_bind, Sem.run_pure, Result.andThen_ok]
  exact hK
theorem wpIn_store_row {F : Fence} {n : Nat} {o : Oper} {a : Act} {w : World} {K : Act → World → Prop} {Q : Exit → Act → World → Prop} (x y : Operand) (ho : o.op = .store 124 x y) (hF : ∀ f, F.fn f) {g h m : Nat} (hx : a.eval x = .pointer (some ⟨g, h * 80, none⟩)) {fs : Nat → Nat → Int} {f : Nat → Int}
    (hy : a.eval y = .agg (cntArr f)) (hR : RowsBlk w g m fs) (hh : h < m) (hK : K (a.put o.dst undef) (w.setCells g (h * 80) (cntArr f).toList)) : o.wpIn F n Try.prog a w K Q := by
  refine ⟨fun f _ => hF f, ?_⟩
  rw [Oper.semAt_eq _ _ _ (by rw [ho]; intro c h; cases h)]
  unfold execOp
  simp only [ho, hx, hy, run_store_row hR hh, Sem.run_bind, Sem.run_pure, Result.andThen_ok]
  exact hK
end Go.Proofs.Ytiklblbjnblkfaa
