/- How many reports of an hour are false, cell by cell. -/
import Derived.Test.YtiklblbjnblkfaaWD
import Derived.Deep.WholeRow
set_option linter.unusedSimpArgs false
set_option linter.unusedVariables false
namespace Go.Proofs.Ytiklblbjnblkfaa
open Go Go.RowKit Go.Shelf

/-- The cells of a list of eighty numbers. -/
def cntArr (f : Nat → Int) : Array Value := ((List.range 80).map fun c => Value.int .i64 (f c)).toArray
theorem cntArr_size (f : Nat → Int) : (cntArr f).size = 80 := by simp [cntArr]
theorem cntArr_get (f : Nat → Int) {k : Nat} (h : k < 80) : (cntArr f)[k]? = some (.int .i64 (f k)) := by simp [cntArr, h]
theorem cntArr_set (f : Nat → Int) {k : Nat} (h : k < 80) (v : Int) : (cntArr f).setIfInBounds k (.int .i64 v) = cntArr fun j => if j = k then v else f j := by
  apply Array.ext
  · simp [cntArr]
  · intro i h1 h2
    simp only [cntArr_size] at h2
    rw [Array.getElem_setIfInBounds (by simpa [cntArr] using h2)]
    by_cases hik : k = i
    · subst hik; simp [cntArr]
    · simp [cntArr, hik, Ne.symm hik]
theorem cntArr_one (f : Nat → Int) : (cntArr f).all (·.oneCell') = true := by
  rw [Array.all_eq_true_iff_forall_mem]
  intro v hv
  simp [cntArr] at hv
  obtain ⟨c, _, rfl⟩ := hv
  rfl

theorem zero124 : Try.zeroCells124 = cntArr fun _ => 0 := by kernel_rfl

theorem callsIn_round (r : Nat) {f : Nat} {args : Array Value} {w : World} {R : Ending → World → Prop} (h : Cal f args w R) : CallsIn (Fence.wide.inRound r) 0 Try.prog f args w R := calls_inRound (ro := some r) h.calls

theorem wpIn_load_cnt {F : Fence} {n : Nat} {o : Oper} {a : Act} {w : World} {K : Act → World → Prop} {Q : Exit → Act → World → Prop} (x : Operand) (ho : o.op = .load 124 x) (hF : ∀ f, F.fn f) {g : Nat} (hx : a.eval x = .pointer (some ⟨g, 0, none⟩)) {t : TypeId} {f : Nat → Int}
    (hg : w.heap[g]? = some (.cells (cntArr f) t (0, 0))) (h : K (a.put o.dst (.agg (cntArr f))) w) : o.wpIn F n Try.prog a w K Q := by
  have hl : (loadVar 124 ⟨g, 0, none⟩).run Try.prog w = .ok (.agg (cntArr f)) w := run_loadVar_row w _ t 124 _ _ _ hg Try.underlying124 rfl (by rw [cntArr_size]; kernel_rfl)
  refine ⟨fun f _ => hF f, ?_⟩
  rw [Oper.semAt_eq _ _ _ (by rw [ho]; intro c h; cases h)]
  unfold execOp
  simp only [ho, hx, Instr.loadAt, Instr.sureAddr, Sem.run_bind, Sem.run_pure, Result.andThen_ok, hl]
  exact h
theorem wpIn_store_cnt {F : Fence} {n : Nat} {o : Oper} {a : Act} {w : World} {K : Act → World → Prop} {Q : Exit → Act → World → Prop} (x y : Operand) (ho : o.op = .store 124 x y) (hF : ∀ f, F.fn f) {g : Nat} (hx : a.eval x = .pointer (some ⟨g, 0, none⟩)) {t : TypeId} {f f' : Nat → Int}
    (hy : a.eval y = .agg (cntArr f)) (hg : w.heap[g]? = some (.cells (cntArr f') t (0, 0))) (h : K (a.put o.dst undef) (w.setRow g (cntArr f))) : o.wpIn F n Try.prog a w K Q := by
  have hl : (storeVar 124 ⟨g, 0, none⟩ (.agg (cntArr f))).run Try.prog w = .ok () (w.setRow g (cntArr f)) := run_storeVar_row w _ t 124 _ _ hg (by rw [cntArr_size]; kernel_rfl) (by rw [cntArr_size, cntArr_size]) (cntArr_one _)
  refine ⟨fun f _ => hF f, ?_⟩
  rw [Oper.semAt_eq _ _ _ (by rw [ho]; intro c h; cases h)]
  unfold execOp
  simp only [ho, hx, hy, Instr.storeAt, Instr.sureAddr, Sem.run_bind, Sem.run_pure, Result.andThen_ok, hl]
  exact h
theorem setRow_other' {w : World} {g k : Nat} {cs : Array Value} {o : Obj} (h : w.heap[k]? = some o) (hne : k ≠ g) : (w.setRow g cs).heap[k]? = some o := by rw [setRow_other w g k cs hne]; exact h
theorem below_setRow {n g : Nat} {w W : World} (h : Below n w W) (hb : n ≤ g) (cs : Array Value) : Below n w (W.setRow g cs) :=
  ⟨h.os, h.tape, h.output, by simpa using h.size, fun k hk => by rw [setRow_other W g k cs (by omega)]; exact h.block k hk⟩

/-- The boxes of the function's own. -/
structure CntBox (w W : World) (b h : Nat) (f g : Nat → Int) : Prop where
  below : Ext w W
  size : w.heap.size + 4 ≤ W.heap.size
  sea : W.heap[w.heap.size]? = some (.cells #[.pointer (some ⟨b, 0, none⟩)] 75 (0, 0))
  hour : W.heap[w.heap.size + 1]? = some (.cells #[.int .i64 h] 3 (0, 0))
  out : W.heap[w.heap.size + 1 + 1]? = some (.cells (cntArr g) 124 (0, 0))
  row : W.heap[w.heap.size + 1 + 1 + 1]? = some (.cells (cntArr f) 124 (0, 0))
theorem CntBox.set {w W : World} {b h : Nat} {f g : Nat → Int} (hB : CntBox w W b h f g) {k : Nat} (hk : k < 80) (v : Int) :
    CntBox w (W.setCell ⟨w.heap.size + 1 + 1 + 1, k, none⟩ (.int .i64 v)) b h (fun j => if j = k then v else f j) g := by
  refine ⟨hB.below.set (by omega) _ _, by simpa using hB.size, ?_, ?_, ?_, ?_⟩
  · rw [Below.heap_setCell _ _ _ _ (show w.heap.size ≠ w.heap.size + 1 + 1 + 1 by omega)]; exact hB.sea
  · rw [Below.heap_setCell _ _ _ _ (show w.heap.size + 1 ≠ w.heap.size + 1 + 1 + 1 by omega)]; exact hB.hour
  · rw [Below.heap_setCell _ _ _ _ (show w.heap.size + 1 + 1 ≠ w.heap.size + 1 + 1 + 1 by omega)]; exact hB.out
  · rw [heap_setCell_same _ _ _ _ _ _ hB.row, cntArr_set f hk]
theorem CntBox.past {w W W' : World} {b h : Nat} {f g : Nat → Int} {B : Nat} (hB : CntBox w W b h f g) (hp : Past B W W') (hb : w.heap.size + 4 ≤ B) : CntBox w W' b h f g :=
  ⟨hp.below hB.below (by omega) (Nat.le_refl _), Nat.le_trans hB.size hp.size, hp.block _ _ (by omega) hB.sea, hp.block _ _ (by omega) hB.hour, hp.block _ _ (by omega) hB.out, hp.block _ _ (by omega) hB.row⟩
theorem CntBox.ext {w W W' : World} {b h : Nat} {f g : Nat → Int} (hB : CntBox w W b h f g) (hx : Ext W W') : CntBox w W' b h f g :=
  ⟨hB.below.trans hx, Nat.le_trans hB.size hx.size, hx.block hB.sea, hx.block hB.hour, hx.block hB.out, hx.block hB.row⟩

/-- What an hour has of its own, cell by cell, of the first i open cells. -/
def cntF (D : SeaD) (rs : List Rep) (h i : Nat) (c : Nat) : Int :=
  if c ∈ (opens D.land (D.wide * D.high).toNat).take i then untrueN (seaOf D) rs h (col (seaOf D) c) (row (seaOf D) c) else 25
theorem cntF_zero (D : SeaD) (rs : List Rep) (h : Nat) : cntF D rs h 0 = fun _ => 25 := by funext c; simp [cntF]
theorem cntF_succ (D : SeaD) (rs : List Rep) (h i : Nat) (hi : i < (opens D.land (D.wide * D.high).toNat).length) :
    (fun j => if j = (opens D.land (D.wide * D.high).toNat)[i] then (untrueN (seaOf D) rs h (col (seaOf D) (opens D.land (D.wide * D.high).toNat)[i]) (row (seaOf D) (opens D.land (D.wide * D.high).toNat)[i]) : Int) else cntF D rs h i j) = cntF D rs h (i + 1) := by
  funext j
  have hm : j ∈ (opens D.land (D.wide * D.high).toNat).take (i + 1) ↔ j ∈ (opens D.land (D.wide * D.high).toNat).take i ∨ j = (opens D.land (D.wide * D.high).toNat)[i] := by
    rw [List.take_succ_eq_append_getElem hi, List.mem_append, List.mem_singleton]
  unfold cntF
  by_cases hj : j = (opens D.land (D.wide * D.high).toNat)[i]
  · rw [if_pos hj, if_pos (hm.2 (.inr hj)), hj]
  · rw [if_neg hj]
    by_cases h1 : j ∈ (opens D.land (D.wide * D.high).toNat).take i
    · rw [if_pos h1, if_pos (hm.2 (.inl h1))]
    · rw [if_neg h1, if_neg (fun h2 => (hm.1 h2).elim h1 hj)]

set_option maxRecDepth 100000 in
set_option maxHeartbeats 400000 in
theorem counts_any (b : Nat) (D : SeaD) (S : SeaV) (rs : List Rep) (h : Nat) (w : World) (hF : SeaFull w b S D rs) (hh : h < D.hours.toNat) (hr : ∀ r ∈ rs, 0 ≤ r.cell ∧ r.cell ≤ 1000) (h24 : rs.length ≤ 24) :
    Cal 83 #[.pointer (some ⟨b, 0, none⟩), .int .i64 h] w fun e w' => e = .returned (.agg (cntArr (cntF D rs h (opens D.land (D.wide * D.high).toNat).length))) ∧ Ext w w' := by
  refine callsIn_of_wp_marks Try.func83 rfl trivial ?_
  simp only [Try.ntmps83, List.size_toArray, List.length_cons, List.length_nil, Nat.reduceAdd, Nat.reduceSub, Array.replicate_succ, Array.replicate_zero, List.push_toArray, List.append_toArray, List.nil_append, List.cons_append]
  have HF := hid hF
  have hr' := hr
  clear hF hr
  gi_wp2_with fail
  have h0 : CntBox w ((((w.alloc (.cells #[.pointer (some ⟨b, 0, none⟩)] 75)).alloc (.cells #[.int .i64 h] 3)).alloc (.cells Try.zeroCells124 124)).alloc (.cells Try.zeroCells124 124)) b h (fun j => if j < 0 then 25 else 0) (fun _ => 0) := by
    have e : (fun j : Nat => if j < 0 then (25 : Int) else 0) = fun _ => 0 := by funext j; simp
    rw [e, zero124]
    have x1 : Ext w (w.alloc (.cells #[.pointer (some ⟨b, 0, none⟩)] 75)) := (Ext.refl w).alloc _
    refine ⟨((x1.alloc _).alloc _).alloc _, by simp, ?_, ?_, ?_, ?_⟩
    · exact (Ext.refl _).alloc _ |>.block (three_new)
    · exact (Ext.refl _).alloc _ |>.block (three_mid)
    · exact (Ext.refl _).alloc _ |>.block (three_top)
    · have := Ext.new (w := ((w.alloc (.cells #[.pointer (some ⟨b, 0, none⟩)] 75)).alloc (.cells #[.int .i64 h] 3)).alloc (.cells (cntArr fun _ => 0) 124)) (o := .cells (cntArr fun _ => 0) 124) (Ext.refl _)
      simpa using this
  gi_loopw [9] (fun i wr => ∃ k : Nat, k ≤ 80 ∧ i = .int .i64 k ∧ Hid (CntBox w wr b h (fun j => if j < k then 25 else 0) (fun _ => 0))) (fun i _ => 80 - (intOf i).toNat)
  case atStart => exact ⟨0, by omega, rfl, h0⟩
  case round =>
    clear h0
    obtain ⟨k, hk, rfl, HB⟩ := hrel
    by_cases hlt : k < 80
    · have hck : wr.cell? ⟨w.heap.size + 1 + 1 + 1, k, none⟩ = some (.int .i64 0) := by rw [cell_of HB.out.row, cntArr_get _ hlt]; simp
      have hfr := free_of HB.out.row
      have HB2 : Hid (CntBox w (wr.setCell ⟨w.heap.size + 1 + 1 + 1, k, none⟩ (.int .i64 25)) b h (fun j => if j < k + 1 then 25 else 0) (fun _ => 0)) := by
        have := HB.out.set hlt 25
        have e : (fun j => if j = k then (25 : Int) else if j < k then 25 else 0) = fun j => if j < k + 1 then 25 else 0 := by
          funext j; by_cases h1 : j = k <;> by_cases h2 : j < k <;> simp [h1, h2] <;> omega
        rw [e] at this; exact this
      gi_wp2
      go_roundw
      case rel => exact ⟨k + 1, by omega, by go_num, HB2⟩
      case measure => simp [intOf]; omega
    · obtain rfl : k = 80 := by omega
      have hcs := cell_of HB.out.sea
      gi_wp2_with fail
      have HB1 : Hid (CntBox w wr b h (cntF D rs h 0) (fun _ => 0)) := by
        rw [cntF_zero]
        obtain ⟨h1, h2, h3, h4, h5, h6⟩ := HB.out
        refine ⟨h1, h2, h3, h4, h5, ?_⟩
        rw [h6]
        have e : cntArr (fun j => if j < 80 then 25 else 0) = cntArr fun _ => 25 := by
          unfold cntArr
          rw [List.map_congr_left (g := fun c => Value.int .i64 25) (fun c hc => by have := List.mem_range.1 hc; simp [this])]
        rw [e]
      have hsz := HB.out.size
      clear HB hcs hlt hk
      have hol : (openElems S D.land).length = (opens D.land (D.wide * D.high).toNat).length := by unfold openElems; rw [List.length_map, HF.out.wide, HF.out.high]
      refine range_boxed rfl (enters_of Try.func76 (by kernel_rfl) rfl) (open_iter b S HF.out.ok D.land)
        (fun i W => CntBox w W b h (cntF D rs h i) (fun _ => 0)) (fun _ _ _ => False)
        (fun i W W' hI hp => hI.past hp hsz) (fun c i W W' hI hp => hI)
        (fun i W hI => ⟨HF.out.at_.mono hI.below, HF.out.land.mono hI.below⟩) (fun i h => by simp [openElems, cellElem]) HB1.out
        (fun i Bx => { tmps := #[.pointer (some ⟨b, 0, none⟩), .int .i64 h, .pointer (some ⟨w.heap.size, 0, none⟩), .pointer (some ⟨w.heap.size + 1, 0, none⟩), .pointer (some ⟨w.heap.size + 1 + 1, 0, none⟩), .pointer (some ⟨w.heap.size + 1 + 1 + 1, 0, none⟩), u6,
          .int .i64 ((opens D.land (S.wide * S.high).toNat).getD i 0 : Nat), .pointer (some ⟨Bx, 0, none⟩), .int .i64 ((80 : Nat) : Int), .bool false, u11, u12, u13, u14, .pointer (some ⟨b, 0, none⟩), .func (.func 76) #[.pointer (some ⟨b, 0, none⟩)] #[],
          .int .i64 ((opens D.land (S.wide * S.high).toNat).getD i 0 : Nat), .agg #[.int .i64 (col S ((opens D.land (S.wide * S.high).toNat).getD i 0 : Nat)), .int .i64 (row S ((opens D.land (S.wide * S.high).toNat).getD i 0 : Nat))], undef, undef, undef, undef, undef, undef, undef], defers := [] })
        (fun i => #[.int .i64 (col S ((opens D.land (S.wide * S.high).toNat).getD i 0 : Nat)), .int .i64 (row S ((opens D.land (S.wide * S.high).toNat).getD i 0 : Nat))]) 81 ?assign ?body ?done ?stop
      case assign =>
        intro l i h W K' hK
        have he : (openElems S D.land)[i] = #[.int .i64 ((opens D.land (S.wide * S.high).toNat).getD i 0 : Nat), .agg #[.int .i64 (col S ((opens D.land (S.wide * S.high).toNat).getD i 0 : Nat)), .int .i64 (row S ((opens D.land (S.wide * S.high).toNat).getD i 0 : Nat))]] := by
          have h' : i < (opens D.land (S.wide * S.high).toNat).length := by simpa [openElems] using h
          simp only [openElems, List.getElem_map, getD_of h']; rfl
        rw [he]
        generalize (opens D.land (S.wide * S.high).toNat).getD i 0 = p at *
        clear he HB1 hol
        gi_wp2
        exact hK
      case body =>
        rintro l i Bx W hi hl hr hI hBx hbx
        have hi' : i < (opens D.land (D.wide * D.high).toNat).length := by rw [← hol]; exact hi
        have hstep := cntF_succ D rs h i hi'
        have hmem : (opens D.land (D.wide * D.high).toNat)[i] < 80 := by
          have := opens_lt (List.getElem_mem hi')
          have hm := (mul_bounds HF.out.ok.wide HF.out.ok.high).2
          rw [HF.out.wide, HF.out.high] at hm
          omega
        rw [HF.out.wide, HF.out.high] at hbx ⊢
        rw [getD_of hi'] at hbx ⊢
        generalize (opens D.land (D.wide * D.high).toNat)[i] = c at hstep hmem hbx ⊢
        rw [← col_of HF.out.wide, ← row_of HF.out.wide, ← untrueN_of HF.out.wide] at hstep
        have HFW : Hid (SeaFull W b S D rs) := HF.out.mono hI.below
        have hc0 : (0 : Int) ≤ (c : Int) := by omega
        have hc1 : (c : Int) ≤ 1000 := by omega
        have hcc := col_ok HF.out.ok hc0 hc1
        have hrr := row_ok HF.out.ok hc0 hc1
        have HU := hid (untrue_any b S HF.out.ok D.hours.toNat rs h hh (col S c) (row S c) (by omega) (by omega) W HFW.out.at_ HFW.out.asked hr' h24 (by have := HF.out.ok.hours; rw [HF.out.hours] at this; omega))
        have hs1 := cell_of hI.sea
        have hs2 := cell_of hI.hour
        have hs3 := cell_of hbx
        have HI := hid hI
        have HST := hid hstep
        clear hstep HFW hcc hrr hI hbx hr hol HB1
        generalize untrueN S rs h (col S c) (row S c) = nn at HU HST
        gi_wp2_with (gi_at_call 49; ((with_reducible refine (callsIn_round l HU.out).mono ?_); rintro e w1 ⟨rfl, hx1⟩; have hcr := (cell_of (HI.out.ext hx1).row c).trans (cntArr_get _ hmem); have hfr := free_of (HI.out.ext hx1).row))
        refine ⟨(KeepsFrom.mk hx1.size fun k o' _ ho _ => Ext.block hx1 ho).trans ((KeepsOthers.setCell _ _ _).from _), ?_⟩
        have := (HI.out.ext hx1).set hmem (nn : Int)
        rw [HST.out] at this
        exact this
      case done =>
        rintro K W hK hI hKb
        rw [hol] at hI
        have hrow := hI.row
        have hout := hI.out
        have HI := hid hI
        have HKb := hid hKb
        clear hI hKb HB1
        obtain ⟨ff, hff⟩ : ∃ ff, ff = cntF D rs h (opens D.land (D.wide * D.high).toNat).length := ⟨_, rfl⟩
        rw [← hff] at hrow HI
        have HFF := hid hff
        clear hff
        have hset := setRow_heap W (w.heap.size + 1 + 1) _ (cntArr ff) 124 _ hout
        gi_wp2_with (first | (refine wpIn_load_cnt (.tmp 5) rfl (fun _ => trivial) (hx := rfl) hrow ?_) | (refine wpIn_store_cnt (.tmp 4) (.tmp 25) rfl (fun _ => trivial) (hx := rfl) (hy := rfl) hout ?_))
        have hne : K ≠ w.heap.size + 1 + 1 := by omega
        simp only [Act.put]
        refine leave_mark (v := .agg (cntArr ff)) (setRow_other' HKb.out hne) ?_ ⟨by rw [HFF.out], ?_⟩
        · exact results_cell_row (p := 4) (ty := 124) rfl _ _ _ _ _ _ _ rfl (by rw [World.putObj_heap_other (Ne.symm hne)]; exact hset) Try.underlying124 rfl (by rw [cntArr_size]; kernel_rfl)
        · exact below_put (below_setRow HI.out.below (by omega) _) (by omega) _
      case stop => exact fun D i c W _ _ h _ => h.elim
end Go.Proofs.Ytiklblbjnblkfaa
