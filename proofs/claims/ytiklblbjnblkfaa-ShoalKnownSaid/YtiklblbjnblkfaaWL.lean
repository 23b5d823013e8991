/- Whether a report can be true of a track. -/
import Derived.Test.YtiklblbjnblkfaaWJ
set_option linter.unusedSimpArgs false
set_option linter.unusedVariables false
namespace Go.Proofs.Ytiklblbjnblkfaa
open Go Go.RowKit Go.Shelf

def cbtP (S : SeaV) (own up from_ : Nat → Nat → Int) (r : Rep) (h : Nat) (n : Int) (c : Nat) : Bool :=
  (throughOf own up from_ h c == n) && repTrue r (col S r.cell) (row S r.cell) (col S c) (row S c)

def askFn (S : SeaV) (h : Nat) (cell far : Int) (there : Bool) : Value := .func (.func 97) #[.agg #[.int .i64 h, .int .i64 cell, .int .i64 far, .bool there, .int .i64 (col S cell), .int .i64 (row S cell)]] #[]
/-- The boxes of the function's own. -/
structure CbtBox (w W : World) (b g1 g2 g3 N h : Nat) (cell far : Int) (there : Bool) (n : Int) (S : SeaV) (fb : Nat) (res : Bool) : Prop where
  below : Ext w W
  chart : W.heap[w.heap.size]? = some (.cells #[.pointer (some ⟨b, 0, none⟩), .slice (some ⟨g1, 0, none⟩) N N, .slice (some ⟨g2, 0, none⟩) N N, .slice (some ⟨g3, 0, none⟩) N N] 90 (0, 0))
  rep : W.heap[w.heap.size + 1]? = some (.cells #[.int .i64 h, .int .i64 cell, .int .i64 far, .bool there] 52 (0, 0))
  num : W.heap[w.heap.size + 1 + 1]? = some (.cells #[.int .i64 n] 3 (0, 0))
  res : W.heap[w.heap.size + 1 + 1 + 1]? = some (.cells #[.bool res] 4 (0, 0))
  fn : W.heap[fb]? = some (.cells #[askFn S h cell far there] 117 (0, 0))
theorem CbtBox.ext {w W W' : World} {b g1 g2 g3 N h : Nat} {cell far : Int} {there : Bool} {n : Int} {S : SeaV} {fb : Nat} {res : Bool} (hB : CbtBox w W b g1 g2 g3 N h cell far there n S fb res) (hx : Ext W W') : CbtBox w W' b g1 g2 g3 N h cell far there n S fb res :=
  ⟨hB.below.trans hx, hx.block hB.chart, hx.block hB.rep, hx.block hB.num, hx.block hB.res, hx.block hB.fn⟩
theorem CbtBox.past {w W W' : World} {b g1 g2 g3 N h : Nat} {cell far : Int} {there : Bool} {n : Int} {S : SeaV} {fb : Nat} {res : Bool} {B : Nat} (hB : CbtBox w W b g1 g2 g3 N h cell far there n S fb res) (hp : Past B W W') (hb : w.heap.size + 4 ≤ B) (hf : fb < B) (hW : w.heap.size ≤ W.heap.size) : CbtBox w W' b g1 g2 g3 N h cell far there n S fb res :=
  ⟨hp.below hB.below (by omega) (Nat.le_refl _), hp.block _ _ (by omega) hB.chart, hp.block _ _ (by omega) hB.rep, hp.block _ _ (by omega) hB.num, hp.block _ _ (by omega) hB.res, hp.block _ _ hf hB.fn⟩
theorem CbtBox.set {w W : World} {b g1 g2 g3 N h : Nat} {cell far : Int} {there : Bool} {n : Int} {S : SeaV} {fb : Nat} {res : Bool} (hB : CbtBox w W b g1 g2 g3 N h cell far there n S fb res) (hf : w.heap.size + 4 ≤ fb) (v : Bool) : CbtBox w (W.setCell ⟨w.heap.size + 1 + 1 + 1, 0, none⟩ (.bool v)) b g1 g2 g3 N h cell far there n S fb v := by
  have key : ∀ j obj, j ≠ w.heap.size + 1 + 1 + 1 → W.heap[j]? = some obj → (W.setCell ⟨w.heap.size + 1 + 1 + 1, 0, none⟩ (.bool v)).heap[j]? = some obj := fun j obj hj h => by
    rw [Below.heap_setCell _ _ _ _ hj]; exact h
  exact ⟨hB.below.set (by omega) _ _, key _ _ (by omega) hB.chart, key _ _ (by omega) hB.rep, key _ _ (by omega) hB.num, one_setCell hB.res, key _ _ (by omega) hB.fn⟩

set_option maxRecDepth 100000 in
set_option maxHeartbeats 1000000 in
theorem canBeTrue_any (b g1 g2 g3 N : Nat) (D : SeaD) (S : SeaV) (rs : List Rep) (own up from_ : Nat → Nat → Int) (h : Nat) (cell far : Int) (there : Bool) (n : Int) (w : World) (hF : SeaFull w b S D rs)
    (h1 : RowsBlk w g1 N own) (h2 : RowsBlk w g2 N up) (h3 : RowsBlk w g3 N from_) (hh : h < N) (hN : N ≤ 100) (hc0 : 0 ≤ cell) (hc1 : cell ≤ 1000)
    (hb : ∀ h c, (0 ≤ own h c ∧ own h c ≤ 1000) ∧ (0 ≤ up h c ∧ up h c ≤ 1000) ∧ (0 ≤ from_ h c ∧ from_ h c ≤ 1000)) :
    Cal 64 #[chartVal b g1 g2 g3 N, .agg #[.int .i64 h, .int .i64 cell, .int .i64 far, .bool there], .int .i64 n] w fun e w' =>
      e = .returned (.bool ((opens D.land (D.wide * D.high).toNat).any (cbtP S own up from_ ⟨h, cell, far, there⟩ h n))) ∧ Ext w w' := by
  unfold chartVal
  refine callsIn_of_wp_marks Try.func64 rfl trivial ?_
  simp only [Try.ntmps64, List.size_toArray, List.length_cons, List.length_nil, Nat.reduceAdd, Nat.reduceSub, Array.replicate_succ, Array.replicate_zero, List.push_toArray, List.append_toArray, List.nil_append, List.cons_append]
  have HF := hid hF
  have hx4 : Ext w ((((w.alloc (.cells #[.pointer (some ⟨b, 0, none⟩), .slice (some ⟨g1, 0, none⟩) N N, .slice (some ⟨g2, 0, none⟩) N N, .slice (some ⟨g3, 0, none⟩) N N] 90)).alloc (.cells #[.int .i64 h, .int .i64 cell, .int .i64 far, .bool there] 52)).alloc (.cells #[.int .i64 n] 3)).alloc (.cells #[.bool false] 4)) :=
    ((((Ext.refl w).alloc _).alloc _).alloc _).alloc _
  have hch4 : ((((w.alloc (.cells #[.pointer (some ⟨b, 0, none⟩), .slice (some ⟨g1, 0, none⟩) N N, .slice (some ⟨g2, 0, none⟩) N N, .slice (some ⟨g3, 0, none⟩) N N] 90)).alloc (.cells #[.int .i64 h, .int .i64 cell, .int .i64 far, .bool there] 52)).alloc (.cells #[.int .i64 n] 3)).alloc (.cells #[.bool false] 4)).heap[w.heap.size]? = some (.cells #[.pointer (some ⟨b, 0, none⟩), .slice (some ⟨g1, 0, none⟩) N N, .slice (some ⟨g2, 0, none⟩) N N, .slice (some ⟨g3, 0, none⟩) N N] 90 (0, 0)) :=
    ((Ext.refl _).alloc _).block three_new
  have HCH := hid hch4
  clear hch4
  have HA := hid (asks_any b S hF.ok ⟨h, cell, far, there⟩ hc0 hc1 _ (hF.at_.mono hx4))
  unfold askVal repVal at HA
  have HRows := hid (And.intro h1 (And.intro h2 h3))
  have HB := hid hb
  clear hF h1 h2 h3 hb
  gi_wp2_with (gi_at_call 77; ((with_reducible refine HA.out.mono ?_); rintro e w1 ⟨rfl, hx5⟩; have hch := cell_of (((Ext.refl w1).alloc (.cells #[.func (.func 97) #[.agg #[.int .i64 h, .int .i64 cell, .int .i64 far, .bool there, .int .i64 (col S cell), .int .i64 (row S cell)]] #[]] 117)).block (hx5.block HCH.out))))
  have hB0 : CbtBox w (w1.alloc (.cells #[.func (.func 97) #[.agg #[.int .i64 h, .int .i64 cell, .int .i64 far, .bool there, .int .i64 (col S cell), .int .i64 (row S cell)]] #[]] 117)) b g1 g2 g3 N h cell far there n S w1.heap.size false := by
    have hxa : Ext w1 (w1.alloc (.cells #[.func (.func 97) #[.agg #[.int .i64 h, .int .i64 cell, .int .i64 far, .bool there, .int .i64 (col S cell), .int .i64 (row S cell)]] #[]] 117)) := (Ext.refl w1).alloc _
    have hxx := Ext.trans hx5 hxa
    refine ⟨Ext.trans hx4 hxx, ?_, ?_, ?_, ?_, Ext.new (Ext.refl _)⟩
    · exact hxx.block (((Ext.refl _).alloc _).block three_new)
    · exact hxx.block (((Ext.refl _).alloc _).block three_mid)
    · exact hxx.block (((Ext.refl _).alloc _).block three_top)
    · have := hxx.block (Ext.new (w := ((w.alloc (.cells #[.pointer (some ⟨b, 0, none⟩), .slice (some ⟨g1, 0, none⟩) N N, .slice (some ⟨g2, 0, none⟩) N N, .slice (some ⟨g3, 0, none⟩) N N] 90)).alloc (.cells #[.int .i64 h, .int .i64 cell, .int .i64 far, .bool there] 52)).alloc (.cells #[.int .i64 n] 3)) (o := .cells #[.bool false] 4) (Ext.refl _))
      simpa using this
  have hfb : w.heap.size + 4 ≤ w1.heap.size := by have := hx5.size; simpa using this
  have hsz : w1.heap.size + 1 ≤ (w1.alloc (.cells #[.func (.func 97) #[.agg #[.int .i64 h, .int .i64 cell, .int .i64 far, .bool there, .int .i64 (col S cell), .int .i64 (row S cell)]] #[]] 117)).heap.size := by simp
  have HB0 := hid hB0
  have HASK : Hid (askFn S h cell far there = .func (.func 97) #[.agg #[.int .i64 h, .int .i64 cell, .int .i64 far, .bool there, .int .i64 (col S cell), .int .i64 (row S cell)]] #[]) := rfl
  clear hB0 HA hx5 hx4 hch HCH
  generalize w1.alloc (.cells #[.func (.func 97) #[.agg #[.int .i64 h, .int .i64 cell, .int .i64 far, .bool there, .int .i64 (col S cell), .int .i64 (row S cell)]] #[]] 117) = w0 at *
  have hol : (openElems S D.land).length = (opens D.land (D.wide * D.high).toNat).length := by unfold openElems; rw [List.length_map, HF.out.wide, HF.out.high]
  refine range_boxed rfl (enters_of Try.func76 (by kernel_rfl) rfl) (open_iter b S HF.out.ok D.land)
    (fun i W => CbtBox w W b g1 g2 g3 N h cell far there n S w1.heap.size false ∧ Hid (((opens D.land (D.wide * D.high).toNat).take i).any (cbtP S own up from_ ⟨h, cell, far, there⟩ h n) = false))
    (fun c i W => c = .ret ∧ CbtBox w W b g1 g2 g3 N h cell far there n S w1.heap.size true ∧ Hid ((opens D.land (D.wide * D.high).toNat).any (cbtP S own up from_ ⟨h, cell, far, there⟩ h n) = true))
    (fun i W W' hI hp => ⟨hI.1.past hp (by omega) (by omega) hI.1.below.size, hI.2⟩) (fun c i W W' hI hp => ⟨hI.1, hI.2.1.past hp (by omega) (by omega) hI.2.1.below.size, hI.2.2⟩)
    (fun i W hI => ⟨HF.out.at_.mono hI.1.below, HF.out.land.mono hI.1.below⟩) (fun i h => by simp [openElems, cellElem]) ⟨HB0.out, rfl⟩
    (fun i Bx => { tmps := #[.agg #[.pointer (some ⟨b, 0, none⟩), .slice (some ⟨g1, 0, none⟩) N N, .slice (some ⟨g2, 0, none⟩) N N, .slice (some ⟨g3, 0, none⟩) N N], .agg #[.int .i64 h, .int .i64 cell, .int .i64 far, .bool there], .int .i64 n, .pointer (some ⟨w.heap.size, 0, none⟩), .pointer (some ⟨w.heap.size + 1, 0, none⟩), .pointer (some ⟨w.heap.size + 1 + 1, 0, none⟩), .pointer (some ⟨w.heap.size + 1 + 1 + 1, 0, none⟩), .pointer (some ⟨w1.heap.size, 0, none⟩),
      .int .i64 ((opens D.land (S.wide * S.high).toNat).getD i 0 : Nat), .pointer (some ⟨Bx, 0, none⟩), .pointer (some ⟨w.heap.size, 0, none⟩), .pointer (some ⟨b, 0, none⟩), .agg #[.int .i64 h, .int .i64 cell, .int .i64 far, .bool there], .func (.func 97) #[.agg #[.int .i64 h, .int .i64 cell, .int .i64 far, .bool there, .int .i64 (col S cell), .int .i64 (row S cell)]] #[], .pointer (some ⟨w.heap.size, 0, none⟩), .pointer (some ⟨b, 0, none⟩), .func (.func 76) #[.pointer (some ⟨b, 0, none⟩)] #[],
      .int .i64 ((opens D.land (S.wide * S.high).toNat).getD i 0 : Nat), .agg #[.int .i64 (col S ((opens D.land (S.wide * S.high).toNat).getD i 0 : Nat)), .int .i64 (row S ((opens D.land (S.wide * S.high).toNat).getD i 0 : Nat))], undef, undef, undef, undef, undef, undef, undef, undef, undef, undef, undef, undef], defers := [] })
    (fun i => #[.int .i64 (col S ((opens D.land (S.wide * S.high).toNat).getD i 0 : Nat)), .int .i64 (row S ((opens D.land (S.wide * S.high).toNat).getD i 0 : Nat))]) 81 ?assign ?body ?done ?stop
  case assign =>
    intro l i h W K' hK
    have he : (openElems S D.land)[i] = #[.int .i64 ((opens D.land (S.wide * S.high).toNat).getD i 0 : Nat), .agg #[.int .i64 (col S ((opens D.land (S.wide * S.high).toNat).getD i 0 : Nat)), .int .i64 (row S ((opens D.land (S.wide * S.high).toNat).getD i 0 : Nat))]] := by
      have h' : i < (opens D.land (S.wide * S.high).toNat).length := by simpa [openElems] using h
      simp only [openElems, List.getElem_map, getD_of h']; rfl
    rw [he]
    generalize (opens D.land (S.wide * S.high).toNat).getD i 0 = p at *
    clear he HB0 hol
    gi_wp2
    exact hK
  case body =>
    rintro l i Bx W hi hl hr ⟨hI, hno⟩ hBx hbx
    have hi' : i < (opens D.land (D.wide * D.high).toNat).length := by rw [← hol]; exact hi
    have hmem : (opens D.land (D.wide * D.high).toNat)[i] < 80 := by
      have := opens_lt (List.getElem_mem hi')
      have hm := (mul_bounds HF.out.ok.wide HF.out.ok.high).2
      rw [HF.out.wide, HF.out.high] at hm
      omega
    have hsnoc : ((opens D.land (D.wide * D.high).toNat).take (i + 1)).any (cbtP S own up from_ ⟨h, cell, far, there⟩ h n) = cbtP S own up from_ ⟨h, cell, far, there⟩ h n (opens D.land (D.wide * D.high).toNat)[i] := by
      rw [List.take_succ_eq_append_getElem hi', List.any_append, hno.out]; simp
    have hin := List.getElem_mem hi'
    have hany : cbtP S own up from_ ⟨h, cell, far, there⟩ h n (opens D.land (D.wide * D.high).toNat)[i] = true → (opens D.land (D.wide * D.high).toNat).any (cbtP S own up from_ ⟨h, cell, far, there⟩ h n) = true := fun hp =>
      List.any_eq_true.2 ⟨_, hin, hp⟩
    rw [HF.out.wide, HF.out.high] at hbx ⊢
    rw [getD_of hi'] at hbx ⊢
    have HST := hid (And.intro hsnoc hany)
    clear hsnoc hany hin hno
    generalize (opens D.land (D.wide * D.high).toNat)[i] = c at HST hmem hbx ⊢
    have hcc0 : (0 : Int) ≤ (c : Int) := by omega
    have hcc1 : (c : Int) ≤ 1000 := by omega
    have hcc := col_ok HF.out.ok hcc0 hcc1
    have hrr := row_ok HF.out.ok hcc0 hcc1
    have hca := col_ok HF.out.ok hc0 hc1
    have hra := row_ok HF.out.ok hc0 hc1
    have HTH := hid fun e : Later W => through_any b g1 g2 g3 N own up from_ e.val (HRows.out.1.mono (hI.below.trans e.grown)) (HRows.out.2.1.mono (hI.below.trans e.grown)) (HRows.out.2.2.mono (hI.below.trans e.grown)) h c hh hmem hN (HB.out h c).1 (HB.out h c).2.1 (HB.out h c).2.2
    have HIT := hid fun e : Later W => isTrue_any ⟨h, cell, far, there⟩ (col S cell) (row S cell) (col S c) (row S c) e.val (by omega) (by omega) (by omega) (by omega)
    unfold chartVal at HTH
    unfold repVal at HIT
    have HC := hid fun e : Later W => And.intro (cell_of (Ext.block e.grown hI.chart)) (And.intro (cell_of (Ext.block e.grown hI.rep)) (And.intro (cell_of (Ext.block e.grown hI.num)) (And.intro (cell_of (Ext.block e.grown hI.fn)) (cell_of (Ext.block e.grown hbx)))))
    unfold askFn at HC
    have HP : Hid (cbtP S own up from_ ⟨h, cell, far, there⟩ h n c = ((throughOf own up from_ h c == n) && repTrue ⟨h, cell, far, there⟩ (col S cell) (row S cell) (col S c) (row S c))) := rfl
    have HI := hid hI
    have hres := hI.res
    clear hI hbx hr hol HB0 hcc hrr hca hra HASK
    generalize throughOf own up from_ h c = tt at *
    generalize repTrue ⟨h, cell, far, there⟩ (col S cell) (row S cell) (col S c) (row S c) = bb at *
    have kf : ∀ (B : Nat) (w5 : World), Ext W w5 → KeepsFrom B W w5 := fun B w5 hx => ⟨hx.size, fun k o' _ ho _ => Ext.block hx ho⟩
    have HKF := hid kf
    clear kf
    cases htn : (tt == n) with
    | false =>
      rw [htn, Bool.false_and] at HP
      gi_wp2_with fail
      refine quiet_round 12 (by kernel_rfl) (by kernel_rfl) ?_
      simp only [List.take_succ_cons, List.take_zero, List.drop_succ_cons, List.drop_zero]
      have h1 := HC.out
      repeat (any_goals (first | go_big_quiet_step ((first | (go_at_call 89; with_reducible exact Cal.quiet (HTH.out _)) | (go_at_call 97; with_reducible exact Cal.quiet (HIT.out _)))) | quiet_step ((first | (go_at_call 89; with_reducible exact Cal.quiet (HTH.out _)) | (go_at_call 97; with_reducible exact Cal.quiet (HIT.out _))))))
      refine wpQuiet_nil ?_
      rintro w5 ⟨⟨_, hx5⟩, rfl⟩
      clear h1 HC HTH HIT
      gi_wp2
      exact ⟨HKF.out _ _ hx5, HI.out.ext hx5, by rw [HST.out.1, HP.out]; rfl⟩
    | true =>
      rw [htn, Bool.true_and] at HP
      cases bb with
      | false =>
        gi_wp2_with fail
        refine quiet_round 12 (by kernel_rfl) (by kernel_rfl) ?_
        simp only [List.take_succ_cons, List.take_zero, List.drop_succ_cons, List.drop_zero]
        have h1 := HC.out
        repeat (any_goals (first | go_big_quiet_step ((first | (go_at_call 89; with_reducible exact Cal.quiet (HTH.out _)) | (go_at_call 97; with_reducible exact Cal.quiet (HIT.out _)))) | quiet_step ((first | (go_at_call 89; with_reducible exact Cal.quiet (HTH.out _)) | (go_at_call 97; with_reducible exact Cal.quiet (HIT.out _))))))
        refine wpQuiet_nil ?_
        rintro w5 ⟨⟨_, hx5⟩, rfl⟩
        clear h1 HC HTH HIT
        gi_wp2
        exact ⟨HKF.out _ _ hx5, HI.out.ext hx5, by rw [HST.out.1, HP.out]; rfl⟩
      | true =>
        gi_wp2_with fail
        refine quiet_round 12 (by kernel_rfl) (by kernel_rfl) ?_
        simp only [List.take_succ_cons, List.take_zero, List.drop_succ_cons, List.drop_zero]
        have h1 := HC.out
        repeat (any_goals (first | go_big_quiet_step ((first | (go_at_call 89; with_reducible exact Cal.quiet (HTH.out _)) | (go_at_call 97; with_reducible exact Cal.quiet (HIT.out _)))) | quiet_step ((first | (go_at_call 89; with_reducible exact Cal.quiet (HTH.out _)) | (go_at_call 97; with_reducible exact Cal.quiet (HIT.out _))))))
        refine wpQuiet_nil ?_
        rintro w5 ⟨⟨_, hx5⟩, rfl⟩
        clear h1 HC HTH HIT
        have hc3 := cell_of (Ext.block hx5 hres)
        have hf3 := free_of (Ext.block hx5 hres)
        gi_wp2
        exact ⟨(HKF.out _ _ hx5).trans ((KeepsOthers.setCell _ _ _).from _), rfl, (HI.out.ext hx5).set hfb true, HST.out.2 HP.out⟩
  case done =>
    rintro K W hK ⟨hI, hno⟩ hKb
    rw [hol, List.take_length] at hno
    have hc3 := cell_of hI.res
    have hf3 := free_of hI.res
    have HI := hid hI
    have hne : K ≠ w.heap.size + 1 + 1 + 1 := by omega
    have hKs : (W.setCell ⟨w.heap.size + 1 + 1 + 1, 0, none⟩ (.bool false)).heap[K]? = some (.deferred (some [])) := by rw [Below.heap_setCell _ _ _ _ hne]; exact hKb
    clear hI
    gi_wp2
    refine leave_mark hKs (v := .bool false) (by simp [results, Try.results63, go_sem, put_cell (one_setCell HI.out.res) (Ne.symm hne)]) ⟨by rw [hno.out], ?_⟩
    exact below_put (HI.out.set hfb false).below (by omega) _
  case stop =>
    rintro K i c W hK hi ⟨rfl, hI, hyes⟩ hKb
    have HI := hid hI
    have hne : K ≠ w.heap.size + 1 + 1 + 1 := by omega
    clear hI
    gi_wp2
    refine leave_mark hKb (v := .bool true) (by simp [results, Try.results63, go_sem, put_cell HI.out.res (Ne.symm hne)]) ⟨by rw [hyes.out], ?_⟩
    exact below_put HI.out.below (by omega) _
end Go.Proofs.Ytiklblbjnblkfaa

namespace Go.Proofs.Ytiklblbjnblkfaa
open Go Go.RowKit Go.Shelf

section
variable {ops : Array Oper} {C : World → Prop} {Q : Act → Prop} {a : Act} {o : Oper} {rest : List Oper}
theorem wpQuiet_run {v : Value} (hw : Region.wanted o (yielded ops a.tmps) = true) (h1 : ∀ w, C w → (execOp a.eval o).run Try.prog w = .ok (.value v) w) (h : wpQuiet Try.prog ops C Q rest (a.put o.dst v)) : wpQuiet Try.prog ops C Q (o :: rest) a := by
  unfold wpQuiet
  rw [if_pos hw]
  refine ⟨v, fun w hC => ?_, h⟩
  unfold Oper.quietAt
  rw [h1 w hC]
  exact ⟨rfl, rfl⟩
theorem wpQuiet_load_row (x : Operand) (ho : o.op = .load 124 x) (hw : Region.wanted o (yielded ops a.tmps) = true) {g h m : Nat} (hx : a.eval x = .pointer (some ⟨g, h * 80, none⟩)) {fs : Nat → Nat → Int} (hR : ∀ w, C w → RowsBlk w g m fs) (hh : h < m)
    (hq : wpQuiet Try.prog ops C Q rest (a.put o.dst (.agg (cntArr (fs h))))) : wpQuiet Try.prog ops C Q (o :: rest) a :=
  wpQuiet_run hw (fun w hC => by unfold execOp; simp only [ho, hx, run_load_row (hR w hC) hh, Sem.run_bind, Sem.run_pure, Result.andThen_ok]) hq
theorem wpQuiet_eql_cnt (x y : Operand) {t : TypeId} (ho : o.op = .binOp .eql 124 x y t) (hw : Region.wanted o (yielded ops a.tmps) = true) {f g : Nat → Int} (hx : a.eval x = .agg (cntArr f)) (hy : a.eval y = .agg (cntArr g))
    (hq : wpQuiet Try.prog ops C Q rest (a.put o.dst (.bool (cntEq f g)))) : wpQuiet Try.prog ops C Q (o :: rest) a :=
  wpQuiet_run hw (fun w hC => by
    have hm : Try.prog.eqGuardType Try.prog.depth 124 = false := by kernel_rfl
    unfold execOp
    simp only [ho, hx, hy, run_eqGuard_agg _ _ _ _ _ _ _ hm, run_eql_struct, eq_cnt, Sem.run_bind, Sem.run_pure, Result.andThen_ok]) hq
end
end Go.Proofs.Ytiklblbjnblkfaa

namespace Go.Proofs.Ytiklblbjnblkfaa
open Go Go.RowKit Go.Shelf

def followsB (S : SeaV) (s : Nat) (steps : List Step) (tr : List Int) (x y : Int) : Bool :=
  decide (tr.length = 0) || swimsB s (col S (tr.getD (tr.length - 1) 0)) (row S (tr.getD (tr.length - 1) 0)) (stepE steps (tr.length - 1)) (stepN steps (tr.length - 1)) x y

set_option maxRecDepth 100000 in
set_option maxHeartbeats 1000000 in
theorem follows_any (b g1 g2 g3 N : Nat) (S : SeaV) (hS : S.Ok) (s : Nat) (hsp : S.speed = s) (steps : List Step) (tr : List Int) (tv : Value) (x y : Int) (w : World) (hs : SeaAt w b S) (hd : StepsAt w S.drift steps)
    (hdb : ∀ k (h : k < steps.length), (-2 ≤ steps[k].east ∧ steps[k].east ≤ 2) ∧ (-2 ≤ steps[k].north ∧ steps[k].north ≤ 2)) (ht : IntsAt w tv tr) (htb : ∀ c ∈ tr, 0 ≤ c ∧ c ≤ 1000) (hlen : tr.length ≤ steps.length) :
    Cal 88 #[chartVal b g1 g2 g3 N, tv, .agg #[.int .i64 x, .int .i64 y]] w fun e w' => e = .returned (.bool (followsB S s steps tr x y)) ∧ Ext w w' := by
  unfold chartVal
  obtain ⟨a, cap, rfl, hl, hc⟩ := ht
  obtain ⟨da, dcap, hdv, hdl, hdc⟩ := hd
  gi_enter Try.func88, Try.ntmps88
  gi_wp2_with fail
  have hx1 : Ext w ((w.alloc (.cells #[.pointer (some ⟨b, 0, none⟩), .slice (some ⟨g1, 0, none⟩) N N, .slice (some ⟨g2, 0, none⟩) N N, .slice (some ⟨g3, 0, none⟩) N N] 90)).alloc (.cells #[.int .i64 x, .int .i64 y] 81)) := ((Ext.refl w).alloc _).alloc _
  have hb1 : ((w.alloc (.cells #[.pointer (some ⟨b, 0, none⟩), .slice (some ⟨g1, 0, none⟩) N N, .slice (some ⟨g2, 0, none⟩) N N, .slice (some ⟨g3, 0, none⟩) N N] 90)).alloc (.cells #[.int .i64 x, .int .i64 y] 81)).heap[w.heap.size]? = some (.cells #[.pointer (some ⟨b, 0, none⟩), .slice (some ⟨g1, 0, none⟩) N N, .slice (some ⟨g2, 0, none⟩) N N, .slice (some ⟨g3, 0, none⟩) N N] 90 (0, 0)) := two_new
  have hb2 : ((w.alloc (.cells #[.pointer (some ⟨b, 0, none⟩), .slice (some ⟨g1, 0, none⟩) N N, .slice (some ⟨g2, 0, none⟩) N N, .slice (some ⟨g3, 0, none⟩) N N] 90)).alloc (.cells #[.int .i64 x, .int .i64 y] 81)).heap[w.heap.size + 1]? = some (.cells #[.int .i64 x, .int .i64 y] 81 (0, 0)) := by
    have := Ext.new (w := w.alloc (.cells #[.pointer (some ⟨b, 0, none⟩), .slice (some ⟨g1, 0, none⟩) N N, .slice (some ⟨g2, 0, none⟩) N N, .slice (some ⟨g3, 0, none⟩) N N] 90)) (o := .cells #[.int .i64 x, .int .i64 y] 81) (Ext.refl _)
    simpa using this
  generalize (w.alloc (.cells #[.pointer (some ⟨b, 0, none⟩), .slice (some ⟨g1, 0, none⟩) N N, .slice (some ⟨g2, 0, none⟩) N N, .slice (some ⟨g3, 0, none⟩) N N] 90)).alloc (.cells #[.int .i64 x, .int .i64 y] 81) = w1 at hx1 hb1 hb2 ⊢
  have HX := hid hx1
  by_cases h0 : tr.length = 0
  · have HG : Hid (followsB S s steps tr x y = true) := by show followsB _ _ _ _ _ _ = true; unfold followsB; rw [decide_eq_true h0]; rfl
    have hi0 : ((tr.length : Int) == 0) = true := by simp [h0]
    clear hc hdc hdb hb1 hb2 hx1
    refine quiet_wide 26 (by kernel_rfl) (by kernel_rfl) ?_
    simp only [List.take_succ_cons, List.take_zero, List.drop_succ_cons, List.drop_zero]
    repeat (any_goals (first | go_big_quiet_step (fail) | quiet_step (fail)))
    refine wpQuiet_nil ?_
    rintro w5 ⟨⟨_, hx5⟩, rfl⟩
    gi_wp2
    go_ret
    exact ⟨by rw [HG.out]; rfl, HX.out.trans hx5⟩
  · have hk : tr.length - 1 < tr.length := by omega
    have hks : tr.length - 1 < steps.length := by omega
    obtain ⟨tb, toff, rfl, htb1, htc⟩ := hc (tr.length - 1) hk
    obtain ⟨db, doff, rfl, hdb1, hd0, hd1⟩ := hdc (tr.length - 1) hks
    have hse : steps[tr.length - 1].east = stepE steps (tr.length - 1) := by unfold stepE; rw [getD_of hks]
    have hsn : steps[tr.length - 1].north = stepN steps (tr.length - 1) := by unfold stepN; rw [getD_of hks]
    have hbd := hdb (tr.length - 1) hks
    have hbt := htb tr[tr.length - 1] (List.getElem_mem _)
    have HG : Hid (followsB S s steps tr x y = swimsB s (col S tr[tr.length - 1]) (row S tr[tr.length - 1]) (stepE steps (tr.length - 1)) (stepN steps (tr.length - 1)) x y) := by
      show _ = _
      unfold followsB
      rw [decide_eq_false h0, Bool.false_or, getD_of hk]
    rw [hse] at hd0 hbd
    rw [hsn] at hd1 hbd
    have HS := hid fun e : Later w1 => hs.mono (hx1.trans e.grown)
    have HC := hid fun e : Later w1 => And.intro (cell_of (Ext.block e.grown hb1)) (And.intro (cell_of (Ext.block e.grown hb2)) (And.intro ((Ext.trans hx1 e.grown).cell (p := ⟨tb, _, none⟩) htb1 |>.trans htc) (And.intro ((Ext.trans hx1 e.grown).cell (p := ⟨db, _, none⟩) hdb1 |>.trans hd0) ((Ext.trans hx1 e.grown).cell (p := ⟨db, _, none⟩) hdb1 |>.trans hd1))))
    have HD : Hid (∀ e : Later w1, e.val.cell? ⟨b, 4, none⟩ = some (.slice (some ⟨db, doff, none⟩) steps.length dcap)) := fun e => by have := (HS.out e).cells.2.2.2.2.1; rw [hdv] at this; exact this
    have hcc := col_ok hS hbt.1 hbt.2
    have hrr := row_ok hS hbt.1 hbt.2
    have HSW := hid fun e : Later w1 => swims_any b S hS s hsp (col S tr[tr.length - 1]) (row S tr[tr.length - 1]) (stepE steps (tr.length - 1)) (stepN steps (tr.length - 1)) x y (by omega) (by omega) (by omega) (by omega) e.val (HS.out e)
    have HBT := hid hbt
    have hi0 : ((tr.length : Int) == 0) = false := by simpa using h0
    have hkk : 0 < tr.length := by omega
    clear hc hdc hdb hb1 hb2 hx1 hd0 hd1 htc hse hsn hbd hcc hrr hbt htb1 hdb1 htb
    generalize swimsB s (col S tr[tr.length - 1]) (row S tr[tr.length - 1]) (stepE steps (tr.length - 1)) (stepN steps (tr.length - 1)) x y = bb at *
    generalize stepE steps (tr.length - 1) = se at *
    generalize stepN steps (tr.length - 1) = sn at *
    refine quiet_wide 26 (by kernel_rfl) (by kernel_rfl) ?_
    simp only [List.take_succ_cons, List.take_zero, List.drop_succ_cons, List.drop_zero]
    have h1 := HC.out
    have h2 := HD.out
    repeat (any_goals (first | go_big_quiet_step ((first | (go_at_call 50; with_reducible exact Cal.quiet (place_b b S hS tr[tr.length - 1] HBT.out.1 HBT.out.2 _ (HS.out _))) | (go_at_call 79; with_reducible exact Cal.quiet (HSW.out _)))) | quiet_step ((first | (go_at_call 50; with_reducible exact Cal.quiet (place_b b S hS tr[tr.length - 1] HBT.out.1 HBT.out.2 _ (HS.out _))) | (go_at_call 79; with_reducible exact Cal.quiet (HSW.out _))))))
    refine wpQuiet_nil ?_
    rintro w5 ⟨⟨_, hx5⟩, rfl⟩
    clear h1 h2 HC HD HSW HS
    gi_wp2
    go_ret
    exact ⟨by rw [HG.out]; rfl, HX.out.trans hx5⟩
end Go.Proofs.Ytiklblbjnblkfaa

namespace Go.Proofs.Ytiklblbjnblkfaa
open Go Go.RowKit Go.Shelf

/-! A statement that appends one element, in a region that draws its order: operation i1 makes the slice of the new element, operation i2 appends. -/
def gRow (T : TypeId) (n5 : Nat) (news : List Value) (v : Value) (u : World) : Prop := ∃ g, v = .slice (some ⟨g, 0, none⟩) 1 1 ∧ u.heap[g]? = some (.cells news.toArray T (0, 0)) ∧ n5 ≤ g
def gNew (T : TypeId) (sz n5 n : Nat) (ob : Option Nat) (xs : List Value) (v : Value) (u : World) : Prop := Row u T sz v n xs ∧ (v.ownBlock = ob ∨ ∃ k, v.ownBlock = some k ∧ n5 ≤ k)
def gPreds (T : TypeId) (sz n5 n : Nat) (ob : Option Nat) (news xs : List Value) (i1 i2 : Nat) : Preds := [(i1, gRow T n5 news), (i2, gNew T sz n5 n ob xs)]
def gR (ob : Option Nat) (i2 j : Nat) (u v : World) : Prop := if j = i2 then u.grownBy v ob else Ext u v
def gC (w5 : World) (ob : Option Nat) (i2 i : Nat) (u : World) : Prop := if i = i2 then Ext w5 u else w5.grownBy u ob
theorem gC_ok {w5 : World} {ob : Option Nat} {i2 : Nat} (i j : Nat) (u v : World) (hij : i ≠ j) (h : gC w5 ob i2 i u) (k : gR ob i2 j u v) : gC w5 ob i2 i v := by
  unfold gC at h ⊢
  unfold gR at k
  by_cases hi : i = i2
  · rw [if_pos hi] at h ⊢
    rw [if_neg (by omega)] at k
    exact h.trans k
  · rw [if_neg hi] at h ⊢
    split at k
    · exact h.trans k
    · exact h.trans (k.grown ob)
theorem gE_ok {w5 : World} {ob : Option Nat} {i2 : Nat} (j : Nat) (u v : World) (h : w5.grownBy u ob) (k : gR ob i2 j u v) : w5.grownBy v ob := by
  unfold gR at k
  split at k
  · exact h.trans k
  · exact h.trans (k.grown ob)
theorem g_stab {T : TypeId} {sz n5 n : Nat} {ob : Option Nat} {news xs : List Value} {i1 i2 : Nat} (hob : ∀ g, ob = some g → g < n5) (i j : Nat) (p : Value → World → Prop) (hij : i ≠ j) (hp : psAt (gPreds T sz n5 n ob news xs i1 i2) i = some p)
    (v : Value) (u u' : World) (hv : p v u) (hR : gR ob i2 j u u') : p v u' := by
  unfold gPreds psAt at hp
  split at hp
  · cases hp
    obtain ⟨g, e, hg, hn⟩ := hv
    refine ⟨g, e, ?_, hn⟩
    unfold gR at hR
    split at hR
    · exact grownBy_block hR hg (fun e => by have := hob g e.symm; omega)
    · exact Ext.block hR hg
  unfold psAt at hp
  split at hp
  · rename_i hi
    cases hp
    subst hi
    unfold gR at hR
    rw [if_neg (Ne.symm hij)] at hR
    exact ⟨hv.1.mono hR, hv.2⟩
  cases hp
section
variable {T : TypeId} {sz n5 n : Nat} {ob : Option Nat} {news xs : List Value} {i1 i2 : Nat} {w5 : World} {ops : Array Oper} {tail : Act → World → Prop} {k : Nat} {o : Oper} {rest : List Oper} {af : (Nat → Value) → Act}
theorem g_fun {v : Value} (hk1 : k ≠ i1) (hk2 : k ≠ i2)
    (h1 : ∀ x w', w5.grownBy w' ob → if Region.wanted o (yielded ops (af x).tmps) then gives Fence.wide 0 Try.prog Ext o (af x) w' (fun u _ => u = v) else undef = v)
    (h2 : lexOk Fence.wide 0 Try.prog ops (gR ob i2) (gC w5 ob i2) (fun u => w5.grownBy u ob) (gPreds T sz n5 n ob news xs i1 i2) tail (k + 1) rest (fun x => (af x).put o.dst v)) :
    lexOk Fence.wide 0 Try.prog ops (gR ob i2) (gC w5 ob i2) (fun u => w5.grownBy u ob) (gPreds T sz n5 n ob news xs i1 i2) tail k (o :: rest) af := by
  have e1 : psAt (gPreds T sz n5 n ob news xs i1 i2) k = none := by
    unfold gPreds psAt; rw [if_neg hk1]; unfold psAt; rw [if_neg hk2]; rfl
  have e2 : gR ob i2 k = Ext := by funext u v; unfold gR; rw [if_neg hk2]
  have e3 : gC w5 ob i2 k = fun u => w5.grownBy u ob := by funext u; unfold gC; rw [if_neg hk2]
  refine lex_fun e1 (fun x w' hC _ => ?_) h2
  rw [e2]; rw [e3] at hC
  exact h1 x w' hC
theorem g_row (hk2 : i1 ≠ i2)
    (h1 : ∀ x w', w5.grownBy w' ob → if Region.wanted o (yielded ops (af x).tmps) then gives Fence.wide 0 Try.prog Ext o (af x) w' (gRow T n5 news) else gRow T n5 news undef w')
    (h2 : lexOk Fence.wide 0 Try.prog ops (gR ob i2) (gC w5 ob i2) (fun u => w5.grownBy u ob) (gPreds T sz n5 n ob news xs i1 i2) tail (i1 + 1) rest (fun x => (af x).put o.dst (x i1))) :
    lexOk Fence.wide 0 Try.prog ops (gR ob i2) (gC w5 ob i2) (fun u => w5.grownBy u ob) (gPreds T sz n5 n ob news xs i1 i2) tail i1 (o :: rest) af := by
  have e1 : psAt (gPreds T sz n5 n ob news xs i1 i2) i1 = some (gRow T n5 news) := by unfold gPreds psAt; rw [if_pos rfl]
  have e2 : gR ob i2 i1 = Ext := by funext u v; unfold gR; rw [if_neg hk2]
  have e3 : gC w5 ob i2 i1 = fun u => w5.grownBy u ob := by funext u; unfold gC; rw [if_neg hk2]
  refine lex_pred e1 (fun x w' hC _ => ?_) h2
  rw [e2]; rw [e3] at hC
  exact h1 x w' hC
theorem g_new (hk2 : i1 ≠ i2)
    (h1 : ∀ x w', Ext w5 w' → factsL (gPreds T sz n5 n ob news xs i1 i2) x w' o.after.toList → if Region.wanted o (yielded ops (af x).tmps) then gives Fence.wide 0 Try.prog (fun u v => u.grownBy v ob) o (af x) w' (gNew T sz n5 n ob xs) else gNew T sz n5 n ob xs undef w')
    (h2 : lexOk Fence.wide 0 Try.prog ops (gR ob i2) (gC w5 ob i2) (fun u => w5.grownBy u ob) (gPreds T sz n5 n ob news xs i1 i2) tail (i2 + 1) rest (fun x => (af x).put o.dst (x i2))) :
    lexOk Fence.wide 0 Try.prog ops (gR ob i2) (gC w5 ob i2) (fun u => w5.grownBy u ob) (gPreds T sz n5 n ob news xs i1 i2) tail i2 (o :: rest) af := by
  have e1 : psAt (gPreds T sz n5 n ob news xs i1 i2) i2 = some (gNew T sz n5 n ob xs) := by unfold gPreds psAt; rw [if_neg (Ne.symm hk2)]; unfold psAt; rw [if_pos rfl]
  have e2 : gR ob i2 i2 = fun u v => u.grownBy v ob := by funext u v; unfold gR; rw [if_pos rfl]
  have e3 : gC w5 ob i2 i2 = Ext w5 := by funext u; unfold gC; rw [if_pos rfl]
  refine lex_pred e1 (fun x w' hC hf => ?_) h2
  rw [e2]; rw [e3] at hC
  exact h1 x w' hC hf
end

def flatC (S : SeaV) (cs : List Cst) : List Value := cs.flatMap fun c => [.int .i64 c.cell, .int .i64 c.far, .int .i64 (col S c.cell), .int .i64 (row S c.cell)]
theorem flatC_append (S : SeaV) (ps qs : List Cst) : flatC S (ps ++ qs) = flatC S ps ++ flatC S qs := by unfold flatC; rw [List.flatMap_append]
theorem info104 : (Try.prog.info? 104).map (fun i => (i.zero, i.size, i.bytes)) = some (some (.agg #[.int .i64 0, .int .i64 0, .int .i64 0, .int .i64 0]), 4, 32) := by kernel_rfl

set_option maxRecDepth 100000 in
set_option maxHeartbeats 1000000 in
theorem castsOf_any (b : Nat) (S : SeaV) (hS : S.Ok) (v : Value) (cs : List Cst) (w : World) (hs : SeaAt w b S) (hc : CastsAt w v cs) (hb : ∀ c ∈ cs, 0 ≤ c.cell ∧ c.cell ≤ 1000) (h8 : cs.length ≤ 8) :
    Cal 92 #[.pointer (some ⟨b, 0, none⟩), v] w fun e w' => ∃ v', e = .returned v' ∧ Ext w w' ∧ Hid (Row w' 104 4 v' cs.length (flatC S cs)) := by
  obtain ⟨a, cap, rfl, hlen, hcs⟩ := hc
  have HP := hid hcs
  have HS := hid hs
  clear hcs hs
  gi_enter Try.func92, Try.ntmps92
  gi_wp2_with fail
  gi_loopw [5, 10] (fun v i wr => ∃ k : Nat, k ≤ cs.length ∧ i = .int .i64 k ∧ Hid (Ext w wr ∧ Row wr 104 4 v k (flatC S (cs.take k)) ∧ ∀ g, v.ownBlock = some g → w.heap.size ≤ g)) (fun _ i _ => cs.length - (intOf i).toNat)
  case atStart => exact ⟨0, Nat.zero_le _, rfl, Ext.refl _, Row.nil _ _ _, fun g hg => by simp [Value.ownBlock] at hg⟩
  case round =>
    obtain ⟨k, hk, rfl, hI⟩ := hrel
    by_cases hlt : k < cs.length
    · obtain ⟨bc, off, rfl, hbl, hc0, hc1⟩ := HP.out k hlt
      have hpb := hb cs[k] (List.getElem_mem _)
      rw [← Below.cell hI.out.1 (p := ⟨bc, _, none⟩) hbl] at hc0 hc1
      have htk : flatC S (cs.take (k + 1)) = flatC S (cs.take k) ++ [.int .i64 cs[k].cell, .int .i64 cs[k].far, .int .i64 (col S cs[k].cell), .int .i64 (row S cs[k].cell)] := by
        rw [List.take_succ_eq_append_getElem hlt, flatC_append]; rfl
      generalize cs[k] = p at *
      obtain ⟨cell, far⟩ := p
      simp only at hc0 hc1 hpb htk
      have HT := hid htk
      clear htk
      gi_wp2_with fail
      have hx5 : Ext wr (wr.alloc (.cells #[.int .i64 cell, .int .i64 far] 64)) := (Ext.refl _).alloc _
      have hnew : (wr.alloc (.cells #[.int .i64 cell, .int .i64 far] 64)).heap[wr.heap.size]? = some (.cells #[.int .i64 cell, .int .i64 far] 64 (0, 0)) := Ext.new (Ext.refl _)
      generalize wr.alloc (.cells #[.int .i64 cell, .int .i64 far] 64) = w5 at hx5 hnew ⊢
      have hobl : ∀ g, u5.ownBlock = some g → g < wr.heap.size := fun g hg => hI.out.2.1.lt hg
      have hsz := lt_of_block hnew
      have HG : Hid (∀ u, w5.grownBy u u5.ownBlock → ∀ o : Nat, u.cell? ⟨wr.heap.size, o, none⟩ = #[.int .i64 cell, .int .i64 far][o]?) := fun u hu =>
        cell_of (grownBy_block hu hnew (fun e => by have := hobl _ e.symm; omega))
      have HSU : Hid (∀ u, w5.grownBy u u5.ownBlock → SeaAt u b S) := fun u hu => by
        have h1 : SeaAt w5 b S := (HS.out.mono hI.out.1).mono hx5
        exact grownBy_block hu h1 (fun e => by have := hI.out.2.2 b e.symm; have := lt_of_block HS.out; omega)
      have HNX := hid (And.intro hobl hsz)
      clear hnew hobl hc0 hc1
      refine lex_own 9 (gPreds 104 4 w5.heap.size (k + 1) u5.ownBlock [.int .i64 cell, .int .i64 far, .int .i64 (col S cell), .int .i64 (row S cell)] (flatC S (cs.take k) ++ [.int .i64 cell, .int .i64 far, .int .i64 (col S cell), .int .i64 (row S cell)]) 7 8) (gR u5.ownBlock 8) (gC w5 u5.ownBlock 8) (fun u => w5.grownBy u u5.ownBlock) (by kernel_rfl) (by kernel_rfl)
        (fun i => ?_) ((Ext.drawn w5).grown _) gC_ok gE_ok (g_stab fun g hg => by have := HNX.out.1 g hg; omega) ?_
      · unfold gC
        split
        · exact Ext.drawn w5
        · exact (Ext.drawn w5).grown _
      simp only [List.take_succ_cons, List.take_zero, List.drop_succ_cons, List.drop_zero]
      apply g_fun (by omega) (by omega)
      · intro x u hR
        have c2 := HG.out u hR
        clear hR
        go_simp
        exact ⟨rfl, Ext.refl _⟩
      simp only [Act.put, List.setIfInBounds_toArray, List.set_cons_succ, List.set_cons_zero]
      apply g_fun (by omega) (by omega)
      · intro x u hR
        have c2 := HG.out u hR
        clear hR
        go_simp
        exact ⟨rfl, Ext.refl _⟩
      simp only [Act.put, List.setIfInBounds_toArray, List.set_cons_succ, List.set_cons_zero]
      apply g_fun (by omega) (by omega)
      · intro x u hR
        have c2 := HG.out u hR
        clear hR
        go_simp
        exact ⟨rfl, Ext.refl _⟩
      simp only [Act.put, List.setIfInBounds_toArray, List.set_cons_succ, List.set_cons_zero]
      apply g_fun (by omega) (by omega)
      · intro x u hR
        have c2 := HG.out u hR
        clear hR
        go_simp
        exact ⟨rfl, Ext.refl _⟩
      simp only [Act.put, List.setIfInBounds_toArray, List.set_cons_succ, List.set_cons_zero]
      apply g_fun (by omega) (by omega)
      · intro x u hR
        have c2 := HG.out u hR
        clear hR
        go_simp
        exact ⟨rfl, Ext.refl _⟩
      simp only [Act.put, List.setIfInBounds_toArray, List.set_cons_succ, List.set_cons_zero]
      refine g_fun (v := .agg #[.int .i64 (col S cell), .int .i64 (row S cell)]) (by omega) (by omega) ?_ ?_
      · intro x u hR
        have hcal := hid (place_b b S hS cell hpb.1 hpb.2 u (HSU.out u hR))
        clear hR
        go_simp
        exact hcal.out.mono fun e w'' he => ⟨_, he.1, rfl, he.2⟩
      simp only [Act.put, List.setIfInBounds_toArray, List.set_cons_succ, List.set_cons_zero]
      apply g_fun (by omega) (by omega)
      · intro x u hR
        clear hR
        go_simp
        exact ⟨rfl, Ext.refl _⟩
      simp only [Act.put, List.setIfInBounds_toArray, List.set_cons_succ, List.set_cons_zero]
      refine g_row (by omega) ?_ ?_
      · intro x u hR
        have hn := hR.size
        clear hR
        go_simp
        exact ⟨⟨_, rfl, Ext.new (Ext.refl _), hn⟩, (Ext.refl _).alloc _⟩
      simp only [Act.put, List.setIfInBounds_toArray, List.set_cons_succ, List.set_cons_zero]
      refine g_new (by omega) ?_ ?_
      · intro x u hR hf
        have h7 : gRow 104 w5.heap.size [.int .i64 cell, .int .i64 far, .int .i64 (col S cell), .int .i64 (row S cell)] (x 7) u := hf.2.1 rfl
        clear hf
        obtain ⟨g, e7, hg, hgn⟩ := h7
        obtain ⟨i0, hi0, hz0, hz1, hz2⟩ := info_parts info104
        obtain ⟨v', w', hrun, hrow', hgr, how, hown⟩ := append_row (sz := 4) (bytes := 32) (t := 100) (ty := 100) Try.underlying100 hi0 hz0 hz1 hz2 (by simp [Value.cells]) (by omega) ((hI.out.2.1.mono hx5).mono hR) ⟨g, 0, none⟩ 1 [.int .i64 cell, .int .i64 far, .int .i64 (col S cell), .int .i64 (row S cell)] rfl
          (fun j z hj => by rw [Addr.add_mid, Nat.zero_add, cell_of hg]; simpa using hj) (fun z hz => by simp at hz; rcases hz with rfl | rfl | rfl | rfl <;> rfl) (by omega) (by omega)
        have HRW := hid (And.intro hrow' (And.intro hgr how))
        have hun := hR.size
        clear hR hg hrow' hgr how hown hi0 hz0 hz1 hz2
        rw [if_pos (show Region.wanted _ _ = true from rfl)]
        exact gives_append (.tmp 14) (.tmp 21) 100 rfl rfl e7 hrun ⟨⟨HRW.out.1, HRW.out.2.2.imp id fun e => ⟨_, e, hun⟩⟩, HRW.out.2.1⟩
      simp only [Act.put, List.setIfInBounds_toArray, List.set_cons_succ, List.set_cons_zero]
      refine lex_nil fun x u hE hfacts => ?_
      have h8 : gNew 104 4 w5.heap.size (k + 1) u5.ownBlock _ (x 8) u := hfacts 8 _ (by omega) rfl
      clear hfacts
      generalize x 7 = x7 at *
      generalize x 8 = x8 at *
      have hgu : wr.grownBy u u5.ownBlock := (hx5.grown _).trans hE
      have hbel : Ext w u := Below.trans hI.out.1 ⟨hgu.os, hgu.tape, hgu.output, hgu.size, fun j hj => hgu.block j (Nat.lt_of_lt_of_le hj hI.out.1.size) (fun e => by have := hI.out.2.2 j e.symm; omega)⟩
      have hown : ∀ g, x8.ownBlock = some g → w.heap.size ≤ g := fun g hg => by
        rcases h8.2 with e | ⟨k', e, hk'⟩
        · exact hI.out.2.2 g (by rw [← e]; exact hg)
        · rw [hg] at e; cases e; have := hI.out.1.size; omega
      have HR := hid (And.intro hbel (And.intro h8.1 hown))
      clear hgu hbel hown h8 hE HG HSU HNX hx5
      gi_wp2
      go_roundw
      case rel => exact ⟨k + 1, by omega, by go_num, HR.out.1, by rw [HT.out]; exact HR.out.2.1, HR.out.2.2⟩
      case measure => simp [intOf]; omega
    · obtain rfl : k = cs.length := by omega
      have hI2 := hI.out
      rw [List.take_length] at hI2
      have HI2 := hid hI2
      clear hI hI2
      gi_wp2
      go_ret
      exact ⟨_, rfl, HI2.out.1, HI2.out.2.1⟩
end Go.Proofs.Ytiklblbjnblkfaa

namespace Go.Proofs.Ytiklblbjnblkfaa
open Go Go.RowKit Go.Shelf

set_option maxHeartbeats 400000 in
theorem Check_any (D : SeaD) (lv dv : Value) (w : World) (hl : IntsAt w lv D.land) (hd : StepsAt w dv D.drift) :
    Cal 18 #[seaVal D lv dv] w fun e w' => e = .returned (.int .i64 (if seaB D then 0 else 10)) ∧ Ext w w' := by
  unfold seaVal
  gi_enter Try.func18, Try.ntmps18
  have hx := (Ext.refl w).alloc (.cells #[.int .i64 D.wide, .int .i64 D.high, lv, .int .i64 D.hours, dv, .int .i64 D.speed] 25)
  have HA := hid (isSea_any D lv dv _ (hl.mono hx) (hd.mono hx))
  rw [seaVal] at HA
  clear hl hd hx
  cases hb : seaB D with
  | true =>
    rw [hb] at HA
    clear hb
    gi_wp2_with (gi_at_call 55; refine HA.out.mono ?_; rintro e w1 ⟨rfl, hx1⟩)
    go_ret
    exact ⟨rfl, Ext.after hx1⟩
  | false =>
    rw [hb] at HA
    clear hb
    gi_wp2_with (gi_at_call 55; refine HA.out.mono ?_; rintro e w1 ⟨rfl, hx1⟩)
    go_ret
    exact ⟨rfl, Ext.after hx1⟩
end Go.Proofs.Ytiklblbjnblkfaa

namespace Go.Proofs.Ytiklblbjnblkfaa
open Go Go.RowKit Go.Shelf

theorem minTo_congr {D : SeaD} (h80 : D.wide * D.high ≤ 80) {before before' : Nat → Int} (hb : ∀ c, c < 80 → before c = before' c) (ps : List (Int × Int)) :
    minTo (seaMap (seaOf D) D.land) before ps = minTo (seaMap (seaOf D) D.land) before' ps := by
  have key : ∀ (ps : List (Int × Int)) (n : Int), ps.foldl (minOne (seaMap (seaOf D) D.land) before) n = ps.foldl (minOne (seaMap (seaOf D) D.land) before') n := by
    intro ps
    induction ps with
    | nil => intro n; rfl
    | cons p ps ih =>
      intro n
      have e : minOne (seaMap (seaOf D) D.land) before n p = minOne (seaMap (seaOf D) D.land) before' n p := by
        unfold minOne
        cases hf : (seaMap (seaOf D) D.land).find p with
        | none => rfl
        | some f =>
          obtain ⟨c, rfl, hc⟩ := find_some hf
          have hc80 : c < 80 := by simp only [seaOf] at hc; omega
          simp only [Int.toNat_natCast]
          rw [hb c hc80]
      rw [List.foldl_cons, List.foldl_cons, e]
      exact ih _
  exact key ps 25
theorem nextF_congr {D : SeaD} (h80 : D.wide * D.high ≤ 80) {before before' own own' : Nat → Int} (hb : ∀ c, c < 80 → before c = before' c) (ho : ∀ c, c < 80 → own c = own' c) (se sn : Int) (i : Nat) :
    ∀ c, c < 80 → nextF D before own se sn i c = nextF D before' own' se sn i c := by
  intro c hc
  unfold nextF
  rw [minTo_congr h80 hb, ho c hc]
theorem nextF_bounds (D : SeaD) {before own : Nat → Int} (hb : ∀ c, 0 ≤ before c ∧ before c ≤ 1000) (ho : ∀ c, 0 ≤ own c ∧ own c ≤ 1000) (se sn : Int) (i c : Nat) :
    0 ≤ nextF D before own se sn i c ∧ nextF D before own se sn i c ≤ 1000 := by
  unfold nextF
  split
  · have h1 := minTo_bounds (seaMap (seaOf D) D.land) before hb (reachList D.speed.toNat (col (seaOf D) c) (row (seaOf D) c) se sn)
    have h2 := ho c
    rw [minL_one]
    split <;> omega
  · exact ho c
theorem cntF_bounds (D : SeaD) {rs : List Rep} (h24 : rs.length ≤ 24) (h i c : Nat) : 0 ≤ cntF D rs h i c ∧ cntF D rs h i c ≤ 1000 := by
  unfold cntF
  split
  · have := untrueN_le (S := seaOf D) (rs := rs) (h := h) (x := col (seaOf D) c) (y := row (seaOf D) c) h24
    omega
  · omega

/-- The counts of the hour that comes as number i, of a way whose hours are hf and whose steps are sf. -/
def walkF (D : SeaD) (own : Nat → Nat → Int) (hf : Nat → Nat) (sf : Nat → Int × Int) : Nat → Nat → Int
  | 0 => own (hf 0)
  | i + 1 => nextF D (walkF D own hf sf i) (own (hf (i + 1))) (sf (i + 1)).1 (sf (i + 1)).2 (opens D.land (D.wide * D.high).toNat).length
theorem walkF_bounds (D : SeaD) {own : Nat → Nat → Int} (ho : ∀ h c, 0 ≤ own h c ∧ own h c ≤ 1000) (hf : Nat → Nat) (sf : Nat → Int × Int) : ∀ i c, 0 ≤ walkF D own hf sf i c ∧ walkF D own hf sf i c ≤ 1000
  | 0, c => ho _ c
  | i + 1, c => nextF_bounds D (walkF_bounds D ho hf sf i) (ho _) _ _ _ c
/-- The shortcut: an hour like the one before it. -/
theorem walkF_same {D : SeaD} (h80 : D.wide * D.high ≤ 80) {own : Nat → Nat → Int} {hf : Nat → Nat} {sf : Nat → Int × Int} {i : Nat} (hs : sf (i + 2) = sf (i + 1)) (ho : cntEq (own (hf (i + 2))) (own (hf (i + 1))) = true)
    (hw : cntEq (walkF D own hf sf (i + 1)) (walkF D own hf sf i) = true) : ∀ c, c < 80 → walkF D own hf sf (i + 2) c = walkF D own hf sf (i + 1) c := by
  intro c hc
  have e1 : walkF D own hf sf (i + 2) = nextF D (walkF D own hf sf (i + 1)) (own (hf (i + 2))) (sf (i + 2)).1 (sf (i + 2)).2 (opens D.land (D.wide * D.high).toNat).length := rfl
  have e2 : walkF D own hf sf (i + 1) = nextF D (walkF D own hf sf i) (own (hf (i + 1))) (sf (i + 1)).1 (sf (i + 1)).2 (opens D.land (D.wide * D.high).toNat).length := rfl
  rw [e1]
  conv => rhs; rw [e2]
  rw [hs]
  exact nextF_congr h80 ((cntEq_iff _ _).1 hw) ((cntEq_iff _ _).1 ho) _ _ _ c hc
end Go.Proofs.Ytiklblbjnblkfaa

namespace Go.Proofs.Ytiklblbjnblkfaa
open Go Go.RowKit Go.Shelf

theorem info124 : (Try.prog.info? 124).map (fun i => (i.zero, i.size, i.bytes)) = some (some (.agg Try.zeroCells124), 80, 640) := by kernel_rfl
theorem make_cnts (w : World) (H : Int) (n : Nat) (h : H = n) (hn : n ≤ 100) : (Instr.makeSlice 88 (.int .i64 H) (.int .i64 H)).run Try.prog w = .ok (.slice (some ⟨w.heap.size, 0, none⟩) n n) (w.alloc (.cells (madeCells Try.zeroCells124 (n * 80)) 124)) := by
  subst h
  obtain ⟨i0, hi, hz0, hz1, hz2⟩ := info_parts info124
  have := run_make (P := Try.prog) w 88 124 i0 (.agg Try.zeroCells124) Try.underlying88 hi hz0 .i64 .i64 n n (by omega) (by omega) (by rw [hz2]; omega) (by omega)
  rw [this]; simp [hz1, Value.cells]
theorem rows_new (w : World) (n : Nat) : RowsBlk (w.alloc (.cells (madeCells Try.zeroCells124 (n * 80)) 124)) w.heap.size n (fun _ _ => 0) := by
  have hb : (w.alloc (.cells (madeCells Try.zeroCells124 (n * 80)) 124)).heap[w.heap.size]? = some (.cells (madeCells Try.zeroCells124 (n * 80)) 124 (0, 0)) := Ext.new (Ext.refl _)
  refine ⟨lt_of_block hb, fun h c hh hc => ?_, free_of hb⟩
  have hlt : h * 80 + c < n * 80 := by
    have : (h + 1) * 80 ≤ n * 80 := Nat.mul_le_mul_right _ hh
    omega
  have hm : (h * 80 + c) % 80 = c := by omega
  rw [cell_of hb, zero124]
  unfold madeCells
  rw [cntArr_size]
  have hg := cntArr_get (fun _ => 0) hc
  simp only [Array.getElem?_map, Array.getElem?_range, hlt, if_true, Option.map_some, hm]
  rw [getElem!_def, hg]
end Go.Proofs.Ytiklblbjnblkfaa
