/- Torn nets: between, twine, which bars are left. -/
import Derived.Test.YtmjelgonhpgmbaaMM
import Derived.Deep.WholeRow
import Derived.Stop.BytesEq
set_option linter.unusedSimpArgs false
set_option linter.unusedVariables false
namespace Go.Proofs.Ytmjelgonhpgmbaa
open Go Go.RowKit Go.Shelf
/-- The cells of a list of truth values. -/
def boolArr (f : Nat → Bool) : Array Value := ((List.range 96).map fun c => Value.bool (f c)).toArray
theorem boolArr_size (f : Nat → Bool) : (boolArr f).size = 96 := by simp [boolArr]
theorem boolArr_get (f : Nat → Bool) {k : Nat} (h : k < 96) : (boolArr f)[k]? = some (.bool (f k)) := by simp [boolArr, h]
theorem boolArr_set (f : Nat → Bool) {k : Nat} (h : k < 96) (v : Bool) : (boolArr f).setIfInBounds k (.bool v) = boolArr fun j => if j = k then v else f j := by
  apply Array.ext
  · simp [boolArr]
  · intro i h1 h2
    simp only [boolArr_size] at h2
    rw [Array.getElem_setIfInBounds (by simpa [boolArr] using h2)]
    by_cases hik : k = i
    · subst hik; simp [boolArr]
    · simp [boolArr, hik, Ne.symm hik]
theorem boolArr_one (f : Nat → Bool) : (boolArr f).all (·.oneCell') = true := by
  rw [Array.all_eq_true_iff_forall_mem]
  intro v hv
  simp [boolArr] at hv
  obtain ⟨c, _, rfl⟩ := hv
  rfl

theorem zero142 : Try.zeroCells142 = boolArr fun _ => false := by kernel_rfl

theorem wpIn_load_bools {F : Fence} {n : Nat} {o : Oper} {a : Act} {w : World} {K : Act → World → Prop} {Q : Exit → Act → World → Prop} (x : Operand) (ho : o.op = .load 142 x) (hF : ∀ f, F.fn f) {g : Nat} (hx : a.eval x = .pointer (some ⟨g, 0, none⟩)) {t : TypeId} {f : Nat → Bool}
    (hg : w.heap[g]? = some (.cells (boolArr f) t (0, 0))) (h : K (a.put o.dst (.agg (boolArr f))) w) : o.wpIn F n Try.prog a w K Q := by
  have hl : (loadVar 142 ⟨g, 0, none⟩).run Try.prog w = .ok (.agg (boolArr f)) w := run_loadVar_row w _ t 142 _ _ _ hg Try.underlying142 rfl (by rw [boolArr_size]; kernel_rfl)
  refine ⟨fun f _ => hF f, ?_⟩
  rw [Oper.semAt_eq _ _ _ (by rw [ho]; intro c h; cases h)]
  unfold execOp
  simp only [ho, hx, Instr.loadAt, Instr.sureAddr, Sem.run_bind, Sem.run_pure, Result.andThen_ok, hl]
  exact h
theorem wpIn_store_bools {F : Fence} {n : Nat} {o : Oper} {a : Act} {w : World} {K : Act → World → Prop} {Q : Exit → Act → World → Prop} (x y : Operand) (ho : o.op = .store 142 x y) (hF : ∀ f, F.fn f) {g : Nat} (hx : a.eval x = .pointer (some ⟨g, 0, none⟩)) {t : TypeId} {f f' : Nat → Bool}
    (hy : a.eval y = .agg (boolArr f)) (hg : w.heap[g]? = some (.cells (boolArr f') t (0, 0))) (h : K (a.put o.dst undef) (w.setRow g (boolArr f))) : o.wpIn F n Try.prog a w K Q := by
  have hl : (storeVar 142 ⟨g, 0, none⟩ (.agg (boolArr f))).run Try.prog w = .ok () (w.setRow g (boolArr f)) := run_storeVar_row w _ t 142 _ _ hg (by rw [boolArr_size]; kernel_rfl) (by rw [boolArr_size, boolArr_size]) (boolArr_one _)
  refine ⟨fun f _ => hF f, ?_⟩
  rw [Oper.semAt_eq _ _ _ (by rw [ho]; intro c h; cases h)]
  unfold execOp
  simp only [ho, hx, hy, Instr.storeAt, Instr.sureAddr, Sem.run_bind, Sem.run_pure, Result.andThen_ok, hl]
  exact h
theorem setRow_other' {w : World} {g k : Nat} {cs : Array Value} {o : Obj} (h : w.heap[k]? = some o) (hne : k ≠ g) : (w.setRow g cs).heap[k]? = some o := by rw [setRow_other w g k cs hne]; exact h
theorem boolArr_congr {f g : Nat → Bool} (h : ∀ i, i < 96 → f i = g i) : boolArr f = boolArr g := by
  unfold boolArr
  rw [List.map_congr_left (fun c hc => by rw [h c (List.mem_range.1 hc)])]
theorem boolArr_getD (f : Nat → Bool) (i : Nat) (h : i < 96) : (boolArr f)[i]?.getD undef = .bool (f i) := by rw [boolArr_get f h]; rfl
theorem run_equal_bools (f g : Nat → Bool) (w : World) : (Op.equalIn 10000 142 (.agg (boolArr f)) (.agg (boolArr g))).run Try.prog w = .ok (allTo (fun i => f i == g i) 96) w := by
  have hsz : ∀ w, (sizeOf 4).run Try.prog w = .ok 1 w := fun w => by
    have h : (Try.prog.info? 4).map (·.size) = some 1 := by kernel_rfl
    obtain ⟨i, hi, hs⟩ := Option.map_eq_some_iff.1 h
    simp [Go.sizeOf, go_sem]
    first | rfl | decide | kernel_rfl
  unfold allTo
  rw [List.range_eq_range', Op.equalIn]
  simp only [Sem.run_bind, run_underlying Try.underlying142, Result.andThen_ok, hsz, Std.Legacy.Range.forIn_eq_forIn_range', Std.Legacy.Range.size, Nat.sub_zero, Nat.add_sub_cancel, Nat.div_one]
  have hl : ∀ i ∈ List.range' 0 96 1, i < 96 := fun i hi => by simpa using (List.mem_range'_1.1 hi).2
  generalize List.range' 0 96 1 = l at hl ⊢
  induction l with
  | nil => simp
  | cons i l ih =>
    have hi : i < 96 := hl i (by simp)
    have px : ∀ f : Nat → Bool, (part 4 (boolArr f) (i * 1)).run Try.prog w = .ok (.bool (f i)) w := fun f => by
      simp [part, isAgg, run_underlying Try.underlying4, boolArr_get f hi]
    have pe : (Op.equalIn 9999 4 (.bool (f i)) (.bool (g i))).run Try.prog w = .ok (f i == g i) w := run_equalIn_bool' w 9998 4 (f i) (g i) Try.underlying4
    simp only [List.forIn_cons, Sem.run_bind, px, pe, Result.andThen_ok, List.all_cons]
    cases hb : (f i == g i)
    · simp
    · simp only [Bool.not_true, Bool.false_eq_true, if_false, Sem.run_pure, Result.andThen_ok, Bool.true_and]
      exact ih fun j hj => hl j (by simp [hj])
theorem run_eql_bools (f g : Nat → Bool) (w : World) : (binOp .eql 142 (.agg (boolArr f)) (.agg (boolArr g))).run Try.prog w = .ok (.bool (allTo (fun i => f i == g i) 96)) w := by
  rw [run_eql_struct, run_equal_bools]
  rfl
set_option maxHeartbeats 1000000 in
theorem between_any (a b : Int) (w : World) : Cal 67 #[.int .i64 a, .int .i64 b] w fun e w' => e = .returned (.agg #[.int .i64 (mn a b), .int .i64 (mx a b)]) ∧ Ext w w' := by
  gi_enter Try.func67, Try.ntmps67
  gi_wp2_with (gi_at_call 97; ((with_reducible refine (ends_one a b _ _ _ (by first | go_simp | simp [World.cell?, World.alloc])).mono ?_); rintro e w1 ⟨rfl, rfl⟩))
  refine bodyPost_ret (v := .agg #[.int .i64 (mn a b), .int .i64 (mx a b)]) (by simp [results, Try.results67, go_sem]) rfl ⟨rfl, ((Ext.refl _).alloc _).alloc _⟩
set_option maxHeartbeats 1000000 in
theorem twine_any (wide high mesh knot p : Int) (sa : Option Addr) (n sc : Nat) (mv : Value) (hm : 0 ≤ mesh ∧ mesh ≤ 100) (hk : 0 ≤ knot ∧ knot ≤ 100) (hn : n ≤ 1000) (hp : 0 ≤ p ∧ p ≤ 1000) (w : World) :
    Cal 46 #[.agg #[.int .i64 wide, .int .i64 high, .slice sa n sc, .int .i64 mesh, .int .i64 knot, mv], .int .i64 p] w fun e w' => e = .returned (.int .i64 (mesh * n + knot * 2 * p)) ∧ Ext w w' := by
  have h1 : 0 ≤ mesh * (n : Int) ∧ mesh * (n : Int) ≤ 100000 := by
    have a1 := Int.mul_le_mul_of_nonneg_right hm.1 (show (0 : Int) ≤ n by omega)
    have a2 := Int.mul_le_mul_of_nonneg_right hm.2 (show (0 : Int) ≤ n by omega)
    omega
  have h2 : 0 ≤ knot * 2 * p ∧ knot * 2 * p ≤ 200000 := by
    have a1 := Int.mul_le_mul_of_nonneg_right (show 0 ≤ knot * 2 by omega) hp.1
    have a2 := Int.mul_le_mul_of_nonneg_right (show knot * 2 ≤ 200 by omega) hp.1
    omega
  gi_enter Try.func46, Try.ntmps46
  gi_wp2
  go_ret
  exact ⟨rfl, (Ext.refl _).alloc _⟩
theorem all_zero : Try.zeroCells142 = boolArr fun _ => false := by kernel_rfl
set_option maxRecDepth 100000 in
set_option maxHeartbeats 2000000 in
theorem all_any (sa : Option Addr) (n sc : Nat) (hn : n ≤ 96) (w : World) : Cal 66 #[.slice sa n sc] w fun e w' => e = .returned (.agg (boolArr fun i => decide (i < n))) ∧ Ext w w' := by
  gi_enter Try.func66, Try.ntmps66
  gi_wp2_with fail
  rw [all_zero]
  have hx0 : Ext w ((w.alloc (.cells (boolArr fun _ => false) 142)).alloc (.cells (boolArr fun _ => false) 142)) := ((Ext.refl _).alloc _).alloc _
  have h0 : ((w.alloc (.cells (boolArr fun _ => false) 142)).alloc (.cells (boolArr fun _ => false) 142)).heap[w.heap.size]? = some (.cells (boolArr fun _ => false) 142 (0, 0)) := two_new
  have h1 : ((w.alloc (.cells (boolArr fun _ => false) 142)).alloc (.cells (boolArr fun _ => false) 142)).heap[w.heap.size + 1]? = some (.cells (boolArr fun i => decide (i < 0)) 142 (0, 0)) := by
    have := Ext.new (w := w.alloc (.cells (boolArr fun _ => false) 142)) (o := .cells (boolArr fun _ => false) 142) (Ext.refl _)
    rw [World.size_alloc] at this
    rw [this]
    congr 2
  have HJ := hid (And.intro hx0 (And.intro h0 h1))
  clear hx0 h0 h1
  generalize (w.alloc (.cells (boolArr fun _ => false) 142)).alloc (.cells (boolArr fun _ => false) 142) = W at *
  gi_loopw [7] (fun i wr => ∃ k : Nat, k ≤ n ∧ i = .int .i64 k ∧ Hid (Ext w wr ∧ wr.heap[w.heap.size]? = some (.cells (boolArr fun _ => false) 142 (0, 0)) ∧ wr.heap[w.heap.size + 1]? = some (.cells (boolArr fun i => decide (i < k)) 142 (0, 0)))) (fun i _ => n - (intOf i).toNat)
  case atStart => exact ⟨0, Nat.zero_le _, rfl, HJ.out⟩
  case round =>
    obtain ⟨k, hk, rfl, HI⟩ := hrel
    clear HJ
    by_cases hlt : k < n
    · have hk96 : k < 96 := by omega
      have hki : (k : Int) < 96 := by omega
      have hkn : (k : Int) < n := by omega
      have hck : wr.cell? ⟨w.heap.size + 1, k, none⟩ = some (.bool false) := by rw [cell_of HI.out.2.2, boolArr_get _ hk96]; simp
      have hfr := free_of HI.out.2.2
      gi_wp2
      go_roundw
      case rel =>
        refine ⟨k + 1, by omega, by go_num, HI.out.1.set (by omega) _ _, ?_, ?_⟩
        · rw [set_other (by omega)]; exact HI.out.2.1
        · rw [set_same HI.out.2.2, boolArr_set _ hk96]
          congr 2
          exact boolArr_congr fun i _ => by by_cases h : i = k <;> simp [h] <;> omega
      case measure => simp [intOf]; omega
    · obtain rfl : k = n := by omega
      gi_wp2_with (first | (refine wpIn_load_bools (.tmp 3) rfl (fun _ => trivial) rfl HI.out.2.2 ?_) | (refine wpIn_store_bools (.tmp 2) (.tmp 13) rfl (fun _ => trivial) rfl rfl HI.out.2.1 ?_))
      have hb := setRow_heap wr w.heap.size _ (boolArr fun i => decide (i < k)) 142 (0, 0) HI.out.2.1
      have hE : Ext w (wr.setRow w.heap.size (boolArr fun i => decide (i < k))) := below_setRow HI.out.1 (Nat.le_refl _) _
      generalize wr.setRow w.heap.size (boolArr fun i => decide (i < k)) = WF at *
      refine bodyPost_ret (v := .agg (boolArr fun i => decide (i < k))) (results_cell_row (p := 2) (ty := 142) rfl _ _ _ _ _ _ _ rfl hb Try.underlying142 rfl (by rw [boolArr_size]; kernel_rfl)) rfl ⟨rfl, hE⟩



/-- A list of lists of integers in memory. -/
def PiecesAt (w : World) (v : Value) (ps : List (List Int)) : Prop :=
  ∃ a cap, v = .slice a ps.length cap ∧ (ps.length ≤ cap ∧ ps.length ≤ 1000000000000000) ∧ ∀ i (h : i < ps.length), ∃ b off pv, a = some ⟨b, off, none⟩ ∧ b < w.heap.size ∧ w.cell? ⟨b, off + i, none⟩ = some pv ∧ IntsAt w pv ps[i]
theorem PiecesAt.mono {w w' : World} {v : Value} {ps : List (List Int)} (h : PiecesAt w v ps) (hx : Ext w w') : PiecesAt w' v ps := by
  obtain ⟨a, cap, hv, hl, hc⟩ := h
  refine ⟨a, cap, hv, hl, fun i hi => ?_⟩
  obtain ⟨b, off, pv, ha, hb, h0, h1⟩ := hc i hi
  exact ⟨b, off, pv, ha, Nat.lt_of_lt_of_le hb hx.size, by rw [hx.cell (p := ⟨b, _, none⟩) hb]; exact h0, h1.mono hx⟩
/-- One bar is run along. -/
def useBar (M : PMap) (left : Nat → Bool) (a b : Int) : Option (Nat → Bool) :=
  match M.find (mn a b, mx a b) with
  | some c => if left c.toNat then some (fun j => if j = c.toNat then false else left j) else none
  | none => none
def usedTo (M : PMap) (left : Nat → Bool) (p : List Int) : Nat → Option (Nat → Bool)
  | 0 => some left
  | k + 1 => (usedTo M left p k).bind fun l => useBar M l (p.getD k 0) (p.getD (k + 1) 0)
def usePiece (M : PMap) (left : Nat → Bool) (p : List Int) : Option (Nat → Bool) := if p.length < 2 then none else usedTo M left p (p.length - 1)
def usedPs (M : PMap) (left : Nat → Bool) (ps : List (List Int)) : Nat → Option (Nat → Bool)
  | 0 => some left
  | k + 1 => (usedPs M left ps k).bind fun l => usePiece M l (ps.getD k [])
theorem usedTo_none {M : PMap} {left : Nat → Bool} {p : List Int} {k : Nat} (h : usedTo M left p k = none) : ∀ n, k ≤ n → usedTo M left p n = none := by
  intro n hn
  induction n with
  | zero => obtain rfl : k = 0 := by omega
            exact h
  | succ n ih =>
    rcases Nat.lt_or_ge n k with h' | h'
    · obtain rfl : k = n + 1 := by omega
      exact h
    · unfold usedTo; rw [ih h']; rfl
theorem usedPs_none {M : PMap} {left : Nat → Bool} {ps : List (List Int)} {k : Nat} (h : usedPs M left ps k = none) : ∀ n, k ≤ n → usedPs M left ps n = none := by
  intro n hn
  induction n with
  | zero => obtain rfl : k = 0 := by omega
            exact h
  | succ n ih =>
    rcases Nat.lt_or_ge n k with h' | h'
    · obtain rfl : k = n + 1 := by omega
      exact h
    · unfold usedPs; rw [ih h']; rfl
def leftB (o : Option (Nat → Bool)) : Bool := match o with
  | some l => allTo (fun i => !l i) 96
  | none => false
def isMendB (T : TornD) (ps : List (List Int)) : Bool := leftB (usedPs (barMapTo T.bars T.bars.length) (fun i => decide (i < T.bars.length)) ps ps.length)
theorem find_some_mem {M : PMap} {p : Int × Int} {c : Int} (h : M.find p = some c) : ∃ e ∈ M, e.1 = p ∧ e.2 = c := by
  unfold PMap.find at h
  obtain ⟨e, he, rfl⟩ := Option.map_eq_some_iff.1 h
  have h1 := List.find?_some he
  have h2 := List.mem_of_find?_eq_some he
  simp only [Bool.and_eq_true, beq_iff_eq] at h1
  exact ⟨e, h2, by rw [← show p = e.1 from Prod.ext h1.1 h1.2], rfl⟩
theorem barMap_range {l : List Spn} {k : Nat} {p : Int × Int} {c : Int} (h : (barMapTo l k).find p = some c) : 0 ≤ c ∧ c < k := by
  obtain ⟨e, he, h1, rfl⟩ := find_some_mem h
  unfold barMapTo at he
  rw [List.mem_map] at he
  obtain ⟨i, hi, rfl⟩ := he
  rw [List.mem_range] at hi
  exact ⟨by simp only; omega, by simp only; omega⟩

set_option maxRecDepth 100000 in
set_option maxHeartbeats 8000000 in
theorem isMend_any (T : TornD) (hn : T.bars.length ≤ 96) (sa : Option Addr) (sc bm : Nat) (pv : Value) (ps : List (List Int)) (w : World) (hb : bm < w.heap.size) (hM : MapBlk w bm (barMapTo T.bars T.bars.length)) (hp : PiecesAt w pv ps) :
    Cal 45 #[.agg #[.int .i64 T.wide, .int .i64 T.high, .slice sa T.bars.length sc, .int .i64 T.mesh, .int .i64 T.knot, .map (some bm)], pv] w fun e w' => e = .returned (.bool (isMendB T ps)) ∧ Ext w w' := by
  obtain ⟨pa, pc, rfl, hlen, hcs⟩ := hp
  have HC := hid hcs
  have HM := hid (fun (u : World) (hu : Ext w u) => (show MapBlk u bm (barMapTo T.bars T.bars.length) from by obtain ⟨es, cl, e1, e2⟩ := hM; exact ⟨es, cl, hu.block e1, e2⟩))
  clear hcs hM
  gi_enter Try.func45, Try.ntmps45
  gi_upto_region 1 with fail
  have hW : Ext w (w.alloc (.cells #[.int .i64 T.wide, .int .i64 T.high, .slice sa T.bars.length sc, .int .i64 T.mesh, .int .i64 T.knot, .map (some bm)] 96)) := (Ext.refl _).alloc _
  have hW0 : (w.alloc (.cells #[.int .i64 T.wide, .int .i64 T.high, .slice sa T.bars.length sc, .int .i64 T.mesh, .int .i64 T.knot, .map (some bm)] 96)).heap[w.heap.size]? = some (.cells #[.int .i64 T.wide, .int .i64 T.high, .slice sa T.bars.length sc, .int .i64 T.mesh, .int .i64 T.knot, .map (some bm)] 96 (0, 0)) := by simp only [alloc_at, World.size_alloc]; (repeat rw [if_neg (by omega)]); first | rfl | rw [if_pos (by omega)] | rw [if_pos trivial]
  generalize w.alloc (.cells #[.int .i64 T.wide, .int .i64 T.high, .slice sa T.bars.length sc, .int .i64 T.mesh, .int .i64 T.knot, .map (some bm)] 96) = W at *
  have HX := hid hW
  have HB0 := hid hW0
  have hc0 := cell_of hW0
  clear hW hW0
  gi_upto_region 2 with (first | (gi_at_call 66; ((with_reducible refine (all_any sa T.bars.length sc hn _).mono ?_); rintro e w1 ⟨rfl, hx1⟩)) | (refine wpIn_store_fresh (fun _ => trivial) 142 (.tmp 5) (.tmp 15) rfl (W := w1) (c' := boolArr fun i => decide (i < T.bars.length)) rfl rfl rfl (by rw [boolArr_size]; kernel_rfl) (by rw [all_zero, boolArr_size, boolArr_size]) (boolArr_one _) ?_))
  have hxa : Ext w (w1.alloc (.cells (boolArr fun i => decide (i < T.bars.length)) 142)) := (HX.out.trans hx1).alloc _
  have hbg : (w1.alloc (.cells (boolArr fun i => decide (i < T.bars.length)) 142)).heap[w1.heap.size]? = some (.cells (boolArr fun i => decide (i < T.bars.length)) 142 (0, 0)) := Ext.new (Ext.refl _)
  have hb0 := (((Ext.refl w1).alloc (.cells (boolArr fun i => decide (i < T.bars.length)) 142))).block (hx1.block HB0.out)
  have hlt := lt_of_block (hx1.block HB0.out)
  clear hc0 HB0 HX hx1
  generalize w1.alloc (.cells (boolArr fun i => decide (i < T.bars.length)) 142) = W1 at *
  generalize w1.heap.size = G at *
  have HG := hid hlt
  have HJ : Hid (Ext w W1 ∧ W1.heap[w.heap.size]? = some (.cells #[.int .i64 T.wide, .int .i64 T.high, .slice sa T.bars.length sc, .int .i64 T.mesh, .int .i64 T.knot, .map (some bm)] 96 (0, 0)) ∧ W1.heap[G]? = some (.cells (boolArr (fun i => decide (i < T.bars.length))) 142 (0, 0))) := ⟨hxa, hb0, hbg⟩
  clear hxa hb0 hbg hlt
  have HD : Hid (isMendB T ps = leftB (usedPs (barMapTo T.bars T.bars.length) (fun i => decide (i < T.bars.length)) ps ps.length)) := rfl
  obtain ⟨L0, hL0⟩ : ∃ L0 : Nat → Bool, L0 = fun i => decide (i < T.bars.length) := ⟨_, rfl⟩
  rw [← hL0] at HJ HD
  clear hL0
  gi_wp2_with fail
  gi_loopw [18] (fun i wr => ∃ k : Nat, k ≤ ps.length ∧ i = .int .i64 k ∧ ∃ L, Hid (usedPs (barMapTo T.bars T.bars.length) L0 ps k = some L ∧ Ext w wr ∧ wr.heap[w.heap.size]? = some (.cells #[.int .i64 T.wide, .int .i64 T.high, .slice sa T.bars.length sc, .int .i64 T.mesh, .int .i64 T.knot, .map (some bm)] 96 (0, 0)) ∧ wr.heap[G]? = some (.cells (boolArr L) 142 (0, 0)))) (fun i _ => ps.length - (intOf i).toNat)
  case atStart => exact ⟨0, Nat.zero_le _, rfl, L0, rfl, HJ.out⟩
  case round =>
    obtain ⟨k, hk, rfl, L, HI⟩ := hrel
    clear HJ
    by_cases hlt : k < ps.length
    · obtain ⟨b, off, pv, rfl, hbb, hcell, hints⟩ := HC.out k hlt
      rw [← HI.out.2.1.cell (p := ⟨b, _, none⟩) hbb] at hcell
      have hki : (k : Int) < ps.length := by omega
      have HS : Hid (∀ x, usePiece (barMapTo T.bars T.bars.length) L ps[k] = x → usedPs (barMapTo T.bars T.bars.length) L0 ps (k + 1) = x) := fun x hx => by
        show (usedPs (barMapTo T.bars T.bars.length) L0 ps k).bind _ = x
        rw [HI.out.1]
        show usePiece _ L (ps.getD k []) = x
        rw [getD_of hlt]; exact hx
      have HN : Hid (usedPs (barMapTo T.bars T.bars.length) L0 ps (k + 1) = none → isMendB T ps = false) := fun h => by rw [HD.out, usedPs_none h _ (by omega)]; rfl
      generalize ps[k] = p at *
      obtain ⟨qa, qc, rfl, hql, hqc⟩ := hints
      by_cases h2 : p.length < 2
      · have HF : Hid (isMendB T ps = false) := HN.out (HS.out _ (by unfold usePiece; rw [if_pos h2]))
        gi_wp2_with fail
        go_ret
        exact ⟨by rw [HF.out]; rfl, HI.out.2.1⟩
      · obtain ⟨qb, qo, rfl, hqb, hq0⟩ := hqc 0 (by omega)
        have HQ := hid (fun (j : Nat) (h : j < p.length) => (show w.cell? ⟨qb, qo + j, none⟩ = some (.int .i64 p[j]) from by obtain ⟨b', o', e1, e2, e3⟩ := hqc j h; cases e1; exact e3))
        have HQB := hid hqb
        clear hqc hq0 hqb
        have hp1 : 1 ≤ p.length := by omega
        have HSP : Hid (∀ x, usedTo (barMapTo T.bars T.bars.length) L p (p.length - 1) = x → usedPs (barMapTo T.bars T.bars.length) L0 ps (k + 1) = x) := fun x hx => HS.out x (by unfold usePiece; rw [if_neg h2]; exact hx)
        clear HS
        gi_wp2_with fail
        obtain ⟨wo, rfl⟩ : ∃ wo, wo = wr := ⟨wr, rfl⟩
        gi_loopw [28] (fun i wr => ∃ j : Nat, j ≤ p.length - 1 ∧ i = .int .i64 j ∧ ∃ M, Hid (usedTo (barMapTo T.bars T.bars.length) L p j = some M ∧ Ext w wr ∧ wr.heap[w.heap.size]? = some (.cells #[.int .i64 T.wide, .int .i64 T.high, .slice sa T.bars.length sc, .int .i64 T.mesh, .int .i64 T.knot, .map (some bm)] 96 (0, 0)) ∧ wr.heap[G]? = some (.cells (boolArr M) 142 (0, 0)))) (fun i _ => p.length - 1 - (intOf i).toNat)
        case atStart => exact ⟨0, Nat.zero_le _, rfl, L, rfl, HI.out.2⟩
        case round =>
          obtain ⟨j, hj, rfl, M, HI2⟩ := hrel
          clear HI
          by_cases hjt : j < p.length - 1
          · have c1 : wr.cell? ⟨qb, qo + 1 + j, none⟩ = some (.int .i64 p[j + 1]) := by
              rw [HI2.out.2.1.cell (p := ⟨qb, _, none⟩) HQB.out, show qo + 1 + j = qo + (j + 1) by omega]; exact HQ.out (j + 1) (by omega)
            have HC0 := hid (fun (u : World) (hu : Ext w u) => (show u.cell? ⟨qb, qo + j, none⟩ = some (.int .i64 (p[j]'(by omega))) by rw [hu.cell (p := ⟨qb, _, none⟩) HQB.out]; exact HQ.out j (by omega)))
            have HS : Hid (∀ x, useBar (barMapTo T.bars T.bars.length) M (p[j]'(by omega)) (p[j + 1]'(by omega)) = x → usedTo (barMapTo T.bars T.bars.length) L p (j + 1) = x) := fun x hx => by
              show (usedTo (barMapTo T.bars T.bars.length) L p j).bind _ = x
              rw [HI2.out.1]
              show useBar _ M (p.getD j 0) (p.getD (j + 1) 0) = x
              rw [getD_of (by omega), getD_of (by omega)]; exact hx
            have HNN : Hid (usedTo (barMapTo T.bars T.bars.length) L p (j + 1) = none → isMendB T ps = false) := fun h => HN.out (HSP.out _ (usedTo_none h _ (by omega)))
            generalize p[j + 1]'(by omega) = y at *
            generalize p[j]'(by omega) = x at *
            have hj1 : (j : Int) < p.length := by omega
            have hj2 : (j : Int) < ((p.length - 1 : Nat) : Int) := by omega
            have hj3 : (j : Int) < (p.length : Int) - 1 := by omega
            gi_upto_region 10 with fail
            clear c1
            have HB0 := hid HI2.out.2.2.1
            have HXW := hid HI2.out.2.1
            have HLK := hid (fun e : Later wr => run_lookup_bar (HM.out e.1 (HXW.out.trans e.grown)) (mn x y, mx x y))
            have HBT := hid (fun (u : World) => between_any x y u)
            have HKV : Hid (barV (mn x y, mx x y) = .agg #[.int .i64 (mn x y), .int .i64 (mx x y)]) := rfl
            rw [HKV.out] at HLK
            cases hfind : (barMapTo T.bars T.bars.length).find (mn x y, mx x y) with
            | none =>
              rw [hfind] at HLK
              simp only [Option.getD_none, Option.isSome_none] at HLK
              have HF : Hid (isMendB T ps = false) := HNN.out (HS.out _ (by unfold useBar; rw [hfind]))
              clear hfind
              refine quiet_wide 14 (by kernel_rfl) (by kernel_rfl) ?_
              simp only [List.take_succ_cons, List.take_zero, List.drop_succ_cons, List.drop_zero]
              have q1 := fun e : Later wr => cell_of (Ext.block e.grown HB0.out)
              have q2 := fun e : Later wr => HC0.out e.1 (HXW.out.trans e.grown)
              have q3 := HLK.out
              repeat (any_goals (first | go_big_quiet_step ((go_at_call 67; with_reducible exact Cal.quiet (HBT.out _))) | quiet_step ((go_at_call 67; with_reducible exact Cal.quiet (HBT.out _)))))
              refine wpQuiet_nil ?_
              rintro w4 ⟨⟨w4q, hx4⟩, he4⟩
              obtain rfl : w4 = w4q := he4
              have hx4 : Ext wr w4 := hx4
              clear q1 q2 q3
              gi_wp2_with fail
              go_ret
              exact ⟨by rw [HF.out]; rfl, HXW.out.trans hx4⟩
            | some c =>
              rw [hfind] at HLK
              simp only [Option.getD_some, Option.isSome_some] at HLK
              obtain ⟨cn, rfl⟩ : ∃ cn : Nat, c = cn := ⟨c.toNat, by have := barMap_range hfind; omega⟩
              have hcr := barMap_range hfind
              have hc96 : cn < 96 := by omega
              have hci : (cn : Int) < 96 := by omega
              have HU : Hid (useBar (barMapTo T.bars T.bars.length) M x y = if M cn then some (fun j => if j = cn then false else M j) else none) := by
                show useBar _ _ _ _ = _
                unfold useBar; rw [hfind]; rfl
              clear hfind hcr
              have HBG := hid HI2.out.2.2.2
              cases hmc : M cn
              case false =>
                have HF : Hid (isMendB T ps = false) := HNN.out (HS.out _ (by rw [HU.out, hmc]; rfl))
                refine quiet_wide 14 (by kernel_rfl) (by kernel_rfl) ?_
                simp only [List.take_succ_cons, List.take_zero, List.drop_succ_cons, List.drop_zero]
                have q1 := fun e : Later wr => cell_of (Ext.block e.grown HB0.out)
                have q2 := fun e : Later wr => HC0.out e.1 (HXW.out.trans e.grown)
                have q3 := HLK.out
                repeat (any_goals (first | go_big_quiet_step ((go_at_call 67; with_reducible exact Cal.quiet (HBT.out _))) | quiet_step ((go_at_call 67; with_reducible exact Cal.quiet (HBT.out _)))))
                refine wpQuiet_nil ?_
                rintro w4 ⟨⟨w4q, hx4⟩, he4⟩
                obtain rfl : w4 = w4q := he4
                have hx4 : Ext wr w4 := hx4
                clear q1 q2 q3
                have hcg : w4.cell? ⟨G, cn, none⟩ = some (.bool false) := by rw [cell_of (hx4.block HBG.out), boolArr_get _ hc96, hmc]
                clear hmc
                gi_wp2_with fail
                go_ret
                exact ⟨by rw [HF.out]; rfl, HXW.out.trans hx4⟩
              case true =>
                have HS2 := hid (HS.out (some fun i => if i = cn then false else M i) (by rw [HU.out, hmc, if_pos rfl]))
                refine quiet_wide 14 (by kernel_rfl) (by kernel_rfl) ?_
                simp only [List.take_succ_cons, List.take_zero, List.drop_succ_cons, List.drop_zero]
                have q1 := fun e : Later wr => cell_of (Ext.block e.grown HB0.out)
                have q2 := fun e : Later wr => HC0.out e.1 (HXW.out.trans e.grown)
                have q3 := HLK.out
                repeat (any_goals (first | go_big_quiet_step ((go_at_call 67; with_reducible exact Cal.quiet (HBT.out _))) | quiet_step ((go_at_call 67; with_reducible exact Cal.quiet (HBT.out _)))))
                refine wpQuiet_nil ?_
                rintro w4 ⟨⟨w4q, hx4⟩, he4⟩
                obtain rfl : w4 = w4q := he4
                have hx4 : Ext wr w4 := hx4
                clear q1 q2 q3
                have hcg : w4.cell? ⟨G, cn, none⟩ = some (.bool true) := by rw [cell_of (hx4.block HBG.out), boolArr_get _ hc96, hmc]
                have hfg := free_of (hx4.block HBG.out)
                clear hmc
                gi_wp2_with fail
                go_roundw
                case rel =>
                  refine ⟨j + 1, by omega, by go_num, fun i => if i = cn then false else M i, HS2.out, (HXW.out.trans hx4).set (by have := HG.out; omega) _ _, ?_, ?_⟩
                  · rw [set_other (by have := HG.out; omega)]; exact hx4.block HB0.out
                  · rw [set_same (hx4.block HBG.out), boolArr_set _ hc96]
                case measure => simp [intOf]; omega
          · obtain rfl : j = p.length - 1 := by omega
            gi_wp2
            go_roundw
            case rel => exact ⟨k + 1, by omega, by go_num, M, HSP.out _ HI2.out.1, HI2.out.2⟩
            case measure => simp [intOf]; omega
    · obtain rfl : k = ps.length := by omega
      have hl := HI.out.2.2.2
      have HF : Hid (isMendB T ps = allTo (fun i => !L i) 96) := by show isMendB T ps = _; rw [HD.out, HI.out.1]; rfl
      have heq := run_equal_bools L (fun _ => false) wr
      rw [← all_zero] at heq
      gi_wp2_with (refine wpIn_load_bools (.tmp 5) rfl (fun _ => trivial) rfl hl ?_)
      go_ret
      exact ⟨by rw [HF.out]; rfl, HI.out.2.1⟩



theorem mul_36 {wide high : Int} (hw : 2 ≤ wide ∧ wide ≤ 6) (hh : 2 ≤ high ∧ high ≤ 6) : 4 ≤ wide * high ∧ wide * high ≤ 36 := by
  obtain ⟨w1, w2⟩ := hw
  obtain ⟨h1, h2⟩ := hh
  have a1 := Int.mul_le_mul_of_nonneg_right w1 (show (0 : Int) ≤ high by omega)
  have a2 := Int.mul_le_mul_of_nonneg_right w2 (show (0 : Int) ≤ high by omega)
  omega
set_option maxHeartbeats 1000000 in
theorem hand_any (wide high mesh knot : Int) (sv mv : Value) (hw : 2 ≤ wide ∧ wide ≤ 6) (hh : 2 ≤ high ∧ high ≤ 6) (w : World) :
    Cal 70 #[.agg #[.int .i64 wide, .int .i64 high, sv, .int .i64 mesh, .int .i64 knot, mv]] w fun e w' => e = .returned (.int .i64 (wide * high)) ∧ Ext w w' := by
  have hm := mul_36 hw hh
  gi_enter Try.func70, Try.ntmps70
  gi_wp2
  go_ret
  exact ⟨rfl, (Ext.refl _).alloc _⟩
/-- Whether a bar meets at a knot. -/
def meetsB (k : Int) (b : Spn) : Bool := (b.lo == k) || (b.hi == k)
def meetTo (l : List Spn) (k : Int) : Nat → Nat
  | 0 => 0
  | i + 1 => meetTo l k i + (if meetsB k (l.getD i ⟨0, 0⟩) then 1 else 0)
def meetN (l : List Spn) (k : Int) : Nat := meetTo l k l.length
theorem meetTo_le (l : List Spn) (k : Int) : ∀ i, meetTo l k i ≤ i
  | 0 => Nat.le_refl _
  | i + 1 => by unfold meetTo; have := meetTo_le l k i; split <;> omega
set_option maxHeartbeats 2000000 in
theorem meeting_any (wide high mesh knot : Int) (sa : Option Addr) (sc : Nat) (l : List Spn) (mv : Value) (k : Int) (w : World) (hl : l.length ≤ 1000) (hs : SpansAt w (.slice sa l.length sc) l) :
    Cal 98 #[.agg #[.int .i64 wide, .int .i64 high, .slice sa l.length sc, .int .i64 mesh, .int .i64 knot, mv], .int .i64 k] w fun e w' => e = .returned (.int .i64 (meetN l k)) ∧ Ext w w' := by
  obtain ⟨a', c', he, hlen, hcs⟩ := hs
  cases he
  have HC := hid hcs
  clear hcs
  gi_enter Try.func98, Try.ntmps98
  gi_upto_region 1 with fail
  have hW : Ext w (w.alloc (.cells #[.int .i64 wide, .int .i64 high, .slice sa l.length sc, .int .i64 mesh, .int .i64 knot, mv] 96)) := (Ext.refl _).alloc _
  have hW0 : (w.alloc (.cells #[.int .i64 wide, .int .i64 high, .slice sa l.length sc, .int .i64 mesh, .int .i64 knot, mv] 96)).heap[w.heap.size]? = some (.cells #[.int .i64 wide, .int .i64 high, .slice sa l.length sc, .int .i64 mesh, .int .i64 knot, mv] 96 (0, 0)) := by simp only [alloc_at, World.size_alloc]; (repeat rw [if_neg (by omega)]); first | rfl | rw [if_pos (by omega)] | rw [if_pos trivial]
  generalize w.alloc (.cells #[.int .i64 wide, .int .i64 high, .slice sa l.length sc, .int .i64 mesh, .int .i64 knot, mv] 96) = W at *
  have HX := hid hW
  have hc0 := cell_of hW0
  clear hW hW0
  gi_wp2_with fail
  clear hc0
  gi_loopw [5, 12] (fun n i wr => ∃ j : Nat, j ≤ l.length ∧ i = .int .i64 j ∧ n = .int .i64 (meetTo l k j : Nat) ∧ Hid (Ext w wr)) (fun _ i _ => l.length - (intOf i).toNat)
  case atStart => exact ⟨0, Nat.zero_le _, rfl, rfl, HX.out⟩
  case round =>
    obtain ⟨j, hj, rfl, rfl, HI⟩ := hrel
    by_cases hlt : j < l.length
    · obtain ⟨b, off, rfl, hb, c0, c1⟩ := HC.out j hlt
      rw [← HI.out.cell (p := ⟨b, _, none⟩) hb] at c0 c1
      have HS : Hid (meetTo l k (j + 1) = meetTo l k j + (if meetsB k l[j] then 1 else 0)) := by
        show meetTo l k (j + 1) = _
        conv => lhs; unfold meetTo
        rw [getD_of hlt]
      have hle := meetTo_le l k j
      have hji : (j : Int) < l.length := by omega
      generalize l[j] = r at *
      generalize meetTo l k j = m at *
      have HXA := hid (HI.out.trans ((Ext.refl wr).alloc (.cells #[.int .i64 r.lo, .int .i64 r.hi] 86)))
      cases g1 : r.lo == k
      case true =>
        have HU : Hid (meetTo l k (j + 1) = m + 1) := by show _ = _; rw [HS.out]; unfold meetsB; rw [g1]; rfl
        gi_wp2
        go_roundw
        case rel => exact ⟨j + 1, by omega, by go_num, by rw [HU.out]; go_num, HXA⟩
        case measure => simp [intOf]; omega
      case false =>
      cases g2 : r.hi == k
      case true =>
        have HU : Hid (meetTo l k (j + 1) = m + 1) := by show _ = _; rw [HS.out]; unfold meetsB; rw [g1, g2]; rfl
        gi_wp2
        go_roundw
        case rel => exact ⟨j + 1, by omega, by go_num, by rw [HU.out]; go_num, HXA⟩
        case measure => simp [intOf]; omega
      case false =>
        have HU : Hid (meetTo l k (j + 1) = m) := by show _ = _; rw [HS.out]; unfold meetsB; rw [g1, g2]; rfl
        gi_wp2
        go_roundw
        case rel => exact ⟨j + 1, by omega, by go_num, by rw [HU.out], HXA⟩
        case measure => simp [intOf]; omega
    · obtain rfl : j = l.length := by omega
      gi_wp2
      go_ret
      exact ⟨rfl, HI.out⟩

end Go.Proofs.Ytmjelgonhpgmbaa
