/- The reference: a list made longer as new memory; grids of lists. -/
import Derived.Test.YtlgcnjcbmihefaaZD
set_option linter.unusedSimpArgs false
set_option linter.unusedVariables false
namespace Go.Proofs.Ytlgcnjcbmihefaa
open Go Go.RowKit Go.Shelf

def intVals (xs : List Int) : List Value := xs.map (Value.int .i64)
theorem intVals_app (a b : List Int) : intVals (a ++ b) = intVals a ++ intVals b := by unfold intVals; rw [List.map_append]
theorem intVals_len (a : List Int) : (intVals a).length = a.length := by unfold intVals; rw [List.length_map]
theorem Row.intsI {w : World} {v : Value} {xs : List Int} (h : Row w 3 1 v xs.length (intVals xs)) (hl : xs.length ≤ 1000000) : IntsAt w v xs := by
  obtain ⟨a, cap, rfl, hc⟩ := h.at (by decide)
  refine ⟨a, cap, rfl, by omega, fun i hi => ?_⟩
  obtain ⟨g, e, hg, hcell⟩ := hc i hi
  refine ⟨g, 0, e, hg, ?_⟩
  have := hcell 0 (by omega)
  rw [Nat.zero_add]
  simp only [Nat.mul_one, Nat.add_zero] at this
  rw [this]
  unfold intVals
  simp [hi]
theorem copy_ints {w : World} {v : Value} {xs : List Int} {ty : TypeId} (h : IntsAt w v xs) (b : Nat) (hb : w.heap[b]? = some (.cells #[] 3 (0, 0))) (hl : xs.length ≤ 1000) :
    ∃ v' w', (Builtin.append_ #[22, 22] ty #[.slice (some ⟨b, 0, none⟩) 0 0, v]).run Try.prog w = .ok v' w' ∧ Row w' 3 1 v' xs.length (intVals xs) ∧ w.grownBy w' none ∧ ∀ g, v'.ownBlock = some g → g = b ∨ w.heap.size ≤ g := by
  obtain ⟨i0, hi, hz0, hz1, hz2⟩ := info_parts info3
  by_cases h0 : 0 < xs.length
  · obtain ⟨a, cap, rfl, _, hc⟩ := h
    obtain ⟨bb, off, rfl, hbl, _⟩ := hc 0 h0
    obtain ⟨v', w', hr, hown, hgr⟩ := run_append_arg_grows (P := Try.prog) (w := w) 22 ty 3 i0 _ 1 8 Try.underlying22 hi hz0 hz1 hz2 (by simp [Value.cells]) (by omega) ⟨b, 0, none⟩ 0 0 [] (by simp) (fun j u hj => by simp at hj) ⟨bb, off, none⟩ xs.length cap (intVals xs) (by rw [intVals_len]; omega) (fun j u hj => by
      have hj2 : j < xs.length := by
        rw [← intVals_len xs]
        exact (List.getElem?_eq_some_iff.mp hj).1
      obtain ⟨b2, o2, e, _, c0⟩ := hc j hj2
      cases e
      rw [Addr.add_mid, c0]
      unfold intVals at hj
      simp [hj2] at hj
      rw [hj]) (by omega) (by unfold maxLen; omega) (by omega)
    rw [Nat.zero_add, List.nil_append] at hown
    refine ⟨v', w', hr, ownsRow_row hown, hgr, fun g hg => .inr ?_⟩
    obtain ⟨_, hh⟩ := hown
    rcases hh with ⟨rfl, _⟩ | ⟨g', _, _, rfl, hb, _⟩
    · simp [Value.ownBlock] at hg
    · simp [Value.ownBlock] at hg; omega
  · obtain rfl : xs = [] := List.eq_nil_of_length_eq_zero (by omega)
    have hrun : (Builtin.append_ #[22, 22] ty #[.slice (some ⟨b, 0, none⟩) 0 0, v]).run Try.prog w = .ok (.slice (some ⟨b, 0, none⟩) 0 0) w := by
      obtain ⟨a, cap, rfl, _, _⟩ := h
      cases a with
      | none => simp [Builtin.append_, run_underlying Try.underlying22, sizeOf, typeInfo, hi, Builtin.lenOf, Builtin.firstCells, storeCells]
      | some a =>
        have hfc := run_firstCells_some (P := Try.prog) w i0.size 0 a 0 cap [] (by simp) (fun j u hj => by simp at hj)
        simp [Builtin.append_, run_underlying Try.underlying22, sizeOf, typeInfo, hi, Builtin.lenOf, hfc, storeCells]
    refine ⟨_, _, hrun, ⟨by simp [intVals], .inr ⟨b, 0, #[], rfl, hb, Nat.le_refl _, by decide, by simp, by simp [intVals]⟩⟩, ⟨rfl, rfl, rfl, Nat.le_refl _, fun k hk _ => rfl⟩, fun g hg => .inl ?_⟩
    simp [Value.ownBlock] at hg
    exact hg.symm
theorem wpIn_copy_ints {F : Fence} {n0 : Nat} (hF : ∀ f, F.fn f) (hn : F.depth = none) {o : Oper} {act : Act} {w : World} {K : Act → World → Prop} {Q : Exit → Act → World → Prop} (s x : Operand)
    (ho : o.op = .call { callee := .builtin .append, args := #[s, x], argTypes := #[22, 22] }) {b : Nat} {v : Value} {xs : List Int} (hs : act.eval s = .slice (some ⟨b, 0, none⟩) 0 0) (hx : act.eval x = v)
    (h : IntsAt w v xs) (hb : w.heap[b]? = some (.cells #[] 3 (0, 0))) (hl : xs.length ≤ 1000)
    (hK : ∀ v' w', Row w' 3 1 v' xs.length (intVals xs) → w.grownBy w' none → (∀ g, v'.ownBlock = some g → g = b ∨ w.heap.size ≤ g) → K (act.put o.dst v') w') : o.wpIn F n0 Try.prog act w K Q := by
  obtain ⟨v', w', hrun, hrow, hgr, how⟩ := copy_ints (ty := o.type) h b hb hl
  exact wpIn_of_gives (R := fun u u' => u = w → u' = w') (V := fun u u' => u = v' ∧ u' = w') hF hn (gives_append s x 22 ho hs hx hrun ⟨⟨rfl, rfl⟩, fun _ => rfl⟩) fun u u' hu _ => by
    rw [hu.1, hu.2]; exact hK v' w' hrow hgr how

set_option maxRecDepth 100000 in
set_option maxHeartbeats 2000000 in
theorem plus_ref (v : Value) (xs : List Int) (x : Int) (w : World) (h : IntsAt w v xs) (hl : xs.length ≤ 1000) :
    Cal 57 #[v, .int .i64 x] w fun e w' => ∃ v', e = .returned v' ∧ Ext w w' ∧ Hid (Row w' 3 1 v' (xs ++ [x]).length (intVals (xs ++ [x]))) ∧ Hid (∀ g, v'.ownBlock = some g → w.heap.size ≤ g) := by
  obtain ⟨i0, hi0, hz0, hz1, hz2⟩ := info_parts info3
  have HZ := hid (And.intro hi0 (And.intro hz0 (And.intro hz1 hz2)))
  clear hi0 hz0 hz1 hz2
  have HV := hid (h.mono ((Ext.refl w).alloc (.cells #[] 3)))
  obtain ⟨a, cap, rfl, _, _⟩ := h
  gi_enter Try.func57, Try.ntmps57
  gi_wp2_with (first | (refine wpIn_copy_ints (fun _ => trivial) rfl (.tmp 6) (.tmp 7) rfl (b := w.heap.size) rfl rfl HV.out (Ext.new (Ext.refl _)) hl ?_; intro v1 w1 hrow1 hgr1 how1; have hx1 : Ext w w1 := ((Ext.refl w).alloc _).trans (grown_none hgr1); have HRW := hid (hrow1.mono ((Ext.refl w1).alloc (.cells #[.int .i64 x] 3))); have HNW : Hid (∀ j u, [Value.int .i64 x][j]? = some u → (w1.alloc (.cells #[.int .i64 x] 3)).cell? ((⟨w1.heap.size, 0, none⟩ : Addr).add j) = some u) := (fun j u hj => by rw [Addr.add_mid, Nat.zero_add, new_cell _ _ rfl]; simpa using hj)) | (refine wpIn_append_row (fun _ => trivial) rfl (.tmp 9) (.tmp 11) rfl Try.underlying22 HZ.out.1 HZ.out.2.1 HZ.out.2.2.1 HZ.out.2.2.2 (by simp [Value.cells]) (by omega) (v := v1) rfl HRW.out ⟨w1.heap.size, 0, none⟩ 1 rfl [.int .i64 x] rfl HNW.out (fun u hu => by simp at hu; subst hu; rfl) (by omega) (by omega) ?_; intro v' w' hrow' hgr' how'))
  have hown1 : ∀ g, v1.ownBlock = some g → w.heap.size ≤ g := fun g hg => by
    rcases how1 g hg with e | h
    · omega
    · exact Nat.le_trans ((Ext.refl w).alloc (.cells #[] 3)).size h
  have hxb : Ext w (w1.alloc (.cells #[.int .i64 x] 3)) := hx1.alloc _
  have hbel : Ext w w' := Below.trans hxb ⟨hgr'.os, hgr'.tape, hgr'.output, hgr'.size, fun j hj => hgr'.block j (by have := hxb.size; omega) (fun e => by have := hown1 j e.symm; omega)⟩
  go_ret
  refine ⟨v', rfl, hbel, ?_, fun g hg => ?_⟩
  · rw [intVals_app, List.length_append]
    exact hrow'
  · rcases how' with e | e
    · exact hown1 g (by rw [← e]; exact hg)
    · rw [hg] at e
      cases e
      exact hxb.size

theorem info22 : (Try.prog.info? 22).map (fun i => (i.zero, i.size, i.bytes)) = some (some (.slice none 0 0), 1, 24) := by kernel_rfl
theorem make_grid (w : World) (H : Int) (n : Nat) (h : H = n) (hn : n ≤ 1000) : (Instr.makeSlice 59 (.int .i64 H) (.int .i64 H)).run Try.prog w = .ok (.slice (some ⟨w.heap.size, 0, none⟩) n n) (w.alloc (.cells (madeCells #[.slice none 0 0] n) 22)) := by
  subst h
  obtain ⟨i0, hi, hz0, hz1, hz2⟩ := info_parts info22
  have := run_make (P := Try.prog) w 59 22 i0 (.slice none 0 0) Try.underlying59 hi hz0 .i64 .i64 n n (by omega) (by omega) (by rw [hz2]; omega) (by omega)
  rw [this]; simp [hz1, Value.cells]

/-- A grid: a slice of lists of numbers, each a row of its own behind the grid's block. -/
def GridAt (W : World) (g H : Nat) (f : Nat → List Int) : Prop :=
  ∃ vs : List Value, vs.length = H ∧ W.heap[g]? = some (.cells vs.toArray 22 (0, 0)) ∧ ∀ i (hi : i < vs.length), Row W 3 1 vs[i] (f i).length (intVals (f i)) ∧ ∀ k, vs[i].ownBlock = some k → g < k
theorem GridAt.mono {W W' : World} {g H : Nat} {f : Nat → List Int} (h : GridAt W g H f) (hx : Ext W W') : GridAt W' g H f := by
  obtain ⟨vs, h1, h2, h3⟩ := h
  exact ⟨vs, h1, hx.block h2, fun i hi => ⟨(h3 i hi).1.mono hx, (h3 i hi).2⟩⟩
theorem GridAt.congr {W : World} {g H : Nat} {f f' : Nat → List Int} (h : GridAt W g H f) (he : ∀ i, i < H → f i = f' i) : GridAt W g H f' := by
  obtain ⟨vs, h1, h2, h3⟩ := h
  exact ⟨vs, h1, h2, fun i hi => by rw [← he i (by omega)]; exact h3 i hi⟩
/-- One of its lists, in memory. -/
theorem GridAt.get {W : World} {g H : Nat} {f : Nat → List Int} (h : GridAt W g H f) (i : Nat) (hi : i < H) (hl : (f i).length ≤ 1000) : ∃ a c, W.cell? ⟨g, i, none⟩ = some (.slice a (f i).length c) ∧ IntsAt W (.slice a (f i).length c) (f i) ∧ g < W.heap.size := by
  obtain ⟨vs, h1, h2, h3⟩ := h
  have h4 := h3 i (by omega)
  obtain ⟨a, c, e⟩ := h4.1.isSliceN
  refine ⟨a, c, ?_, ?_, lt_of_block h2⟩
  · rw [cell_of h2]
    simp [show i < vs.length by omega]
    exact e
  · rw [← e]; exact Row.intsI h4.1 (by omega)
theorem setc_same {w : World} {g : Nat} {cs : Array Value} {t : TypeId} (h : w.heap[g]? = some (.cells cs t (0, 0))) (o : Nat) (v : Value) : (w.setCell ⟨g, o, none⟩ v).heap[g]? = some (.cells (cs.setIfInBounds o v) t (0, 0)) := by
  simp [World.setCell, Array.getElem?_modify, h]
theorem setc_other {w : World} {g k : Nat} (hk : k ≠ g) (o : Nat) (v : Value) : (w.setCell ⟨g, o, none⟩ v).heap[k]? = w.heap[k]? := by
  simp [World.setCell, Array.getElem?_modify, Ne.symm hk]
/-- One of its lists, put in anew. -/
theorem GridAt.put {W : World} {g H : Nat} {f : Nat → List Int} (h : GridAt W g H f) (i : Nat) (hi : i < H) {v : Value} {xs : List Int} (hv : Row W 3 1 v xs.length (intVals xs)) (ho : ∀ k, v.ownBlock = some k → g < k) :
    GridAt (W.setCell ⟨g, i, none⟩ v) g H (fun j => if j = i then xs else f j) := by
  obtain ⟨vs, h1, h2, h3⟩ := h
  have hset : ∀ {x : Value} {n : Nat} {ys : List Value}, Row W 3 1 x n ys → (∀ k, x.ownBlock = some k → g < k) → Row (W.setCell ⟨g, i, none⟩ v) 3 1 x n ys := fun hr hk => hr.kept fun k ob hk' ho' => by rw [setc_other (by have := hk k hk'; omega)]; exact ho'
  refine ⟨vs.set i v, by rw [List.length_set]; exact h1, ?_, fun j hj => ?_⟩
  · rw [setc_same h2]
    simp
  · rw [List.length_set] at hj
    rw [List.getElem_set]
    by_cases e : i = j
    · subst e
      rw [if_pos rfl]
      simp only [if_pos]
      exact ⟨hset hv ho, ho⟩
    · rw [if_neg e]
      simp only [if_neg (fun h : j = i => e h.symm)]
      exact ⟨hset (h3 j hj).1 (h3 j hj).2, (h3 j hj).2⟩
theorem GridAt.made (w : World) (n : Nat) : GridAt (w.alloc (.cells (madeCells #[.slice none 0 0] n) 22)) w.heap.size n (fun _ => []) := by
  refine ⟨List.replicate n (.slice none 0 0), by simp, ?_, fun i hi => ?_⟩
  · have h : madeCells #[Value.slice none 0 0] n = (List.replicate n (Value.slice none 0 0)).toArray := by
      apply Array.ext
      · simp [madeCells]
      · intro i h1 h2
        simp [madeCells, Nat.mod_one] at h1 ⊢
    rw [h]
    exact Ext.new (Ext.refl _)
  · rw [List.getElem_replicate]
    exact ⟨Row.nil _ _ _, fun k hk => by simp [Value.ownBlock] at hk⟩


def lieI (D : SeaD) (rs : List Rep) (h c : Nat) : Int := ((untrueN (seaOf D) rs h (col (seaOf D) c) (row (seaOf D) c) : Nat) : Int)
def foldB (D : SeaD) (rs : List Rep) (h c : Nat) (prev : Nat → Int) : Nat → Int
  | 0 => 1000
  | k + 1 => if prev k < 1000 ∧ stepB D h c k = true then min (foldB D rs h c prev k) (lieI D rs h c + prev k) else foldB D rs h c prev k
def behR (D : SeaD) (rs : List Rep) : Nat → Nat → Int
  | 0, c => if waterB D c then lieI D rs (D.hours.toNat - 1) c else 1000
  | j + 1, c => if waterB D c then foldB D rs (D.hours.toNat - 2 - j) c (behR D rs j) (D.wide * D.high).toNat else 1000
theorem lieI_bounds (D : SeaD) {rs : List Rep} (h24 : rs.length ≤ 24) (h c : Nat) : 0 ≤ lieI D rs h c ∧ lieI D rs h c ≤ 24 := by
  unfold lieI
  have := untrueN_le (S := seaOf D) (h := h) (x := col (seaOf D) c) (y := row (seaOf D) c) h24
  omega
theorem foldB_bounds {D : SeaD} {rs : List Rep} (h24 : rs.length ≤ 24) {h c : Nat} {prev : Nat → Int} (hp : ∀ d, 0 ≤ prev d ∧ prev d ≤ 1000) : ∀ k, 0 ≤ foldB D rs h c prev k ∧ foldB D rs h c prev k ≤ 1000
  | 0 => by unfold foldB; omega
  | k + 1 => by
    have ih := foldB_bounds h24 (D := D) (h := h) (c := c) hp k
    have hl := lieI_bounds D h24 h c
    have := hp k
    unfold foldB
    split <;> omega
theorem behR_bounds {D : SeaD} {rs : List Rep} (h24 : rs.length ≤ 24) : ∀ j c, 0 ≤ behR D rs j c ∧ behR D rs j c ≤ 1000
  | 0, c => by
    have hl := lieI_bounds D h24 (D.hours.toNat - 1) c
    unfold behR; split <;> omega
  | j + 1, c => by
    have := foldB_bounds h24 (D := D) (rs := rs) (h := D.hours.toNat - 2 - j) (c := c) (prev := behR D rs j) (behR_bounds (D := D) h24 j) (D.wide * D.high).toNat
    unfold behR; split <;> omega
theorem range_map_succ (f : Nat → Int) (c : Nat) : (List.range (c + 1)).map f = (List.range c).map f ++ [f c] := by rw [List.range_succ, List.map_append]; rfl
theorem lies_int (D : SeaD) (lv dv rv : Value) (rs : List Rep) (h : Nat) (c : Nat) (w : World) (hw : 1 ≤ D.wide ∧ D.wide ≤ 10) (hr : RepsAt w rv rs) (hc : c ≤ 1000) (h24 : rs.length ≤ 24) (hrc : ∀ r ∈ rs, 0 ≤ r.cell ∧ r.cell ≤ 1000) (hh : h ≤ 1000) :
    Cal 51 #[.agg #[.int .i64 D.wide, .int .i64 D.high, lv, .int .i64 D.hours, dv, .int .i64 D.speed], rv, .int .i64 h, .int .i64 c] w fun e w' => e = .returned (.int .i64 (lieI D rs h c)) ∧ Ext w w' := lies_ref D lv dv rv rs h c w hw hr (by omega) h24 hrc hh

set_option maxRecDepth 100000 in
set_option maxHeartbeats 16000000 in
theorem behind_ref (D : SeaD) (lv dv rv : Value) (rs : List Rep) (w : World) (hsb : seaB D = true) (hrb : repsB D.hours (D.wide * D.high) rs = true) (hl : IntsAt w lv D.land) (hd : StepsAt w dv D.drift) (hr : RepsAt w rv rs) :
    Cal 56 #[seaVal D lv dv, rv] w fun e w' => ∃ g, e = .returned (.slice (some ⟨g, 0, none⟩) D.hours.toNat D.hours.toNat) ∧ Ext w w' ∧ Hid (GridAt w' g D.hours.toNat (fun i => (List.range (D.wide * D.high).toNat).map (behR D rs (D.hours.toNat - 1 - i)))) := by
  have hb1 : (w.alloc (.cells #[.int .i64 D.wide, .int .i64 D.high, lv, .int .i64 D.hours, dv, .int .i64 D.speed] 25)).heap[w.heap.size]? = some (.cells #[.int .i64 D.wide, .int .i64 D.high, lv, .int .i64 D.hours, dv, .int .i64 D.speed] 25 (0, 0)) := Ext.new (Ext.refl _)
  have hx : Ext w (w.alloc (.cells #[.int .i64 D.wide, .int .i64 D.high, lv, .int .i64 D.hours, dv, .int .i64 D.speed] 25)) := (Ext.refl w).alloc _
  have HL := hid (hl.mono hx)
  have HD := hid (hd.mono hx)
  have HR := hid (hr.mono hx)
  have hbd := sea_bounds hsb
  have hh := inB_spec hbd.2.2.1
  have hw := inB_spec hbd.1
  have hsp := inB_spec hbd.2.2.2.1
  have hmb := mul_bounds (inB_spec hbd.1) (inB_spec hbd.2.1)
  have hww : IntKind.i64.wrap (D.wide * D.high) = D.wide * D.high := by rw [IntKind.wrap_i64]; omega
  have hro := reps_ok hsb hrb
  have hst := steps_ok hsb
  have HST := hid hst.2
  have HDL := hid hst.1
  have h24 := hro.1
  have HRO := hid fun r (h : r ∈ rs) => (hro.2 r h).1
  have HBB := hid (behR_bounds (D := D) h24)
  obtain ⟨H, hH⟩ : ∃ H : Nat, D.hours.toNat = H := ⟨_, rfl⟩
  obtain ⟨N, hN⟩ : ∃ N : Nat, (D.wide * D.high).toNat = N := ⟨_, rfl⟩
  have HB0 : Hid (∀ c, behR D rs 0 c = if waterB D c then lieI D rs (H - 1) c else 1000) := fun c => by rw [← hH]; rfl
  have HBS : Hid (∀ j c, behR D rs (j + 1) c = if waterB D c then foldB D rs (H - 2 - j) c (behR D rs j) N else 1000) := fun j c => by rw [← hH, ← hN]; rfl
  rw [hH, hN]
  have hHI : D.hours = (H : Int) := by omega
  have HHI := hid hHI
  have hNI : D.wide * D.high = (N : Int) := by omega
  have HNI := hid hNI
  have hH12 : 1 ≤ H ∧ H ≤ 12 := by omega
  have hN80 : 1 ≤ N ∧ N ≤ 80 := by omega
  unfold seaVal
  clear hl hd hr hsb hrb hbd hro hst hHI hNI hH hN
  gi_enter Try.func56, Try.ntmps56
  have hmk := make_grid (w.alloc (.cells #[.int .i64 D.wide, .int .i64 D.high, lv, .int .i64 D.hours, dv, .int .i64 D.speed] 25)) D.hours H HHI.out (by omega)
  have hcb := cell_of hb1
  have hcbM := cell_of (Ext.block ((Ext.refl (w.alloc (.cells #[.int .i64 D.wide, .int .i64 D.high, lv, .int .i64 D.hours, dv, .int .i64 D.speed] 25))).alloc (.cells (madeCells #[.slice none 0 0] H) 22)) hb1)
  gi_wp2_with fail
  have HGM := hid (GridAt.made (w.alloc (.cells #[.int .i64 D.wide, .int .i64 D.high, lv, .int .i64 D.hours, dv, .int .i64 D.speed] 25)) H)
  have HXM : Hid (Ext (w.alloc (.cells #[.int .i64 D.wide, .int .i64 D.high, lv, .int .i64 D.hours, dv, .int .i64 D.speed] 25)) ((w.alloc (.cells #[.int .i64 D.wide, .int .i64 D.high, lv, .int .i64 D.hours, dv, .int .i64 D.speed] 25)).alloc (.cells (madeCells #[.slice none 0 0] H) 22))) := (Ext.refl (w.alloc (.cells #[.int .i64 D.wide, .int .i64 D.high, lv, .int .i64 D.hours, dv, .int .i64 D.speed] 25))).alloc _
  have hsz1 : (w.alloc (.cells #[.int .i64 D.wide, .int .i64 D.high, lv, .int .i64 D.hours, dv, .int .i64 D.speed] 25)).heap.size = w.heap.size + 1 := by simp
  rw [hsz1] at HGM
  have HSZ := hid hsz1
  clear hsz1
  generalize hw1 : w.alloc (.cells #[.int .i64 D.wide, .int .i64 D.high, lv, .int .i64 D.hours, dv, .int .i64 D.speed] 25) = w1 at *
  have HCB := hid fun (e : World) (hx : Ext w1 e) => cell_of (hx.block hb1)
  have HX := hid hx
  clear hb1 hx hw1
  gi_loopw [6] (fun i wr => ∃ j : Nat, ∃ hI : Int, j ≤ H ∧ hI = (H : Int) - 1 - j ∧ i = .int .i64 hI ∧ Hid (Ext w1 wr ∧ GridAt wr (w.heap.size + 1) H (fun i => if H ≤ i + j then (List.range N).map (behR D rs (H - 1 - i)) else []))) (fun i _ => (intOf i + 1).toNat)
  case atStart => exact ⟨0, _, Nat.zero_le _, rfl, by have := HHI.out; go_num, HXM.out, HGM.out.congr fun i hi => by rw [if_neg (by omega)]⟩
  case round =>
    obtain ⟨j, hI, hj, hhI, rfl, hJ⟩ := hrel
    by_cases hjH : j < H
    · obtain ⟨h, hh⟩ : ∃ h : Nat, H = h + j + 1 := ⟨H - 1 - j, by omega⟩
      obtain rfl : hI = (h : Int) := by omega
      have HJ := hid hJ.out
      have HH := hid hh
      have hh12 : h ≤ 12 := by omega
      have hhH : h < H := by omega
      clear hJ hh hhI hcb hmk HGM HXM hcbM
      gi_wp2_with fail
      gi_loopw [7] (fun i wr => ∃ c : Nat, c ≤ N ∧ i = .int .i64 c ∧ Hid (Ext w1 wr ∧ GridAt wr (w.heap.size + 1) H (fun i => if i = h then (List.range c).map (behR D rs j) else if H ≤ i + j then (List.range N).map (behR D rs (H - 1 - i)) else []))) (fun i _ => N - (intOf i).toNat)
      case atStart => exact ⟨0, Nat.zero_le _, rfl, HJ.out.1, HJ.out.2.congr fun i hi => by
                        have := HH.out
                        by_cases e : i = h
                        · rw [if_pos e, if_neg (by omega)]; rfl
                        · rw [if_neg e]⟩
      case round =>
        obtain ⟨c, hc, rfl, hK⟩ := hrel
        have hcbr := HCB.out wr hK.out.1
        by_cases hlt : c < N
        · have dlt : decide ((c : Int) < D.wide * D.high) = true := by rw [decide_eq_true_eq]; have := HNI.out; omega
          have HK := hid hK.out
          have HWA := hid fun (e : World) (hx : Ext w1 e) => water_ref D lv dv (c : Int) e hmb (HL.out.mono hx)
          rw [seaVal] at HWA
          have HWR := hid (HWA.out wr HK.out.1)
          have HPL := hid fun (e : World) (a : Option Addr) (cc : Nat) (V : Int) (hi : IntsAt e (.slice a c cc) ((List.range c).map (behR D rs j))) => plus_ref _ _ V e hi (by rw [List.length_map, List.length_range]; omega)
          have HGET : Hid (∀ e, Ext wr e → ∃ a cc, e.cell? ⟨w.heap.size + 1, h, none⟩ = some (.slice a c cc) ∧ IntsAt e (.slice a c cc) ((List.range c).map (behR D rs j)) ∧ ∃ vs : List Value, h < vs.length ∧ e.heap[(w.heap.size + 1)]? = some (.cells vs.toArray 22 (0, 0))) := fun e he => by
            have hg := HK.out.2.mono he
            obtain ⟨a, cc, h1, h2, _⟩ := hg.get h hhH (by simp only [if_pos]; rw [List.length_map, List.length_range]; omega)
            simp only [if_pos] at h1 h2
            rw [show ((List.range c).map (behR D rs j)).length = c by rw [List.length_map, List.length_range]] at h1 h2
            obtain ⟨vs, hv1, hv2, _⟩ := hg
            exact ⟨a, cc, h1, h2, vs, by omega, hv2⟩
          have HFIN : Hid (∀ (e u : World) (v : Value) , Ext wr e → Ext e u → Row u 3 1 v ((List.range c).map (behR D rs j) ++ [behR D rs j c]).length (intVals ((List.range c).map (behR D rs j) ++ [behR D rs j c])) → (∀ k, v.ownBlock = some k → e.heap.size ≤ k) → Ext w1 (u.setCell ⟨w.heap.size + 1, h, none⟩ v) ∧ GridAt (u.setCell ⟨w.heap.size + 1, h, none⟩ v) (w.heap.size + 1) H (fun i => if i = h then (List.range (c + 1)).map (behR D rs j) else if H ≤ i + j then (List.range N).map (behR D rs (H - 1 - i)) else [])) := fun e u v h1 h2 h3 h4 => by
            have hg := HK.out.2.mono (h1.trans h2)
            have hsz : (w.heap.size + 1) < e.heap.size := by
              obtain ⟨vs, _, hv2, _⟩ := HK.out.2.mono h1
              exact lt_of_block hv2
            refine ⟨(HK.out.1.trans (h1.trans h2)).set (by rw [HSZ.out]; exact Nat.le_refl _) h _, (hg.put h hhH h3 (fun k hk => by have := h4 k hk; omega)).congr fun i hi => ?_⟩
            by_cases e : i = h
            · rw [if_pos e, if_pos e, range_map_succ]
            · rw [if_neg e, if_neg e, if_neg e]
          have hb0 := HBB.out j c
          have HBB2 := hid HBB.out
          clear hK
          cases hwb : waterB D c with
          | false =>
            rw [hwb] at HWR HWA
            have HV : Hid ((1000 : Int) = behR D rs j c) := by
              show _ = _
              cases j with
              | zero => rw [HB0.out, hwb]; rfl
              | succ m => rw [HBS.out, hwb]; rfl
            clear hwb
            gi_wp2_with (gi_at_call 49; ((with_reducible refine HWR.out.mono ?_); rintro e w2 ⟨rfl, hx2⟩; have hcb2 := HCB.out w2 (HK.out.1.trans hx2)))
            all_goals try exact (undefNo (by assumption)).elim
            obtain ⟨wm, rfl⟩ : ∃ wm, wm = wr := ⟨wr, rfl⟩
            gi_loopw [8, 9] (fun n i u => n = .int .i64 1000 ∧ Ext wm u) (fun _ _ _ => 0)
            case atStart => exact ⟨rfl, hx2⟩
            case round =>
              obtain ⟨rfl, hxu⟩ := hrel
              have hcbi := HCB.out wr (HK.out.1.trans hxu)
              have HWI := hid (HWA.out wr (HK.out.1.trans hxu))
              gi_wp2_with (first | (gi_at_call 49; ((with_reducible refine HWI.out.mono ?_); rintro e w3 ⟨rfl, hx3⟩; have hcb3 := HCB.out w3 (HK.out.1.trans (hxu.trans hx3)); obtain ⟨ga, gc, hgc, hgi, vs, hvl, hvb⟩ := HGET.out w3 (hxu.trans hx3); have HPU := hid (HPL.out w3 ga gc 1000 hgi))) | (gi_at_call 57; ((with_reducible refine HPU.out.mono ?_); rintro e wp ⟨vp, rfl, hxp, hrp, hop⟩; have hgp := cell_of (hxp.block hvb); have hfp := free_of (hxp.block hvb); obtain ⟨pa, pn, pc, rfl⟩ := hrp.out.isSlice)))
              all_goals try exact (undefNo (by assumption)).elim
              rw [HV.out] at hrp
              have HF := hid (HFIN.out w3 wp _ (hxu.trans hx3) hxp hrp.out hop.out)
              go_roundw
              case rel => exact ⟨c + 1, by omega, by go_num, HF.out⟩
              case measure => simp [intOf]; omega
          | true =>
            rw [hwb] at HWR HWA
            cases j with
            | zero =>
              have hhl : (h : Int) = D.hours - 1 := by have := HH.out; have := HHI.out; omega
              have t1 : ((h : Int) == D.hours - 1) = true := by rw [beq_iff_eq]; exact hhl
              have t2 : decide ((h : Int) < D.hours - 1) = false := by rw [decide_eq_false_iff_not]; omega
              have HV : Hid (lieI D rs h c = behR D rs 0 c) := by
                show _ = _
                rw [HB0.out, hwb, show H - 1 = h by have := HH.out; omega]; rfl
              have hlb := lieI_bounds D h24 h c
              have HLI := hid fun (e : World) (hx : Ext w1 e) => lies_int D lv dv rv rs h c e hw (HR.out.mono hx) (by omega) h24 HRO.out (by omega)
              clear hwb hhl
              generalize hli : lieI D rs h c = li at *
              clear hli
              gi_wp2_with (first | (gi_at_call 49; ((with_reducible refine HWR.out.mono ?_); rintro e w2 ⟨rfl, hx2⟩; have hcb2 := HCB.out w2 (HK.out.1.trans hx2); have HLI2 := hid (HLI.out w2 (HK.out.1.trans hx2)))) | (gi_at_call 51; ((with_reducible refine HLI2.out.mono ?_); rintro e wl ⟨rfl, hxl⟩)))
              all_goals try exact (undefNo (by assumption)).elim
              obtain ⟨wm, rfl⟩ : ∃ wm, wm = wr := ⟨wr, rfl⟩
              gi_loopw [8, 9] (fun n i u => n = .int .i64 li ∧ Ext wm u) (fun _ _ _ => 0)
              case atStart => exact ⟨rfl, hx2.trans hxl⟩
              case round =>
                obtain ⟨rfl, hxu⟩ := hrel
                have hcbi := HCB.out wr (HK.out.1.trans hxu)
                have HWI := hid (HWA.out wr (HK.out.1.trans hxu))
                gi_wp2_with (first | (gi_at_call 49; ((with_reducible refine HWI.out.mono ?_); rintro e w3 ⟨rfl, hx3⟩; have hcb3 := HCB.out w3 (HK.out.1.trans (hxu.trans hx3)); obtain ⟨ga, gc, hgc, hgi, vs, hvl, hvb⟩ := HGET.out w3 (hxu.trans hx3); have HPU := hid (HPL.out w3 ga gc li hgi))) | (gi_at_call 57; ((with_reducible refine HPU.out.mono ?_); rintro e wp ⟨vp, rfl, hxp, hrp, hop⟩; have hgp := cell_of (hxp.block hvb); have hfp := free_of (hxp.block hvb); obtain ⟨pa, pn, pc, rfl⟩ := hrp.out.isSlice)))
                all_goals try exact (undefNo (by assumption)).elim
                rw [HV.out] at hrp
                have HF := hid (HFIN.out w3 wp _ (hxu.trans hx3) hxp hrp.out hop.out)
                go_roundw
                case rel => exact ⟨c + 1, by omega, by go_num, HF.out⟩
                case measure => simp [intOf]; omega
            | succ m =>
              have hhl : (h : Int) < D.hours - 1 := by have := HH.out; have := HHI.out; omega
              have t1 : ((h : Int) == D.hours - 1) = false := by rw [beq_eq_false_iff_ne]; omega
              have t2 : decide ((h : Int) < D.hours - 1) = true := by rw [decide_eq_true_eq]; exact hhl
              have hhd : h < D.drift.length := by have := HDL.out; omega
              have hh1 : h + 1 < H := by have := HH.out; omega
              have hd12 : D.drift.length ≤ 1000 := by have := HDL.out; omega
              have HV : Hid (foldB D rs h c (behR D rs m) N = behR D rs (m + 1) c) := by
                show _ = _
                rw [HBS.out, hwb, show H - 2 - m = h by have := HH.out; omega]; rfl
              have HFB := hid fun k => foldB_bounds h24 (D := D) (rs := rs) (h := h) (c := c) (prev := behR D rs m) (fun d => HBB2.out m d) k
              have HLI := hid fun (e : World) (hx : Ext w1 e) => lies_int D lv dv rv rs h c e hw (HR.out.mono hx) (by omega) h24 HRO.out (by omega)
              have hlb := lieI_bounds D h24 h c
              have HSTP := hid fun (e : World) (hx : Ext w1 e) (k : Nat) (hk : k ≤ 1000) => step_ref D lv dv h (c : Int) (k : Int) e hw hsp (HD.out.mono hx) hhd (HST.out h hhd) (by omega) (by omega) hd12
              rw [seaVal] at HSTP
              have HNEXT : Hid (∀ k, k < N → ∃ b off cc, wr.cell? ⟨w.heap.size + 1, h + 1, none⟩ = some (.slice (some ⟨b, off, none⟩) N cc) ∧ w.heap.size + 1 < wr.heap.size ∧ b < wr.heap.size ∧ wr.cell? ⟨b, off + k, none⟩ = some (.int .i64 (behR D rs m k))) := fun k hk => by
                have hg := HK.out.2
                have hhh := HH.out
                have hf : (if h + 1 = h then (List.range c).map (behR D rs (m + 1)) else if H ≤ h + 1 + (m + 1) then (List.range N).map (behR D rs (H - 1 - (h + 1))) else []) = (List.range N).map (behR D rs m) := by
                  simp only [show ¬ (h + 1 = h) by omega, if_false]
                  rw [if_pos (by omega), show H - 1 - (h + 1) = m by omega]
                obtain ⟨a, cc, h1, h2, h3⟩ := hg.get (h + 1) (by omega) (by rw [hf, List.length_map, List.length_range]; omega)
                rw [hf, show ((List.range N).map (behR D rs m)).length = N by rw [List.length_map, List.length_range]] at h1 h2
                obtain ⟨a2, cap2, he, _, hcs⟩ := h2
                obtain ⟨b, off, e3, hb, hcell⟩ := hcs k (by rw [List.length_map, List.length_range]; exact hk)
                injection he with e1 _ _
                rw [e1, e3] at h1
                refine ⟨b, off, cc, h1, h3, hb, ?_⟩
                rw [hcell]
                simp
              have hnl : ((List.range N).map (behR D rs m)).length = N := by rw [List.length_map, List.length_range]
              have HNL := hid hnl
              clear hwb hhl hnl
              gi_wp2_with (gi_at_call 49; ((with_reducible refine HWR.out.mono ?_); rintro e w2 ⟨rfl, hx2⟩; have hcb2 := HCB.out w2 (HK.out.1.trans hx2)))
              all_goals try exact (undefNo (by assumption)).elim
              obtain ⟨wm, rfl⟩ : ∃ wm, wm = wr := ⟨wr, rfl⟩
              gi_loopw [8, 9] (fun n i u => ∃ k : Nat, k ≤ N ∧ n = .int .i64 (foldB D rs h c (behR D rs m) k) ∧ i = .int .i64 k ∧ Ext wm u) (fun _ i _ => N - (intOf i).toNat)
              case atStart => exact ⟨0, Nat.zero_le _, rfl, rfl, hx2⟩
              case round =>
                obtain ⟨k, hk, rfl, rfl, hxu⟩ := hrel
                by_cases hlk : k < N
                · have dk : decide ((k : Int) < D.wide * D.high) = true := by rw [decide_eq_true_eq]; have := HNI.out; omega
                  obtain ⟨nb, noff, ncc, hn1, hng, hnb, hn2⟩ := HNEXT.out k hlk
                  have HQ := hid fun (e : World) (he : Ext wm e) => And.intro ((he.cell (p := ⟨w.heap.size + 1, _, none⟩) hng).trans hn1) ((he.cell (p := ⟨nb, _, none⟩) hnb).trans hn2)
                  have hpb := HBB2.out m k
                  have hcur := HFB.out k
                  have HFS : Hid (foldB D rs h c (behR D rs m) (k + 1) = if behR D rs m k < 1000 ∧ stepB D h c k = true then min (foldB D rs h c (behR D rs m) k) (lieI D rs h c + behR D rs m k) else foldB D rs h c (behR D rs m) k) := rfl
                  have HSK := hid fun (e : World) (hx : Ext w1 e) => HSTP.out e hx k (by omega)
                  have hcbi := HCB.out wr (HK.out.1.trans hxu)
                  have HWI := hid (HWA.out wr (HK.out.1.trans hxu))
                  clear hn1 hng hnb hn2
                  generalize foldB D rs h c (behR D rs m) k = cur at *
                  generalize behR D rs m k = p at *
                  generalize lieI D rs h c = li at *
                  generalize stepB D h c k = sb at *
                  by_cases hp : p < 1000
                  · have dp : decide (p < 1000) = true := by rw [decide_eq_true_eq]; exact hp
                    cases sb with
                    | false =>
                      rw [if_neg (by simp)] at HFS
                      gi_wp2_with (first | (gi_at_call 49; ((with_reducible refine HWI.out.mono ?_); rintro e w3 ⟨rfl, hx3⟩; have hcb3 := HCB.out w3 (HK.out.1.trans (hxu.trans hx3)); have hq3 := HQ.out w3 (hxu.trans hx3); have HS3 := hid (HSK.out w3 (HK.out.1.trans (hxu.trans hx3))))) | (gi_at_call 50; ((with_reducible refine HS3.out.mono ?_); rintro e w4 ⟨rfl, hx4⟩)))
                      all_goals first | exact (undefNo (by assumption)).elim | exact ⟨⟨k + 1, by omega, by rw [HFS.out], by go_num, hxu.trans (hx3.trans hx4)⟩, by simp [intOf]; omega⟩
                    | true =>
                      rw [if_pos ⟨hp, rfl⟩] at HFS
                      gi_wp2_with (first | (gi_at_call 49; ((with_reducible refine HWI.out.mono ?_); rintro e w3 ⟨rfl, hx3⟩; have hcb3 := HCB.out w3 (HK.out.1.trans (hxu.trans hx3)); have hq3 := HQ.out w3 (hxu.trans hx3); have HS3 := hid (HSK.out w3 (HK.out.1.trans (hxu.trans hx3))))) | (gi_at_call 50; ((with_reducible refine HS3.out.mono ?_); rintro e w4 ⟨rfl, hx4⟩)))
                      all_goals try exact (undefNo (by assumption)).elim
                      have HX4 := hid (hxu.trans (hx3.trans hx4))
                      have HLQ := hid fun e : Later w4 => HLI.out e.val (HK.out.1.trans (HX4.out.trans e.grown))
                      have HC := hid fun e : Later w4 => And.intro (HCB.out e.val (HK.out.1.trans (HX4.out.trans e.grown))) (HQ.out e.val (HX4.out.trans e.grown))
                      by_cases hmn : li + p < cur
                      · rw [Int.min_eq_right (by omega)] at HFS
                        refine quiet_wide 16 (by kernel_rfl) (by kernel_rfl) ?_
                        simp only [List.take_succ_cons, List.take_zero, List.drop_succ_cons, List.drop_zero]
                        have q1 := HC.out
                        repeat (any_goals (first | go_big_quiet_step ((go_at_call 51; with_reducible exact Cal.quiet (HLQ.out _))) | quiet_step ((go_at_call 51; with_reducible exact Cal.quiet (HLQ.out _)))))
                        refine wpQuiet_nil ?_
                        rintro w5 ⟨⟨_, hx5⟩, rfl⟩
                        clear q1
                        clear HC HLQ
                        gi_wp2
                        all_goals exact ⟨⟨k + 1, by omega, by rw [HFS.out], by go_num, HX4.out.trans hx5⟩, by simp [intOf]; omega⟩
                      · rw [Int.min_eq_left (by omega)] at HFS
                        refine quiet_wide 16 (by kernel_rfl) (by kernel_rfl) ?_
                        simp only [List.take_succ_cons, List.take_zero, List.drop_succ_cons, List.drop_zero]
                        have q1 := HC.out
                        repeat (any_goals (first | go_big_quiet_step ((go_at_call 51; with_reducible exact Cal.quiet (HLQ.out _))) | quiet_step ((go_at_call 51; with_reducible exact Cal.quiet (HLQ.out _)))))
                        refine wpQuiet_nil ?_
                        rintro w5 ⟨⟨_, hx5⟩, rfl⟩
                        clear q1
                        clear HC HLQ
                        gi_wp2
                        all_goals exact ⟨⟨k + 1, by omega, by rw [HFS.out], by go_num, HX4.out.trans hx5⟩, by simp [intOf]; omega⟩
                  · have dp : decide (p < 1000) = false := by rw [decide_eq_false_iff_not]; exact hp
                    rw [if_neg (fun h => hp h.1)] at HFS
                    gi_wp2_with (gi_at_call 49; ((with_reducible refine HWI.out.mono ?_); rintro e w3 ⟨rfl, hx3⟩; have hcb3 := HCB.out w3 (HK.out.1.trans (hxu.trans hx3)); have hq3 := HQ.out w3 (hxu.trans hx3)))
                    all_goals first | exact (undefNo (by assumption)).elim | exact ⟨⟨k + 1, by omega, by rw [HFS.out], by go_num, hxu.trans hx3⟩, by simp [intOf]; omega⟩
                · obtain rfl : k = N := by omega
                  have dk : decide ((k : Int) < D.wide * D.high) = false := by rw [decide_eq_false_iff_not]; have := HNI.out; omega
                  have hfb := HFB.out k
                  generalize hfe : foldB D rs h c (behR D rs m) k = fb at *
                  clear hfe
                  have hcbi := HCB.out wr (HK.out.1.trans hxu)
                  have HWI := hid (HWA.out wr (HK.out.1.trans hxu))
                  gi_wp2_with (first | (gi_at_call 49; ((with_reducible refine HWI.out.mono ?_); rintro e w3 ⟨rfl, hx3⟩; have hcb3 := HCB.out w3 (HK.out.1.trans (hxu.trans hx3)); obtain ⟨ga, gc, hgc, hgi, vs, hvl, hvb⟩ := HGET.out w3 (hxu.trans hx3); have HPU := hid (HPL.out w3 ga gc fb hgi))) | (gi_at_call 57; ((with_reducible refine HPU.out.mono ?_); rintro e wp ⟨vp, rfl, hxp, hrp, hop⟩; have hgp := cell_of (hxp.block hvb); have hfp := free_of (hxp.block hvb); obtain ⟨pa, pn, pc, rfl⟩ := hrp.out.isSlice)))
                  all_goals try exact (undefNo (by assumption)).elim
                  rw [HV.out] at hrp
                  have HF := hid (HFIN.out w3 wp _ (hxu.trans hx3) hxp hrp.out hop.out)
                  go_roundw
                  case rel => exact ⟨c + 1, by omega, by go_num, HF.out⟩
                  case measure => simp [intOf]; omega
        · obtain rfl : c = N := by omega
          have dlt : decide ((c : Int) < D.wide * D.high) = false := by rw [decide_eq_false_iff_not]; have := HNI.out; omega
          have HK := hid hK.out
          clear hK
          gi_wp2
          go_roundw
          case rel => exact ⟨j + 1, (h : Int) - 1, by omega, by have := HH.out; omega, by go_num, HK.out.1, HK.out.2.congr fun i hi => by
                            have := HH.out
                            by_cases e : i = h
                            · rw [if_pos e, if_pos (by omega), e, show H - 1 - h = j by omega]
                            · rw [if_neg e]
                              by_cases e2 : H ≤ i + j
                              · rw [if_pos e2, if_pos (by omega)]
                              · rw [if_neg e2, if_neg (by omega)]⟩
          case measure => simp [intOf] <;> omega
    · obtain rfl : hI = -1 := by omega
      have HJ := hid hJ.out
      clear hJ
      gi_wp2
      go_ret
      exact ⟨w.heap.size + 1, rfl, HX.out.trans HJ.out.1, HJ.out.2.congr fun i hi => by rw [if_pos (by omega)]⟩
end Go.Proofs.Ytlgcnjcbmihefaa
