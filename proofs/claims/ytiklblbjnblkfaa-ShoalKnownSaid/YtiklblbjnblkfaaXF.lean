/- The first track. -/
import Derived.Test.YtiklblbjnblkfaaXE
set_option linter.unusedSimpArgs false
set_option linter.unusedVariables false
namespace Go.Proofs.Ytiklblbjnblkfaa
open Go Go.RowKit Go.Shelf

def intsOf (l : List Nat) : List Int := l.map fun c : Nat => (c : Int)
/-- Whether a cell comes next on the first track. -/
def firstP (D : SeaD) (rs : List Rep) (h : Nat) (n : Int) (tr : List Nat) (c : Nat) : Bool :=
  (fromF D rs h c == n) && followsB (seaOf D) D.speed.toNat D.drift (intsOf tr) (col (seaOf D) c) (row (seaOf D) c)
def firstStep (D : SeaD) (rs : List Rep) (h : Nat) (s : List Nat × Int) : List Nat × Int :=
  match (opens D.land (D.wide * D.high).toNat).find? (firstP D rs h s.2 s.1) with | some c => (s.1 ++ [c], s.2 - ownF D rs h c) | none => s
def firstTo (D : SeaD) (rs : List Rep) (n : Int) : Nat → List Nat × Int
  | 0 => ([], n)
  | h + 1 => firstStep D rs h (firstTo D rs n h)
theorem firstTo_ok (D : SeaD) {rs : List Rep} (h24 : rs.length ≤ 24) (n : Int) (hn : -1000 ≤ n ∧ n ≤ 1000) : ∀ h, (firstTo D rs n h).1.length ≤ h ∧ (∀ c ∈ (firstTo D rs n h).1, c < (D.wide * D.high).toNat) ∧ (-1000 - 1000 * (h : Int) ≤ (firstTo D rs n h).2 ∧ (firstTo D rs n h).2 ≤ 1000)
  | 0 => ⟨Nat.le_refl _, fun c hc => by simp [firstTo] at hc, by simp [firstTo]; exact hn⟩
  | h + 1 => by
    have ih := firstTo_ok D h24 n hn h
    show (firstStep D rs h (firstTo D rs n h)).1.length ≤ h + 1 ∧ _
    have e : firstTo D rs n (h + 1) = firstStep D rs h (firstTo D rs n h) := rfl
    rw [e]
    unfold firstStep
    cases hf : (opens D.land (D.wide * D.high).toNat).find? (firstP D rs h (firstTo D rs n h).2 (firstTo D rs n h).1) with
    | none => exact ⟨by simp only; omega, ih.2.1, by simp only; omega⟩
    | some c =>
      have hb := ownF_bounds D h24 h c
      refine ⟨by simp; omega, fun d hd => ?_, by simp only; omega⟩
      rcases List.mem_append.1 hd with h' | h'
      · exact ih.2.1 d h'
      · rw [List.mem_singleton] at h'; subst h'
        exact opens_lt (List.mem_of_find?_eq_some hf)

/-- The boxes of the function's own. -/
structure FirstBox (w W : World) (b g1 g2 g3 H nb : Nat) (n : Int) (tr : List Nat) : Prop where
  below : Ext w W
  chart : W.heap[w.heap.size]? = some (.cells #[.pointer (some ⟨b, 0, none⟩), .slice (some ⟨g1, 0, none⟩) H H, .slice (some ⟨g2, 0, none⟩) H H, .slice (some ⟨g3, 0, none⟩) H H] 90 (0, 0))
  num : W.heap[w.heap.size + 1]? = some (.cells #[.int .i64 n] 3 (0, 0))
  out : ∃ g cap, W.heap[w.heap.size + 1 + 1 + 1]? = some (.cells #[.slice (some ⟨g, 0, none⟩) tr.length cap] 22 (0, 0)) ∧ Row W 3 1 (.slice (some ⟨g, 0, none⟩) tr.length cap) tr.length (natVals tr) ∧ w.heap.size + 1 < g ∧ g ≠ w.heap.size + 3 ∧ g ≠ nb
theorem FirstBox.past {w W W' : World} {b g1 g2 g3 H nb : Nat} {n : Int} {tr : List Nat} {B : Nat} (hB : FirstBox w W b g1 g2 g3 H nb n tr) (hp : PastC B W W') (hb : w.heap.size ≤ B) : FirstBox w W' b g1 g2 g3 H nb n tr := by
  obtain ⟨g, cap, h1, h2, h3⟩ := hB.out
  exact ⟨hp.past.below hB.below hb (Nat.le_refl _), hp.block _ _ (.inr rfl) hB.chart, hp.block _ _ (.inr rfl) hB.num, g, cap, hp.block _ _ (.inr rfl) h1, hp.row h2, h3⟩
theorem FirstBox.ext {w W W' : World} {b g1 g2 g3 H nb : Nat} {n : Int} {tr : List Nat} (hB : FirstBox w W b g1 g2 g3 H nb n tr) (hx : Ext W W') : FirstBox w W' b g1 g2 g3 H nb n tr :=
  hB.past (PastC.of_ext (B := w.heap.size) hx) (Nat.le_refl _)
/-- A new box: the track does not lie in it. -/
theorem FirstBox.new {w W : World} {b g1 g2 g3 H nb : Nat} {n : Int} {tr : List Nat} (hB : FirstBox w W b g1 g2 g3 H nb n tr) (o : Obj) : FirstBox w (W.alloc o) b g1 g2 g3 H W.heap.size n tr := by
  obtain ⟨g, cap, h1, h2, h3, h4, h5⟩ := hB.out
  have hlt : g < W.heap.size := h2.lt rfl
  have hx : Ext W (W.alloc o) := (Ext.refl W).alloc _
  exact ⟨hB.below.trans hx, hx.block hB.chart, hx.block hB.num, g, cap, hx.block h1, h2.mono hx, h3, h4, by omega⟩

theorem followsB_of {S : SeaV} {D : SeaD} (h : S.wide = D.wide) (s : Nat) (steps : List Step) (tr : List Int) (x y : Int) : followsB S s steps tr x y = followsB (seaOf D) s steps tr x y := by
  unfold followsB; rw [col_of h, row_of h]
theorem Row.own_slice {w : World} {T : TypeId} {sz : Nat} {v : Value} {n : Nat} {xs : List Value} (h : Row w T sz v n xs) {g m c k : Nat} (how : v.ownBlock = (Value.slice (some ⟨g, 0, none⟩) m c).ownBlock ∨ v.ownBlock = some k) : ∃ sg scap, v = .slice (some ⟨sg, 0, none⟩) n scap ∧ (sg = g ∨ sg = k) := by
  rcases h.2 with ⟨rfl, _⟩ | ⟨g', cap, cur, rfl, _⟩
  · simp [Value.ownBlock] at how
  · exact ⟨g', cap, rfl, by simpa [Value.ownBlock] using how⟩
theorem FirstBox.setNum {w W : World} {b g1 g2 g3 H nb : Nat} {n : Int} {tr : List Nat} (hB : FirstBox w W b g1 g2 g3 H nb n tr) (n' : Int) : FirstBox w (W.setCell ⟨w.heap.size + 1, 0, none⟩ (.int .i64 n')) b g1 g2 g3 H nb n' tr := by
  obtain ⟨g, cap, h1, h2, h3, h4, h5⟩ := hB.out
  have key : ∀ j o, j ≠ w.heap.size + 1 → W.heap[j]? = some o → (W.setCell ⟨w.heap.size + 1, 0, none⟩ (.int .i64 n')).heap[j]? = some o := fun j o hj ho => by rw [Below.heap_setCell _ _ _ _ hj]; exact ho
  exact ⟨hB.below.set (by omega) _ _, key _ _ (by omega) hB.chart, one_setCell hB.num, g, cap, key _ _ (by omega) h1, h2.kept fun j o hj ho => key _ _ (by simp [Value.ownBlock] at hj; omega) ho, h3, h4, h5⟩
theorem FirstBox.any {w W : World} {b g1 g2 g3 H nb : Nat} {n : Int} {tr : List Nat} (hB : FirstBox w W b g1 g2 g3 H nb n tr) : FirstBox w W b g1 g2 g3 H (w.heap.size + 3) n tr := by
  obtain ⟨g, cap, h1, h2, h3, h4, h5⟩ := hB.out
  exact ⟨hB.below, hB.chart, hB.num, g, cap, h1, h2, h3, h4, h4⟩
set_option maxRecDepth 100000 in
set_option maxHeartbeats 1000000 in
theorem first_any (b g1 g2 g3 H : Nat) (D : SeaD) (S : SeaV) (rs : List Rep) (nv : Int) (w : World) (hF : SeaFull w b S D rs) (hb : seaB D = true) (hH : D.hours = H) (h24 : rs.length ≤ 24) (hnv : -1000 ≤ nv ∧ nv ≤ 1000)
    (h1 : RowsBlk w g1 H (ownF D rs)) (h2 : RowsBlk w g2 H (upF D rs)) (h3 : RowsBlk w g3 H (fromF D rs)) :
    Cal 58 #[chartVal b g1 g2 g3 H, .int .i64 nv] w fun e w' => ∃ v, e = .returned v ∧ Ext w w' ∧ Hid (Row w' 3 1 v (firstTo D rs nv H).1.length (natVals (firstTo D rs nv H).1)) := by
  unfold chartVal
  refine callsIn_of_wp_marks Try.func58 rfl trivial ?_
  simp only [Try.ntmps58, List.size_toArray, List.length_cons, List.length_nil, Nat.reduceAdd, Nat.reduceSub, Array.replicate_succ, Array.replicate_zero, List.push_toArray, List.append_toArray, List.nil_append, List.cons_append]
  have hN : 1 ≤ H ∧ H ≤ 12 := by have := hF.ok.hours; rw [hF.hours, hH] at this; omega
  have hx1 : Ext w ((w.alloc (.cells #[.pointer (some ⟨b, 0, none⟩), .slice (some ⟨g1, 0, none⟩) H H, .slice (some ⟨g2, 0, none⟩) H H, .slice (some ⟨g3, 0, none⟩) H H] 90)).alloc (.cells #[.int .i64 nv] 3)) := ((Ext.refl w).alloc _).alloc _
  have hcs := (hF.at_.mono hx1).cells
  rw [hF.hours, hH] at hcs
  have hmk := make_ints0 ((w.alloc (.cells #[.pointer (some ⟨b, 0, none⟩), .slice (some ⟨g1, 0, none⟩) H H, .slice (some ⟨g2, 0, none⟩) H H, .slice (some ⟨g3, 0, none⟩) H H] 90)).alloc (.cells #[.int .i64 nv] 3)) H H rfl (by omega)
  have hx3 := (hx1.alloc (.cells (madeCells #[.int .i64 0] H) 3)).alloc (.cells #[.slice (some ⟨w.heap.size + 1 + 1, 0, none⟩) 0 H] 22)
  have hcs2 := (hF.at_.mono hx3).cells
  rw [hF.hours, hH] at hcs2
  have HF := hid hF
  have HR := hid (And.intro h1 (And.intro h2 h3))
  have HSB := hid hb
  clear hF h1 h2 h3
  gi_wp2_with fail
  have HB0 : Hid (FirstBox w ((((w.alloc (.cells #[.pointer (some ⟨b, 0, none⟩), .slice (some ⟨g1, 0, none⟩) H H, .slice (some ⟨g2, 0, none⟩) H H, .slice (some ⟨g3, 0, none⟩) H H] 90)).alloc (.cells #[.int .i64 nv] 3)).alloc (.cells (madeCells #[.int .i64 0] H) 3)).alloc (.cells #[.slice (some ⟨w.heap.size + 1 + 1, 0, none⟩) 0 H] 22)) b g1 g2 g3 H (w.heap.size + 3) nv []) := by
    have hxb : Ext ((w.alloc (.cells #[.pointer (some ⟨b, 0, none⟩), .slice (some ⟨g1, 0, none⟩) H H, .slice (some ⟨g2, 0, none⟩) H H, .slice (some ⟨g3, 0, none⟩) H H] 90)).alloc (.cells #[.int .i64 nv] 3)) ((((w.alloc (.cells #[.pointer (some ⟨b, 0, none⟩), .slice (some ⟨g1, 0, none⟩) H H, .slice (some ⟨g2, 0, none⟩) H H, .slice (some ⟨g3, 0, none⟩) H H] 90)).alloc (.cells #[.int .i64 nv] 3)).alloc (.cells (madeCells #[.int .i64 0] H) 3)).alloc (.cells #[.slice (some ⟨w.heap.size + 1 + 1, 0, none⟩) 0 H] 22)) := ((Ext.refl _).alloc _).alloc _
    refine ⟨hx3, hxb.block two_new, hxb.block ?_, w.heap.size + 1 + 1, H, ?_, ⟨rfl, .inr ⟨w.heap.size + 1 + 1, H, madeCells #[.int .i64 0] H, rfl, ?_, Nat.zero_le _, by unfold maxLen; omega, ?_, rfl⟩⟩, by omega, by omega, by omega⟩
    · have := Ext.new (w := w.alloc (.cells #[.pointer (some ⟨b, 0, none⟩), .slice (some ⟨g1, 0, none⟩) H H, .slice (some ⟨g2, 0, none⟩) H H, .slice (some ⟨g3, 0, none⟩) H H] 90)) (o := .cells #[.int .i64 nv] 3) (Ext.refl _)
      simpa using this
    · have := Ext.new (w := ((w.alloc (.cells #[.pointer (some ⟨b, 0, none⟩), .slice (some ⟨g1, 0, none⟩) H H, .slice (some ⟨g2, 0, none⟩) H H, .slice (some ⟨g3, 0, none⟩) H H] 90)).alloc (.cells #[.int .i64 nv] 3)).alloc (.cells (madeCells #[.int .i64 0] H) 3)) (o := .cells #[.slice (some ⟨w.heap.size + 1 + 1, 0, none⟩) 0 H] 22) (Ext.refl _)
      simpa using this
    · have := ((Ext.refl _).alloc (.cells #[.slice (some ⟨w.heap.size + 1 + 1, 0, none⟩) 0 H] 22)).block (Ext.new (w := (w.alloc (.cells #[.pointer (some ⟨b, 0, none⟩), .slice (some ⟨g1, 0, none⟩) H H, .slice (some ⟨g2, 0, none⟩) H H, .slice (some ⟨g3, 0, none⟩) H H] 90)).alloc (.cells #[.int .i64 nv] 3)) (o := .cells (madeCells #[.int .i64 0] H) 3) (Ext.refl _))
      simpa using this
    · simp [madeCells]
  clear hmk hcs hcs2 hx1 hx3
  generalize (((w.alloc (.cells #[.pointer (some ⟨b, 0, none⟩), .slice (some ⟨g1, 0, none⟩) H H, .slice (some ⟨g2, 0, none⟩) H H, .slice (some ⟨g3, 0, none⟩) H H] 90)).alloc (.cells #[.int .i64 nv] 3)).alloc (.cells (madeCells #[.int .i64 0] H) 3)).alloc (.cells #[.slice (some ⟨w.heap.size + 1 + 1, 0, none⟩) 0 H] 22) = w0 at *
  have hsz0 : w.heap.size + 4 ≤ w0.heap.size := by
    obtain ⟨g, cap, h1, _⟩ := HB0.out.out
    have := lt_of_block h1
    omega
  have HR0 : Hid ((RowsBlk w0 g1 H (ownF D rs) ∧ RowsBlk w0 g2 H (upF D rs) ∧ RowsBlk w0 g3 H (fromF D rs))) := ⟨HR.out.1.mono HB0.out.below, HR.out.2.1.mono HB0.out.below, HR.out.2.2.mono HB0.out.below⟩
  have hgl : g1 < w.heap.size ∧ g2 < w.heap.size ∧ g3 < w.heap.size := ⟨HR.out.1.lt, HR.out.2.1.lt, HR.out.2.2.lt⟩
  refine wpIn_loop (fun a' w' => ∃ (k : Nat) (Ds : List Nat) (u6 u23 u24 u25 u26 u27 u63 : Value), a' = { tmps := #[.agg #[.pointer (some ⟨b, 0, none⟩), .slice (some ⟨g1, 0, none⟩) H H, .slice (some ⟨g2, 0, none⟩) H H, .slice (some ⟨g3, 0, none⟩) H H], .int .i64 nv, .pointer (some ⟨w.heap.size, 0, none⟩), .pointer (some ⟨w.heap.size + 1, 0, none⟩), .slice none 0 0, .pointer (some ⟨w.heap.size + 1 + 1 + 1, 0, none⟩), u6, undef, undef, .pointer (some ⟨w.heap.size, 0, none⟩), .pointer (some ⟨b, 0, none⟩), .pointer (some ⟨b, 0, none⟩), .pointer (some ⟨b, 0, none⟩), .pointer (some ⟨b, 3, none⟩), .int .i64 H, .slice (some ⟨w.heap.size + 1 + 1, 0, none⟩) 0 H, .pointer (some ⟨w.heap.size, 0, none⟩), .pointer (some ⟨b, 0, none⟩), .pointer (some ⟨b, 0, none⟩), .pointer (some ⟨b, 0, none⟩), .pointer (some ⟨b, 3, none⟩), .int .i64 H, .int .i64 (k : Nat), u23, u24, u25, u26, u27, undef, undef, undef, undef, undef, undef, undef, undef, undef, undef, undef, undef, undef, undef, undef, undef, undef, undef, undef, undef, undef, undef, undef, undef, undef, undef, undef, undef, undef, undef, undef, undef, undef, undef, undef, u63, undef], defers := Ds.map markAt } ∧ k ≤ H ∧ Hid (FirstBox w w' b g1 g2 g3 H (w.heap.size + 3) (firstTo D rs nv k).2 (firstTo D rs nv k).1 ∧ Marks w.heap.size Ds w' ∧ (RowsBlk w' g1 H (ownF D rs) ∧ RowsBlk w' g2 H (upF D rs) ∧ RowsBlk w' g3 H (fromF D rs)))) (fun a' w' => H - (intOf (a'.tmps.getD 22 undef)).toNat) ⟨0, [], undef, undef, undef, undef, undef, undef, undef, rfl, Nat.zero_le _, HB0.out, ⟨List.nodup_nil, fun D hD => by simp at hD⟩, HR0.out⟩ ?_
  rintro _ wr ⟨k, Ds, u6, u23, u24, u25, u26, u27, u63, rfl, hk, hI⟩
  have hok := firstTo_ok D h24 nv hnv k
  by_cases hlt : k < H
  · have hcb := cell_of (((Ext.refl wr).alloc (.cells #[.int .i64 k] 3)).block hI.out.1.chart)
    gi_wp2_with fail
    have hx1 : Ext wr (wr.alloc (.cells #[.int .i64 k] 3)) := (Ext.refl wr).alloc _
    have hB1 : FirstBox w (wr.alloc (.cells #[.int .i64 k] 3)) b g1 g2 g3 H wr.heap.size (firstTo D rs nv k).2 (firstTo D rs nv k).1 := hI.out.1.new _
    have hM1 : Marks w.heap.size Ds (wr.alloc (.cells #[.int .i64 k] 3)) := ⟨hI.out.2.1.1, fun E hE => ⟨(hI.out.2.1.2 E hE).1, hx1.block (hI.out.2.1.2 E hE).2⟩⟩
    have hML : ∀ E ∈ Ds, E < wr.heap.size := fun E hE => lt_of_block (hI.out.2.1.2 E hE).2
    have hR1 : Hid ((RowsBlk (wr.alloc (.cells #[.int .i64 k] 3)) g1 H (ownF D rs) ∧ RowsBlk (wr.alloc (.cells #[.int .i64 k] 3)) g2 H (upF D rs) ∧ RowsBlk (wr.alloc (.cells #[.int .i64 k] 3)) g3 H (fromF D rs))) := ⟨hI.out.2.2.1.mono hx1, hI.out.2.2.2.1.mono hx1, hI.out.2.2.2.2.mono hx1⟩
    have hbh : (wr.alloc (.cells #[.int .i64 k] 3)).heap[wr.heap.size]? = some (.cells #[.int .i64 k] 3 (0, 0)) := Ext.new (Ext.refl _)
    have hwz : w.heap.size + 4 ≤ wr.heap.size := by
      obtain ⟨g, cap, h1, _⟩ := hI.out.1.out
      have := lt_of_block h1
      omega
    have hs1 : wr.heap.size + 1 = (wr.alloc (.cells #[.int .i64 k] 3)).heap.size := by simp
    have HMK := hid hM1
    have HML := hid hML
    have HBH := hid hbh
    have HBX := hid hB1
    clear hM1 hML hbh hB1 hI hcb hx1 HB0 HR0
    generalize wr.alloc (.cells #[.int .i64 k] 3) = w1 at *
    generalize hst : firstTo D rs nv k = st at *
    obtain ⟨tr, n⟩ := st
    simp only at HBX hok
    have HST := hid hst
    clear hst
    have hol : (openElems S D.land).length = (opens D.land (D.wide * D.high).toNat).length := by unfold openElems; rw [List.length_map, HF.out.wide, HF.out.high]
    refine range_boxC rfl (enters_of Try.func76 (by kernel_rfl) rfl) (open_iter b S HF.out.ok D.land)
      (fun i W => Hid (FirstBox w W b g1 g2 g3 H wr.heap.size n tr ∧ W.heap[wr.heap.size]? = some (.cells #[.int .i64 k] 3 (0, 0)) ∧ Marks w.heap.size Ds W ∧ (RowsBlk W g1 H (ownF D rs) ∧ RowsBlk W g2 H (upF D rs) ∧ RowsBlk W g3 H (fromF D rs)) ∧ ((opens D.land (D.wide * D.high).toNat).take i).find? (firstP D rs k n tr) = none))
      (fun c i W => c = .exit 2 ∧ ∃ cell, Hid (FirstBox w W b g1 g2 g3 H (w.heap.size + 3) (n - ownF D rs k cell) (tr ++ [cell]) ∧ Marks w.heap.size Ds W ∧ (RowsBlk W g1 H (ownF D rs) ∧ RowsBlk W g2 H (upF D rs) ∧ RowsBlk W g3 H (fromF D rs)) ∧ (opens D.land (D.wide * D.high).toNat).find? (firstP D rs k n tr) = some cell))
      (fun i W W' hI hp => ⟨hI.out.1.past hp (by omega), hp.block _ _ (.inr rfl) hI.out.2.1, ⟨hI.out.2.2.1.1, fun E hE => ⟨(hI.out.2.2.1.2 E hE).1, hp.block _ _ (.inl (by have := HML.out E hE; omega)) (hI.out.2.2.1.2 E hE).2⟩⟩, ⟨hI.out.2.2.2.1.1.pastC (by omega) hp, hI.out.2.2.2.1.2.1.pastC (by omega) hp, hI.out.2.2.2.1.2.2.pastC (by omega) hp⟩, hI.out.2.2.2.2⟩)
      (fun c i W W' hI hp => by
        obtain ⟨h1, cell, h2⟩ := hI
        exact ⟨h1, cell, h2.out.1.past hp (by omega), ⟨h2.out.2.1.1, fun E hE => ⟨(h2.out.2.1.2 E hE).1, hp.block _ _ (.inl (by have := HML.out E hE; omega)) (h2.out.2.1.2 E hE).2⟩⟩, ⟨h2.out.2.2.1.1.pastC (by omega) hp, h2.out.2.2.1.2.1.pastC (by omega) hp, h2.out.2.2.1.2.2.pastC (by omega) hp⟩, h2.out.2.2.2⟩)
      (fun i W hI => ⟨HF.out.at_.mono hI.out.1.below, HF.out.land.mono hI.out.1.below⟩) (fun i h => by simp [openElems, cellElem]) ⟨HBX.out, HBH.out, HMK.out, hR1.out, rfl⟩
      (fun i Bx => { tmps := #[.agg #[.pointer (some ⟨b, 0, none⟩), .slice (some ⟨g1, 0, none⟩) H H, .slice (some ⟨g2, 0, none⟩) H H, .slice (some ⟨g3, 0, none⟩) H H], .int .i64 nv, .pointer (some ⟨w.heap.size, 0, none⟩), .pointer (some ⟨w.heap.size + 1, 0, none⟩), .slice none 0 0, .pointer (some ⟨w.heap.size + 1 + 1 + 1, 0, none⟩), .pointer (some ⟨wr.heap.size, 0, none⟩), .int .i64 ((opens D.land (S.wide * S.high).toNat).getD i 0 : Nat), .pointer (some ⟨Bx, 0, none⟩), .pointer (some ⟨w.heap.size, 0, none⟩), .pointer (some ⟨b, 0, none⟩), .pointer (some ⟨b, 0, none⟩), .pointer (some ⟨b, 0, none⟩), .pointer (some ⟨b, 3, none⟩), .int .i64 H, .slice (some ⟨w.heap.size + 1 + 1, 0, none⟩) 0 H, .pointer (some ⟨w.heap.size, 0, none⟩), .pointer (some ⟨b, 0, none⟩), .pointer (some ⟨b, 0, none⟩), .pointer (some ⟨b, 0, none⟩), .pointer (some ⟨b, 3, none⟩), .int .i64 H, .int .i64 (k : Nat), .bool true, .int .i64 (k : Nat), .pointer (some ⟨w.heap.size, 0, none⟩), .pointer (some ⟨b, 0, none⟩), .func (.func 76) #[.pointer (some ⟨b, 0, none⟩)] #[], .int .i64 ((opens D.land (S.wide * S.high).toNat).getD i 0 : Nat), .agg #[.int .i64 (col S ((opens D.land (S.wide * S.high).toNat).getD i 0 : Nat)), .int .i64 (row S ((opens D.land (S.wide * S.high).toNat).getD i 0 : Nat))], undef, undef, undef, undef, undef, undef, undef, undef, undef, undef, undef, undef, undef, undef, undef, undef, undef, undef, undef, undef, undef, undef, undef, undef, undef, undef, undef, undef, undef, undef, undef, undef, undef, u63, undef], defers := [] })
      (fun i => #[.int .i64 (col S ((opens D.land (S.wide * S.high).toNat).getD i 0 : Nat)), .int .i64 (row S ((opens D.land (S.wide * S.high).toNat).getD i 0 : Nat))]) 81 ?assign ?body ?done ?stop
    case assign =>
      intro l i h' W K' hK
      have he : (openElems S D.land)[i] = #[.int .i64 ((opens D.land (S.wide * S.high).toNat).getD i 0 : Nat), .agg #[.int .i64 (col S ((opens D.land (S.wide * S.high).toNat).getD i 0 : Nat)), .int .i64 (row S ((opens D.land (S.wide * S.high).toNat).getD i 0 : Nat))]] := by
        have h2 : i < (opens D.land (S.wide * S.high).toNat).length := by simpa [openElems] using h'
        simp only [openElems, List.getElem_map, getD_of h2]; rfl
      rw [he]
      generalize (opens D.land (S.wide * S.high).toNat).getD i 0 = p at *
      clear he hol
      gi_wp2
      exact hK
    case body =>
      rintro l i Bx W hi hl hr' hI hBx hbx
      have hi' : i < (opens D.land (D.wide * D.high).toNat).length := by rw [← hol]; exact hi
      have hmem : (opens D.land (D.wide * D.high).toNat)[i] < 80 := by
        have := opens_lt (List.getElem_mem hi')
        have h80 := seaB_80 hb
        omega
      have hno := hI.out.2.2.2.2
      have hfs : ((opens D.land (D.wide * D.high).toNat).take (i + 1)).find? (firstP D rs k n tr) = if firstP D rs k n tr (opens D.land (D.wide * D.high).toNat)[i] then some (opens D.land (D.wide * D.high).toNat)[i] else none := by
        rw [List.take_succ_eq_append_getElem hi', List.find?_append, hno, Option.none_or]
        cases hp : firstP D rs k n tr (opens D.land (D.wide * D.high).toNat)[i] <;> simp [hp]
      have hfa : firstP D rs k n tr (opens D.land (D.wide * D.high).toNat)[i] = true → (opens D.land (D.wide * D.high).toNat).find? (firstP D rs k n tr) = some (opens D.land (D.wide * D.high).toNat)[i] := fun hp => by
        have e2 : ((opens D.land (D.wide * D.high).toNat).take (i + 1) ++ (opens D.land (D.wide * D.high).toNat).drop (i + 1)).find? (firstP D rs k n tr) = some (opens D.land (D.wide * D.high).toNat)[i] := by
          rw [List.find?_append, hfs, if_pos hp]; rfl
        rwa [List.take_append_drop] at e2
      rw [HF.out.wide, HF.out.high] at hbx ⊢
      rw [getD_of hi'] at hbx ⊢
      obtain ⟨g, cap, ho1, ho2, ho3, ho4, ho5⟩ := hI.out.1.out
      have hgW : g < W.heap.size := ho2.lt rfl
      rcases ho2.full with ⟨h0, _⟩ | ⟨g', cap', he', hcap, hfull⟩
      · cases h0
      cases he'
      have hsp : S.speed = (D.speed.toNat : Int) := by have := HF.out.ok.speed; rw [HF.out.speed] at this ⊢; omega
      have hst := steps_ok hb
      have hit : ∀ e : Later W, IntsAt e.val (.slice (some ⟨g, 0, none⟩) tr.length tr.length) (intsOf tr) := fun e => by
        refine ⟨some ⟨g, 0, none⟩, tr.length, by unfold intsOf; rw [List.length_map], by unfold intsOf; rw [List.length_map]; omega, fun j hj => ⟨g, 0, rfl, Nat.lt_of_lt_of_le hgW e.grown.size, ?_⟩⟩
        have hj' : j < tr.length := by simpa [intsOf] using hj
        have hc := hfull.2
        rcases hc with ⟨h0, _⟩ | ⟨g2, he2, hc⟩
        · cases h0
        · cases he2
          have := hc j _ (natVals_at tr j hj')
          rw [Addr.add_mid] at this
          rw [Below.cell e.grown (p := ⟨g, 0 + j, none⟩) hgW, this]
          simp [intsOf]
      have hFO : Hid (∀ e : Later W, Cal 88 #[.agg #[.pointer (some ⟨b, 0, none⟩), .slice (some ⟨g1, 0, none⟩) H H, .slice (some ⟨g2, 0, none⟩) H H, .slice (some ⟨g3, 0, none⟩) H H], .slice (some ⟨g, 0, none⟩) tr.length tr.length, .agg #[.int .i64 (col S ((opens D.land (D.wide * D.high).toNat)[i] : Nat)), .int .i64 (row S ((opens D.land (D.wide * D.high).toNat)[i] : Nat))]] e.val fun e' w' => e' = .returned (.bool (followsB S D.speed.toNat D.drift (intsOf tr) (col S ((opens D.land (D.wide * D.high).toNat)[i] : Nat)) (row S ((opens D.land (D.wide * D.high).toNat)[i] : Nat)))) ∧ Ext e.val w') := fun e =>
        follows_any b g1 g2 g3 H S HF.out.ok D.speed.toNat hsp D.drift (intsOf tr) _ _ _ e.val (HF.out.at_.mono (hI.out.1.below.trans e.grown)) (HF.out.drift.mono (hI.out.1.below.trans e.grown)) hst.2 (hit e)
          (fun c hc => by obtain ⟨d, hd, rfl⟩ := List.mem_map.1 hc; have h1 := hok.2.1 d hd; have h2 := seaB_80 hb; omega) (by unfold intsOf; rw [List.length_map]; have := hst.1; have := hok.1; omega)
      have hPP : firstP D rs k n tr (opens D.land (D.wide * D.high).toNat)[i] = ((fromF D rs k (opens D.land (D.wide * D.high).toNat)[i] == n) && followsB S D.speed.toNat D.drift (intsOf tr) (col S ((opens D.land (D.wide * D.high).toNat)[i] : Nat)) (row S ((opens D.land (D.wide * D.high).toNat)[i] : Nat))) := by
        unfold firstP
        rw [followsB_of HF.out.wide, col_of HF.out.wide, row_of HF.out.wide]
      have hov := ownF_bounds D h24 k (opens D.land (D.wide * D.high).toNat)[i]
      have HC := hid fun e : Later W => And.intro (cell_of (Ext.block e.grown hI.out.1.chart)) (And.intro (cell_of (Ext.block e.grown hI.out.1.num)) (And.intro (cell_of (Ext.block e.grown ho1)) (And.intro (cell_of (Ext.block e.grown hI.out.2.1)) (And.intro (cell_of (Ext.block e.grown hbx)) ((hI.out.2.2.2.1.2.2.mono e.grown).cell k (opens D.land (D.wide * D.high).toNat)[i] hlt hmem)))))
      have HOW := hid fun u (hu : RowsBlk u g1 H (ownF D rs)) => hu.cell k (opens D.land (D.wide * D.high).toNat)[i] hlt hmem
      have HFS := hid (And.intro hfs hfa)
      have HPP := hid hPP
      have HO := hid (And.intro ho1 (And.intro ho2 (And.intro ho3 (And.intro ho4 ho5))))
      have hlen13 : tr.length ≤ 13 := by have := hok.1; omega
      have hnb : -14000 ≤ n ∧ n ≤ 1000 := by have := hok.2.2; omega
      clear hok hfs hfa hPP hno ho1 ho2 hst hit hfull hsp hr' hol hbx
      generalize followsB S D.speed.toNat D.drift (intsOf tr) (col S ((opens D.land (D.wide * D.high).toNat)[i] : Nat)) (row S ((opens D.land (D.wide * D.high).toNat)[i] : Nat)) = ff at *
      generalize fromF D rs k (opens D.land (D.wide * D.high).toNat)[i] = fv at *
      generalize hoc : ownF D rs k (opens D.land (D.wide * D.high).toNat)[i] = ov at *
      have HOC := hid hoc
      clear hoc
      generalize (opens D.land (D.wide * D.high).toNat)[i] = c at *
      have hc80 : (c : Int) < 80 := by omega
      have hw1 : IntKind.i64.wrap (n - ov) = n - ov := by rw [IntKind.wrap_i64]; omega
      have HKF : Hid (∀ (B : Nat) (w5 : World), Ext W w5 → KeepsFrom B W w5) := fun B w5 hx => ⟨hx.size, fun k o' _ ho _ => Ext.block hx ho⟩
      have HSTAY : Hid (∀ w5, Ext W w5 → firstP D rs k n tr c = false → FirstBox w w5 b g1 g2 g3 H wr.heap.size n tr ∧ w5.heap[wr.heap.size]? = some (.cells #[.int .i64 k] 3 (0, 0)) ∧ Marks w.heap.size Ds w5 ∧ (RowsBlk w5 g1 H (ownF D rs) ∧ RowsBlk w5 g2 H (upF D rs) ∧ RowsBlk w5 g3 H (fromF D rs)) ∧ ((opens D.land (D.wide * D.high).toNat).take (i + 1)).find? (firstP D rs k n tr) = none) := fun w5 hx hp =>
        ⟨hI.out.1.ext hx, hx.block hI.out.2.1, ⟨hI.out.2.2.1.1, fun E hE => ⟨(hI.out.2.2.1.2 E hE).1, hx.block (hI.out.2.2.1.2 E hE).2⟩⟩, ⟨hI.out.2.2.2.1.1.mono hx, hI.out.2.2.2.1.2.1.mono hx, hI.out.2.2.2.1.2.2.mono hx⟩, by rw [HFS.out.1, hp]; rfl⟩
      cases hfn : (fv == n) with
      | false =>
        rw [hfn, Bool.false_and] at HPP
        clear HFS HO HOW
        gi_wp2_with fail
        refine quiet_round 20 (by kernel_rfl) (by kernel_rfl) ?_
        simp only [List.take_succ_cons, List.take_zero, List.drop_succ_cons, List.drop_zero]
        have q1 := HC.out
        repeat (any_goals (first | go_big_quiet_step (fail) | quiet_step (fail)))
        refine wpQuiet_nil ?_
        rintro w5 ⟨⟨_, hx5⟩, rfl⟩
        clear q1 HC hFO
        gi_wp2
        exact ⟨HKF.out _ _ hx5, HSTAY.out _ hx5 HPP.out⟩
      | true =>
        rw [hfn, Bool.true_and] at HPP
        cases ff with
        | false =>
          clear HFS HO HOW
          gi_wp2_with fail
          refine quiet_round 20 (by kernel_rfl) (by kernel_rfl) ?_
          simp only [List.take_succ_cons, List.take_zero, List.drop_succ_cons, List.drop_zero]
          have q1 := HC.out
          repeat (any_goals (first | go_big_quiet_step ((go_at_call 88; with_reducible exact Cal.quiet (hFO.out _))) | quiet_step ((go_at_call 88; with_reducible exact Cal.quiet (hFO.out _)))))
          refine wpQuiet_nil ?_
          rintro w5 ⟨⟨_, hx5⟩, rfl⟩
          clear q1 HC hFO
          gi_wp2
          exact ⟨HKF.out _ _ hx5, HSTAY.out _ hx5 HPP.out⟩
        | true =>
          gi_wp2_with fail
          refine quiet_round 20 (by kernel_rfl) (by kernel_rfl) ?_
          simp only [List.take_succ_cons, List.take_zero, List.drop_succ_cons, List.drop_zero]
          have q1 := HC.out
          repeat (any_goals (first | go_big_quiet_step ((go_at_call 88; with_reducible exact Cal.quiet (hFO.out _))) | quiet_step ((go_at_call 88; with_reducible exact Cal.quiet (hFO.out _)))))
          refine wpQuiet_nil ?_
          rintro w5 ⟨⟨_, hx5⟩, rfl⟩
          clear q1 hFO HC
          have hbo := Ext.block hx5 HO.out.1
          have hco := cell_of hbo
          obtain ⟨i0, hi0, hz0, hz1, hz2⟩ := info_parts info3
          have HZ := hid (And.intro hi0 (And.intro hz0 (And.intro hz1 hz2)))
          clear hi0 hz0 hz1 hz2
          have HRW := hid ((HO.out.2.1.mono hx5).mono ((Ext.refl w5).alloc (.cells #[.int .i64 c] 3)))
          have HNW : Hid (∀ j u, [Value.int .i64 c][j]? = some u → (w5.alloc (.cells #[.int .i64 c] 3)).cell? ((⟨w5.heap.size, 0, none⟩ : Addr).add j) = some u) := fun j u hj => by rw [Addr.add_mid, Nat.zero_add, new_cell _ _ rfl]; simpa using hj
          have hmax : tr.length + 1 ≤ 1000000000 := by omega
          gi_wp2_with (refine wpIn_append_row (fun _ => trivial) rfl (.tmp 50) (.tmp 52) rfl Try.underlying22 HZ.out.1 HZ.out.2.1 HZ.out.2.2.1 HZ.out.2.2.2 (by simp [Value.cells]) (by omega) (v := .slice (some ⟨g, 0, none⟩) tr.length cap) rfl HRW.out ⟨w5.heap.size, 0, none⟩ 1 rfl [.int .i64 c] rfl HNW.out (fun u hu => by simp at hu; subst hu; rfl) hmax (by omega) ?_; intro v' w' hrow' hgr' how'; obtain ⟨sg, scap, rfl, hsg⟩ := hrow'.own_slice how'; have hbv' := grownBy_block hgr' (Ext.block ((Ext.refl w5).alloc (.cells #[.int .i64 c] 3)) hbo) (fun e => by have := HO.out.2.2.2.1; simp [Value.ownBlock] at e; omega); have hcv' := cell_of hbv'; have hfv' := free_of hbv')
          have hxa : Ext W (w5.alloc (.cells #[.int .i64 c] 3)) := Ext.alloc hx5 _
          have hkeep : ∀ j o, j ≠ g → j ≠ w.heap.size + 3 → W.heap[j]? = some o → (w'.setCell ⟨w.heap.size + 1 + 1 + 1, 0, none⟩ (.slice (some ⟨sg, 0, none⟩) (tr.length + 1) scap)).heap[j]? = some o := fun j o h1 h2 ho => by
            rw [Below.heap_setCell _ _ _ _ (by omega)]
            exact grownBy_block hgr' (hxa.block ho) (fun e => by simp [Value.ownBlock] at e; omega)
          have hbel6 : Ext w (w'.setCell ⟨w.heap.size + 1 + 1 + 1, 0, none⟩ (.slice (some ⟨sg, 0, none⟩) (tr.length + 1) scap)) := by
            have h1 := hI.out.1.below.trans hxa
            have h2 : Ext w w' := Below.trans h1 ⟨hgr'.os, hgr'.tape, hgr'.output, hgr'.size, fun j hj => hgr'.block j (by have := h1.size; omega) (fun e => by have := HO.out.2.2.1; simp [Value.ownBlock] at e; omega)⟩
            exact h2.set (by omega) _ _
          have hout6 : (w'.setCell ⟨w.heap.size + 1 + 1 + 1, 0, none⟩ (.slice (some ⟨sg, 0, none⟩) (tr.length + 1) scap)).heap[w.heap.size + 1 + 1 + 1]? = some (.cells #[.slice (some ⟨sg, 0, none⟩) (tr.length + 1) scap] 22 (0, 0)) := one_setCell hbv'
          have hsg3 : w.heap.size + 1 < sg ∧ sg ≠ w.heap.size + 3 := by
            have h1 := HO.out.2.2.1
            have h2 := HO.out.2.2.2.1
            have h3 := hxa.size
            have h4 := lt_of_block HO.out.1
            rcases hsg with e | e
            · omega
            · omega
          have hrow6 : Row (w'.setCell ⟨w.heap.size + 1 + 1 + 1, 0, none⟩ (.slice (some ⟨sg, 0, none⟩) (tr.length + 1) scap)) 3 1 (.slice (some ⟨sg, 0, none⟩) (tr.length + 1) scap) (tr.length + 1) (natVals tr ++ [.int .i64 c]) := hrow'.kept fun j o hj ho => by
            have hj' : sg = j := by simpa [Value.ownBlock] using hj
            have hne : j ≠ w.heap.size + 1 + 1 + 1 := by omega
            rw [Below.heap_setCell _ _ _ _ hne]; exact ho
          have HKF6 : Hid (KeepsFrom w1.heap.size W (w'.setCell ⟨w.heap.size + 1 + 1 + 1, 0, none⟩ (.slice (some ⟨sg, 0, none⟩) (tr.length + 1) scap))) := ((HKF.out _ _ hxa).trans ((KeepsOthers.of_grownBy hgr' fun j o hj ho => HRW.out.isCells hj ho).from _)).trans ((KeepsOthers.setCell _ _ _).from _)
          have hs6 : W.heap.size ≤ (w'.setCell ⟨w.heap.size + 1 + 1 + 1, 0, none⟩ (.slice (some ⟨sg, 0, none⟩) (tr.length + 1) scap)).heap.size := HKF6.out.size
          clear hbo hco hcv' hbv' hfv' hrow' hgr' how' HRW HNW HZ hxa hx5
          generalize w'.setCell ⟨w.heap.size + 1 + 1 + 1, 0, none⟩ (.slice (some ⟨sg, 0, none⟩) (tr.length + 1) scap) = w6 at *
          have hg3 := HO.out.2.2
          have hb6 : FirstBox w w6 b g1 g2 g3 H (w.heap.size + 3) n (tr ++ [c]) := by
            refine ⟨hbel6, hkeep _ _ (by omega) (by omega) hI.out.1.chart, hkeep _ _ (by omega) (by omega) hI.out.1.num, sg, scap, ?_, ?_, hsg3.1, hsg3.2, hsg3.2⟩
            · rw [List.length_append]; exact hout6
            · rw [List.length_append, natVals_append]; exact hrow6
          have hr6 : ∀ gg fs, gg < w.heap.size → RowsBlk W gg H fs → RowsBlk w6 gg H fs := fun gg fs hgg hR => by
            obtain ⟨o, ho⟩ : ∃ o, W.heap[gg]? = some o := ⟨W.heap[gg]'hR.lt, by simp [hR.lt]⟩
            exact hR.of_block (by rw [hkeep gg o (by omega) (by omega) ho, ho]) hs6
          have HR6 : Hid ((RowsBlk w6 g1 H (ownF D rs) ∧ RowsBlk w6 g2 H (upF D rs) ∧ RowsBlk w6 g3 H (fromF D rs))) := ⟨hr6 _ _ hgl.1 hI.out.2.2.2.1.1, hr6 _ _ hgl.2.1 hI.out.2.2.2.1.2.1, hr6 _ _ hgl.2.2 hI.out.2.2.2.1.2.2⟩
          have hh6 : w6.heap[wr.heap.size]? = some (.cells #[.int .i64 k] 3 (0, 0)) := hkeep _ _ (by omega) (by omega) hI.out.2.1
          have HM6 : Hid (Marks w.heap.size Ds w6) := ⟨hI.out.2.2.1.1, fun E hE => ⟨(hI.out.2.2.1.2 E hE).1, hkeep E _ (fun e => by
            have h1 := (hI.out.2.2.1.2 E hE).2
            rw [e] at h1
            have := HO.out.2.1.isCells rfl h1
            simp [Obj.isCells] at this) (fun e => by
            have h1 := (hI.out.2.2.1.2 E hE).2
            rw [e] at h1
            have h2 := HO.out.1
            rw [show w.heap.size + 1 + 1 + 1 = w.heap.size + 3 by omega, h1] at h2
            cases h2) (hI.out.2.2.1.2 E hE).2⟩⟩
          have HC6 := hid fun e : Later w6 => And.intro (cell_of (Ext.block e.grown hb6.chart)) (And.intro (cell_of (Ext.block e.grown hb6.num)) (And.intro (cell_of (Ext.block e.grown hh6)) (HOW.out e.val (HR6.out.1.mono e.grown))))
          have HB6 := hid hb6
          have HFA := hid (HFS.out.2 HPP.out)
          clear hb6 hr6 hh6 hkeep hbel6 hout6 hrow6 hg3 HFS HO HOW hI HSTAY hsg
          refine quiet_round 9 (by kernel_rfl) (by kernel_rfl) ?_
          simp only [List.take_succ_cons, List.take_zero, List.drop_succ_cons, List.drop_zero]
          have q1 := HC6.out
          repeat (any_goals (first | go_big_quiet_step (fail) | quiet_step (fail)))
          refine wpQuiet_nil ?_
          rintro w7 ⟨⟨_, hx7⟩, rfl⟩
          clear q1 HC6
          have hnm := Ext.block hx7 HB6.out.num
          have hcn := cell_of hnm
          have hfn := free_of hnm
          gi_wp2
          exact ⟨(HKF6.out.trans ⟨hx7.size, fun k o' _ ho _ => Ext.block hx7 ho⟩).trans ((KeepsOthers.setCell _ _ _).from _), rfl, c, by rw [HOC.out]; exact (HB6.out.ext hx7).setNum _, ⟨HM6.out.1, fun E hE => ⟨(HM6.out.2 E hE).1, by
            have h1 := Ext.block hx7 (HM6.out.2 E hE).2
            have hne : E ≠ w.heap.size + 1 := fun e => by rw [e, hnm] at h1; cases h1
            rw [Below.heap_setCell _ _ _ _ hne]; exact h1⟩⟩, ⟨(HR6.out.1.mono hx7).cellSet _ _ _ (by omega), (HR6.out.2.1.mono hx7).cellSet _ _ _ (by omega), (HR6.out.2.2.mono hx7).cellSet _ _ _ (by omega)⟩, HFA.out⟩
    case done =>
      rintro K W hK hI hKb
      have hno := hI.out.2.2.2.2
      rw [hol, List.take_length] at hno
      have hnx : firstTo D rs nv (k + 1) = (tr, n) := by
        show firstStep D rs k (firstTo D rs nv k) = _
        rw [HST.out]
        unfold firstStep
        simp only [hno]
      have HI2 : Hid (FirstBox w W b g1 g2 g3 H (w.heap.size + 3) (firstTo D rs nv (k + 1)).2 (firstTo D rs nv (k + 1)).1 ∧ Marks w.heap.size (K :: Ds) W ∧ (RowsBlk W g1 H (ownF D rs) ∧ RowsBlk W g2 H (upF D rs) ∧ RowsBlk W g3 H (fromF D rs))) := by
        rw [hnx]
        exact ⟨hI.out.1.any, ⟨List.nodup_cons.2 ⟨fun h => by have := HML.out K h; omega, hI.out.2.2.1.1⟩, fun E hE => by
          rcases List.mem_cons.1 hE with rfl | h
          · exact ⟨by omega, hKb⟩
          · exact hI.out.2.2.1.2 E h⟩, hI.out.2.2.2.1⟩
      clear hI hno hnx
      gi_wp2
      exact ⟨⟨k + 1, K :: Ds, _, _, _, _, _, _, _, rfl, by omega, HI2⟩, by simp [intOf]; omega⟩
    case stop =>
      rintro K i c W hK hi ⟨rfl, cell, hI⟩ hKb
      have hnx : firstTo D rs nv (k + 1) = (tr ++ [cell], n - ownF D rs k cell) := by
        show firstStep D rs k (firstTo D rs nv k) = _
        rw [HST.out]
        unfold firstStep
        simp only [hI.out.2.2.2]
      have HI2 : Hid (FirstBox w W b g1 g2 g3 H (w.heap.size + 3) (firstTo D rs nv (k + 1)).2 (firstTo D rs nv (k + 1)).1 ∧ Marks w.heap.size (K :: Ds) W ∧ (RowsBlk W g1 H (ownF D rs) ∧ RowsBlk W g2 H (upF D rs) ∧ RowsBlk W g3 H (fromF D rs))) := by
        rw [hnx]
        exact ⟨hI.out.1, ⟨List.nodup_cons.2 ⟨fun h => by have := HML.out K h; omega, hI.out.2.1.1⟩, fun E hE => by
          rcases List.mem_cons.1 hE with rfl | h
          · exact ⟨by omega, hKb⟩
          · exact hI.out.2.1.2 E h⟩, hI.out.2.2.1⟩
      clear hI hnx
      gi_wp2
      exact ⟨⟨k + 1, K :: Ds, _, _, _, _, _, _, _, rfl, by omega, HI2⟩, by simp [intOf]; omega⟩
  · obtain rfl : k = H := by omega
    have hkk : decide ((k : Int) < (k : Int)) = false := by simp
    obtain ⟨g, cap, ho1, ho2, ho3⟩ := hI.out.1.out
    have hco := cell_of ho1
    have HI := hid hI.out
    have HO2 := hid ho2
    clear hI ho1 ho2
    gi_wp2_with fail
    exact leave_marks (B := w.heap.size) (v := .slice (some ⟨g, 0, none⟩) (firstTo D rs nv k).1.length cap) (fun W => by simp [results, Try.results55, go_sem]) Ds wr HI.out.2.1 (fun W' hp => ⟨_, rfl, hp.past.below HI.out.1.below (Nat.le_refl _) (Nat.le_refl _), hp.row HO2.out⟩)
end Go.Proofs.Ytiklblbjnblkfaa
