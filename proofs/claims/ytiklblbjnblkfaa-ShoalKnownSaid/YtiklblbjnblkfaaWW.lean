/- The cells in which a shoal can be. -/
import Derived.Test.YtiklblbjnblkfaaWV
set_option linter.unusedSimpArgs false
set_option linter.unusedVariables false
namespace Go.Proofs.Ytiklblbjnblkfaa
open Go Go.RowKit Go.Shelf

def canIs (D : SeaD) (rs : List Rep) (wrong : Int) (h c : Nat) : Bool := decide (throughOf (ownF D rs) (upF D rs) (fromF D rs) h c ≤ wrong)
def canF (D : SeaD) (rs : List Rep) (wrong : Int) (h : Nat) : List Nat := (opens D.land (D.wide * D.high).toNat).filter (canIs D rs wrong h)
def natVals (l : List Nat) : List Value := l.map fun c : Nat => .int .i64 (c : Int)
theorem natVals_append (a b : List Nat) : natVals (a ++ b) = natVals a ++ natVals b := by unfold natVals; rw [List.map_append]

/-- The boxes of the function's own. -/
structure CanBox (w W : World) (b g1 g2 g3 N h nc : Nat) (wrong : Int) (xs : List Nat) : Prop where
  below : Ext w W
  wr : W.heap[w.heap.size]? = some (.cells #[.int .i64 wrong] 3 (0, 0))
  hr : W.heap[w.heap.size + 1]? = some (.cells #[.int .i64 h] 3 (0, 0))
  chart : W.heap[nc]? = some (.cells #[.pointer (some ⟨b, 0, none⟩), .slice (some ⟨g1, 0, none⟩) N N, .slice (some ⟨g2, 0, none⟩) N N, .slice (some ⟨g3, 0, none⟩) N N] 90 (0, 0))
  out : ∃ v, W.heap[nc + 1]? = some (.cells #[v] 22 (0, 0)) ∧ Row W 3 1 v xs.length (natVals xs) ∧ ∀ g, v.ownBlock = some g → nc + 1 < g
theorem CanBox.past {w W W' : World} {b g1 g2 g3 N h nc : Nat} {wrong : Int} {xs : List Nat} {B : Nat} (hB : CanBox w W b g1 g2 g3 N h nc wrong xs) (hp : PastC B W W') (hb : w.heap.size ≤ B) : CanBox w W' b g1 g2 g3 N h nc wrong xs := by
  obtain ⟨v, h1, h2, h3⟩ := hB.out
  exact ⟨hp.past.below hB.below hb (Nat.le_refl _), hp.block _ _ (.inr rfl) hB.wr, hp.block _ _ (.inr rfl) hB.hr, hp.block _ _ (.inr rfl) hB.chart, v, hp.block _ _ (.inr rfl) h1, hp.row h2, h3⟩
theorem CanBox.ext {w W W' : World} {b g1 g2 g3 N h nc : Nat} {wrong : Int} {xs : List Nat} (hB : CanBox w W b g1 g2 g3 N h nc wrong xs) (hx : Ext W W') : CanBox w W' b g1 g2 g3 N h nc wrong xs :=
  hB.past (PastC.of_ext (B := w.heap.size) hx) (Nat.le_refl _)

theorem Row.isSlice {w : World} {T : TypeId} {sz : Nat} {v : Value} {n : Nat} {xs : List Value} (h : Row w T sz v n xs) : ∃ a m c, v = .slice a m c := by
  rcases h.2 with ⟨rfl, _⟩ | ⟨g, cap, cur, rfl, _⟩
  · exact ⟨_, _, _, rfl⟩
  · exact ⟨_, _, _, rfl⟩
theorem Row.isCells {w : World} {T : TypeId} {sz : Nat} {v : Value} {n : Nat} {xs : List Value} (h : Row w T sz v n xs) {j : Nat} {o : Obj} (hj : v.ownBlock = some j) (ho : w.heap[j]? = some o) : o.isCells = true := by
  rcases h.2 with ⟨rfl, _⟩ | ⟨g, cap, cur, rfl, hg, _⟩
  · simp [Value.ownBlock] at hj
  · simp [Value.ownBlock] at hj; subst hj; rw [hg] at ho; cases ho; rfl
theorem RowsBlk.of_block {w w' : World} {g n : Nat} {fs : Nat → Nat → Int} (hR : RowsBlk w g n fs) (he : w'.heap[g]? = w.heap[g]?) (hs : w.heap.size ≤ w'.heap.size) : RowsBlk w' g n fs :=
  ⟨Nat.lt_of_lt_of_le hR.lt hs, fun h c hh hc => by rw [World.cell?_of_block (a := ⟨g, _, none⟩) he]; exact hR.cell h c hh hc, fun o => by rw [World.frozen?_of_block (a := ⟨g, o, none⟩) he]; exact hR.free o⟩
theorem RowsBlk.pastC {w w' : World} {g n B : Nat} {fs : Nat → Nat → Int} (hR : RowsBlk w g n fs) (hg : g < B) (hp : PastC B w w') : RowsBlk w' g n fs := by
  obtain ⟨o, ho⟩ : ∃ o, w.heap[g]? = some o := ⟨w.heap[g]'hR.lt, by simp [hR.lt]⟩
  have h' := hp.block g o (.inl hg) ho
  have he : w'.heap[g]? = w.heap[g]? := by rw [h', ho]
  exact ⟨Nat.lt_of_lt_of_le hR.lt hp.size, fun h c hh hc => by rw [World.cell?_of_block (a := ⟨g, _, none⟩) he]; exact hR.cell h c hh hc, fun o => by rw [World.frozen?_of_block (a := ⟨g, o, none⟩) he]; exact hR.free o⟩
/-- What has been found is put behind the rest. -/
theorem CanBox.app {w W W' : World} {b g1 g2 g3 N h nc : Nat} {wrong : Int} {xs : List Nat} (hB : CanBox w W b g1 g2 g3 N h nc wrong xs) {v v' : Value} {c : Nat} (hv : W.heap[nc + 1]? = some (.cells #[v] 22 (0, 0))) (ho : ∀ g, v.ownBlock = some g → nc + 1 < g)
    (hw : w.heap.size + 2 ≤ nc) (hr : Row W' 3 1 v' (xs.length + 1) (natVals xs ++ [.int .i64 (c : Int)])) (hg : W.grownBy W' v.ownBlock) (how : v'.ownBlock = v.ownBlock ∨ v'.ownBlock = some W.heap.size) :
    CanBox w (W'.setCell ⟨nc + 1, 0, none⟩ v') b g1 g2 g3 N h nc wrong (xs ++ [c]) := by
  have hlt := lt_of_block hv
  have keep : ∀ k o, k ≤ nc + 1 → W.heap[k]? = some o → W'.heap[k]? = some o := fun k o hk hko => grownBy_block hg hko (fun e => by have := ho k e.symm; omega)
  have keep2 : ∀ k o, k ≠ nc + 1 → W'.heap[k]? = some o → (W'.setCell ⟨nc + 1, 0, none⟩ v').heap[k]? = some o := fun k o hk hko => by rw [Below.heap_setCell _ _ _ _ hk]; exact hko
  have hbel : Ext w W' := Below.trans hB.below ⟨hg.os, hg.tape, hg.output, hg.size, fun k hk => hg.block k (by have := hB.below.size; omega) (fun e => by have := ho k e.symm; omega)⟩
  refine ⟨hbel.set (by omega) _ _, keep2 _ _ (by omega) (keep _ _ (by omega) hB.wr), keep2 _ _ (by omega) (keep _ _ (by omega) hB.hr), keep2 _ _ (by omega) (keep _ _ (by omega) hB.chart), v', one_setCell (keep _ _ (by omega) hv), ?_, ?_⟩
  · rw [List.length_append, natVals_append]
    refine Row.kept hr fun k o hk hko => keep2 _ _ ?_ hko
    rcases how with e | e
    · have := ho k (by rw [← e]; exact hk); omega
    · rw [hk] at e; cases e; omega
  · intro g hgv
    rcases how with e | e
    · exact ho g (by rw [← e]; exact hgv)
    · rw [hgv] at e; cases e; omega
set_option maxRecDepth 100000 in
set_option maxHeartbeats 1000000 in
theorem can_any (b H h : Nat) (D : SeaD) (S : SeaV) (rs : List Rep) (wrong : Int) (w : World) (hF : SeaFull w b S D rs) (hb : seaB D = true) (hH : D.hours = H) (hr : ∀ r ∈ rs, 0 ≤ r.cell ∧ r.cell ≤ 1000) (h24 : rs.length ≤ 24) (hh : h < H) :
    Cal 62 #[.pointer (some ⟨b, 0, none⟩), .int .i64 wrong, .int .i64 h] w fun e w' => ∃ v, e = .returned v ∧ Ext w w' ∧ Hid (Row w' 3 1 v (canF D rs wrong h).length (natVals (canF D rs wrong h))) ∧ ∀ g, v.ownBlock = some g → w.heap.size ≤ g := by
  refine callsIn_of_wp_marks Try.func62 rfl trivial ?_
  simp only [Try.ntmps62, List.size_toArray, List.length_cons, List.length_nil, Nat.reduceAdd, Nat.reduceSub, Array.replicate_succ, Array.replicate_zero, List.push_toArray, List.append_toArray, List.nil_append, List.cons_append]
  have hN : H ≤ 100 := by have := hF.ok.hours; rw [hF.hours, hH] at this; omega
  have hx1 : Ext w ((w.alloc (.cells #[.int .i64 wrong] 3)).alloc (.cells #[.int .i64 h] 3)) := ((Ext.refl w).alloc _).alloc _
  have hb1 : ((w.alloc (.cells #[.int .i64 wrong] 3)).alloc (.cells #[.int .i64 h] 3)).heap[w.heap.size]? = some (.cells #[.int .i64 wrong] 3 (0, 0)) := two_new
  have hb2 : ((w.alloc (.cells #[.int .i64 wrong] 3)).alloc (.cells #[.int .i64 h] 3)).heap[w.heap.size + 1]? = some (.cells #[.int .i64 h] 3 (0, 0)) := by
    have := Ext.new (w := w.alloc (.cells #[.int .i64 wrong] 3)) (o := .cells #[.int .i64 h] 3) (Ext.refl _)
    simpa using this
  have HCT := hid (chart_any b H D S rs _ (hF.mono hx1) hb hH hr h24)
  have HF := hid hF
  have HX1 := hid hx1
  have HB1 := hid hb1
  have HB2 := hid hb2
  clear hF hr hx1 hb1 hb2
  gi_wp2_with (gi_at_call 56; ((with_reducible refine HCT.out.mono ?_); rintro e w2 ⟨g1, g2, g3, rfl, hx2, hrows⟩; unfold chartVal))
  have hsz2 := hx2.size
  have hsz : w.heap.size + 2 ≤ w2.heap.size := by simpa using hsz2
  have hB0 : CanBox w ((w2.alloc (.cells #[.pointer (some ⟨b, 0, none⟩), .slice (some ⟨g1, 0, none⟩) H H, .slice (some ⟨g2, 0, none⟩) H H, .slice (some ⟨g3, 0, none⟩) H H] 90)).alloc (.cells #[.slice none 0 0] 22)) b g1 g2 g3 H h w2.heap.size wrong [] := by
    have hxa : Ext w2 ((w2.alloc (.cells #[.pointer (some ⟨b, 0, none⟩), .slice (some ⟨g1, 0, none⟩) H H, .slice (some ⟨g2, 0, none⟩) H H, .slice (some ⟨g3, 0, none⟩) H H] 90)).alloc (.cells #[.slice none 0 0] 22)) := ((Ext.refl w2).alloc _).alloc _
    refine ⟨HX1.out.trans (hx2.trans hxa), (hx2.trans hxa).block HB1.out, (hx2.trans hxa).block HB2.out, two_new, .slice none 0 0, ?_, Row.nil _ _ _, fun g hg => by simp [Value.ownBlock] at hg⟩
    have := Ext.new (w := w2.alloc (.cells #[.pointer (some ⟨b, 0, none⟩), .slice (some ⟨g1, 0, none⟩) H H, .slice (some ⟨g2, 0, none⟩) H H, .slice (some ⟨g3, 0, none⟩) H H] 90)) (o := .cells #[.slice none 0 0] 22) (Ext.refl _)
    simpa using this
  have hx0 : Ext w2 ((w2.alloc (.cells #[.pointer (some ⟨b, 0, none⟩), .slice (some ⟨g1, 0, none⟩) H H, .slice (some ⟨g2, 0, none⟩) H H, .slice (some ⟨g3, 0, none⟩) H H] 90)).alloc (.cells #[.slice none 0 0] 22)) := ((Ext.refl w2).alloc _).alloc _
  have hs0 : w2.heap.size + 2 = ((w2.alloc (.cells #[.pointer (some ⟨b, 0, none⟩), .slice (some ⟨g1, 0, none⟩) H H, .slice (some ⟨g2, 0, none⟩) H H, .slice (some ⟨g3, 0, none⟩) H H] 90)).alloc (.cells #[.slice none 0 0] 22)).heap.size := by simp
  have HB0 := hid hB0
  have HROWS : Hid (∀ W, Ext w2 W → RowsBlk W g1 H (ownF D rs) ∧ RowsBlk W g2 H (upF D rs) ∧ RowsBlk W g3 H (fromF D rs)) := fun W hx => ⟨hrows.out.1.mono hx, hrows.out.2.1.mono hx, hrows.out.2.2.mono hx⟩
  clear hB0 HCT HX1 HB1 HB2 hrows hsz2
  have HX2 := hid hx2
  clear hx2
  have HX0 := hid hx0
  clear hx0
  generalize (w2.alloc (.cells #[.pointer (some ⟨b, 0, none⟩), .slice (some ⟨g1, 0, none⟩) H H, .slice (some ⟨g2, 0, none⟩) H H, .slice (some ⟨g3, 0, none⟩) H H] 90)).alloc (.cells #[.slice none 0 0] 22) = w0 at *
  have hgl : g1 < w2.heap.size ∧ g2 < w2.heap.size ∧ g3 < w2.heap.size := ⟨(HROWS.out _ (Ext.refl _)).1.lt, (HROWS.out _ (Ext.refl _)).2.1.lt, (HROWS.out _ (Ext.refl _)).2.2.lt⟩
  have hol : (openElems S D.land).length = (opens D.land (D.wide * D.high).toNat).length := by unfold openElems; rw [List.length_map, HF.out.wide, HF.out.high]
  refine range_plain rfl (enters_of Try.func76 (by kernel_rfl) rfl) (open_iter b S HF.out.ok D.land)
    (fun i W => CanBox w W b g1 g2 g3 H h w2.heap.size wrong (((opens D.land (D.wide * D.high).toNat).take i).filter (canIs D rs wrong h)) ∧ Hid (RowsBlk W g1 H (ownF D rs) ∧ RowsBlk W g2 H (upF D rs) ∧ RowsBlk W g3 H (fromF D rs)))
    (fun c i W => False)
    (fun i W W' hI hp => ⟨hI.1.past hp (by omega), hI.2.out.1.pastC (by omega) hp, hI.2.out.2.1.pastC (by omega) hp, hI.2.out.2.2.pastC (by omega) hp⟩) (fun c i W W' hI hp => hI.elim)
    (fun i W hI => ⟨HF.out.at_.mono hI.1.below, HF.out.land.mono hI.1.below⟩) (fun i h => by simp [openElems, cellElem]) ⟨HB0.out, HROWS.out _ HX0.out⟩
    (fun i => { tmps := #[.pointer (some ⟨b, 0, none⟩), .int .i64 wrong, .int .i64 h, undef, .pointer (some ⟨w.heap.size, 0, none⟩), .pointer (some ⟨w.heap.size + 1, 0, none⟩), .slice none 0 0, .pointer (some ⟨w2.heap.size, 0, none⟩), .pointer (some ⟨w2.heap.size + 1, 0, none⟩), .int .i64 ((opens D.land (S.wide * S.high).toNat).getD i 0 : Nat), .pointer (some ⟨b, 0, none⟩),
      .agg #[.pointer (some ⟨b, 0, none⟩), .slice (some ⟨g1, 0, none⟩) H H, .slice (some ⟨g2, 0, none⟩) H H, .slice (some ⟨g3, 0, none⟩) H H], .pointer (some ⟨w2.heap.size, 0, none⟩), .pointer (some ⟨b, 0, none⟩), .func (.func 76) #[.pointer (some ⟨b, 0, none⟩)] #[], .int .i64 ((opens D.land (S.wide * S.high).toNat).getD i 0 : Nat), .agg #[.int .i64 (col S ((opens D.land (S.wide * S.high).toNat).getD i 0 : Nat)), .int .i64 (row S ((opens D.land (S.wide * S.high).toNat).getD i 0 : Nat))], undef, undef, undef, undef, undef, undef, undef, undef, undef, undef, undef], defers := [] })
    ?assign ?body ?done ?stop
  case assign =>
    intro l i h' W K' hK
    have he : (openElems S D.land)[i] = #[.int .i64 ((opens D.land (S.wide * S.high).toNat).getD i 0 : Nat), .agg #[.int .i64 (col S ((opens D.land (S.wide * S.high).toNat).getD i 0 : Nat)), .int .i64 (row S ((opens D.land (S.wide * S.high).toNat).getD i 0 : Nat))]] := by
      have h2 : i < (opens D.land (S.wide * S.high).toNat).length := by simpa [openElems] using h'
      simp only [openElems, List.getElem_map, getD_of h2]; rfl
    rw [he]
    generalize (opens D.land (S.wide * S.high).toNat).getD i 0 = p at *
    clear he HB0 hol
    gi_wp2
    exact hK
  case body =>
    rintro l i W hi hl hr' ⟨hI, hrw⟩
    have hi' : i < (opens D.land (D.wide * D.high).toNat).length := by rw [← hol]; exact hi
    have hmem : (opens D.land (D.wide * D.high).toNat)[i] < 80 := by
      have := opens_lt (List.getElem_mem hi')
      have hm := (mul_bounds HF.out.ok.wide HF.out.ok.high).2
      rw [HF.out.wide, HF.out.high] at hm
      omega
    have hsnoc : ((opens D.land (D.wide * D.high).toNat).take (i + 1)).filter (canIs D rs wrong h) = ((opens D.land (D.wide * D.high).toNat).take i).filter (canIs D rs wrong h) ++ (if canIs D rs wrong h (opens D.land (D.wide * D.high).toNat)[i] then [(opens D.land (D.wide * D.high).toNat)[i]] else []) := by
      rw [List.take_succ_eq_append_getElem hi', List.filter_append]
      congr 1
      cases hc : canIs D rs wrong h (opens D.land (D.wide * D.high).toNat)[i] <;> simp [hc]
    have hlen : (((opens D.land (D.wide * D.high).toNat).take i).filter (canIs D rs wrong h)).length ≤ i := Nat.le_trans (List.length_filter_le _ _) (List.length_take_le _ _)
    have hi80 : i < 80 := by
      have h1 : (opens D.land (D.wide * D.high).toNat).length ≤ (D.wide * D.high).toNat := by
        unfold opens; exact Nat.le_trans (List.length_filter_le _ _) (by simp)
      have h2 := seaB_80 hb
      omega
    rw [HF.out.wide, HF.out.high]
    rw [getD_of hi']
    have HST := hid hsnoc
    clear hsnoc
    generalize hcd : (opens D.land (D.wide * D.high).toNat)[i] = c at *
    generalize hfl : ((opens D.land (D.wide * D.high).toNat).take i).filter (canIs D rs wrong h) = xs at *
    have HTH := hid fun e : Later W => through_any b g1 g2 g3 H (ownF D rs) (upF D rs) (fromF D rs) e.val (hrw.out.1.mono e.grown) (hrw.out.2.1.mono e.grown) (hrw.out.2.2.mono e.grown) h c hh hmem hN (ownF_bounds D h24 _ _) (upF_bounds D h24 _ _) (fromF_bounds D h24 _ _)
    unfold chartVal at HTH
    have HC := hid fun e : Later W => And.intro (cell_of (Ext.block e.grown hI.wr)) (And.intro (cell_of (Ext.block e.grown hI.hr)) (cell_of (Ext.block e.grown hI.chart)))
    have HCI : Hid (canIs D rs wrong h c = decide (throughOf (ownF D rs) (upF D rs) (fromF D rs) h c ≤ wrong)) := rfl
    have HI := hid hI
    have HFL := hid hfl
    obtain ⟨v, hv1, hv2, hv3⟩ := hI.out
    have HV := hid (And.intro hv1 (And.intro hv2 hv3))
    clear hI hr' hol HB0 hfl hcd hv1 hv2 hv3 HROWS
    generalize throughOf (ownF D rs) (upF D rs) (fromF D rs) h c = tt at *
    have HKF : Hid (∀ (B : Nat) (w5 : World), Ext W w5 → KeepsFrom B W w5) := fun B w5 hx => ⟨hx.size, fun k o' _ ho _ => Ext.block hx ho⟩
    cases htt : decide (tt ≤ wrong) with
    | false =>
      rw [htt] at HCI
      gi_wp2_with fail
      refine quiet_round 6 (by kernel_rfl) (by kernel_rfl) ?_
      simp only [List.take_succ_cons, List.take_zero, List.drop_succ_cons, List.drop_zero]
      have h1 := HC.out
      repeat (any_goals (first | go_big_quiet_step ((go_at_call 89; with_reducible exact Cal.quiet (HTH.out _))) | quiet_step ((go_at_call 89; with_reducible exact Cal.quiet (HTH.out _)))))
      refine wpQuiet_nil ?_
      rintro w5 ⟨⟨_, hx5⟩, rfl⟩
      clear h1 HC HTH
      gi_wp2
      exact ⟨HKF.out _ _ hx5, by rw [HST.out, HCI.out]; simpa using HI.out.ext hx5, hrw.out.1.mono hx5, hrw.out.2.1.mono hx5, hrw.out.2.2.mono hx5⟩
    | true =>
      rw [htt] at HCI
      gi_wp2_with fail
      refine quiet_round 6 (by kernel_rfl) (by kernel_rfl) ?_
      simp only [List.take_succ_cons, List.take_zero, List.drop_succ_cons, List.drop_zero]
      have h1 := HC.out
      repeat (any_goals (first | go_big_quiet_step ((go_at_call 89; with_reducible exact Cal.quiet (HTH.out _))) | quiet_step ((go_at_call 89; with_reducible exact Cal.quiet (HTH.out _)))))
      refine wpQuiet_nil ?_
      rintro w5 ⟨⟨_, hx5⟩, rfl⟩
      clear h1 HC HTH
      have hbv := Ext.block hx5 HV.out.1
      have hcv := cell_of hbv
      have hcv2 := cell_of (Ext.block ((Ext.refl w5).alloc (.cells #[.int .i64 c] 3)) hbv)
      obtain ⟨i0, hi0, hz0, hz1, hz2⟩ := info_parts info3
      have HZ := hid (And.intro hi0 (And.intro hz0 (And.intro hz1 hz2)))
      clear hi0 hz0 hz1 hz2
      have HRW := hid ((HV.out.2.1.mono hx5).mono ((Ext.refl w5).alloc (.cells #[.int .i64 c] 3)))
      have HNW : Hid (∀ j u, [Value.int .i64 c][j]? = some u → (w5.alloc (.cells #[.int .i64 c] 3)).cell? ((⟨w5.heap.size, 0, none⟩ : Addr).add j) = some u) := fun j u hj => by rw [Addr.add_mid, Nat.zero_add, new_cell _ _ rfl]; simpa using hj
      have hmax : xs.length + 1 ≤ 1000000000 := by omega
      gi_wp2_with (refine wpIn_append_row (fun _ => trivial) rfl (.tmp 23) (.tmp 25) rfl Try.underlying22 HZ.out.1 HZ.out.2.1 HZ.out.2.2.1 HZ.out.2.2.2 (by simp [Value.cells]) (by omega) (v := v) rfl HRW.out ⟨w5.heap.size, 0, none⟩ 1 rfl [.int .i64 c] rfl HNW.out (fun u hu => by simp at hu; subst hu; rfl) hmax (by omega) ?_; intro v' w' hrow' hgr' how'; obtain ⟨sa, sn, sc, rfl⟩ := hrow'.isSlice; have hbv' := grownBy_block hgr' (Ext.block ((Ext.refl w5).alloc (.cells #[.int .i64 c] 3)) hbv) (fun e => by have := HV.out.2.2 _ e.symm; omega); have hcv' := cell_of hbv'; have hfv' := free_of hbv')
      have hxa : Ext W (w5.alloc (.cells #[.int .i64 c] 3)) := Ext.alloc hx5 _
      have hap := (HI.out.ext hxa).app (Ext.block hxa HV.out.1) HV.out.2.2 (by omega) hrow' hgr' how'
      refine ⟨((HKF.out _ _ hxa).trans ((KeepsOthers.of_grownBy hgr' fun j o hj ho => ?_).from _)).trans ((KeepsOthers.setCell _ _ _).from _), by rw [HST.out, HCI.out]; exact hap, ?_⟩
      · exact HRW.out.isCells hj ho
      · have key : ∀ g (fs : Nat → Nat → Int), g < w2.heap.size → RowsBlk W g H fs → RowsBlk (w'.setCell ⟨w2.heap.size + 1, 0, none⟩ (.slice sa sn sc)) g H fs := fun g fs hg hR =>
          ((hR.mono hxa).of_block (hgr'.block g (Nat.lt_of_lt_of_le hR.lt hxa.size) (fun e => by have := HV.out.2.2 g e.symm; omega)) hgr'.size).cellSet _ _ _ (by omega)
        exact ⟨key _ _ hgl.1 hrw.out.1, key _ _ hgl.2.1 hrw.out.2.1, key _ _ hgl.2.2 hrw.out.2.2⟩
  case done =>
    rintro K W hK ⟨hI, hrw⟩ hKb
    rw [hol, List.take_length] at hI
    obtain ⟨v, hv1, hv2, hv3⟩ := hI.out
    have hcv := cell_of hv1
    have hbel := hI.below
    have HV2 := hid hv2
    clear hI hrw hv2
    gi_wp2
    refine leave_mark hKb (v := v) (by simp [results, Try.results61, go_sem]) ⟨_, rfl, below_put hbel (by omega) _, ?_, fun g hg => by have := hv3 g hg; omega⟩
    exact HV2.out.kept fun k o hk ho => by
      have hne : k ≠ K := by
        rintro rfl
        rw [hKb] at ho
        have := HV2.out.isCells hk hKb
        simp [Obj.isCells] at this
      rw [World.putObj_heap_other hne]; exact ho
  case stop =>
    rintro K i c W hK hi hf hKb
    exact hf.elim
end Go.Proofs.Ytiklblbjnblkfaa
