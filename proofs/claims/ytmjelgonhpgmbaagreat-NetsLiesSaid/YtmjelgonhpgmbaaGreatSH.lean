/- The reference: how long, near, foul; spans times a number, and together. -/
import Derived.Test.YtmjelgonhpgmbaaGreatSE
import Derived.Test.YtmjelgonhpgmbaaGreatME
set_option linter.unusedSimpArgs false
set_option linter.unusedVariables false
namespace Go.Proofs.YtmjelgonhpgmbaaGreat
open Go Go.RowKit Go.Shelf

set_option maxHeartbeats 4000000 in
theorem long_z (n : NetD) (ha : n.along = 0 ∨ n.along = 1) (w : World) : Cal 70 #[.agg #[.int .i64 n.east, .int .i64 n.north, .int .i64 n.long, .int .i64 n.along, .int .i64 n.shot, .int .i64 n.haul, .int .i64 n.se.lo, .int .i64 n.se.hi, .int .i64 n.sn.lo, .int .i64 n.sn.hi]] w fun e w' => e = .returned (.tuple #[.int .i64 (long_eF n), .int .i64 (long_nF n)]) ∧ Ext w w' := by
  have hx : Ext w (w.alloc (.cells #[.int .i64 n.east, .int .i64 n.north, .int .i64 n.long, .int .i64 n.along, .int .i64 n.shot, .int .i64 n.haul, .int .i64 n.se.lo, .int .i64 n.se.hi, .int .i64 n.sn.lo, .int .i64 n.sn.hi] 63)) := (Ext.refl _).alloc _
  obtain ⟨ne, nn, nl, na, ns, nh, nse, nsn⟩ := n
  simp only at *
  gi_enter Tryz.func70, Tryz.ntmps70
  rcases ha with rfl | rfl
  · have HG : Hid (long_eF ⟨ne, nn, nl, 0, ns, nh, nse, nsn⟩ = nl ∧ long_nF ⟨ne, nn, nl, 0, ns, nh, nse, nsn⟩ = 0) := ⟨rfl, rfl⟩
    gi_wp2
    refine bodyPost_ret (v := .tuple #[.int .i64 nl, .int .i64 0]) (by simp [results, Tryz.results70, go_sem]) rfl ⟨by rw [HG.out.1, HG.out.2], hx⟩
  · have HG : Hid (long_eF ⟨ne, nn, nl, 1, ns, nh, nse, nsn⟩ = 0 ∧ long_nF ⟨ne, nn, nl, 1, ns, nh, nse, nsn⟩ = nl) := ⟨rfl, rfl⟩
    gi_upto_region 3 with fail
    have hb : (w.alloc (.cells #[.int .i64 ne, .int .i64 nn, .int .i64 nl, .int .i64 1, .int .i64 ns, .int .i64 nh, .int .i64 nse.lo, .int .i64 nse.hi, .int .i64 nsn.lo, .int .i64 nsn.hi] 63)).heap[w.heap.size]? = some (.cells #[.int .i64 ne, .int .i64 nn, .int .i64 nl, .int .i64 1, .int .i64 ns, .int .i64 nh, .int .i64 nse.lo, .int .i64 nse.hi, .int .i64 nsn.lo, .int .i64 nsn.hi] 63 (0, 0)) := Ext.new (Ext.refl _)
    generalize w.alloc (.cells #[.int .i64 ne, .int .i64 nn, .int .i64 nl, .int .i64 1, .int .i64 ns, .int .i64 nh, .int .i64 nse.lo, .int .i64 nse.hi, .int .i64 nsn.lo, .int .i64 nsn.hi] 63) = W at *
    refine quiet_wide 4 (by kernel_rfl) (by kernel_rfl) ?_
    simp only [List.take_succ_cons, List.take_zero, List.drop_succ_cons, List.drop_zero]
    have q0 := fun e : Later W => cell_of (Ext.block e.grown hb)
    repeat (any_goals (first | go_big_quiet_step ((fail)) | quiet_step ((fail))))
    refine wpQuiet_nil ?_
    rintro w5 ⟨⟨w5q, hx5⟩, hew5⟩
    obtain rfl : w5 = w5q := hew5
    have hx5 : Ext W w5 := hx5
    clear q0
    gi_wp2_with fail
    refine bodyPost_ret (v := .tuple #[.int .i64 0, .int .i64 nl]) (by simp [results, Tryz.results70, go_sem]) rfl ⟨by rw [HG.out.1, HG.out.2], hx.trans hx5⟩
def nearB (s : Spn) (own other gap : Int) : Bool := decide (s.lo ≤ other + gap) && decide (-own - gap ≤ s.hi)
theorem near_z (a b own other gap : Int) (ho : 0 ≤ own ∧ own ≤ 2000) (hp : 0 ≤ other ∧ other ≤ 2000) (hg : 0 ≤ gap ∧ gap ≤ 500) (w : World) : Cal 71 #[.agg #[.int .i64 a, .int .i64 b], .int .i64 own, .int .i64 other, .int .i64 gap] w fun e w' => e = .returned (.bool (nearB ⟨a, b⟩ own other gap)) ∧ Ext w w' := by
  have hx : Ext w (w.alloc (.cells #[.int .i64 a, .int .i64 b] 44)) := (Ext.refl _).alloc _
  have w1 : wrap64 (other + gap) = other + gap := by unfold wrap64; omega
  have w2 : wrap64 (-own) = -own := by unfold wrap64; omega
  have w3 : wrap64 (-own - gap) = -own - gap := by unfold wrap64; omega
  gi_enter Tryz.func71, Tryz.ntmps71
  by_cases h1 : a ≤ other + gap
  · have HG : Hid (nearB ⟨a, b⟩ own other gap = decide (-own - gap ≤ b)) := by show nearB _ _ _ _ = _; unfold nearB; simp [h1]
    gi_wp2
    go_ret
    exact ⟨by rw [HG.out]; first | done | rfl, hx⟩
  · have HG : Hid (nearB ⟨a, b⟩ own other gap = false) := by show nearB _ _ _ _ = _; unfold nearB; simp [h1]
    gi_wp2
    go_ret
    exact ⟨by rw [HG.out]; first | done | rfl, hx⟩
theorem put2 {w W : World} {g : Nat} {T : TypeId} {a b : Value} (hb : W.heap[g]? = some (.cells #[a, b] T (0, 0))) (hx : Ext w W) (hg : w.heap.size ≤ g) (x y : Value) :
    Ext w ((W.setCell ⟨g, 0, none⟩ x).setCell ⟨g, 1, none⟩ y) ∧ ((W.setCell ⟨g, 0, none⟩ x).setCell ⟨g, 1, none⟩ y).heap[g]? = some (.cells #[x, y] T (0, 0)) ∧
    ∀ j o, j ≠ g → W.heap[j]? = some o → ((W.setCell ⟨g, 0, none⟩ x).setCell ⟨g, 1, none⟩ y).heap[j]? = some o := by
  have h1 := set_same hb 0 x
  have h2 := set_same h1 1 y
  exact ⟨Ext.set (Ext.set hx hg 0 x) hg 1 y, h2, fun j o hj ho => by rw [set_other hj, set_other hj]; exact ho⟩
def tmSp (n : Int) (s : Spn) : Spn := if n < 0 then ⟨s.hi * n, s.lo * n⟩ else ⟨s.lo * n, s.hi * n⟩
theorem mul_in {a n : Int} (ha : -1000 ≤ a ∧ a ≤ 1000) (hn : -100 ≤ n ∧ n ≤ 100) : -100000 ≤ a * n ∧ a * n ≤ 100000 := by
  have h1 : a * n ≤ 100000 ∧ -100000 ≤ a * n := by
    rcases Int.le_total 0 n with h | h
    · have a1 := Int.mul_le_mul_of_nonneg_right ha.2 h
      have a2 := Int.mul_le_mul_of_nonneg_right ha.1 h
      omega
    · have a1 := Int.mul_le_mul_of_nonneg_right ha.2 (show (0 : Int) ≤ -n by omega)
      have a2 := Int.mul_le_mul_of_nonneg_right ha.1 (show (0 : Int) ≤ -n by omega)
      rw [Int.mul_neg, Int.mul_neg] at a1 a2
      omega
  omega
set_option maxHeartbeats 4000000 in
theorem times_z (a b n : Int) (hn : -100 ≤ n ∧ n ≤ 100) (hs : spIn 1000 ⟨a, b⟩) (w : World) : Cal 98 #[.agg #[.int .i64 a, .int .i64 b], .int .i64 n] w fun e w' => e = .returned (.agg #[.int .i64 (tmSp n ⟨a, b⟩).lo, .int .i64 (tmSp n ⟨a, b⟩).hi]) ∧ Ext w w' := by
  have m1 := mul_in hs.1 hn
  have m2 := mul_in hs.2 hn
  simp only at m1 m2
  have w1 : wrap64 (a * n) = a * n := by unfold wrap64; omega
  have w2 : wrap64 (b * n) = b * n := by unfold wrap64; omega
  clear m1 m2 hs
  gi_enter Tryz.func98, Tryz.ntmps98
  gi_upto_region 1 with fail
  have hW : Ext w ((w.alloc (.cells #[.int .i64 a, .int .i64 b] 44)).alloc (.cells #[.int .i64 0, .int .i64 0] 44)) := ((Ext.refl _).alloc _).alloc _
  have hB0 : ((w.alloc (.cells #[.int .i64 a, .int .i64 b] 44)).alloc (.cells #[.int .i64 0, .int .i64 0] 44)).heap[w.heap.size]? = some (.cells #[.int .i64 a, .int .i64 b] 44 (0, 0)) := two_new
  have hB1 : ((w.alloc (.cells #[.int .i64 a, .int .i64 b] 44)).alloc (.cells #[.int .i64 0, .int .i64 0] 44)).heap[w.heap.size + 1]? = some (.cells #[.int .i64 0, .int .i64 0] 44 (0, 0)) := by have := Ext.new (w := (w.alloc (.cells #[.int .i64 a, .int .i64 b] 44))) (o := .cells #[.int .i64 0, .int .i64 0] 44) (Ext.refl _); rwa [World.size_alloc] at this
  generalize ((w.alloc (.cells #[.int .i64 a, .int .i64 b] 44)).alloc (.cells #[.int .i64 0, .int .i64 0] 44)) = W at *
  have HX := hid hW
  have HB0 := hid hB0
  have HB1 := hid hB1
  have c0 := cell_of hB0
  have c1 := cell_of hB1
  clear hW hB0 hB1
  have f1 := free_of HB1.out
  by_cases h : n < 0
  · have HG : Hid (tmSp n ⟨a, b⟩ = ⟨b * n, a * n⟩) := if_pos h
    have P := hid (put2 HB1.out HX.out (by omega) (.int .i64 (b * n)) (.int .i64 (a * n)))
    gi_wp2
    have cB := cell_of P.out.2.1
    refine bodyPost_ret (v := .agg #[.int .i64 (b * n), .int .i64 (a * n)]) (by simp [results, Tryz.results98, go_sem, cB]) rfl ⟨by rw [HG.out], P.out.1⟩
  · have HG : Hid (tmSp n ⟨a, b⟩ = ⟨a * n, b * n⟩) := if_neg h
    have P := hid (put2 HB1.out HX.out (by omega) (.int .i64 (a * n)) (.int .i64 (b * n)))
    gi_wp2
    have cB := cell_of P.out.2.1
    refine bodyPost_ret (v := .agg #[.int .i64 (a * n), .int .i64 (b * n)]) (by simp [results, Tryz.results98, go_sem, cB]) rfl ⟨by rw [HG.out], P.out.1⟩
set_option maxHeartbeats 4000000 in
theorem plus_z (a b c d : Int) (h1 : spIn 1000000000 ⟨a, b⟩) (h2 : spIn 1000000000 ⟨c, d⟩) (w : World) : Cal 97 #[.agg #[.int .i64 a, .int .i64 b], .agg #[.int .i64 c, .int .i64 d]] w fun e w' => e = .returned (.agg #[.int .i64 (a + c), .int .i64 (b + d)]) ∧ Ext w w' := by
  unfold spIn at h1 h2
  simp only at h1 h2
  have w1 : wrap64 (a + c) = a + c := by unfold wrap64; omega
  have w2 : wrap64 (b + d) = b + d := by unfold wrap64; omega
  clear h1 h2
  gi_enter Tryz.func97, Tryz.ntmps97
  gi_upto_region 1 with fail
  have hW : Ext w (((w.alloc (.cells #[.int .i64 a, .int .i64 b] 44)).alloc (.cells #[.int .i64 c, .int .i64 d] 44)).alloc (.cells #[.int .i64 0, .int .i64 0] 44)) := (((Ext.refl _).alloc _).alloc _).alloc _
  have hB0 : (((w.alloc (.cells #[.int .i64 a, .int .i64 b] 44)).alloc (.cells #[.int .i64 c, .int .i64 d] 44)).alloc (.cells #[.int .i64 0, .int .i64 0] 44)).heap[w.heap.size]? = some (.cells #[.int .i64 a, .int .i64 b] 44 (0, 0)) := three_new
  have hB1 : (((w.alloc (.cells #[.int .i64 a, .int .i64 b] 44)).alloc (.cells #[.int .i64 c, .int .i64 d] 44)).alloc (.cells #[.int .i64 0, .int .i64 0] 44)).heap[w.heap.size + 1]? = some (.cells #[.int .i64 c, .int .i64 d] 44 (0, 0)) := three_mid
  have hB2 : (((w.alloc (.cells #[.int .i64 a, .int .i64 b] 44)).alloc (.cells #[.int .i64 c, .int .i64 d] 44)).alloc (.cells #[.int .i64 0, .int .i64 0] 44)).heap[w.heap.size + 2]? = some (.cells #[.int .i64 0, .int .i64 0] 44 (0, 0)) := three_top
  generalize (((w.alloc (.cells #[.int .i64 a, .int .i64 b] 44)).alloc (.cells #[.int .i64 c, .int .i64 d] 44)).alloc (.cells #[.int .i64 0, .int .i64 0] 44)) = W at *
  have HX := hid hW
  have HB0 := hid hB0
  have HB1 := hid hB1
  have HB2 := hid hB2
  have c0 := cell_of hB0
  have c1 := cell_of hB1
  have c2 := cell_of hB2
  clear hW hB0 hB1 hB2
  have f2 := free_of HB2.out
  have P := hid (put2 HB2.out HX.out (by omega) (.int .i64 (a + c)) (.int .i64 (b + d)))
  gi_wp2
  have cB := cell_of P.out.2.1
  refine bodyPost_ret (v := .agg #[.int .i64 (a + c), .int .i64 (b + d)]) (by simp [results, Tryz.results97, go_sem, cB]) rfl ⟨rfl, P.out.1⟩
set_option maxRecDepth 100000 in
set_option maxHeartbeats 4000000 in
theorem foul_z (F : FleetD) (hg : 0 ≤ F.gap ∧ F.gap ≤ 500) (ev nv sv : Value) (i k : Nat) (hi : i < F.nets.length) (hk : k < F.nets.length) (ha : 0 ≤ F.nets[i].long ∧ F.nets[i].long ≤ 2000) (ha2 : F.nets[i].along = 0 ∨ F.nets[i].along = 1) (hb : 0 ≤ F.nets[k].long ∧ F.nets[k].long ≤ 2000) (hb2 : F.nets[k].along = 0 ∨ F.nets[k].along = 1) (e1 e2 n1 n2 : Int) (w : World) (he : SpansAt w ev F.east) (hn : SpansAt w nv F.north) (hs : ShotsAt w sv F.nets) :
    Cal 33 #[.agg #[ev, nv, .int .i64 F.gap, sv], .int .i64 (i : Int), .int .i64 (k : Int), .agg #[.int .i64 e1, .int .i64 e2], .agg #[.int .i64 n1, .int .i64 n2]] w fun e w' => e = .returned (.bool (nearB ⟨e1, e2⟩ (long_eF F.nets[i]) (long_eF F.nets[k]) F.gap && nearB ⟨n1, n2⟩ (long_nF F.nets[i]) (long_nF F.nets[k]) F.gap)) ∧ Ext w w' := by
  obtain ⟨ea, ec, rfl, ⟨hec, hel⟩, _⟩ := he
  obtain ⟨na, nc, rfl, ⟨hnc, hnl⟩, _⟩ := hn
  obtain ⟨sa, sc, rfl, ⟨hsc, hsl⟩, hcs⟩ := hs
  have HCS := hid hcs
  clear hcs
  gi_enter Tryz.func33, Tryz.ntmps33
  gi_upto_region 1 with fail
  have hW : Ext w (((w.alloc (.cells #[.slice ea F.east.length ec, .slice na F.north.length nc, .int .i64 F.gap, .slice sa F.nets.length sc] 25)).alloc (.cells #[.int .i64 e1, .int .i64 e2] 44)).alloc (.cells #[.int .i64 n1, .int .i64 n2] 44)) := (((Ext.refl _).alloc _).alloc _).alloc _
  have hB0 : (((w.alloc (.cells #[.slice ea F.east.length ec, .slice na F.north.length nc, .int .i64 F.gap, .slice sa F.nets.length sc] 25)).alloc (.cells #[.int .i64 e1, .int .i64 e2] 44)).alloc (.cells #[.int .i64 n1, .int .i64 n2] 44)).heap[w.heap.size]? = some (.cells #[.slice ea F.east.length ec, .slice na F.north.length nc, .int .i64 F.gap, .slice sa F.nets.length sc] 25 (0, 0)) := three_new
  have hB1 : (((w.alloc (.cells #[.slice ea F.east.length ec, .slice na F.north.length nc, .int .i64 F.gap, .slice sa F.nets.length sc] 25)).alloc (.cells #[.int .i64 e1, .int .i64 e2] 44)).alloc (.cells #[.int .i64 n1, .int .i64 n2] 44)).heap[w.heap.size + 1]? = some (.cells #[.int .i64 e1, .int .i64 e2] 44 (0, 0)) := three_mid
  have hB2 : (((w.alloc (.cells #[.slice ea F.east.length ec, .slice na F.north.length nc, .int .i64 F.gap, .slice sa F.nets.length sc] 25)).alloc (.cells #[.int .i64 e1, .int .i64 e2] 44)).alloc (.cells #[.int .i64 n1, .int .i64 n2] 44)).heap[w.heap.size + 2]? = some (.cells #[.int .i64 n1, .int .i64 n2] 44 (0, 0)) := three_top
  generalize (((w.alloc (.cells #[.slice ea F.east.length ec, .slice na F.north.length nc, .int .i64 F.gap, .slice sa F.nets.length sc] 25)).alloc (.cells #[.int .i64 e1, .int .i64 e2] 44)).alloc (.cells #[.int .i64 n1, .int .i64 n2] 44)) = W at *
  have HX := hid hW
  have HB0 := hid hB0
  have HB1 := hid hB1
  have HB2 := hid hB2
  have c0 := cell_of hB0
  have c1 := cell_of hB1
  have c2 := cell_of hB2
  clear hW hB0 hB1 hB2
  obtain ⟨b, off, hsa, hbb, d0, d1, d2, d3, d4, d5, d6, d7, d8, d9⟩ := HCS.out i hi
  obtain ⟨b', off', hsa', hbb', g0, g1, g2, g3, g4, g5, g6, g7, g8, g9⟩ := HCS.out k hk
  subst hsa
  cases hsa'
  have hii : (i : Int) < F.nets.length := by omega
  have hkk : (k : Int) < F.nets.length := by omega
  have HC := hid (fun (u : World) (hu : Ext w u) => And.intro (And.intro ((hu.cell (p := ⟨b, _, none⟩) hbb).trans d0) (And.intro ((hu.cell (p := ⟨b, _, none⟩) hbb).trans d1) (And.intro ((hu.cell (p := ⟨b, _, none⟩) hbb).trans d2) (And.intro ((hu.cell (p := ⟨b, _, none⟩) hbb).trans d3) (And.intro ((hu.cell (p := ⟨b, _, none⟩) hbb).trans d4) (And.intro ((hu.cell (p := ⟨b, _, none⟩) hbb).trans d5) (And.intro ((hu.cell (p := ⟨b, _, none⟩) hbb).trans d6) (And.intro ((hu.cell (p := ⟨b, _, none⟩) hbb).trans d7) (And.intro ((hu.cell (p := ⟨b, _, none⟩) hbb).trans d8) ((hu.cell (p := ⟨b, _, none⟩) hbb).trans d9)))))))))) (And.intro ((hu.cell (p := ⟨b, _, none⟩) hbb).trans g0) (And.intro ((hu.cell (p := ⟨b, _, none⟩) hbb).trans g1) (And.intro ((hu.cell (p := ⟨b, _, none⟩) hbb).trans g2) (And.intro ((hu.cell (p := ⟨b, _, none⟩) hbb).trans g3) (And.intro ((hu.cell (p := ⟨b, _, none⟩) hbb).trans g4) (And.intro ((hu.cell (p := ⟨b, _, none⟩) hbb).trans g5) (And.intro ((hu.cell (p := ⟨b, _, none⟩) hbb).trans g6) (And.intro ((hu.cell (p := ⟨b, _, none⟩) hbb).trans g7) (And.intro ((hu.cell (p := ⟨b, _, none⟩) hbb).trans g8) ((hu.cell (p := ⟨b, _, none⟩) hbb).trans g9)))))))))))
  have HL1 := hid (fun u => long_z F.nets[i] ha2 u)
  have HL2 := hid (fun u => long_z F.nets[k] hb2 u)
  have l1 := long_e_ok ha
  have l2 := long_n_ok ha
  have l3 := long_e_ok hb
  have l4 := long_n_ok hb
  have HN1 := hid (fun u => near_z e1 e2 (long_eF F.nets[i]) (long_eF F.nets[k]) F.gap l1 l3 hg u)
  have HN2 := hid (fun u => near_z n1 n2 (long_nF F.nets[i]) (long_nF F.nets[k]) F.gap l2 l4 hg u)
  clear d0 d1 d2 d3 d4 d5 d6 d7 d8 d9 g0 g1 g2 g3 g4 g5 g6 g7 g8 g9 ha ha2 hb hb2 l1 l2 l3 l4 hbb hbb'
  obtain ⟨⟨d0, d1, d2, d3, d4, d5, d6, d7, d8, d9⟩, g0⟩ := HC.out _ HX.out
  clear g0
  generalize hm : F.nets[i] = m at *
  generalize hm' : F.nets[k] = m' at *
  have HM := hid (And.intro hm hm')
  clear hm hm'
  gi_upto_region 2 with (gi_at_call 70; ((with_reducible refine (HL1.out _).mono ?_); rintro e w2 ⟨rfl, hx2⟩; have c0 := cell_of (hx2.block HB0.out); have c1 := cell_of (hx2.block HB1.out); have c2 := cell_of (hx2.block HB2.out)))
  clear d0 d1 d2 d3 d4 d5 d6 d7 d8 d9
  obtain ⟨g0, d0, d1, d2, d3, d4, d5, d6, d7, d8, d9⟩ := HC.out _ (HX.out.trans hx2)
  clear g0
  have HX2 := hid (HX.out.trans hx2)
  gi_upto_region 3 with (gi_at_call 70; ((with_reducible refine (HL2.out _).mono ?_); rintro e w3 ⟨rfl, hx3⟩; have c0 := cell_of ((hx2.trans hx3).block HB0.out); have c1 := cell_of ((hx2.trans hx3).block HB1.out); have c2 := cell_of ((hx2.trans hx3).block HB2.out)))
  have HX3 := hid (HX2.out.trans hx3)
  have HB := hid (And.intro ((hx2.trans hx3).block HB0.out) (And.intro ((hx2.trans hx3).block HB1.out) ((hx2.trans hx3).block HB2.out)))
  clear d0 d1 d2 d3 d4 d5 d6 d7 d8 d9 hx2 hx3 c0 c1 c2
  have c0 := cell_of HB.out.1
  have c1 := cell_of HB.out.2.1
  have c2 := cell_of HB.out.2.2
  cases q1 : nearB ⟨e1, e2⟩ (long_eF m) (long_eF m') F.gap
  case false =>
    rw [q1] at HN1
    gi_wp2_with (gi_at_call 71; ((with_reducible refine (HN1.out _).mono ?_); rintro e w4 ⟨rfl, hx4⟩))
    go_ret
    exact ⟨by rw [HM.out.1, HM.out.2, q1]; first | done | rfl, HX3.out.trans hx4⟩
  case true =>
    rw [q1] at HN1
    gi_wp2_with (first | (have _ := hx4; gi_at_call 71; ((with_reducible refine (HN2.out _).mono ?_); rintro e w5 ⟨rfl, hx5⟩)) | (gi_at_call 71; ((with_reducible refine (HN1.out _).mono ?_); rintro e w4 ⟨rfl, hx4⟩; have c0 := cell_of (hx4.block HB.out.1); have c2 := cell_of (hx4.block HB.out.2.2))))
    go_ret
    exact ⟨by rw [HM.out.1, HM.out.2, q1]; first | done | rfl, HX3.out.trans (hx4.trans hx5)⟩

end Go.Proofs.YtmjelgonhpgmbaaGreat
