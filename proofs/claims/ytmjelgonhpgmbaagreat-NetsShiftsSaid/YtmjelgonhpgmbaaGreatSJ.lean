/- The reference: two nets, how far apart to both sides. -/
import Derived.Test.YtmjelgonhpgmbaaGreatSI
import Derived.Test.YtmjelgonhpgmbaaGreatSD
import Derived.Test.YtmjelgonhpgmbaaGreatBx
set_option linter.unusedSimpArgs false
set_option linter.unusedVariables false
namespace Go.Proofs.YtmjelgonhpgmbaaGreat
open Go Go.RowKit Go.Shelf

structure NetW (n : NetD) : Prop where
  east : -20000 ≤ n.east ∧ n.east ≤ 20000
  north : -20000 ≤ n.north ∧ n.north ≤ 20000
  long : 0 ≤ n.long ∧ n.long ≤ 2000
  along : n.along = 0 ∨ n.along = 1
  shot : 0 ≤ n.shot
  se : spIn 50 n.se
  sn : spIn 50 n.sn
theorem NetW.of {n : NetD} {H : Nat} (h : NetOk n H) : NetW n := ⟨by have := h.east; omega, by have := h.north; omega, h.long, h.along, h.shot.1, h.se, h.sn⟩
structure FleetW (F : FleetD) : Prop where
  hours : 1 ≤ F.east.length ∧ F.east.length ≤ 24
  same : F.north.length = F.east.length
  east : ∀ s ∈ F.east, spIn 200 s
  north : ∀ s ∈ F.north, spIn 200 s
  gap : 0 ≤ F.gap ∧ F.gap ≤ 500
  count : 1 ≤ F.nets.length ∧ F.nets.length ≤ 6
  nets : ∀ n ∈ F.nets, NetW n
theorem FleetW.of {F : FleetD} (h : FleetOk F) : FleetW F := ⟨h.hours, h.same, h.east, h.north, h.gap, h.count, fun n hn => NetW.of (h.nets n hn)⟩
def apRe (F : FleetD) (a b : NetD) (h : Nat) : Spn := apR F.east a.shot b.shot (a.east - b.east) a.se b.se h
def apRn (F : FleetD) (a b : NetD) (h : Nat) : Spn := apR F.north a.shot b.shot (a.north - b.north) a.sn b.sn h
set_option maxRecDepth 100000 in
set_option maxHeartbeats 8000000 in
theorem both_z (F : FleetD) (hF : FleetW F) (ev nv sv : Value) (i k h : Nat) (hi : i < F.nets.length) (hk : k < F.nets.length) (hh : h ≤ F.east.length) (h1 : F.nets[i].shot ≤ h) (h2 : F.nets[k].shot ≤ h) (w : World) (he : SpansAt w ev F.east) (hn : SpansAt w nv F.north) (hs : ShotsAt w sv F.nets) :
    Cal 44 #[.agg #[ev, nv, .int .i64 F.gap, sv], .int .i64 (i : Int), .int .i64 (k : Int), .int .i64 (h : Int)] w fun e w' => e = .returned (.tuple #[.agg #[.int .i64 (apRe F F.nets[i] F.nets[k] h).lo, .int .i64 (apRe F F.nets[i] F.nets[k] h).hi], .agg #[.int .i64 (apRn F F.nets[i] F.nets[k] h).lo, .int .i64 (apRn F F.nets[i] F.nets[k] h).hi]]) ∧ Ext w w' := by
  have a1 := hF.nets _ (List.getElem_mem hi)
  have a2 := hF.nets _ (List.getElem_mem hk)
  have HAE := hid (fun (u : World) (hu : Ext w u) => apart_z F.east hF.east hF.hours.2 F.nets[i] F.nets[k] (F.nets[i].east - F.nets[k].east) (by have := a1.east; have := a2.east; omega) F.nets[i].se F.nets[k].se a1.se a2.se h hh ⟨a1.shot, h1⟩ ⟨a2.shot, h2⟩ _ u (he.mono hu))
  have HAN := hid (fun (u : World) (hu : Ext w u) => apart_z F.north hF.north (by rw [hF.same]; exact hF.hours.2) F.nets[i] F.nets[k] (F.nets[i].north - F.nets[k].north) (by have := a1.north; have := a2.north; omega) F.nets[i].sn F.nets[k].sn a1.sn a2.sn h (by rw [hF.same]; exact hh) ⟨a1.shot, h1⟩ ⟨a2.shot, h2⟩ _ u (hn.mono hu))
  have we : wrap64 (F.nets[i].east - F.nets[k].east) = F.nets[i].east - F.nets[k].east := by have := a1.east; have := a2.east; unfold wrap64; omega
  have wn : wrap64 (F.nets[i].north - F.nets[k].north) = F.nets[i].north - F.nets[k].north := by have := a1.north; have := a2.north; unfold wrap64; omega
  obtain ⟨ea, ec, rfl, ⟨hec, hel⟩, _⟩ := he
  obtain ⟨na, nc, rfl, ⟨hnc, hnl⟩, _⟩ := hn
  obtain ⟨sa, sc, rfl, ⟨hsc, hsl⟩, hcs⟩ := hs
  have HCS := hid hcs
  clear hcs
  gi_enter Tryz.func44, Tryz.ntmps44
  gi_upto_region 1 with fail
  have hW : Ext w (((w.alloc (.cells #[.slice ea F.east.length ec, .slice na F.north.length nc, .int .i64 F.gap, .slice sa F.nets.length sc] 25)).alloc (.cells #[.int .i64 0, .int .i64 0] 44)).alloc (.cells #[.int .i64 0, .int .i64 0] 44)) := (((Ext.refl _).alloc _).alloc _).alloc _
  have hB0 : (((w.alloc (.cells #[.slice ea F.east.length ec, .slice na F.north.length nc, .int .i64 F.gap, .slice sa F.nets.length sc] 25)).alloc (.cells #[.int .i64 0, .int .i64 0] 44)).alloc (.cells #[.int .i64 0, .int .i64 0] 44)).heap[w.heap.size]? = some (.cells #[.slice ea F.east.length ec, .slice na F.north.length nc, .int .i64 F.gap, .slice sa F.nets.length sc] 25 (0, 0)) := by
    have h := Ext.new (w := w) (o := .cells #[.slice ea F.east.length ec, .slice na F.north.length nc, .int .i64 F.gap, .slice sa F.nets.length sc] 25) (Ext.refl _)
    try simp only [World.size_alloc] at h
    exact (((Ext.refl _).alloc _).alloc _).block h
  have hB1 : (((w.alloc (.cells #[.slice ea F.east.length ec, .slice na F.north.length nc, .int .i64 F.gap, .slice sa F.nets.length sc] 25)).alloc (.cells #[.int .i64 0, .int .i64 0] 44)).alloc (.cells #[.int .i64 0, .int .i64 0] 44)).heap[w.heap.size + 1]? = some (.cells #[.int .i64 0, .int .i64 0] 44 (0, 0)) := by
    have h := Ext.new (w := (w.alloc (.cells #[.slice ea F.east.length ec, .slice na F.north.length nc, .int .i64 F.gap, .slice sa F.nets.length sc] 25))) (o := .cells #[.int .i64 0, .int .i64 0] 44) (Ext.refl _)
    try simp only [World.size_alloc] at h
    exact ((Ext.refl _).alloc _).block h
  have hB2 : (((w.alloc (.cells #[.slice ea F.east.length ec, .slice na F.north.length nc, .int .i64 F.gap, .slice sa F.nets.length sc] 25)).alloc (.cells #[.int .i64 0, .int .i64 0] 44)).alloc (.cells #[.int .i64 0, .int .i64 0] 44)).heap[w.heap.size + 1 + 1]? = some (.cells #[.int .i64 0, .int .i64 0] 44 (0, 0)) := by
    have h := Ext.new (w := ((w.alloc (.cells #[.slice ea F.east.length ec, .slice na F.north.length nc, .int .i64 F.gap, .slice sa F.nets.length sc] 25)).alloc (.cells #[.int .i64 0, .int .i64 0] 44))) (o := .cells #[.int .i64 0, .int .i64 0] 44) (Ext.refl _)
    try simp only [World.size_alloc] at h
    exact (Ext.refl _).block h
  have hZ : (((w.alloc (.cells #[.slice ea F.east.length ec, .slice na F.north.length nc, .int .i64 F.gap, .slice sa F.nets.length sc] 25)).alloc (.cells #[.int .i64 0, .int .i64 0] 44)).alloc (.cells #[.int .i64 0, .int .i64 0] 44)).heap.size = w.heap.size + 3 := by simp only [World.size_alloc]
  generalize (((w.alloc (.cells #[.slice ea F.east.length ec, .slice na F.north.length nc, .int .i64 F.gap, .slice sa F.nets.length sc] 25)).alloc (.cells #[.int .i64 0, .int .i64 0] 44)).alloc (.cells #[.int .i64 0, .int .i64 0] 44)) = W at *
  have HX := hid hW
  have HZ := hid hZ
  have HB0 := hid hB0
  have HB1 := hid hB1
  have HB2 := hid hB2
  have c0 := cell_of hB0
  have c1 := cell_of hB1
  have c2 := cell_of hB2
  clear hW hZ hB0 hB1 hB2
  obtain ⟨b, off, hsa, hbb, d0, d1, d2, d3, d4, d5, d6, d7, d8, d9⟩ := HCS.out i hi
  obtain ⟨b', off', hsa', hbb', q0, q1, q2, q3, q4, q5, q6, q7, q8, q9⟩ := HCS.out k hk
  subst hsa
  cases hsa'
  have hii : (i : Int) < F.nets.length := by omega
  have hkk : (k : Int) < F.nets.length := by omega
  have HC := hid (fun (u : World) (hu : Ext w u) => And.intro ((hu.cell (p := ⟨b, _, none⟩) hbb).trans d0) (And.intro ((hu.cell (p := ⟨b, _, none⟩) hbb).trans d1) (And.intro ((hu.cell (p := ⟨b, _, none⟩) hbb).trans d2) (And.intro ((hu.cell (p := ⟨b, _, none⟩) hbb).trans d3) (And.intro ((hu.cell (p := ⟨b, _, none⟩) hbb).trans d4) (And.intro ((hu.cell (p := ⟨b, _, none⟩) hbb).trans d5) (And.intro ((hu.cell (p := ⟨b, _, none⟩) hbb).trans d6) (And.intro ((hu.cell (p := ⟨b, _, none⟩) hbb).trans d7) (And.intro ((hu.cell (p := ⟨b, _, none⟩) hbb).trans d8) (((hu.cell (p := ⟨b, _, none⟩) hbb).trans d9)))))))))))
  have HD := hid (fun (u : World) (hu : Ext w u) => And.intro ((hu.cell (p := ⟨b, _, none⟩) hbb).trans q0) (And.intro ((hu.cell (p := ⟨b, _, none⟩) hbb).trans q1) (And.intro ((hu.cell (p := ⟨b, _, none⟩) hbb).trans q2) (And.intro ((hu.cell (p := ⟨b, _, none⟩) hbb).trans q3) (And.intro ((hu.cell (p := ⟨b, _, none⟩) hbb).trans q4) (And.intro ((hu.cell (p := ⟨b, _, none⟩) hbb).trans q5) (And.intro ((hu.cell (p := ⟨b, _, none⟩) hbb).trans q6) (And.intro ((hu.cell (p := ⟨b, _, none⟩) hbb).trans q7) (And.intro ((hu.cell (p := ⟨b, _, none⟩) hbb).trans q8) (((hu.cell (p := ⟨b, _, none⟩) hbb).trans q9)))))))))))
  clear d0 d1 d2 d3 d4 d5 d6 d7 d8 d9 q0 q1 q2 q3 q4 q5 q6 q7 q8 q9 hbb hbb' c0 c1 c2 a1 a2 h1 h2 hF
  have HRES : Hid (apRe F F.nets[i] F.nets[k] h = apR F.east F.nets[i].shot F.nets[k].shot (F.nets[i].east - F.nets[k].east) F.nets[i].se F.nets[k].se h ∧ apRn F F.nets[i] F.nets[k] h = apR F.north F.nets[i].shot F.nets[k].shot (F.nets[i].north - F.nets[k].north) F.nets[i].sn F.nets[k].sn h) := ⟨rfl, rfl⟩
  have HC0 := hid (fun (u : World) (hu : Ext W u) => And.intro (HX.out.trans hu) (cell_of (hu.block HB0.out)))
  generalize apR F.east F.nets[i].shot F.nets[k].shot (F.nets[i].east - F.nets[k].east) F.nets[i].se F.nets[k].se h = re at *
  generalize apR F.north F.nets[i].shot F.nets[k].shot (F.nets[i].north - F.nets[k].north) F.nets[i].sn F.nets[k].sn h = rn at *
  generalize hm : F.nets[i] = m at *
  generalize hm' : F.nets[k] = m' at *
  have HM := hid (And.intro hm hm')
  clear hm hm'
  refine jj_own 14 [10, 11] (bxJ W ([⟨10, 12, 63, #[.int .i64 0, .int .i64 0, .int .i64 0, .int .i64 0, .int .i64 0, .int .i64 0, .int .i64 0, .int .i64 0, .int .i64 0, .int .i64 0], #[.int .i64 m.east, .int .i64 m.north, .int .i64 m.long, .int .i64 m.along, .int .i64 m.shot, .int .i64 m.haul, .int .i64 m.se.lo, .int .i64 m.se.hi, .int .i64 m.sn.lo, .int .i64 m.sn.hi]⟩, ⟨11, 13, 63, #[.int .i64 0, .int .i64 0, .int .i64 0, .int .i64 0, .int .i64 0, .int .i64 0, .int .i64 0, .int .i64 0, .int .i64 0, .int .i64 0], #[.int .i64 m'.east, .int .i64 m'.north, .int .i64 m'.long, .int .i64 m'.along, .int .i64 m'.shot, .int .i64 m'.haul, .int .i64 m'.se.lo, .int .i64 m'.se.hi, .int .i64 m'.sn.lo, .int .i64 m'.sn.hi]⟩] : List BX)) (by kernel_rfl) (by kernel_rfl) (bx_start _ _) ?_
  simp only [List.take_succ_cons, List.take_zero, List.drop_succ_cons, List.drop_zero]
  apply jj_fun (by decide)
  · intro L x u hL hd hJ
    have HJ := hid (bx_skip (k := 0) (by rfl) hJ)
    clear hJ hd hL
    go_simp
    first | exact ⟨rfl, HJ.out⟩ | exact HJ.out
  simp only [Act.put, List.setIfInBounds_toArray, List.set_cons_succ, List.set_cons_zero]
  apply jj_fun (by decide)
  · intro L x u hL hd hJ
    have c0 := (HC0.out u hJ.1).2
    have HJ := hid (bx_skip (k := 1) (by rfl) hJ)
    clear hJ hd hL
    go_simp
    first | exact ⟨rfl, HJ.out⟩ | exact HJ.out
  simp only [Act.put, List.setIfInBounds_toArray, List.set_cons_succ, List.set_cons_zero]
  apply jj_fun (by decide)
  · intro L x u hL hd hJ
    have HJ := hid (bx_skip (k := 2) (by rfl) hJ)
    clear hJ hd hL
    go_simp
    first | exact ⟨rfl, HJ.out⟩ | exact HJ.out
  simp only [Act.put, List.setIfInBounds_toArray, List.set_cons_succ, List.set_cons_zero]
  apply jj_fun (by decide)
  · intro L x u hL hd hJ
    have HJ := hid (bx_skip (k := 3) (by rfl) hJ)
    clear hJ hd hL
    go_simp
    first | exact ⟨rfl, HJ.out⟩ | exact HJ.out
  simp only [Act.put, List.setIfInBounds_toArray, List.set_cons_succ, List.set_cons_zero]
  apply jj_fun (by decide)
  · intro L x u hL hd hJ
    obtain ⟨d0, d1, d2, d3, d4, d5, d6, d7, d8, d9⟩ := HC.out u (HC0.out u hJ.1).1
    have HJ := hid (bx_skip (k := 4) (by rfl) hJ)
    clear hJ hd hL
    go_simp
    first | exact ⟨rfl, HJ.out⟩ | exact HJ.out
  simp only [Act.put, List.setIfInBounds_toArray, List.set_cons_succ, List.set_cons_zero]
  apply jj_fun (by decide)
  · intro L x u hL hd hJ
    have HJ := hid (bx_skip (k := 5) (by rfl) hJ)
    clear hJ hd hL
    go_simp
    first | exact ⟨rfl, HJ.out⟩ | exact HJ.out
  simp only [Act.put, List.setIfInBounds_toArray, List.set_cons_succ, List.set_cons_zero]
  apply jj_fun (by decide)
  · intro L x u hL hd hJ
    have c0 := (HC0.out u hJ.1).2
    have HJ := hid (bx_skip (k := 6) (by rfl) hJ)
    clear hJ hd hL
    go_simp
    first | exact ⟨rfl, HJ.out⟩ | exact HJ.out
  simp only [Act.put, List.setIfInBounds_toArray, List.set_cons_succ, List.set_cons_zero]
  apply jj_fun (by decide)
  · intro L x u hL hd hJ
    have HJ := hid (bx_skip (k := 7) (by rfl) hJ)
    clear hJ hd hL
    go_simp
    first | exact ⟨rfl, HJ.out⟩ | exact HJ.out
  simp only [Act.put, List.setIfInBounds_toArray, List.set_cons_succ, List.set_cons_zero]
  apply jj_fun (by decide)
  · intro L x u hL hd hJ
    have HJ := hid (bx_skip (k := 8) (by rfl) hJ)
    clear hJ hd hL
    go_simp
    first | exact ⟨rfl, HJ.out⟩ | exact HJ.out
  simp only [Act.put, List.setIfInBounds_toArray, List.set_cons_succ, List.set_cons_zero]
  apply jj_fun (by decide)
  · intro L x u hL hd hJ
    obtain ⟨d0, d1, d2, d3, d4, d5, d6, d7, d8, d9⟩ := HD.out u (HC0.out u hJ.1).1
    have HJ := hid (bx_skip (k := 9) (by rfl) hJ)
    clear hJ hd hL
    go_simp
    first | exact ⟨rfl, HJ.out⟩ | exact HJ.out
  simp only [Act.put, List.setIfInBounds_toArray, List.set_cons_succ, List.set_cons_zero]
  refine jj_inv (by decide) ?_ ?_
  · intro L x u hL hd hJ
    have HJ := hid (bx_make 0 (rfl : ([⟨10, 12, 63, #[.int .i64 0, .int .i64 0, .int .i64 0, .int .i64 0, .int .i64 0, .int .i64 0, .int .i64 0, .int .i64 0, .int .i64 0, .int .i64 0], #[.int .i64 m.east, .int .i64 m.north, .int .i64 m.long, .int .i64 m.along, .int .i64 m.shot, .int .i64 m.haul, .int .i64 m.se.lo, .int .i64 m.se.hi, .int .i64 m.sn.lo, .int .i64 m.sn.hi]⟩, ⟨11, 13, 63, #[.int .i64 0, .int .i64 0, .int .i64 0, .int .i64 0, .int .i64 0, .int .i64 0, .int .i64 0, .int .i64 0, .int .i64 0, .int .i64 0], #[.int .i64 m'.east, .int .i64 m'.north, .int .i64 m'.long, .int .i64 m'.along, .int .i64 m'.shot, .int .i64 m'.haul, .int .i64 m'.se.lo, .int .i64 m'.se.hi, .int .i64 m'.sn.lo, .int .i64 m'.sn.hi]⟩] : List BX)[0]? = some _) (by rfl) hJ hL)
    clear hJ hd hL
    go_simp
    exact HJ.out
  simp only [Act.put, List.setIfInBounds_toArray, List.set_cons_succ, List.set_cons_zero]
  refine jj_inv (by decide) ?_ ?_
  · intro L x u hL hd hJ
    have HJ := hid (bx_make 1 (rfl : ([⟨10, 12, 63, #[.int .i64 0, .int .i64 0, .int .i64 0, .int .i64 0, .int .i64 0, .int .i64 0, .int .i64 0, .int .i64 0, .int .i64 0, .int .i64 0], #[.int .i64 m.east, .int .i64 m.north, .int .i64 m.long, .int .i64 m.along, .int .i64 m.shot, .int .i64 m.haul, .int .i64 m.se.lo, .int .i64 m.se.hi, .int .i64 m.sn.lo, .int .i64 m.sn.hi]⟩, ⟨11, 13, 63, #[.int .i64 0, .int .i64 0, .int .i64 0, .int .i64 0, .int .i64 0, .int .i64 0, .int .i64 0, .int .i64 0, .int .i64 0, .int .i64 0], #[.int .i64 m'.east, .int .i64 m'.north, .int .i64 m'.long, .int .i64 m'.along, .int .i64 m'.shot, .int .i64 m'.haul, .int .i64 m'.se.lo, .int .i64 m'.se.hi, .int .i64 m'.sn.lo, .int .i64 m'.sn.hi]⟩] : List BX)[1]? = some _) (by rfl) hJ hL)
    clear hJ hd hL
    go_simp
    exact HJ.out
  simp only [Act.put, List.setIfInBounds_toArray, List.set_cons_succ, List.set_cons_zero]
  refine jj_fun (v := undef) (by decide) ?_ ?_
  · intro L x u hL hd hJ
    have hl : L 10 = true := by first | exact hd.1 rfl | exact hd.2.1 rfl | exact hd.2.2.1 rfl
    obtain ⟨g, hx8, hg, hb⟩ := hJ.2.1 0 _ (rfl : ([⟨10, 12, 63, #[.int .i64 0, .int .i64 0, .int .i64 0, .int .i64 0, .int .i64 0, .int .i64 0, .int .i64 0, .int .i64 0, .int .i64 0, .int .i64 0], #[.int .i64 m.east, .int .i64 m.north, .int .i64 m.long, .int .i64 m.along, .int .i64 m.shot, .int .i64 m.haul, .int .i64 m.se.lo, .int .i64 m.se.hi, .int .i64 m.sn.lo, .int .i64 m.sn.hi]⟩, ⟨11, 13, 63, #[.int .i64 0, .int .i64 0, .int .i64 0, .int .i64 0, .int .i64 0, .int .i64 0, .int .i64 0, .int .i64 0, .int .i64 0, .int .i64 0], #[.int .i64 m'.east, .int .i64 m'.north, .int .i64 m'.long, .int .i64 m'.along, .int .i64 m'.shot, .int .i64 m'.haul, .int .i64 m'.se.lo, .int .i64 m'.se.hi, .int .i64 m'.sn.lo, .int .i64 m'.sn.hi]⟩] : List BX)[0]? = some _) hl
    rw [show (if L 12 = true then _ else _) = _ from if_neg (by rw [hL]; exact Bool.false_ne_true)] at hb
    have HJ := bx_fill 0 (rfl : ([⟨10, 12, 63, #[.int .i64 0, .int .i64 0, .int .i64 0, .int .i64 0, .int .i64 0, .int .i64 0, .int .i64 0, .int .i64 0, .int .i64 0, .int .i64 0], #[.int .i64 m.east, .int .i64 m.north, .int .i64 m.long, .int .i64 m.along, .int .i64 m.shot, .int .i64 m.haul, .int .i64 m.se.lo, .int .i64 m.se.hi, .int .i64 m.sn.lo, .int .i64 m.sn.hi]⟩, ⟨11, 13, 63, #[.int .i64 0, .int .i64 0, .int .i64 0, .int .i64 0, .int .i64 0, .int .i64 0, .int .i64 0, .int .i64 0, .int .i64 0, .int .i64 0], #[.int .i64 m'.east, .int .i64 m'.north, .int .i64 m'.long, .int .i64 m'.along, .int .i64 m'.shot, .int .i64 m'.haul, .int .i64 m'.se.lo, .int .i64 m'.se.hi, .int .i64 m'.sn.lo, .int .i64 m'.sn.hi]⟩] : List BX)[0]? = some _) (by rfl) hJ hl hx8 hg hb
    rw [if_pos (by rfl)]
    exact gives_store_row 63 (.tmp 10) (.tmp 16) rfl hx8 rfl hb info63 rfl (by kernel_rfl) ⟨⟨rfl, HJ⟩, trivial⟩
  simp only [Act.put, List.setIfInBounds_toArray, List.set_cons_succ, List.set_cons_zero]
  refine jj_fun (v := undef) (by decide) ?_ ?_
  · intro L x u hL hd hJ
    have hl : L 11 = true := by first | exact hd.1 rfl | exact hd.2.1 rfl | exact hd.2.2.1 rfl
    obtain ⟨g, hx8, hg, hb⟩ := hJ.2.1 1 _ (rfl : ([⟨10, 12, 63, #[.int .i64 0, .int .i64 0, .int .i64 0, .int .i64 0, .int .i64 0, .int .i64 0, .int .i64 0, .int .i64 0, .int .i64 0, .int .i64 0], #[.int .i64 m.east, .int .i64 m.north, .int .i64 m.long, .int .i64 m.along, .int .i64 m.shot, .int .i64 m.haul, .int .i64 m.se.lo, .int .i64 m.se.hi, .int .i64 m.sn.lo, .int .i64 m.sn.hi]⟩, ⟨11, 13, 63, #[.int .i64 0, .int .i64 0, .int .i64 0, .int .i64 0, .int .i64 0, .int .i64 0, .int .i64 0, .int .i64 0, .int .i64 0, .int .i64 0], #[.int .i64 m'.east, .int .i64 m'.north, .int .i64 m'.long, .int .i64 m'.along, .int .i64 m'.shot, .int .i64 m'.haul, .int .i64 m'.se.lo, .int .i64 m'.se.hi, .int .i64 m'.sn.lo, .int .i64 m'.sn.hi]⟩] : List BX)[1]? = some _) hl
    rw [show (if L 13 = true then _ else _) = _ from if_neg (by rw [hL]; exact Bool.false_ne_true)] at hb
    have HJ := bx_fill 1 (rfl : ([⟨10, 12, 63, #[.int .i64 0, .int .i64 0, .int .i64 0, .int .i64 0, .int .i64 0, .int .i64 0, .int .i64 0, .int .i64 0, .int .i64 0, .int .i64 0], #[.int .i64 m.east, .int .i64 m.north, .int .i64 m.long, .int .i64 m.along, .int .i64 m.shot, .int .i64 m.haul, .int .i64 m.se.lo, .int .i64 m.se.hi, .int .i64 m.sn.lo, .int .i64 m.sn.hi]⟩, ⟨11, 13, 63, #[.int .i64 0, .int .i64 0, .int .i64 0, .int .i64 0, .int .i64 0, .int .i64 0, .int .i64 0, .int .i64 0, .int .i64 0, .int .i64 0], #[.int .i64 m'.east, .int .i64 m'.north, .int .i64 m'.long, .int .i64 m'.along, .int .i64 m'.shot, .int .i64 m'.haul, .int .i64 m'.se.lo, .int .i64 m'.se.hi, .int .i64 m'.sn.lo, .int .i64 m'.sn.hi]⟩] : List BX)[1]? = some _) (by rfl) hJ hl hx8 hg hb
    rw [if_pos (by rfl)]
    exact gives_store_row 63 (.tmp 11) (.tmp 21) rfl hx8 rfl hb info63 rfl (by kernel_rfl) ⟨⟨rfl, HJ⟩, trivial⟩
  simp only [Act.put, List.setIfInBounds_toArray, List.set_cons_succ, List.set_cons_zero]
  refine jj_nil fun L x u hall hJ => ?_
  obtain ⟨g0, hg0, hgl0, hgb0⟩ := hJ.2.1 0 _ (rfl : ([⟨10, 12, 63, #[.int .i64 0, .int .i64 0, .int .i64 0, .int .i64 0, .int .i64 0, .int .i64 0, .int .i64 0, .int .i64 0, .int .i64 0, .int .i64 0], #[.int .i64 m.east, .int .i64 m.north, .int .i64 m.long, .int .i64 m.along, .int .i64 m.shot, .int .i64 m.haul, .int .i64 m.se.lo, .int .i64 m.se.hi, .int .i64 m.sn.lo, .int .i64 m.sn.hi]⟩, ⟨11, 13, 63, #[.int .i64 0, .int .i64 0, .int .i64 0, .int .i64 0, .int .i64 0, .int .i64 0, .int .i64 0, .int .i64 0, .int .i64 0, .int .i64 0], #[.int .i64 m'.east, .int .i64 m'.north, .int .i64 m'.long, .int .i64 m'.along, .int .i64 m'.shot, .int .i64 m'.haul, .int .i64 m'.se.lo, .int .i64 m'.se.hi, .int .i64 m'.sn.lo, .int .i64 m'.sn.hi]⟩] : List BX)[0]? = some _) (hall 10 (by omega))
  rw [show (if L 12 = true then _ else _) = _ from if_pos (hall 12 (by omega))] at hgb0
  simp only at hg0
  obtain ⟨g1, hg1, hgl1, hgb1⟩ := hJ.2.1 1 _ (rfl : ([⟨10, 12, 63, #[.int .i64 0, .int .i64 0, .int .i64 0, .int .i64 0, .int .i64 0, .int .i64 0, .int .i64 0, .int .i64 0, .int .i64 0, .int .i64 0], #[.int .i64 m.east, .int .i64 m.north, .int .i64 m.long, .int .i64 m.along, .int .i64 m.shot, .int .i64 m.haul, .int .i64 m.se.lo, .int .i64 m.se.hi, .int .i64 m.sn.lo, .int .i64 m.sn.hi]⟩, ⟨11, 13, 63, #[.int .i64 0, .int .i64 0, .int .i64 0, .int .i64 0, .int .i64 0, .int .i64 0, .int .i64 0, .int .i64 0, .int .i64 0, .int .i64 0], #[.int .i64 m'.east, .int .i64 m'.north, .int .i64 m'.long, .int .i64 m'.along, .int .i64 m'.shot, .int .i64 m'.haul, .int .i64 m'.se.lo, .int .i64 m'.se.hi, .int .i64 m'.sn.lo, .int .i64 m'.sn.hi]⟩] : List BX)[1]? = some _) (hall 11 (by omega))
  rw [show (if L 13 = true then _ else _) = _ from if_pos (hall 13 (by omega))] at hgb1
  simp only at hg1
  have hne01 : g0 ≠ g1 := fun e => hJ.2.2.1 0 1 _ _ (rfl : ([⟨10, 12, 63, #[.int .i64 0, .int .i64 0, .int .i64 0, .int .i64 0, .int .i64 0, .int .i64 0, .int .i64 0, .int .i64 0, .int .i64 0, .int .i64 0], #[.int .i64 m.east, .int .i64 m.north, .int .i64 m.long, .int .i64 m.along, .int .i64 m.shot, .int .i64 m.haul, .int .i64 m.se.lo, .int .i64 m.se.hi, .int .i64 m.sn.lo, .int .i64 m.sn.hi]⟩, ⟨11, 13, 63, #[.int .i64 0, .int .i64 0, .int .i64 0, .int .i64 0, .int .i64 0, .int .i64 0, .int .i64 0, .int .i64 0, .int .i64 0, .int .i64 0], #[.int .i64 m'.east, .int .i64 m'.north, .int .i64 m'.long, .int .i64 m'.along, .int .i64 m'.shot, .int .i64 m'.haul, .int .i64 m'.se.lo, .int .i64 m'.se.hi, .int .i64 m'.sn.lo, .int .i64 m'.sn.hi]⟩] : List BX)[0]? = some _) (rfl : ([⟨10, 12, 63, #[.int .i64 0, .int .i64 0, .int .i64 0, .int .i64 0, .int .i64 0, .int .i64 0, .int .i64 0, .int .i64 0, .int .i64 0, .int .i64 0], #[.int .i64 m.east, .int .i64 m.north, .int .i64 m.long, .int .i64 m.along, .int .i64 m.shot, .int .i64 m.haul, .int .i64 m.se.lo, .int .i64 m.se.hi, .int .i64 m.sn.lo, .int .i64 m.sn.hi]⟩, ⟨11, 13, 63, #[.int .i64 0, .int .i64 0, .int .i64 0, .int .i64 0, .int .i64 0, .int .i64 0, .int .i64 0, .int .i64 0, .int .i64 0, .int .i64 0], #[.int .i64 m'.east, .int .i64 m'.north, .int .i64 m'.long, .int .i64 m'.along, .int .i64 m'.shot, .int .i64 m'.haul, .int .i64 m'.se.lo, .int .i64 m'.se.hi, .int .i64 m'.sn.lo, .int .i64 m'.sn.hi]⟩] : List BX)[1]? = some _) (by decide) (hall 10 (by omega)) (hall 11 (by omega)) (by simp only; rw [hg0, hg1, e])
  have hE := hJ.1
  clear hJ hall
  generalize x 10 = xx0 at *
  generalize x 11 = xx1 at *
  clear x
  subst hg0
  subst hg1
  have hx5 : Ext w u := HX.out.trans hE
  have HU := hid (And.intro hgb0 (And.intro hgb1 (And.intro (hE.block HB0.out) (And.intro (hE.block HB1.out) (hE.block HB2.out)))))
  have HX5 := hid hx5
  clear hgb0 hgb1 hE hx5 hgl0 hgl1 hne01
  gi_upto_region 2 with fail
  refine quiet_wide 34 (by kernel_rfl) (by kernel_rfl) ?_
  simp only [List.take_succ_cons, List.take_zero, List.drop_succ_cons, List.drop_zero]
  have q0 := fun e : Later u => cell_of (Ext.block e.grown HU.out.1)
  have q1 := fun e : Later u => cell_of (Ext.block e.grown HU.out.2.1)
  have q2 := fun e : Later u => cell_of (Ext.block e.grown HU.out.2.2.1)
  repeat (any_goals (first | go_big_quiet_step ((first | (go_at_call 79; with_reducible exact Cal.quiet (HAE.out _ (HX5.out.trans (Later.grown _)))) | (go_at_call 79; with_reducible exact Cal.quiet (HAN.out _ (HX5.out.trans (Later.grown _)))))) | quiet_step ((first | (go_at_call 79; with_reducible exact Cal.quiet (HAE.out _ (HX5.out.trans (Later.grown _)))) | (go_at_call 79; with_reducible exact Cal.quiet (HAN.out _ (HX5.out.trans (Later.grown _))))))))
  refine wpQuiet_nil ?_
  rintro w5 ⟨⟨w5q, hx5⟩, hew5⟩
  obtain rfl : w5 = w5q := hew5
  have hx5 : Ext u w5 := hx5
  clear q0 q1 q2
  have P := hid (put2 (hx5.block HU.out.2.2.2.1) (HX5.out.trans hx5) (by omega) (.int .i64 re.lo) (.int .i64 re.hi))
  have hB := P.out.2.2 _ _ (by omega) (hx5.block HU.out.2.2.2.2)
  have P2 := hid (put2 hB P.out.1 (by omega) (.int .i64 rn.lo) (.int .i64 rn.hi))
  have hB1 := P2.out.2.2 _ _ (by omega) P.out.2.1
  have f1 := free_of (hx5.block HU.out.2.2.2.1)
  have f2 := free_of hB
  have v1 := cell_of (hx5.block HU.out.2.2.2.1)
  have v2 := cell_of hB
  clear hB
  gi_wp2_with fail
  clear v1 v2 f1 f2
  have cB1 := cell_of hB1
  have cB2 := cell_of P2.out.2.1
  refine bodyPost_ret (v := .tuple #[.agg #[.int .i64 re.lo, .int .i64 re.hi], .agg #[.int .i64 rn.lo, .int .i64 rn.hi]]) (by simp [results, Tryz.results44, go_sem, cB1, cB2]) rfl ⟨by rw [HM.out.1, HM.out.2, HRES.out.1, HRES.out.2], P2.out.1⟩

end Go.Proofs.YtmjelgonhpgmbaaGreat
