/- NetsShifts: the walk. -/
import Derived.Test.YtmjelgonhpgmbaaGreatSO
import Derived.Test.YtmjelgonhpgmbaaGreatMX
set_option linter.unusedSimpArgs false
set_option linter.unusedVariables false
namespace Go.Proofs.YtmjelgonhpgmbaaGreat
open Go Go.RowKit Go.Shelf

set_option maxRecDepth 100000 in
set_option maxHeartbeats 8000000 in
theorem NetsShifts_any (F : FleetD) (n0 n1 : Int) (fv : Value) (w : World) (hf : FlAt w fv F) : Cal 5 #[fv, .agg #[.int .i64 n0, .int .i64 n1]] w fun e w' => e = .returned (.bool true) ∧ Ext w w' := by
  have HF := hid (fun (u : World) (hu : Ext w u) => hf.mono hu)
  obtain ⟨ev, nv, sv, rfl, he, hn, hs⟩ := hf
  have H17 := hid (fun (u : World) (hu : Ext w u) => Shift_c F _ n0 n1 u (HF.out u hu))
  have H18 := hid (fun (u : World) (hu : Ext w u) => Shift_z F _ _ _ n0 n1 u (he.mono hu) (hn.mono hu) (hs.mono hu))
  generalize shiftV F n0 n1 = sv' at *
  generalize shiftE F n0 n1 = se' at *
  obtain ⟨ea, ec, rfl, ⟨hec, hel⟩, _⟩ := he
  obtain ⟨na, nc, rfl, ⟨hnc, hnl⟩, _⟩ := hn
  obtain ⟨sa, sc, rfl, ⟨hsc, hsl⟩, hcs⟩ := hs
  clear hcs
  gi_enter Tryz.func5, Tryz.ntmps5
  gi_upto_region 1 with fail
  have hW : Ext w ((w.alloc (.cells #[.slice ea F.east.length ec, .slice na F.north.length nc, .int .i64 F.gap, .slice sa F.nets.length sc] 25)).alloc (.cells #[.int .i64 n0, .int .i64 n1] 29)) := ((Ext.refl _).alloc _).alloc _
  have hB0 : ((w.alloc (.cells #[.slice ea F.east.length ec, .slice na F.north.length nc, .int .i64 F.gap, .slice sa F.nets.length sc] 25)).alloc (.cells #[.int .i64 n0, .int .i64 n1] 29)).heap[w.heap.size]? = some (.cells #[.slice ea F.east.length ec, .slice na F.north.length nc, .int .i64 F.gap, .slice sa F.nets.length sc] 25 (0, 0)) := by
    have h := Ext.new (w := w) (o := .cells #[.slice ea F.east.length ec, .slice na F.north.length nc, .int .i64 F.gap, .slice sa F.nets.length sc] 25) (Ext.refl _)
    try simp only [World.size_alloc] at h
    exact ((Ext.refl _).alloc _).block h
  have hB1 : ((w.alloc (.cells #[.slice ea F.east.length ec, .slice na F.north.length nc, .int .i64 F.gap, .slice sa F.nets.length sc] 25)).alloc (.cells #[.int .i64 n0, .int .i64 n1] 29)).heap[w.heap.size + 1]? = some (.cells #[.int .i64 n0, .int .i64 n1] 29 (0, 0)) := by
    have h := Ext.new (w := (w.alloc (.cells #[.slice ea F.east.length ec, .slice na F.north.length nc, .int .i64 F.gap, .slice sa F.nets.length sc] 25))) (o := .cells #[.int .i64 n0, .int .i64 n1] 29) (Ext.refl _)
    try simp only [World.size_alloc] at h
    exact (Ext.refl _).block h
  have hZ : ((w.alloc (.cells #[.slice ea F.east.length ec, .slice na F.north.length nc, .int .i64 F.gap, .slice sa F.nets.length sc] 25)).alloc (.cells #[.int .i64 n0, .int .i64 n1] 29)).heap.size = w.heap.size + 2 := by simp only [World.size_alloc]
  generalize ((w.alloc (.cells #[.slice ea F.east.length ec, .slice na F.north.length nc, .int .i64 F.gap, .slice sa F.nets.length sc] 25)).alloc (.cells #[.int .i64 n0, .int .i64 n1] 29)) = W at *
  have HX := hid hW
  have HZ := hid hZ
  have HB0 := hid hB0
  have HB1 := hid hB1
  have c0 := cell_of hB0
  have c1 := cell_of hB1
  clear hW hZ hB0 hB1
  gi_wp2_with (first | (gi_at_call 17; ((with_reducible refine (H17.out _ HX.out).mono ?_); rintro e w9 ⟨rfl, hx9⟩; clear c0 c1; have HX := hid (HX.out.trans hx9); have HB0 := hid (hx9.block HB0.out); have HB1 := hid (hx9.block HB1.out); have c0 := cell_of HB0.out; have c1 := cell_of HB1.out; clear hx9)) | (gi_at_call 18; ((with_reducible refine (H18.out _ HX.out).mono ?_); rintro e w9 ⟨rfl, hx9⟩; clear c0 c1; have HX := hid (HX.out.trans hx9); have HB0 := hid (hx9.block HB0.out); have HB1 := hid (hx9.block HB1.out); have c0 := cell_of HB0.out; have c1 := cell_of HB1.out; clear hx9)) | (gi_at_call 12; ((with_reducible refine (works_any _).mono ?_); rintro e w99 ⟨rfl, hx99⟩)))
  go_ret
  exact ⟨rfl, HX.out.trans hx99⟩

end Go.Proofs.YtmjelgonhpgmbaaGreat
