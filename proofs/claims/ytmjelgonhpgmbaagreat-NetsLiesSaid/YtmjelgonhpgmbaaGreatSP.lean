/- NetsFinds: the walk. -/
import Derived.Test.YtmjelgonhpgmbaaGreatSM
import Derived.Test.YtmjelgonhpgmbaaGreatMX
set_option linter.unusedSimpArgs false
set_option linter.unusedVariables false
namespace Go.Proofs.YtmjelgonhpgmbaaGreat
open Go Go.RowKit Go.Shelf

theorem size37 : (Tryz.prog.info? 37).map (·.size) = some 3 := by kernel_rfl
theorem eq44 (a b : Int) (w : World) : (Op.equal 44 (.agg #[.int .i64 a, .int .i64 b]) (.agg #[.int .i64 a, .int .i64 b])).run Tryz.prog w = .ok true w := by
  show (Op.equalIn 10000 44 _ _).run Tryz.prog w = _
  simp [go_sem]
theorem eq37 (a b c : Int) (w : World) : (Op.equal 37 (.agg #[.int .i64 a, .int .i64 b, .int .i64 c]) (.agg #[.int .i64 a, .int .i64 b, .int .i64 c])).run Tryz.prog w = .ok true w := by
  show (Op.equalIn 10000 37 _ _).run Tryz.prog w = _
  simp [go_sem]
theorem canV_three (F : FleetD) : ∃ a b c : Int, canV F = #[.int .i64 a, .int .i64 b, .int .i64 c] := by
  unfold canV
  split
  · exact foulV_three _
  · exact ⟨0, 0, 0, rfl⟩
set_option maxRecDepth 100000 in
set_option maxHeartbeats 8000000 in
theorem NetsFinds_any (F : FleetD) (n0 n1 n2 : Int) (fv : Value) (w : World) (hf : FlAt w fv F) : Cal 4 #[fv, .agg #[.int .i64 n0, .int .i64 n1, .int .i64 n2]] w fun e w' => e = .returned (.bool true) ∧ Ext w w' := by
  have HF := hid (fun (u : World) (hu : Ext w u) => hf.mono hu)
  obtain ⟨ev, nv, sv, rfl, he, hn, hs⟩ := hf
  have H13 := hid (fun (u : World) (hu : Ext w u) => Apart_c F _ n0 n1 n2 u (HF.out u hu))
  have H14 := hid (fun (u : World) (hu : Ext w u) => Apart_z F _ _ _ n0 n1 n2 u (he.mono hu) (hn.mono hu) (hs.mono hu))
  have H15 := hid (fun (u : World) (hu : Ext w u) => Can_c F _ u (HF.out u hu))
  have H16 := hid (fun (u : World) (hu : Ext w u) => Can_z F _ _ _ u (he.mono hu) (hn.mono hu) (hs.mono hu))
  simp only [spnV] at H13 H14
  obtain ⟨ca, cb, cc, hcv⟩ := canV_three F
  rw [hcv] at H15 H16
  clear hcv
  generalize canE F = ce at *
  generalize apartE F n0 n1 n2 = ae at *
  obtain ⟨re, hre⟩ : ∃ re, re = apartVe F n0 n1 n2 := ⟨_, rfl⟩
  obtain ⟨rn, hrn⟩ : ∃ rn, rn = apartVn F n0 n1 n2 := ⟨_, rfl⟩
  rw [← hre, ← hrn] at H13 H14
  clear hre hrn
  obtain ⟨ea, ec, rfl, ⟨hec, hel⟩, _⟩ := he
  obtain ⟨na, nc, rfl, ⟨hnc, hnl⟩, _⟩ := hn
  obtain ⟨sa, sc, rfl, ⟨hsc, hsl⟩, hcs⟩ := hs
  clear hcs
  gi_enter Tryz.func4, Tryz.ntmps4
  gi_upto_region 1 with fail
  have hW : Ext w ((w.alloc (.cells #[.slice ea F.east.length ec, .slice na F.north.length nc, .int .i64 F.gap, .slice sa F.nets.length sc] 25)).alloc (.cells #[.int .i64 n0, .int .i64 n1, .int .i64 n2] 42)) := ((Ext.refl _).alloc _).alloc _
  have hB0 : ((w.alloc (.cells #[.slice ea F.east.length ec, .slice na F.north.length nc, .int .i64 F.gap, .slice sa F.nets.length sc] 25)).alloc (.cells #[.int .i64 n0, .int .i64 n1, .int .i64 n2] 42)).heap[w.heap.size]? = some (.cells #[.slice ea F.east.length ec, .slice na F.north.length nc, .int .i64 F.gap, .slice sa F.nets.length sc] 25 (0, 0)) := by
    have h := Ext.new (w := w) (o := .cells #[.slice ea F.east.length ec, .slice na F.north.length nc, .int .i64 F.gap, .slice sa F.nets.length sc] 25) (Ext.refl _)
    try simp only [World.size_alloc] at h
    exact ((Ext.refl _).alloc _).block h
  have hB1 : ((w.alloc (.cells #[.slice ea F.east.length ec, .slice na F.north.length nc, .int .i64 F.gap, .slice sa F.nets.length sc] 25)).alloc (.cells #[.int .i64 n0, .int .i64 n1, .int .i64 n2] 42)).heap[w.heap.size + 1]? = some (.cells #[.int .i64 n0, .int .i64 n1, .int .i64 n2] 42 (0, 0)) := by
    have h := Ext.new (w := (w.alloc (.cells #[.slice ea F.east.length ec, .slice na F.north.length nc, .int .i64 F.gap, .slice sa F.nets.length sc] 25))) (o := .cells #[.int .i64 n0, .int .i64 n1, .int .i64 n2] 42) (Ext.refl _)
    try simp only [World.size_alloc] at h
    exact (Ext.refl _).block h
  have hZ : ((w.alloc (.cells #[.slice ea F.east.length ec, .slice na F.north.length nc, .int .i64 F.gap, .slice sa F.nets.length sc] 25)).alloc (.cells #[.int .i64 n0, .int .i64 n1, .int .i64 n2] 42)).heap.size = w.heap.size + 2 := by simp only [World.size_alloc]
  generalize ((w.alloc (.cells #[.slice ea F.east.length ec, .slice na F.north.length nc, .int .i64 F.gap, .slice sa F.nets.length sc] 25)).alloc (.cells #[.int .i64 n0, .int .i64 n1, .int .i64 n2] 42)) = W at *
  have HX := hid hW
  have HZ := hid hZ
  have HB0 := hid hB0
  have HB1 := hid hB1
  have c0 := cell_of hB0
  have c1 := cell_of hB1
  clear hW hZ hB0 hB1
  gi_upto_region 2 with (first | (gi_at_call 13; ((with_reducible refine (H13.out _ HX.out).mono ?_); rintro e w9 ⟨rfl, hx9⟩; clear c0 c1; have HX := hid (HX.out.trans hx9); have HB0 := hid (hx9.block HB0.out); have HB1 := hid (hx9.block HB1.out); have c0 := cell_of HB0.out; have c1 := cell_of HB1.out; clear hx9)) | (refine wpIn_store_new (t := 44) 44 (.tmp 5) (.tmp 22) rfl (fun _ => trivial) rfl rfl two_new size44 rfl (by kernel_rfl) ?_; intro w7 e1 e2 e3) | (refine wpIn_store_new (t := 44) (old := #[.int .i64 0, .int .i64 0]) 44 (.tmp 6) (.tmp 23) rfl (fun _ => trivial) (g := w9.heap.size + 1) rfl rfl ((e2 _ (by omega)).trans (by have := Ext.new (w := w9.alloc (.cells #[.int .i64 0, .int .i64 0] 44)) (o := .cells #[.int .i64 0, .int .i64 0] 44) (Ext.refl _); rwa [World.size_alloc] at this)) size44 rfl (by kernel_rfl) ?_; intro w8 e4 e5 e6))
  have hx7 : Ext w9 w8 := e6 w9 (by omega) (e3 w9 (by omega) (((Ext.refl _).alloc _).alloc _))
  have b1 := (e5 _ (by omega)).trans e1
  have HX := hid (HX.out.trans hx7)
  have HB0 := hid (hx7.block HB0.out)
  have HB1 := hid (hx7.block HB1.out)
  have HB2 := hid b1
  have HB3 := hid e4
  clear c0 c1 e1 e2 e3 e4 e5 e6 hx7 b1
  have c0 := cell_of HB0.out
  have c1 := cell_of HB1.out
  have c2 := cell_of HB2.out
  have c3 := cell_of HB3.out
  have hz1 : w9.heap.size + 1 < w8.heap.size := lt_of_block HB3.out
  gi_upto_region 3 with (first | (gi_at_call 14; ((with_reducible refine (H14.out _ HX.out).mono ?_); rintro e w9 ⟨rfl, hx9⟩; clear c0 c1 c2 c3; have HX := hid (HX.out.trans hx9); have HB0 := hid (hx9.block HB0.out); have HB1 := hid (hx9.block HB1.out); have HB2 := hid (hx9.block HB2.out); have HB3 := hid (hx9.block HB3.out); have c0 := cell_of HB0.out; have c1 := cell_of HB1.out; have c2 := cell_of HB2.out; have c3 := cell_of HB3.out; clear hx9)) | (refine wpIn_store_new (t := 44) 44 (.tmp 8) (.tmp 34) rfl (fun _ => trivial) rfl rfl two_new size44 rfl (by kernel_rfl) ?_; intro w7 e1 e2 e3) | (refine wpIn_store_new (t := 44) (old := #[.int .i64 0, .int .i64 0]) 44 (.tmp 9) (.tmp 35) rfl (fun _ => trivial) (g := w9.heap.size + 1) rfl rfl ((e2 _ (by omega)).trans (by have := Ext.new (w := w9.alloc (.cells #[.int .i64 0, .int .i64 0] 44)) (o := .cells #[.int .i64 0, .int .i64 0] 44) (Ext.refl _); rwa [World.size_alloc] at this)) size44 rfl (by kernel_rfl) ?_; intro w8 e4 e5 e6))
  have hx7 : Ext w9 w8 := e6 w9 (by omega) (e3 w9 (by omega) (((Ext.refl _).alloc _).alloc _))
  have b1 := (e5 _ (by omega)).trans e1
  have HX := hid (HX.out.trans hx7)
  have HB0 := hid (hx7.block HB0.out)
  have HB1 := hid (hx7.block HB1.out)
  have HB2 := hid (hx7.block HB2.out)
  have HB3 := hid (hx7.block HB3.out)
  have HB4 := hid b1
  have HB5 := hid e4
  clear c0 c1 c2 c3 e1 e2 e3 e4 e5 e6 hx7 b1
  have c0 := cell_of HB0.out
  have c1 := cell_of HB1.out
  have c2 := cell_of HB2.out
  have c3 := cell_of HB3.out
  have c4 := cell_of HB4.out
  have c5 := cell_of HB5.out
  have q1 := eq44 re.lo re.hi w8
  have q2 := eq44 rn.lo rn.hi w8
  gi_upto_region 5 with fail
  clear q1 q2
  gi_upto_region 6 with (first | (gi_at_call 15; ((with_reducible refine (H15.out _ HX.out).mono ?_); rintro e w9 ⟨rfl, hx9⟩; clear c0 c1 c2 c3 c4 c5; have HX := hid (HX.out.trans hx9); have HB0 := hid (hx9.block HB0.out); have HB1 := hid (hx9.block HB1.out); have HB2 := hid (hx9.block HB2.out); have HB3 := hid (hx9.block HB3.out); have HB4 := hid (hx9.block HB4.out); have HB5 := hid (hx9.block HB5.out); have c0 := cell_of HB0.out; have c1 := cell_of HB1.out; have c2 := cell_of HB2.out; have c3 := cell_of HB3.out; have c4 := cell_of HB4.out; have c5 := cell_of HB5.out; clear hx9)) | (refine wpIn_store_fresh (fun _ => trivial) 37 (.tmp 11) (.tmp 53) rfl (W := w9) (c' := #[.int .i64 ca, .int .i64 cb, .int .i64 cc]) rfl rfl rfl size37 rfl (by kernel_rfl) ?_))
  have hxa : Ext w9 (w9.alloc (.cells #[.int .i64 ca, .int .i64 cb, .int .i64 cc] 37)) := (Ext.refl _).alloc _
  have hba : (w9.alloc (.cells #[.int .i64 ca, .int .i64 cb, .int .i64 cc] 37)).heap[w9.heap.size]? = some (.cells #[.int .i64 ca, .int .i64 cb, .int .i64 cc] 37 (0, 0)) := Ext.new (Ext.refl _)
  have HX := hid (HX.out.trans hxa)
  have HB0 := hid (hxa.block HB0.out)
  have HB1 := hid hba
  clear c0 c1 c2 c3 c4 c5 hxa hba HB2 HB3 HB4 HB5
  generalize w9.alloc (.cells #[.int .i64 ca, .int .i64 cb, .int .i64 cc] 37) = w8 at *
  have c0 := cell_of HB0.out
  have c1 := cell_of HB1.out
  gi_upto_region 7 with (first | (gi_at_call 16; ((with_reducible refine (H16.out _ HX.out).mono ?_); rintro e w9 ⟨rfl, hx9⟩; clear c0 c1; have HX := hid (HX.out.trans hx9); have HB0 := hid (hx9.block HB0.out); have HB1 := hid (hx9.block HB1.out); have c0 := cell_of HB0.out; have c1 := cell_of HB1.out; clear hx9)) | (refine wpIn_store_fresh (fun _ => trivial) 37 (.tmp 12) (.tmp 58) rfl (W := w9) (c' := #[.int .i64 ca, .int .i64 cb, .int .i64 cc]) rfl rfl rfl size37 rfl (by kernel_rfl) ?_))
  have hxa : Ext w9 (w9.alloc (.cells #[.int .i64 ca, .int .i64 cb, .int .i64 cc] 37)) := (Ext.refl _).alloc _
  have hba : (w9.alloc (.cells #[.int .i64 ca, .int .i64 cb, .int .i64 cc] 37)).heap[w9.heap.size]? = some (.cells #[.int .i64 ca, .int .i64 cb, .int .i64 cc] 37 (0, 0)) := Ext.new (Ext.refl _)
  have HX := hid (HX.out.trans hxa)
  have HB0 := hid (hxa.block HB1.out)
  have HB1 := hid hba
  clear c0 c1 hxa hba
  generalize w9.alloc (.cells #[.int .i64 ca, .int .i64 cb, .int .i64 cc] 37) = w8 at *
  have c0 := cell_of HB0.out
  have c1 := cell_of HB1.out
  have q1 := eq37 ca cb cc w8
  gi_wp2_with (gi_at_call 12; ((with_reducible refine (works_any _).mono ?_); rintro e w99 ⟨rfl, hx99⟩))
  go_ret
  exact ⟨rfl, HX.out.trans hx99⟩

end Go.Proofs.YtmjelgonhpgmbaaGreat
