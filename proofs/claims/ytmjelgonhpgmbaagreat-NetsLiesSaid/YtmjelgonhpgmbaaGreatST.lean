/- NetsLies: the walk. -/
import Derived.Test.YtmjelgonhpgmbaaGreatSR
import Derived.Test.YtmjelgonhpgmbaaGreatSP
set_option linter.unusedSimpArgs false
set_option linter.unusedVariables false
namespace Go.Proofs.YtmjelgonhpgmbaaGreat
open Go Go.RowKit Go.Shelf

theorem eq31 (a b : Int) (w : World) : (Op.equal 31 (.agg #[.int .i64 a, .int .i64 b]) (.agg #[.int .i64 a, .int .i64 b])).run Tryz.prog w = .ok true w := by
  show (Op.equalIn 10000 31 _ _).run Tryz.prog w = _
  simp [go_sem]
theorem foulsV_three (F : FleetD) (T : TruthD) : ∃ a b c : Int, foulsV F T = #[.int .i64 a, .int .i64 b, .int .i64 c] := by
  unfold foulsV
  split
  · exact foulV_three _
  · exact ⟨0, 0, 0, rfl⟩
set_option maxRecDepth 100000 in
set_option maxHeartbeats 8000000 in
theorem NetsLies_any (F : FleetD) (T : TruthD) (n0 n1 : Int) (fv tv : Value) (w : World) (hf : FlAt w fv F) (ht : TrAt w tv T) : Cal 3 #[fv, tv, .agg #[.int .i64 n0, .int .i64 n1]] w fun e w' => e = .returned (.bool true) ∧ Ext w w' := by
  have HF := hid (fun (u : World) (hu : Ext w u) => And.intro (hf.mono hu) (ht.mono hu))
  obtain ⟨ev, nv, sv, rfl, he, hn, hs⟩ := hf
  obtain ⟨tv1, tv2, tv3, tv4, rfl, h1, h2, h3, h4⟩ := ht
  have H6 := hid (fun (u : World) (hu : Ext w u) => Lies_c F T _ _ n0 n1 u (HF.out u hu).1 (HF.out u hu).2)
  have H7 := hid (fun (u : World) (hu : Ext w u) => Lies_z F T _ _ _ _ _ _ _ n0 n1 u (he.mono hu) (hn.mono hu) (hs.mono hu) (h1.mono hu) (h2.mono hu) (h3.mono hu) (h4.mono hu))
  have H8 := hid (fun (u : World) (hu : Ext w u) => Check_c F _ u (HF.out u hu).1)
  have H9 := hid (fun (u : World) (hu : Ext w u) => Check_z F _ _ _ u (he.mono hu) (hn.mono hu) (hs.mono hu))
  have H10 := hid (fun (u : World) (hu : Ext w u) => Fouls_c F T _ _ u (HF.out u hu).1 (HF.out u hu).2)
  have H11 := hid (fun (u : World) (hu : Ext w u) => Fouls_z F T _ _ _ _ _ _ _ u (he.mono hu) (hn.mono hu) (hs.mono hu) (h1.mono hu) (h2.mono hu) (h3.mono hu) (h4.mono hu))
  obtain ⟨ca, cb, cc, hcv⟩ := foulsV_three F T
  rw [hcv] at H10 H11
  clear hcv
  generalize foulsE F T = ce at *
  generalize liesE F T n0 n1 = le at *
  generalize liesVe F T n0 n1 = la at *
  generalize liesVn F T n0 n1 = lb at *
  generalize checkE F = ck at *
  obtain ⟨ea, ec, rfl, ⟨hec, hel⟩, _⟩ := he
  obtain ⟨na, nc, rfl, ⟨hnc, hnl⟩, _⟩ := hn
  obtain ⟨sa, sc, rfl, ⟨hsc, hsl⟩, hcs⟩ := hs
  obtain ⟨ta, tac, rfl, ht1, hd1⟩ := h1
  obtain ⟨tb, tbc, rfl, ht2, hd2⟩ := h2
  obtain ⟨tc, tcc, rfl, ht3, hd3⟩ := h3
  obtain ⟨td, tdc, rfl, ht4, hd4⟩ := h4
  clear hcs hd1 hd2 hd3 hd4
  gi_enter Tryz.func3, Tryz.ntmps3
  gi_upto_region 1 with fail
  have hW : Ext w (((w.alloc (.cells #[.slice ea F.east.length ec, .slice na F.north.length nc, .int .i64 F.gap, .slice sa F.nets.length sc] 25)).alloc (.cells #[.slice ta T.east.length tac, .slice tb T.north.length tbc, .slice tc T.se.length tcc, .slice td T.sn.length tdc] 28)).alloc (.cells #[.int .i64 n0, .int .i64 n1] 29)) := (((Ext.refl _).alloc _).alloc _).alloc _
  have hB0 : (((w.alloc (.cells #[.slice ea F.east.length ec, .slice na F.north.length nc, .int .i64 F.gap, .slice sa F.nets.length sc] 25)).alloc (.cells #[.slice ta T.east.length tac, .slice tb T.north.length tbc, .slice tc T.se.length tcc, .slice td T.sn.length tdc] 28)).alloc (.cells #[.int .i64 n0, .int .i64 n1] 29)).heap[w.heap.size]? = some (.cells #[.slice ea F.east.length ec, .slice na F.north.length nc, .int .i64 F.gap, .slice sa F.nets.length sc] 25 (0, 0)) := by
    have h := Ext.new (w := w) (o := .cells #[.slice ea F.east.length ec, .slice na F.north.length nc, .int .i64 F.gap, .slice sa F.nets.length sc] 25) (Ext.refl _)
    try simp only [World.size_alloc] at h
    exact (((Ext.refl _).alloc _).alloc _).block h
  have hB1 : (((w.alloc (.cells #[.slice ea F.east.length ec, .slice na F.north.length nc, .int .i64 F.gap, .slice sa F.nets.length sc] 25)).alloc (.cells #[.slice ta T.east.length tac, .slice tb T.north.length tbc, .slice tc T.se.length tcc, .slice td T.sn.length tdc] 28)).alloc (.cells #[.int .i64 n0, .int .i64 n1] 29)).heap[w.heap.size + 1]? = some (.cells #[.slice ta T.east.length tac, .slice tb T.north.length tbc, .slice tc T.se.length tcc, .slice td T.sn.length tdc] 28 (0, 0)) := by
    have h := Ext.new (w := (w.alloc (.cells #[.slice ea F.east.length ec, .slice na F.north.length nc, .int .i64 F.gap, .slice sa F.nets.length sc] 25))) (o := .cells #[.slice ta T.east.length tac, .slice tb T.north.length tbc, .slice tc T.se.length tcc, .slice td T.sn.length tdc] 28) (Ext.refl _)
    try simp only [World.size_alloc] at h
    exact ((Ext.refl _).alloc _).block h
  have hB2 : (((w.alloc (.cells #[.slice ea F.east.length ec, .slice na F.north.length nc, .int .i64 F.gap, .slice sa F.nets.length sc] 25)).alloc (.cells #[.slice ta T.east.length tac, .slice tb T.north.length tbc, .slice tc T.se.length tcc, .slice td T.sn.length tdc] 28)).alloc (.cells #[.int .i64 n0, .int .i64 n1] 29)).heap[w.heap.size + 1 + 1]? = some (.cells #[.int .i64 n0, .int .i64 n1] 29 (0, 0)) := by
    have h := Ext.new (w := ((w.alloc (.cells #[.slice ea F.east.length ec, .slice na F.north.length nc, .int .i64 F.gap, .slice sa F.nets.length sc] 25)).alloc (.cells #[.slice ta T.east.length tac, .slice tb T.north.length tbc, .slice tc T.se.length tcc, .slice td T.sn.length tdc] 28))) (o := .cells #[.int .i64 n0, .int .i64 n1] 29) (Ext.refl _)
    try simp only [World.size_alloc] at h
    exact (Ext.refl _).block h
  have hZ : (((w.alloc (.cells #[.slice ea F.east.length ec, .slice na F.north.length nc, .int .i64 F.gap, .slice sa F.nets.length sc] 25)).alloc (.cells #[.slice ta T.east.length tac, .slice tb T.north.length tbc, .slice tc T.se.length tcc, .slice td T.sn.length tdc] 28)).alloc (.cells #[.int .i64 n0, .int .i64 n1] 29)).heap.size = w.heap.size + 3 := by simp only [World.size_alloc]
  generalize (((w.alloc (.cells #[.slice ea F.east.length ec, .slice na F.north.length nc, .int .i64 F.gap, .slice sa F.nets.length sc] 25)).alloc (.cells #[.slice ta T.east.length tac, .slice tb T.north.length tbc, .slice tc T.se.length tcc, .slice td T.sn.length tdc] 28)).alloc (.cells #[.int .i64 n0, .int .i64 n1] 29)) = W at *
  have HX := hid hW
  have HZ := hid hZ
  have HB0 := hid hB0
  have HB1 := hid hB1
  have HB2 := hid hB2
  have c0 := cell_of hB0
  have c1 := cell_of hB1
  have c2 := cell_of hB2
  clear hW hZ hB0 hB1 hB2
  gi_upto_region 2 with (first | (gi_at_call 6; ((with_reducible refine (H6.out _ HX.out).mono ?_); rintro e w9 ⟨rfl, hx9⟩; clear c0 c1 c2; have HX := hid (HX.out.trans hx9); have HB0 := hid (hx9.block HB0.out); have HB1 := hid (hx9.block HB1.out); have HB2 := hid (hx9.block HB2.out); have c0 := cell_of HB0.out; have c1 := cell_of HB1.out; have c2 := cell_of HB2.out; clear hx9)) | (refine wpIn_store_fresh (fun _ => trivial) 31 (.tmp 7) (.tmp 21) rfl (W := w9) (c' := #[.int .i64 la, .int .i64 lb]) rfl rfl rfl size31 rfl (by kernel_rfl) ?_))
  have hxa : Ext w9 (w9.alloc (.cells #[.int .i64 la, .int .i64 lb] 31)) := (Ext.refl _).alloc _
  have hba : (w9.alloc (.cells #[.int .i64 la, .int .i64 lb] 31)).heap[w9.heap.size]? = some (.cells #[.int .i64 la, .int .i64 lb] 31 (0, 0)) := Ext.new (Ext.refl _)
  have HX := hid (HX.out.trans hxa)
  have HQ0 := hid (hxa.block HB0.out)
  have HQ1 := hid (hxa.block HB1.out)
  have HQ2 := hid (hxa.block HB2.out)
  have HQ3 := hid hba
  clear c0 c1 c2 hxa hba HB0 HB1 HB2
  have HB0 := HQ0
  have HB1 := HQ1
  have HB2 := HQ2
  have HB3 := HQ3
  clear HQ0 HQ1 HQ2 HQ3
  generalize w9.alloc (.cells #[.int .i64 la, .int .i64 lb] 31) = w8 at *
  have c0 := cell_of HB0.out
  have c1 := cell_of HB1.out
  have c2 := cell_of HB2.out
  have c3 := cell_of HB3.out
  gi_upto_region 3 with (first | (gi_at_call 7; ((with_reducible refine (H7.out _ HX.out).mono ?_); rintro e w9 ⟨rfl, hx9⟩; clear c0 c1 c2 c3; have HX := hid (HX.out.trans hx9); have HB0 := hid (hx9.block HB0.out); have HB1 := hid (hx9.block HB1.out); have HB2 := hid (hx9.block HB2.out); have HB3 := hid (hx9.block HB3.out); have c0 := cell_of HB0.out; have c1 := cell_of HB1.out; have c2 := cell_of HB2.out; have c3 := cell_of HB3.out; clear hx9)) | (refine wpIn_store_fresh (fun _ => trivial) 31 (.tmp 9) (.tmp 31) rfl (W := w9) (c' := #[.int .i64 la, .int .i64 lb]) rfl rfl rfl size31 rfl (by kernel_rfl) ?_))
  have hxa : Ext w9 (w9.alloc (.cells #[.int .i64 la, .int .i64 lb] 31)) := (Ext.refl _).alloc _
  have hba : (w9.alloc (.cells #[.int .i64 la, .int .i64 lb] 31)).heap[w9.heap.size]? = some (.cells #[.int .i64 la, .int .i64 lb] 31 (0, 0)) := Ext.new (Ext.refl _)
  have HX := hid (HX.out.trans hxa)
  have HQ0 := hid (hxa.block HB0.out)
  have HQ1 := hid (hxa.block HB1.out)
  have HQ2 := hid (hxa.block HB3.out)
  have HQ3 := hid hba
  clear c0 c1 c2 c3 hxa hba HB0 HB1 HB2 HB3
  have HB0 := HQ0
  have HB1 := HQ1
  have HB2 := HQ2
  have HB3 := HQ3
  clear HQ0 HQ1 HQ2 HQ3
  generalize w9.alloc (.cells #[.int .i64 la, .int .i64 lb] 31) = w8 at *
  have c0 := cell_of HB0.out
  have c1 := cell_of HB1.out
  have c2 := cell_of HB2.out
  have c3 := cell_of HB3.out
  clear c0 c1 c2 c3
  refine quiet_wide 15 (by kernel_rfl) (by kernel_rfl) ?_
  simp only [List.take_succ_cons, List.take_zero, List.drop_succ_cons, List.drop_zero]
  have q0 := fun e : Later w8 => cell_of (Ext.block e.grown HB0.out)
  have q2 := fun e : Later w8 => cell_of (Ext.block e.grown HB2.out)
  have q3 := fun e : Later w8 => cell_of (Ext.block e.grown HB3.out)
  have q4 := fun e : Later w8 => eq31 la lb e.val
  repeat (any_goals (first | go_big_quiet_step ((first | (go_at_call 8; with_reducible exact Cal.quiet (H8.out _ (HX.out.trans (Later.grown _)))) | (go_at_call 9; with_reducible exact Cal.quiet (H9.out _ (HX.out.trans (Later.grown _)))))) | quiet_step ((first | (go_at_call 8; with_reducible exact Cal.quiet (H8.out _ (HX.out.trans (Later.grown _)))) | (go_at_call 9; with_reducible exact Cal.quiet (H9.out _ (HX.out.trans (Later.grown _))))))))
  refine wpQuiet_nil ?_
  rintro w5 ⟨⟨w5q, hx5⟩, hew5⟩
  obtain rfl : w5 = w5q := hew5
  have hx5 : Ext w8 w5 := hx5
  clear q0 q2 q3 q4
  have HX := hid (HX.out.trans hx5)
  have HB0 := hid (hx5.block HB0.out)
  have HB1 := hid (hx5.block HB1.out)
  clear hx5 HB2 HB3
  have c0 := cell_of HB0.out
  have c1 := cell_of HB1.out
  gi_upto_region 5 with fail
  gi_upto_region 6 with (first | (gi_at_call 10; ((with_reducible refine (H10.out _ HX.out).mono ?_); rintro e w9 ⟨rfl, hx9⟩; clear c0 c1; have HX := hid (HX.out.trans hx9); have HB0 := hid (hx9.block HB0.out); have HB1 := hid (hx9.block HB1.out); have c0 := cell_of HB0.out; have c1 := cell_of HB1.out; clear hx9)) | (refine wpIn_store_fresh (fun _ => trivial) 37 (.tmp 11) (.tmp 52) rfl (W := w9) (c' := #[.int .i64 ca, .int .i64 cb, .int .i64 cc]) rfl rfl rfl size37 rfl (by kernel_rfl) ?_))
  have hxa : Ext w9 (w9.alloc (.cells #[.int .i64 ca, .int .i64 cb, .int .i64 cc] 37)) := (Ext.refl _).alloc _
  have hba : (w9.alloc (.cells #[.int .i64 ca, .int .i64 cb, .int .i64 cc] 37)).heap[w9.heap.size]? = some (.cells #[.int .i64 ca, .int .i64 cb, .int .i64 cc] 37 (0, 0)) := Ext.new (Ext.refl _)
  have HX := hid (HX.out.trans hxa)
  have HQ0 := hid (hxa.block HB0.out)
  have HQ1 := hid (hxa.block HB1.out)
  have HQ2 := hid hba
  clear c0 c1 hxa hba HB0 HB1
  have HB0 := HQ0
  have HB1 := HQ1
  have HB2 := HQ2
  clear HQ0 HQ1 HQ2
  generalize w9.alloc (.cells #[.int .i64 ca, .int .i64 cb, .int .i64 cc] 37) = w8 at *
  have c0 := cell_of HB0.out
  have c1 := cell_of HB1.out
  have c2 := cell_of HB2.out
  gi_upto_region 7 with (first | (gi_at_call 11; ((with_reducible refine (H11.out _ HX.out).mono ?_); rintro e w9 ⟨rfl, hx9⟩; clear c0 c1 c2; have HX := hid (HX.out.trans hx9); have HB0 := hid (hx9.block HB0.out); have HB1 := hid (hx9.block HB1.out); have HB2 := hid (hx9.block HB2.out); have c0 := cell_of HB0.out; have c1 := cell_of HB1.out; have c2 := cell_of HB2.out; clear hx9)) | (refine wpIn_store_fresh (fun _ => trivial) 37 (.tmp 12) (.tmp 58) rfl (W := w9) (c' := #[.int .i64 ca, .int .i64 cb, .int .i64 cc]) rfl rfl rfl size37 rfl (by kernel_rfl) ?_))
  have hxa : Ext w9 (w9.alloc (.cells #[.int .i64 ca, .int .i64 cb, .int .i64 cc] 37)) := (Ext.refl _).alloc _
  have hba : (w9.alloc (.cells #[.int .i64 ca, .int .i64 cb, .int .i64 cc] 37)).heap[w9.heap.size]? = some (.cells #[.int .i64 ca, .int .i64 cb, .int .i64 cc] 37 (0, 0)) := Ext.new (Ext.refl _)
  have HX := hid (HX.out.trans hxa)
  have HQ0 := hid (hxa.block HB2.out)
  have HQ1 := hid hba
  clear c0 c1 c2 hxa hba HB0 HB1 HB2
  have HB0 := HQ0
  have HB1 := HQ1
  clear HQ0 HQ1
  generalize w9.alloc (.cells #[.int .i64 ca, .int .i64 cb, .int .i64 cc] 37) = w8 at *
  have c0 := cell_of HB0.out
  have c1 := cell_of HB1.out
  have q1 := eq37 ca cb cc w8
  gi_wp2_with (gi_at_call 12; ((with_reducible refine (works_any _).mono ?_); rintro e w99 ⟨rfl, hx99⟩))
  go_ret
  exact ⟨rfl, HX.out.trans hx99⟩

section
open Go.ChangeShapes Go.WideShapes Go.ChangeAt
set_option maxRecDepth 100000 in
theorem truth_open {H : Type} {enc : TypeId × Value → H} {W : World} {base : Nat} {spare : Nat → Bool} {held : Bool} {r : Reach} {b0 : Nat} {v : Value} {d : DataW H} {p : List MemPlace} (hv : Value.okWide Tryz.prog W r b0 28 v) (h : DataW.Trod enc Tryz.prog W base spare held 28 v d p) (hw : ∀ m ∈ d.weights Tryz.prog 28, m ≤ reachBytes) : ∃ T, TrAt W v T := by
  obtain ⟨fs, hfs0⟩ : ∃ fs, Tryz.prog.underlying 28 = some (.struct fs) := ⟨_, Tryz.underlying28⟩
  obtain ⟨cs, rfl, hsz⟩ := okWide_struct hfs0 hv
  obtain ⟨fuel, hf⟩ := h
  obtain ⟨m, hlen, hfs⟩ := trod_fields fields50 (by simp) hf
  obtain ⟨y0, h0, gh0⟩ := hfs (26, 0) (by simp)
  obtain ⟨y1, h1, gh1⟩ := hfs (26, 1) (by simp)
  obtain ⟨y2, h2, gh2⟩ := hfs (26, 2) (by simp)
  obtain ⟨y3, h3, gh3⟩ := hfs (26, 3) (by simp)
  obtain ⟨l, rfl⟩ : ∃ l : List Value, cs = l.toArray := ⟨cs.toList, by simp⟩
  rw [cells50] at hsz
  obtain ⟨c0, c1, c2, c3, rfl⟩ := list4 (by simpa using hsz)
  rw [cells41] at h0 h1 h2 h3
  obtain ⟨v0, l0, e0, k0⟩ := ints_open h0 (fun m hm => hw m (gh0 m hm))
  obtain ⟨v1, l1, e1, k1⟩ := ints_open h1 (fun m hm => hw m (gh1 m hm))
  obtain ⟨v2, l2, e2, k2⟩ := ints_open h2 (fun m hm => hw m (gh2 m hm))
  obtain ⟨v3, l3, e3, k3⟩ := ints_open h3 (fun m hm => hw m (gh3 m hm))
  simp [Value.cells] at e0 e1 e2 e3
  subst e0; subst e1; subst e2; subst e3
  exact ⟨⟨l0, l1, l2, l3⟩, _, _, _, _, rfl, k0, k1, k2, k3⟩
end

end Go.Proofs.YtmjelgonhpgmbaaGreat
