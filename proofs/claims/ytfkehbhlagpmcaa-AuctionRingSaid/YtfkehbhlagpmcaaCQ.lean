/- A sale by the clock. -/
import Derived.Test.YtfkehbhlagpmcaaCP
set_option linter.unusedSimpArgs false
set_option linter.unusedVariables false
namespace Go.Proofs.Ytfkehbhlagpmcaa
open Go Go.RowKit Go.Shelf
open Au
def callV (s : Sal) (v o : Value) : Value := .agg #[.int .i64 s.crans, .int .i64 s.least, v, fnV 68, o]
def noCall : Value := .agg #[.int .i64 0, .int .i64 0, .slice none 0 0, .nilFunc, .slice none 0 0]
set_option maxRecDepth 100000 in
set_option maxHeartbeats 4000000 in
theorem newCall_bad (v : Value) (s : Sal) (ov : Value) (l : List Int) (w : World) (hv : ListsAt w v s.offers) (hov : IntsAt w ov l) (h1 : saleB s = false) :
    Cal 56 #[saleV s v, ov] w fun e w' => e = .returned (.tuple #[noCall, .int .i64 40]) ∧ Ext w w' := by
  have HN := hid (fun (u : World) (hu : Ext w u) => newSale_bad s v u (hv.mono hu) h1)
  clear h1
  obtain ⟨a, cap, rfl, ⟨hcap, hlen⟩, _⟩ := hv
  obtain ⟨ao, co, rfl, ⟨hco, hlo⟩, _⟩ := hov
  try unfold saleV at *
  try unfold saleW at *
  try unfold callV at *
  try unfold noCall at *
  gi_enter Try.func56, Try.ntmps56
  gi_wp2_with (gi_at_call 47; ((with_reducible refine (HN.out _ (((Ext.refl _).alloc _).alloc _)).mono ?_); rintro e w1 ⟨rfl, hx1⟩; have h4 := hx1.block (Ext.new (Ext.refl _)); rw [World.size_alloc] at h4; have hxa := (Ext.refl w1).alloc (.cells #[.int .i64 0, .int .i64 0, .slice none 0 0, .nilFunc] 71); have h4b := hxa.block h4; have H4 := hid h4; have c4 := cell_of h4; have f4 := free_of h4; have HX := hid ((((Ext.refl w).alloc _).alloc _).trans hx1); have hlt := lt_of_block h4; clear h4 h4b hxa hx1))
  have e1 := set_same H4.out 0 (.int .i64 0)
  have y1 := (HX.out).set (b := w.heap.size + 1) (by omega) 0 (.int .i64 0)
  have e2 := set_same e1 1 (.int .i64 0)
  have y2 := (y1).set (b := w.heap.size + 1) (by omega) 1 (.int .i64 0)
  have e3 := set_same e2 2 (.slice none 0 0)
  have y3 := (y2).set (b := w.heap.size + 1) (by omega) 2 (.slice none 0 0)
  have e4 := set_same e3 3 (.nilFunc)
  have y4 := (y3).set (b := w.heap.size + 1) (by omega) 3 (.nilFunc)
  have e5 := set_same e4 4 (.slice none 0 0)
  have y5 := (y4).set (b := w.heap.size + 1) (by omega) 4 (.slice none 0 0)
  simp only [List.setIfInBounds_toArray, List.set_cons_succ, List.set_cons_zero] at e5
  have ce := cell_of e5
  have HY := hid y5
  have HE9 := hid e5
  clear e1 y1 e2 y2 e3 y3 e4 y4 e5 y5 c4 f4 H4
  generalize (((((w1.setCell ⟨w.heap.size + 1, 0, none⟩ (.int .i64 0)).setCell ⟨w.heap.size + 1, 1, none⟩ (.int .i64 0)).setCell ⟨w.heap.size + 1, 2, none⟩ (.slice none 0 0)).setCell ⟨w.heap.size + 1, 3, none⟩ (.nilFunc)).setCell ⟨w.heap.size + 1, 4, none⟩ (.slice none 0 0)) = W9 at *
  have hb9 := ((Ext.refl W9).alloc (.cells #[.int .i64 0, .int .i64 0, .slice none 0 0, .nilFunc] 71)).block HE9.out
  have ce2 := cell_of hb9
  have HY2 := hid (HY.out.alloc (.cells #[.int .i64 0, .int .i64 0, .slice none 0 0, .nilFunc] 71))
  clear ce hb9
  generalize W9.alloc (.cells #[.int .i64 0, .int .i64 0, .slice none 0 0, .nilFunc] 71) = W10 at *
  refine bodyPost_ret (v := .tuple #[.agg #[.int .i64 0, .int .i64 0, .slice none 0 0, .nilFunc, .slice none 0 0], .int .i64 40]) (by simp [results, Try.results56, go_sem, ce2]) rfl ⟨rfl, HY2.out⟩
set_option maxRecDepth 100000 in
set_option maxHeartbeats 4000000 in
theorem newCall_order (v : Value) (s : Sal) (ov : Value) (l : List Int) (w : World) (hv : ListsAt w v s.offers) (hov : IntsAt w ov l) (h1 : saleB s = true) (h2 : orderB s.offers.length l = false) :
    Cal 56 #[saleV s v, ov] w fun e w' => e = .returned (.tuple #[noCall, .int .i64 42]) ∧ Ext w w' := by
  have ho := sale_ok h1
  have hn := ho.n
  have hvs : ∃ a cap, v = .slice a s.offers.length cap := by obtain ⟨a, cap, h, _⟩ := hv; exact ⟨a, cap, h⟩
  have HN := hid (fun (u : World) (hu : Ext w u) => newSale_ok s v u (hv.mono hu) h1)
  have HO := hid (fun (u : World) (hu : Ext w u) => isOrder_any v s ov l u hvs hn.2 (hov.mono hu))
  rw [h2] at HO
  clear h1 h2 ho hn hvs
  obtain ⟨a, cap, rfl, ⟨hcap, hlen⟩, _⟩ := hv
  obtain ⟨ao, co, rfl, ⟨hco, hlo⟩, _⟩ := hov
  try unfold saleV at *
  try unfold saleW at *
  try unfold callV at *
  try unfold noCall at *
  gi_enter Try.func56, Try.ntmps56
  gi_wp2_with (first | (gi_at_call 47; ((with_reducible refine (HN.out _ (((Ext.refl _).alloc _).alloc _)).mono ?_); rintro e w1 ⟨rfl, hx1⟩; have h4 := hx1.block (Ext.new (Ext.refl _)); rw [World.size_alloc] at h4; have hxa := (Ext.refl w1).alloc (.cells #[.int .i64 s.crans, .int .i64 s.least, .slice a s.offers.length cap, fnV 68] 71); have H4a := hid (hxa.block h4); have HXa := hid (((((Ext.refl w).alloc _).alloc _).trans hx1).trans hxa); have H6 := hid (Ext.new (w := w1) (o := .cells #[.int .i64 s.crans, .int .i64 s.least, .slice a s.offers.length cap, fnV 68] 71) (Ext.refl _)); have hlt := lt_of_block h4; clear h4 hxa hx1)) | (gi_at_call 79; ((with_reducible refine (HO.out _ HXa.out).mono ?_); rintro e w2 ⟨rfl, hx2⟩; have h4b := hx2.block H4a.out; have H4 := hid h4b; have c4 := cell_of h4b; have f4 := free_of h4b; have c6 := cell_of (hx2.block H6.out); have HX := hid (HXa.out.trans hx2); clear h4b hx2)))
  have e1 := set_same H4.out 0 (.int .i64 0)
  have y1 := (HX.out).set (b := w.heap.size + 1) (by omega) 0 (.int .i64 0)
  have e2 := set_same e1 1 (.int .i64 0)
  have y2 := (y1).set (b := w.heap.size + 1) (by omega) 1 (.int .i64 0)
  have e3 := set_same e2 2 (.slice none 0 0)
  have y3 := (y2).set (b := w.heap.size + 1) (by omega) 2 (.slice none 0 0)
  have e4 := set_same e3 3 (.nilFunc)
  have y4 := (y3).set (b := w.heap.size + 1) (by omega) 3 (.nilFunc)
  have e5 := set_same e4 4 (.slice none 0 0)
  have y5 := (y4).set (b := w.heap.size + 1) (by omega) 4 (.slice none 0 0)
  simp only [List.setIfInBounds_toArray, List.set_cons_succ, List.set_cons_zero] at e5
  have ce := cell_of e5
  have HY := hid y5
  have HE9 := hid e5
  clear e1 y1 e2 y2 e3 y3 e4 y4 e5 y5 c4 f4 H4
  generalize (((((w2.setCell ⟨w.heap.size + 1, 0, none⟩ (.int .i64 0)).setCell ⟨w.heap.size + 1, 1, none⟩ (.int .i64 0)).setCell ⟨w.heap.size + 1, 2, none⟩ (.slice none 0 0)).setCell ⟨w.heap.size + 1, 3, none⟩ (.nilFunc)).setCell ⟨w.heap.size + 1, 4, none⟩ (.slice none 0 0)) = W9 at *
  refine bodyPost_ret (v := .tuple #[.agg #[.int .i64 0, .int .i64 0, .slice none 0 0, .nilFunc, .slice none 0 0], .int .i64 42]) (by simp [results, Try.results56, go_sem, ce]) rfl ⟨rfl, HY.out⟩
set_option maxRecDepth 100000 in
set_option maxHeartbeats 4000000 in
theorem newCall_ok (v : Value) (s : Sal) (ov : Value) (l : List Int) (w : World) (hv : ListsAt w v s.offers) (hov : IntsAt w ov l) (h1 : saleB s = true) (h2 : orderB s.offers.length l = true) :
    Cal 56 #[saleV s v, ov] w fun e w' => e = .returned (.tuple #[callV s v ov, .int .i64 0]) ∧ Ext w w' := by
  have ho := sale_ok h1
  have hn := ho.n
  have hvs : ∃ a cap, v = .slice a s.offers.length cap := by obtain ⟨a, cap, h, _⟩ := hv; exact ⟨a, cap, h⟩
  have HN := hid (fun (u : World) (hu : Ext w u) => newSale_ok s v u (hv.mono hu) h1)
  have HO := hid (fun (u : World) (hu : Ext w u) => isOrder_any v s ov l u hvs hn.2 (hov.mono hu))
  rw [h2] at HO
  clear h1 h2 ho hn hvs
  obtain ⟨a, cap, rfl, ⟨hcap, hlen⟩, _⟩ := hv
  obtain ⟨ao, co, rfl, ⟨hco, hlo⟩, _⟩ := hov
  try unfold saleV at *
  try unfold saleW at *
  try unfold callV at *
  try unfold noCall at *
  gi_enter Try.func56, Try.ntmps56
  gi_wp2_with (first | (gi_at_call 47; ((with_reducible refine (HN.out _ (((Ext.refl _).alloc _).alloc _)).mono ?_); rintro e w1 ⟨rfl, hx1⟩; have h4 := hx1.block (Ext.new (Ext.refl _)); rw [World.size_alloc] at h4; have hxa := (Ext.refl w1).alloc (.cells #[.int .i64 s.crans, .int .i64 s.least, .slice a s.offers.length cap, fnV 68] 71); have H4a := hid (hxa.block h4); have HXa := hid (((((Ext.refl w).alloc _).alloc _).trans hx1).trans hxa); have H6 := hid (Ext.new (w := w1) (o := .cells #[.int .i64 s.crans, .int .i64 s.least, .slice a s.offers.length cap, fnV 68] 71) (Ext.refl _)); have hlt := lt_of_block h4; clear h4 hxa hx1)) | (gi_at_call 79; ((with_reducible refine (HO.out _ HXa.out).mono ?_); rintro e w2 ⟨rfl, hx2⟩; have h4b := hx2.block H4a.out; have H4 := hid h4b; have c4 := cell_of h4b; have f4 := free_of h4b; have c6 := cell_of (hx2.block H6.out); have HX := hid (HXa.out.trans hx2); clear h4b hx2)))
  have e1 := set_same H4.out 0 (.int .i64 s.crans)
  have y1 := (HX.out).set (b := w.heap.size + 1) (by omega) 0 (.int .i64 s.crans)
  have e2 := set_same e1 1 (.int .i64 s.least)
  have y2 := (y1).set (b := w.heap.size + 1) (by omega) 1 (.int .i64 s.least)
  have e3 := set_same e2 2 (.slice a s.offers.length cap)
  have y3 := (y2).set (b := w.heap.size + 1) (by omega) 2 (.slice a s.offers.length cap)
  have e4 := set_same e3 3 (fnV 68)
  have y4 := (y3).set (b := w.heap.size + 1) (by omega) 3 (fnV 68)
  have e5 := set_same e4 4 (.slice ao l.length co)
  have y5 := (y4).set (b := w.heap.size + 1) (by omega) 4 (.slice ao l.length co)
  simp only [List.setIfInBounds_toArray, List.set_cons_succ, List.set_cons_zero] at e5
  have ce := cell_of e5
  have HY := hid y5
  have HE9 := hid e5
  clear e1 y1 e2 y2 e3 y3 e4 y4 e5 y5 c4 f4 H4
  generalize (((((w2.setCell ⟨w.heap.size + 1, 0, none⟩ (.int .i64 s.crans)).setCell ⟨w.heap.size + 1, 1, none⟩ (.int .i64 s.least)).setCell ⟨w.heap.size + 1, 2, none⟩ (.slice a s.offers.length cap)).setCell ⟨w.heap.size + 1, 3, none⟩ (fnV 68)).setCell ⟨w.heap.size + 1, 4, none⟩ (.slice ao l.length co)) = W9 at *
  refine bodyPost_ret (v := .tuple #[.agg #[.int .i64 s.crans, .int .i64 s.least, .slice a s.offers.length cap, fnV 68, .slice ao l.length co], .int .i64 0]) (by simp [results, Try.results56, go_sem, ce]) rfl ⟨rfl, HY.out⟩

end Go.Proofs.Ytfkehbhlagpmcaa
