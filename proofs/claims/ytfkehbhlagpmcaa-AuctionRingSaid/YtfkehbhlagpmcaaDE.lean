/- The chapter's examples hold. -/
import Derived.Test.YtfkehbhlagpmcaaDC
set_option linter.unusedSimpArgs false
set_option linter.unusedVariables false
namespace Go.Proofs.Ytfkehbhlagpmcaa
open Go Go.RowKit Go.Shelf
open Au
theorem sameD_eq (v u : Value) (xs : List Dl) (w : World) (hv : DealsAt w v xs) (hu : DealsAt w u xs) (hl : xs.length ≤ 1000000000) : Cal 17 #[v, u] w fun e w' => e = .returned (.bool true) ∧ Ext w w' := by
  have h := sameD_any v u xs xs w hv hu hl
  rwa [decide_eq_true rfl] at h
theorem same_eq (v u : Value) (xs : List Int) (w : World) (hv : IntsAt w v xs) (hu : IntsAt w u xs) (hl : xs.length ≤ 1000000000) : Cal 29 #[v, u] w fun e w' => e = .returned (.bool true) ∧ Ext w w' := by
  have h := same_any v u xs xs w hv hu hl
  rwa [decide_eq_true rfl] at h
theorem deals_lit {w : World} {g : Nat} {cs : Array Value} (xs : List Dl) (h : w.heap[g]? = some (.cells cs 50 (0, 0))) (hc : ∀ i (hi : i < xs.length), cs[0 + i * 2]? = some (.int .i64 xs[i].crans) ∧ cs[0 + i * 2 + 1]? = some (.int .i64 xs[i].pays)) (hl : xs.length ≤ 1000) : DealsAt w (.slice (some ⟨g, 0, none⟩) xs.length xs.length) xs := by
  refine ⟨_, xs.length, rfl, by omega, fun i hi => ⟨g, 0, rfl, lt_of_block h, ?_⟩⟩
  rw [cell_of h, cell_of h]
  exact hc i hi
theorem wk_GainA (w : World) (v : Value) (hv : ListsAt w v (exS 3).offers) : Cal 23 #[saleV (exS 3) v, .int .i64 0, .slice (some ⟨w.heap.size, 0, none⟩) 3 3] (w.alloc (.cells #[.int .i64 20, .int .i64 12, .int .i64 5] 3)) fun e w' => e = .returned (.tuple #[.int .i64 10, .int .i64 0]) ∧ Ext w w' :=
  (wk_Gain _ _ _ (hv.mono ((Ext.refl _).alloc _)) (ints_lit [20, 12, 5] (Ext.new (Ext.refl _)) rfl (by simp))).mono fun e w' h => ⟨h.1, ((Ext.refl _).alloc _).trans h.2⟩
theorem wk_PriceA (w : World) (v : Value) (hv : ListsAt w v (exS 3).offers) : Cal 25 #[saleV (exS 3) v, .slice (some ⟨w.heap.size, 0, none⟩) 3 3] (w.alloc (.cells #[.int .i64 0, .int .i64 1, .int .i64 2] 3)) fun e w' => e = .returned (.tuple #[.int .i64 14, .int .i64 0]) ∧ Ext w w' :=
  (wk_Price _ _ _ (hv.mono ((Ext.refl _).alloc _)) (ints_lit [0, 1, 2] (Ext.new (Ext.refl _)) rfl (by simp))).mono fun e w' h => ⟨h.1, ((Ext.refl _).alloc _).trans h.2⟩
theorem wk_TakenA (w : World) (v : Value) (hv : ListsAt w v (exS 3).offers) : Cal 27 #[saleV (exS 3) v, .slice (some ⟨w.heap.size, 0, none⟩) 3 3, .int .i64 12] (w.alloc (.cells #[.int .i64 2, .int .i64 1, .int .i64 0] 3)) fun e w' => ∃ r, e = .returned (.tuple #[r, .int .i64 0]) ∧ Ext w w' ∧ IntsAt w' r [1, 2, 0] :=
  (wk_Taken _ _ _ (hv.mono ((Ext.refl _).alloc _)) (ints_lit [2, 1, 0] (Ext.new (Ext.refl _)) rfl (by simp))).mono fun e w' ⟨r, h1, h2, h3⟩ => ⟨r, h1, ((Ext.refl _).alloc _).trans h2, h3⟩
theorem wk_AreLotsA (w : World) (v : Value) (hv : SpansAt w v exB) : Cal 32 #[v, .slice (some ⟨w.heap.size, 0, none⟩) 2 2] (w.alloc (.cells #[.int .i64 0, .int .i64 3] 3)) fun e w' => e = .returned (.tuple #[.bool true, .int .i64 0]) ∧ Ext w w' :=
  (wk_AreLots _ _ _ (hv.mono ((Ext.refl _).alloc _)) (ints_lit [0, 3] (Ext.new (Ext.refl _)) rfl (by simp))).mono fun e w' h => ⟨h.1, ((Ext.refl _).alloc _).trans h.2⟩
theorem wk_sameD (w : World) (v : Value) (hv : DealsAt w v [⟨1, 10⟩, ⟨2, 22⟩, ⟨0, 0⟩]) : Cal 17 #[v, .slice (some ⟨w.heap.size, 0, none⟩) 3 3] (w.alloc (.cells #[.int .i64 1, .int .i64 10, .int .i64 2, .int .i64 22, .int .i64 0, .int .i64 0] 50)) fun e w' => e = .returned (.bool true) ∧ Ext w w' :=
  (sameD_eq _ _ _ _ (hv.mono ((Ext.refl _).alloc _)) (deals_lit [⟨1, 10⟩, ⟨2, 22⟩, ⟨0, 0⟩] (Ext.new (Ext.refl _)) (fun i hi => (match i, hi with | 0, _ => ⟨rfl, rfl⟩ | 1, _ => ⟨rfl, rfl⟩ | 2, _ => ⟨rfl, rfl⟩)) (by simp)) (by simp)).mono fun e w' h => ⟨h.1, ((Ext.refl _).alloc _).trans h.2⟩
theorem wk_same3 (w : World) (v : Value) (hv : IntsAt w v [1, 2, 0]) : Cal 29 #[v, .slice (some ⟨w.heap.size, 0, none⟩) 3 3] (w.alloc (.cells #[.int .i64 1, .int .i64 2, .int .i64 0] 3)) fun e w' => e = .returned (.bool true) ∧ Ext w w' :=
  (same_eq _ _ _ _ (hv.mono ((Ext.refl _).alloc _)) (ints_lit [1, 2, 0] (Ext.new (Ext.refl _)) rfl (by simp)) (by simp)).mono fun e w' h => ⟨h.1, ((Ext.refl _).alloc _).trans h.2⟩
theorem wk_same2 (w : World) (v : Value) (hv : IntsAt w v [0, 3]) : Cal 29 #[v, .slice (some ⟨w.heap.size, 0, none⟩) 2 2] (w.alloc (.cells #[.int .i64 0, .int .i64 3] 3)) fun e w' => e = .returned (.bool true) ∧ Ext w w' :=
  (same_eq _ _ _ _ (hv.mono ((Ext.refl _).alloc _)) (ints_lit [0, 3] (Ext.new (Ext.refl _)) rfl (by simp)) (by simp)).mono fun e w' h => ⟨h.1, ((Ext.refl _).alloc _).trans h.2⟩
set_option maxRecDepth 100000 in
set_option maxHeartbeats 4000000 in
theorem works_any (w : World) : Cal 22 #[] w fun e w' => e = .returned (.bool true) ∧ Ext w w' := by
  gi_enter Try.func22, Try.ntmps22
  gi_upto_region 2 with (first | (gi_at_call 44; ((with_reducible refine (exSale_any _ _).mono ?_); rintro e w1 ⟨r1, rfl, hx1, hl1⟩)) | (gi_at_call 15; ((with_reducible refine (wk_Sell _ _ hl1).mono ?_); rintro e w2 ⟨d, rfl, hx2, hd⟩)))
  have HD := hid hd
  have HX := hid (hx1.trans hx2)
  clear hx1 hx2 hl1 hd
  gi_upto_region 3 with (first | (gi_at_call 44; ((with_reducible refine (exSale_any _ _).mono ?_); rintro e w3 ⟨r3, rfl, hx3, hl3⟩)) | (gi_at_call 20; ((with_reducible refine (wk_Worth _ _ hl3).mono ?_); rintro e w4 ⟨rfl, hx4⟩)))
  have HD := hid (HD.out.mono (hx3.trans hx4))
  have HX := hid (HX.out.trans (hx3.trans hx4))
  clear hx3 hx4 hl3
  gi_upto_region 4 with (first | (gi_at_call 44; ((with_reducible refine (exSale_any _ _).mono ?_); rintro e w5 ⟨r5, rfl, hx5, hl5⟩)) | (gi_at_call 23; ((with_reducible refine (wk_GainA _ _ hl5).mono ?_); rintro e w6 ⟨rfl, hx6⟩)))
  have HD := hid (HD.out.mono (hx5.trans hx6))
  have HX := hid (HX.out.trans (hx5.trans hx6))
  clear hx5 hx6 hl5
  gi_upto_region 5 with (first | (gi_at_call 44; ((with_reducible refine (exSale_any _ _).mono ?_); rintro e w7 ⟨r7, rfl, hx7, hl7⟩)) | (gi_at_call 25; ((with_reducible refine (wk_PriceA _ _ hl7).mono ?_); rintro e w8 ⟨rfl, hx8⟩)))
  have HD := hid (HD.out.mono (hx7.trans hx8))
  have HX := hid (HX.out.trans (hx7.trans hx8))
  clear hx7 hx8 hl7
  gi_upto_region 6 with (first | (gi_at_call 44; ((with_reducible refine (exSale_any _ _).mono ?_); rintro e w9 ⟨r9, rfl, hx9, hl9⟩)) | (gi_at_call 27; ((with_reducible refine (wk_TakenA _ _ hl9).mono ?_); rintro e w10 ⟨t, rfl, hx10, ht⟩)))
  have HD := hid (HD.out.mono (hx9.trans hx10))
  have HX := hid (HX.out.trans (hx9.trans hx10))
  have HT := hid ht
  clear hx9 hx10 hl9 ht
  gi_upto_region 8 with (first | (gi_at_call 17; ((with_reducible refine (wk_sameD _ _ HD.out).mono ?_); rintro e w11 ⟨rfl, hx11⟩; have HT2 := hid (HT.out.mono hx11))) | (gi_at_call 29; ((with_reducible refine (wk_same3 _ _ HT2.out).mono ?_); rintro e w12 ⟨rfl, hx12⟩)))
  have HX := hid (HX.out.trans (hx11.trans hx12))
  clear hx11 hx12 HD HT HT2
  gi_wp2_with (first | (gi_at_call 46; ((with_reducible refine (exBask_any _).mono ?_); rintro e w13 ⟨b, rfl, hx13, hb⟩)) | (gi_at_call 30; ((with_reducible refine (wk_Lots _ _ hb).mono ?_); rintro e w14 ⟨lo, rfl, hx14, hlo⟩; have HLO := hid hlo; have HX14 := hid (HX.out.trans (hx13.trans hx14)); clear hlo hx13 hx14)) | (gi_at_call 32; ((with_reducible refine (wk_AreLotsA _ _ hb).mono ?_); rintro e w15 ⟨rfl, hx15⟩; have HLO2 := hid (HLO.out.mono (hx13.trans hx15)); have HX15 := hid (HX14.out.trans (hx13.trans hx15)))) | (gi_at_call 29; ((with_reducible refine (wk_same2 _ _ HLO2.out).mono ?_); rintro e w16 ⟨rfl, hx16⟩)))
  go_ret
  exact ⟨rfl, HX15.out.trans hx16⟩

end Go.Proofs.Ytfkehbhlagpmcaa
