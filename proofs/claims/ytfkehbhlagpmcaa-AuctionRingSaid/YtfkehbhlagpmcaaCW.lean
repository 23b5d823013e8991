/- The entry functions. -/
import Derived.Test.YtfkehbhlagpmcaaCT
import Derived.Test.YtfkehbhlagpmcaaCO
import Derived.Test.YtfkehbhlagpmcaaCV
set_option linter.unusedSimpArgs false
set_option linter.unusedVariables false
namespace Go.Proofs.Ytfkehbhlagpmcaa
open Go Go.RowKit Go.Shelf
open Au
def saleE (s : Sal) : Int := if saleB s = true then 0 else 40
set_option maxHeartbeats 4000000 in
theorem Check_any (v : Value) (s : Sal) (w : World) (hv : ListsAt w v s.offers) : Cal 18 #[saleV s v] w fun e w' => e = .returned (.int .i64 (saleE s)) ∧ Ext w w' := by
  cases hb : saleB s with
  | false =>
    have HE : Hid (saleE s = 40) := hid (by unfold saleE; rw [hb]; rfl)
    have HN := hid (fun (u : World) (hu : Ext w u) => newSale_bad s v u (hv.mono hu) hb)
    clear hb
    obtain ⟨a, cap, rfl, ⟨hcap, hlen⟩, _⟩ := hv
    try unfold saleV at *
    try unfold saleW at *
    gi_enter Try.func18, Try.ntmps18
    gi_wp2_with (gi_at_call 47; ((with_reducible refine (HN.out _ ((Ext.refl _).alloc _)).mono ?_); rintro e w1 ⟨rfl, hx1⟩; have HX1 := hid (((Ext.refl w).alloc _).trans hx1); have hb24 := hx1.block (Ext.new (Ext.refl _)); have H24 := hid hb24; clear hx1 hb24))
    go_ret
    exact ⟨by rw [HE.out]; rfl, HX1.out.alloc _⟩
  | true =>
    have HE : Hid (saleE s = 0) := hid (by unfold saleE; rw [hb]; rfl)
    have ho := sale_ok hb
    have HN := hid (fun (u : World) (hu : Ext w u) => newSale_ok s v u (hv.mono hu) hb)

    clear hb
    obtain ⟨a, cap, rfl, ⟨hcap, hlen⟩, _⟩ := hv
    try unfold saleV at *
    try unfold saleW at *
    gi_enter Try.func18, Try.ntmps18
    gi_wp2_with (gi_at_call 47; ((with_reducible refine (HN.out _ ((Ext.refl _).alloc _)).mono ?_); rintro e w1 ⟨rfl, hx1⟩; have HX1 := hid (((Ext.refl w).alloc _).trans hx1); have hb24 := hx1.block (Ext.new (Ext.refl _)); have H24 := hid hb24; clear hx1 hb24))
    go_ret
    exact ⟨by rw [HE.out]; rfl, HX1.out.alloc _⟩
set_option maxRecDepth 100000 in
set_option maxHeartbeats 4000000 in
theorem Sell_bad (v : Value) (s : Sal) (w : World) (hv : ListsAt w v s.offers) (hb : saleB s = false) :
    Cal 15 #[saleV s v] w fun e w' => e = .returned (.tuple #[.slice none 0 0, .int .i64 40]) ∧ Ext w w' := by
  have HN := hid (fun (u : World) (hu : Ext w u) => newSale_bad s v u (hv.mono hu) hb)
  clear hb
  obtain ⟨a, cap, rfl, ⟨hcap, hlen⟩, _⟩ := hv
  try unfold saleV at *
  try unfold saleW at *
  gi_enter Try.func15, Try.ntmps15
  gi_wp2_with (gi_at_call 47; ((with_reducible refine (HN.out _ ((Ext.refl _).alloc _)).mono ?_); rintro e w1 ⟨rfl, hx1⟩; have HX1 := hid (((Ext.refl w).alloc _).trans hx1); have hb24 := hx1.block (Ext.new (Ext.refl _)); have H24 := hid hb24; clear hx1 hb24))
  refine bodyPost_ret (v := .tuple #[.slice none 0 0, .int .i64 40]) (by simp [results, Try.results15, go_sem]) rfl ⟨rfl, HX1.out.alloc _⟩
set_option maxRecDepth 100000 in
set_option maxHeartbeats 4000000 in
theorem Sell_ok (v : Value) (s : Sal) (w : World) (hv : ListsAt w v s.offers) (hb : saleB s = true) :
    Cal 15 #[saleV s v] w fun e w' => ∃ r, e = .returned (.tuple #[r, .int .i64 0]) ∧ Ext w w' ∧ DealsAt w' r (sellL s) ∧ Hid (Row w' 50 2 r s.offers.length (flatD (fun i => (gets s i : Int)) (pays s) s.offers.length) ∧ ∀ g, r.ownBlock = some g → w.heap.size ≤ g) := by
  have ho := sale_ok hb
  have HN := hid (fun (u : World) (hu : Ext w u) => newSale_ok s v u (hv.mono hu) hb)
  have HD := hid (fun (u : World) (hu : Ext w u) => deals_any v s u (hv.mono hu) ho)
  clear hb ho
  obtain ⟨a, cap, rfl, ⟨hcap, hlen⟩, _⟩ := hv
  try unfold saleV at *
  try unfold saleW at *
  gi_enter Try.func15, Try.ntmps15
  gi_wp2_with (first | (gi_at_call 47; ((with_reducible refine (HN.out _ ((Ext.refl _).alloc _)).mono ?_); rintro e w1 ⟨rfl, hx1⟩; have HX1 := hid (((Ext.refl w).alloc _).trans hx1); have hb24 := hx1.block (Ext.new (Ext.refl _)); have H24 := hid hb24; clear hx1 hb24)) | (gi_at_call 48; ((with_reducible refine (HD.out _ (HX1.out.alloc _)).mono ?_); rintro e w2 ⟨r, rfl, hx2, hd2, hr2⟩)))
  have HF := hid (And.intro ((HX1.out.alloc _).trans hx2) hd2)
  have HR := hid (And.intro hr2.out.1 (show ∀ g, r.ownBlock = some g → w.heap.size ≤ g from fun g hg => by have h1 := hr2.out.2 g hg; have h2 := HX1.out.size; simp only [World.size_alloc] at h1; omega))
  clear hx2 hd2 hr2
  refine bodyPost_ret (v := .tuple #[r, .int .i64 0]) (by simp [results, Try.results15, go_sem]) rfl ⟨r, rfl, HF.out.1, HF.out.2, HR⟩
set_option maxRecDepth 100000 in
set_option maxHeartbeats 4000000 in
theorem Worth_bad (v : Value) (s : Sal) (w : World) (hv : ListsAt w v s.offers) (hb : saleB s = false) :
    Cal 20 #[saleV s v] w fun e w' => e = .returned (.tuple #[.int .i64 0, .int .i64 40]) ∧ Ext w w' := by
  have HN := hid (fun (u : World) (hu : Ext w u) => newSale_bad s v u (hv.mono hu) hb)
  clear hb
  obtain ⟨a, cap, rfl, ⟨hcap, hlen⟩, _⟩ := hv
  try unfold saleV at *
  try unfold saleW at *
  gi_enter Try.func20, Try.ntmps20
  gi_wp2_with (gi_at_call 47; ((with_reducible refine (HN.out _ ((Ext.refl _).alloc _)).mono ?_); rintro e w1 ⟨rfl, hx1⟩; have HX1 := hid (((Ext.refl w).alloc _).trans hx1); have hb24 := hx1.block (Ext.new (Ext.refl _)); have H24 := hid hb24; clear hx1 hb24))
  refine bodyPost_ret (v := .tuple #[.int .i64 0, .int .i64 40]) (by simp [results, Try.results20, go_sem]) rfl ⟨rfl, HX1.out.alloc _⟩
set_option maxRecDepth 100000 in
set_option maxHeartbeats 4000000 in
theorem Worth_ok (v : Value) (s : Sal) (w : World) (hv : ListsAt w v s.offers) (hb : saleB s = true) :
    Cal 20 #[saleV s v] w fun e w' => e = .returned (.tuple #[.int .i64 (worth s), .int .i64 0]) ∧ Ext w w' := by
  have ho := sale_ok hb
  have HN := hid (fun (u : World) (hu : Ext w u) => newSale_ok s v u (hv.mono hu) hb)
  have HD := hid (fun (u : World) (hu : Ext w u) => worth_any v s u (hv.mono hu) ho)
  clear hb ho
  obtain ⟨a, cap, rfl, ⟨hcap, hlen⟩, _⟩ := hv
  try unfold saleV at *
  try unfold saleW at *
  gi_enter Try.func20, Try.ntmps20
  gi_wp2_with (first | (gi_at_call 47; ((with_reducible refine (HN.out _ ((Ext.refl _).alloc _)).mono ?_); rintro e w1 ⟨rfl, hx1⟩; have HX1 := hid (((Ext.refl w).alloc _).trans hx1); have hb24 := hx1.block (Ext.new (Ext.refl _)); have H24 := hid hb24; clear hx1 hb24)) | (gi_at_call 51; ((with_reducible refine (HD.out _ (HX1.out.alloc _)).mono ?_); rintro e w2 ⟨rfl, hx2⟩)))
  have HF := hid ((HX1.out.alloc _).trans hx2)
  clear hx2
  refine bodyPost_ret (v := .tuple #[.int .i64 (worth s), .int .i64 0]) (by simp [results, Try.results20, go_sem]) rfl ⟨rfl, HF.out⟩
set_option maxRecDepth 100000 in
set_option maxHeartbeats 4000000 in
theorem Gain_bad (v : Value) (s : Sal) (b : Int) (wv : Value) (wl : List Int) (w : World) (hv : ListsAt w v s.offers) (hwv : IntsAt w wv wl) (hb : saleB s = false) :
    Cal 23 #[saleV s v, .int .i64 b, wv] w fun e w' => e = .returned (.tuple #[.int .i64 0, .int .i64 40]) ∧ Ext w w' := by
  obtain ⟨aw, cw, rfl, ⟨hcw, hlw⟩, _⟩ := hwv
  have HN := hid (fun (u : World) (hu : Ext w u) => newSale_bad s v u (hv.mono hu) hb)
  clear hb
  obtain ⟨a, cap, rfl, ⟨hcap, hlen⟩, _⟩ := hv
  try unfold saleV at *
  try unfold saleW at *
  gi_enter Try.func23, Try.ntmps23
  gi_wp2_with (gi_at_call 47; ((with_reducible refine (HN.out _ ((Ext.refl _).alloc _)).mono ?_); rintro e w1 ⟨rfl, hx1⟩; have HX1 := hid (((Ext.refl w).alloc _).trans hx1); have hb24 := hx1.block (Ext.new (Ext.refl _)); have H24 := hid hb24; clear hx1 hb24))
  refine bodyPost_ret (v := .tuple #[.int .i64 0, .int .i64 40]) (by simp [results, Try.results23, go_sem]) rfl ⟨rfl, HX1.out.alloc _⟩
set_option maxRecDepth 100000 in
set_option maxHeartbeats 4000000 in
theorem Gain_has (v : Value) (s : Sal) (b : Int) (wv : Value) (wl : List Int) (w : World) (hv : ListsAt w v s.offers) (hwv : IntsAt w wv wl) (hb : saleB s = true) (hib : inB b 0 ((s.offers.length : Int) - 1) = false) :
    Cal 23 #[saleV s v, .int .i64 b, wv] w fun e w' => e = .returned (.tuple #[.int .i64 0, .int .i64 41]) ∧ Ext w w' := by
  have ho := sale_ok hb
  have HN := hid (fun (u : World) (hu : Ext w u) => newSale_ok s v u (hv.mono hu) hb)
  have hvs : ∃ a cap, v = .slice a s.offers.length cap := by obtain ⟨a, cap, h, _⟩ := hv; exact ⟨a, cap, h⟩
  have hn := ho.n
  have HH := hid (fun (u : World) => has_any s v b u hvs (by omega))
  rw [hib] at HH
  clear hb hib hvs ho hn
  obtain ⟨aw, cw, rfl, ⟨hcw, hlw⟩, _⟩ := hwv
  obtain ⟨a, cap, rfl, ⟨hcap, hlen⟩, _⟩ := hv
  try unfold saleV at *
  try unfold saleW at *
  gi_enter Try.func23, Try.ntmps23
  gi_wp2_with (first | (gi_at_call 47; ((with_reducible refine (HN.out _ ((Ext.refl _).alloc _)).mono ?_); rintro e w1 ⟨rfl, hx1⟩; have HX1 := hid (((Ext.refl w).alloc _).trans hx1); have hb24 := hx1.block (Ext.new (Ext.refl _)); have H24 := hid hb24; clear hx1 hb24)) | (gi_at_call 53; ((with_reducible refine (HH.out _).mono ?_); rintro e w2 ⟨rfl, hx2⟩; have HX2 := hid ((HX1.out.alloc _).trans hx2); have HB71 := hid (hx2.block (Ext.new (Ext.refl _))); have c71 := cell_of HB71.out; clear hx2)))
  refine bodyPost_ret (v := .tuple #[.int .i64 0, .int .i64 41]) (by simp [results, Try.results23, go_sem]) rfl ⟨rfl, HX2.out⟩
set_option maxRecDepth 100000 in
set_option maxHeartbeats 4000000 in
theorem Gain_fall (v : Value) (s : Sal) (b : Int) (wv : Value) (wl : List Int) (w : World) (hv : ListsAt w v s.offers) (hwv : IntsAt w wv wl) (hb : saleB s = true) (hib : inB b 0 ((s.offers.length : Int) - 1) = true) (hfb : fallB wl = false) :
    Cal 23 #[saleV s v, .int .i64 b, wv] w fun e w' => e = .returned (.tuple #[.int .i64 0, .int .i64 41]) ∧ Ext w w' := by
  have ho := sale_ok hb
  have HN := hid (fun (u : World) (hu : Ext w u) => newSale_ok s v u (hv.mono hu) hb)
  have hvs : ∃ a cap, v = .slice a s.offers.length cap := by obtain ⟨a, cap, h, _⟩ := hv; exact ⟨a, cap, h⟩
  have hn := ho.n
  have HH := hid (fun (u : World) => has_any s v b u hvs (by omega))
  rw [hib] at HH
  have HP := hid (fun (u : World) (hu : Ext w u) => arePrices_any wv wl u (hwv.mono hu))
  rw [hfb] at HP
  clear hb hib hfb hvs ho hn
  obtain ⟨aw, cw, rfl, ⟨hcw, hlw⟩, _⟩ := hwv
  obtain ⟨a, cap, rfl, ⟨hcap, hlen⟩, _⟩ := hv
  try unfold saleV at *
  try unfold saleW at *
  gi_enter Try.func23, Try.ntmps23
  gi_wp2_with (first | (gi_at_call 47; ((with_reducible refine (HN.out _ ((Ext.refl _).alloc _)).mono ?_); rintro e w1 ⟨rfl, hx1⟩; have HX1 := hid (((Ext.refl w).alloc _).trans hx1); have hb24 := hx1.block (Ext.new (Ext.refl _)); have H24 := hid hb24; clear hx1 hb24)) | (gi_at_call 53; ((with_reducible refine (HH.out _).mono ?_); rintro e w2 ⟨rfl, hx2⟩; have HX2 := hid ((HX1.out.alloc _).trans hx2); have HB71 := hid (hx2.block (Ext.new (Ext.refl _))); have c71 := cell_of HB71.out; clear hx2)) | (gi_at_call 54; ((with_reducible refine (HP.out _ HX2.out).mono ?_); rintro e w3 ⟨rfl, rfl⟩)))
  refine bodyPost_ret (v := .tuple #[.int .i64 0, .int .i64 41]) (by simp [results, Try.results23, go_sem]) rfl ⟨rfl, HX2.out⟩
set_option maxRecDepth 100000 in
set_option maxHeartbeats 4000000 in
theorem Gain_ok (v : Value) (s : Sal) (b : Nat) (wv : Value) (wl : List Int) (w : World) (hv : ListsAt w v s.offers) (hwv : IntsAt w wv wl) (hb : saleB s = true) (hbn : b < s.offers.length) (hfb : fallB wl = true) :
    Cal 23 #[saleV s v, .int .i64 (b : Int), wv] w fun e w' => e = .returned (.tuple #[.int .i64 (gain s b wl), .int .i64 0]) ∧ Ext w w' := by
  have hib : inB (b : Int) 0 ((s.offers.length : Int) - 1) = true := by unfold inB; simp; omega
  have ho := sale_ok hb
  have HN := hid (fun (u : World) (hu : Ext w u) => newSale_ok s v u (hv.mono hu) hb)
  have hvs : ∃ a cap, v = .slice a s.offers.length cap := by obtain ⟨a, cap, h, _⟩ := hv; exact ⟨a, cap, h⟩
  have hn := ho.n
  have HH := hid (fun (u : World) => has_any s v (b : Int) u hvs (by omega))
  rw [hib] at HH
  have hfall := fall_ok hfb
  have HG := hid (fun (u : World) (hu : Ext w u) => gain_any v s b wv wl u (hv.mono hu) ho hbn (hwv.mono hu) hfall)
  have HP := hid (fun (u : World) (hu : Ext w u) => arePrices_any wv wl u (hwv.mono hu))
  rw [hfb] at HP
  clear hb hib hfb hvs ho hn hfall
  obtain ⟨aw, cw, rfl, ⟨hcw, hlw⟩, _⟩ := hwv
  obtain ⟨a, cap, rfl, ⟨hcap, hlen⟩, _⟩ := hv
  try unfold saleV at *
  try unfold saleW at *
  gi_enter Try.func23, Try.ntmps23
  gi_wp2_with (first | (gi_at_call 47; ((with_reducible refine (HN.out _ ((Ext.refl _).alloc _)).mono ?_); rintro e w1 ⟨rfl, hx1⟩; have HX1 := hid (((Ext.refl w).alloc _).trans hx1); have hb24 := hx1.block (Ext.new (Ext.refl _)); have H24 := hid hb24; clear hx1 hb24)) | (gi_at_call 53; ((with_reducible refine (HH.out _).mono ?_); rintro e w2 ⟨rfl, hx2⟩; have HX2 := hid ((HX1.out.alloc _).trans hx2); have HB71 := hid (hx2.block (Ext.new (Ext.refl _))); have c71 := cell_of HB71.out; clear hx2)) | (gi_at_call 54; ((with_reducible refine (HP.out _ HX2.out).mono ?_); rintro e w3 ⟨rfl, rfl⟩)) | (gi_at_call 55; ((with_reducible refine (HG.out _ HX2.out).mono ?_); rintro e w4 ⟨rfl, hx4⟩)))
  have HF := hid (HX2.out.trans hx4)
  clear hx4
  refine bodyPost_ret (v := .tuple #[.int .i64 (gain s b wl), .int .i64 0]) (by simp [results, Try.results23, go_sem]) rfl ⟨rfl, HF.out⟩

end Go.Proofs.Ytfkehbhlagpmcaa
