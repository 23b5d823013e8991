/- The law AuctionTrue. -/
import Derived.Test.YtfkehbhlagpmcaaEA
set_option linter.unusedSimpArgs false
set_option linter.unusedVariables false
namespace Go.Proofs.Ytfkehbhlagpmcaa
open Go Go.RowKit Go.Shelf
open Au
/-- The appended copy of lists. -/
theorem app_lists (w0 W : World) (a : Option Addr) (cap : Nat) (ls : List (List Int)) (hx0 : Ext w0 W) (hv : ListsAt w0 (.slice a ls.length cap) ls) (h0 : 0 < ls.length ∧ ls.length ≤ 1000) :
    ∃ r w' us, (Builtin.append_ #[22, 22] 22 #[.slice (some ⟨W.heap.size, 0, none⟩) 0 0, .slice a ls.length cap]).run Try.prog (W.alloc (.cells #[] 35)) = .ok r w' ∧ Row w' 35 1 r ls.length us ∧ (∀ i (h : i < ls.length), ∃ u, us[i]? = some u ∧ IntsAt w0 u ls[i]) ∧ Ext W w' ∧ ∀ g, r.ownBlock = some g → W.heap.size ≤ g := by
  obtain ⟨_, b, off, us, rfl, hb, h1, h2, h3, h4⟩ := lists_cells hv h0.1
  have hx : Ext W (W.alloc (.cells #[] 35)) := (Ext.refl _).alloc _
  obtain ⟨i, hi, hz0, hz1, hz2⟩ := info_parts info35
  obtain ⟨r, w', hrun, hrow, hgr, how⟩ := append_rows (sz := 1) (bytes := 24) (t := 22) (ty := 22) Try.underlying22 hi hz0 hz1 hz2 (by simp [Value.cells]) (by omega) h0.1 (row_empty W 35 1) ⟨b, off, none⟩ cap us (by rw [h1, Nat.mul_one]) (fun j u hj => by
    have := h2 j u hj
    rw [Addr.add_mid] at this ⊢
    rw [(hx0.trans hx).cell (p := ⟨b, off + j, none⟩) hb]; exact this) h3 (by omega) (by omega)
  rw [Nat.zero_add, List.nil_append] at hrow
  exact ⟨r, w', us, hrun, hrow, h4, ext_grown hx hgr fun g hg => by cases hg; exact Nat.le_refl _, fun g hg => by
    rcases how with e | e
    · rw [hg] at e; cases e; exact Nat.le_refl _
    · rw [hg] at e; cases e; simp⟩
/-- A list put into its place. -/
theorem lists_put {w W : World} {g cap : Nat} {cur : Array Value} {ls : List (List Int)} {us : List Value} {i : Nat} {v : Value} {l : List Int} (hx : Ext w W) (hg : W.heap[g]? = some (.cells (cur.setIfInBounds i v) 35 (0, 0)))
    (hcur : ∀ j, j < ls.length → cur[j]? = us[j]?) (hus : ∀ j (h : j < ls.length), ∃ u, us[j]? = some u ∧ IntsAt w u ls[j]) (hl : ls.length ≤ cap ∧ ls.length ≤ 1000) (hv : IntsAt w v l) :
    ListsAt W (.slice (some ⟨g, 0, none⟩) ls.length cap) (ls.set i l) := by
  refine ⟨_, cap, by rw [List.length_set], by rw [List.length_set]; omega, fun j hj => ?_⟩
  rw [List.length_set] at hj
  obtain ⟨u, h1, h2⟩ := hus j hj
  rw [← hcur j hj] at h1
  have hjs : j < cur.size := (Array.getElem?_eq_some_iff.1 h1).1
  by_cases hij : i = j
  · subst hij
    refine ⟨g, 0, v, rfl, lt_of_block hg, ?_, ?_⟩
    · rw [cell_of hg, Nat.zero_add, Array.getElem?_setIfInBounds_self_of_lt hjs]
    · rw [List.getElem_set_self]
      exact hv.mono hx
  · refine ⟨g, 0, u, rfl, lt_of_block hg, ?_, ?_⟩
    · rw [cell_of hg, Nat.zero_add, Array.getElem?_setIfInBounds_ne hij]; exact h1
    · rw [List.getElem_set_ne hij]; exact h2.mono hx
set_option maxRecDepth 100000 in
set_option maxHeartbeats 8000000 in
theorem AuctionTrue_any (s : Sal) (v : Value) (k : Int) (wv : Value) (wl : List Int) (w : World) (hv : ListsAt w v s.offers) (hwv : IntsAt w wv wl) :
    Cal 8 #[saleV s v, .int .i64 k, wv] w fun e w' => e = .returned (.bool true) ∧ Ext w w' := by
  have HS := hid (fun (u : World) (hu : Ext w u) => sound_any v s u (hv.mono hu))
  have HF := hid (fun (u : World) (hu : Ext w u) => falling_any wv wl u (hwv.mono hu))
  cases hb : saleB s with
  | false =>
    rw [hb] at HS
    obtain ⟨a, cap, rfl, ⟨hcap, hlen⟩, _⟩ := hv
    unfold saleV at *
    clear hb
    gi_enter Try.func8, Try.ntmps8
    gi_wp2_with (first | (gi_at_call 34; ((with_reducible refine (HS.out _ ((Ext.refl _).alloc _)).mono ?_); rintro e w1 ⟨rfl, hx1⟩; have HX1 := hid (((Ext.refl w).alloc _).trans hx1); clear hx1)) | (gi_at_call 22; ((with_reducible refine (works_any _).mono ?_); rintro e w2 ⟨rfl, hx2⟩)))
    go_ret
    exact ⟨rfl, HX1.out.trans hx2⟩
  | true =>
  cases hfb : fallB wl with
  | false =>
    rw [hb] at HS
    rw [hfb] at HF
    obtain ⟨a, cap, rfl, ⟨hcap, hlen⟩, _⟩ := hv
    obtain ⟨aw, cw, rfl, ⟨hcw, hlw⟩, _⟩ := hwv
    unfold saleV at *
    clear hb hfb
    gi_enter Try.func8, Try.ntmps8
    gi_wp2_with (first | (gi_at_call 34; ((with_reducible refine (HS.out _ ((Ext.refl _).alloc _)).mono ?_); rintro e w1 ⟨rfl, hx1⟩; have HX1 := hid (((Ext.refl w).alloc _).trans hx1); clear hx1)) | (gi_at_call 38; ((with_reducible refine (HF.out _ HX1.out).mono ?_); rintro e w3 ⟨rfl, rfl⟩)) | (gi_at_call 22; ((with_reducible refine (works_any _).mono ?_); rintro e w2 ⟨rfl, hx2⟩)))
    go_ret
    exact ⟨rfl, HX1.out.trans hx2⟩
  | true =>
    rw [hb] at HS
    rw [hfb] at HF
    have ho := sale_ok hb
    have hn := ho.n
    have hmo := modI_ok k (m := (s.offers.length : Int)) (by omega)
    obtain ⟨j, hj⟩ : ∃ j : Nat, modI k s.offers.length = j := ⟨(modI k s.offers.length).toNat, by omega⟩
    have hjl : j < s.offers.length := by omega
    have HM := hid (fun (u : World) => mod_any k (s.offers.length : Int) u (by omega))
    rw [hj] at HM
    have ht := truth ho hjl (fall_ok hfb)
    rw [of_get hjl] at ht
    have hfj : fallB s.offers[j] = true := by rw [← of_get hjl]; exact fall_iff.2 (ho.fall j)
    have hb2 : saleB { s with offers := s.offers.set j wl } = true := by
      refine sale_iff.2 ⟨ho.crans, ho.least, by rw [List.length_set]; exact ho.n, fun i => ?_⟩
      rw [of_set hjl]
      split
      · exact fall_ok hfb
      · exact ho.fall i
    have HG1 := hid (fun (u : World) (q : Value) (hu : Ext w u) (hq : IntsAt u q s.offers[j]) => Gain_ok v s j q s.offers[j] u (hv.mono hu) hq hb hjl hfj)
    have HG2 := hid (fun (u : World) (r q : Value) (hr : ListsAt u r (s.offers.set j wl)) (hq : IntsAt u q s.offers[j]) => Gain_ok r { s with offers := s.offers.set j wl } j q s.offers[j] u hr hq hb2 (by rw [List.length_set]; exact hjl) hfj)
    unfold saleV at HG2
    generalize gain s j s.offers[j] = g1 at *
    generalize gain { s with offers := s.offers.set j wl } j s.offers[j] = g2 at *
    have HV := hid hv
    have HWV := hid hwv
    obtain ⟨a, cap, rfl, ⟨hcap, hlen⟩, hc⟩ := hv
    obtain ⟨b, off, uj, rfl, hbb, hck, huj⟩ := hc j hjl
    have HUJ := hid huj
    obtain ⟨aj, cj, rfl, ⟨hcj, hlj⟩, -⟩ := huj
    obtain ⟨aw, cw, rfl, ⟨hcw, hlw⟩, -⟩ := hwv
    have HT := hid ht
    have HCK := hid (fun (u : World) (hu : Ext w u) => (hu.cell (p := ⟨b, off + j, none⟩) hbb).trans hck)
    unfold saleV at *
    generalize s.offers[j] = lj at *
    generalize s.crans = cr at *
    generalize s.least = le at *
    generalize s.offers = ls at *
    clear hb hfb ho hmo hj hfj hb2 ht hc hck
    gi_enter Try.func8, Try.ntmps8
    gi_upto_region 4 with (first | (gi_at_call 34; ((with_reducible refine (HS.out _ ((Ext.refl _).alloc _)).mono ?_); rintro e w1 ⟨rfl, hx1⟩; have HX1 := hid (((Ext.refl w).alloc _).trans hx1); have hb24 := hx1.block (Ext.new (Ext.refl _)); have H24 := hid hb24; have c24 := cell_of H24.out; clear hx1 hb24)) | (gi_at_call 38; ((with_reducible refine (HF.out _ HX1.out).mono ?_); rintro e w3 ⟨rfl, rfl⟩)) | (gi_at_call 36; ((with_reducible refine (HM.out _).mono ?_); rintro e w4 ⟨rfl, rfl⟩)))
    have hck := HCK.out _ HX1.out
    gi_upto_region 5 with (fail)
    clear hck
    gi_upto_region 6 with (fail)
    have h9 := Ext.new (w := w1) (o := .cells #[.int .i64 cr, .int .i64 le, .slice (some ⟨b, off, none⟩) ls.length cap] 24) (Ext.refl _)
    have hxW := (Ext.refl w1).alloc (.cells #[.int .i64 cr, .int .i64 le, .slice (some ⟨b, off, none⟩) ls.length cap] 24)
    have h3 := hxW.block H24.out
    have hlt3 := lt_of_block H24.out
    have HXW := hid (HX1.out.trans hxW)
    clear HX1 H24 c24 hxW
    generalize w1.alloc (.cells #[.int .i64 cr, .int .i64 le, .slice (some ⟨b, off, none⟩) ls.length cap] 24) = W at *
    generalize w1.heap.size = g9 at *
    have hlt9 := lt_of_block h9
    have hltW := lt_of_block h3
    obtain ⟨r, w2, us, hrun, hrow, hus, hx2, how⟩ := app_lists w W (some ⟨b, off, none⟩) cap ls HXW.out HV.out (by omega)
    obtain ⟨g, cap', cur, rfl, hg, hcap', hcur⟩ := row_blk hrow (by omega)
    have hgg := how g rfl
    have HRUN := hid hrun
    have k9 := hx2.block h9
    have k3 := hx2.block h3
    have c9 := cell_of k9
    have f9 := free_of k9
    have c3 := cell_of h3
    have cg := cell_of hg j
    have fg := free_of hg
    obtain ⟨u0, hu0, hu1⟩ := hus j hjl
    have hcu := hcur j (by omega)
    rw [hu0] at hcu
    obtain ⟨a0, c0, rfl, -⟩ := hu1
    rw [hcu] at cg
    have HG := hid hg
    have HU := hid (And.intro hus hcur)
    have HK := hid (And.intro k9 k3)
    have HX2 := hid (HXW.out.trans hx2)
    have hne1 : g ≠ g9 := by omega
    have hne2 : g ≠ w.heap.size := by omega
    have hne3 : w.heap.size ≠ g9 := by omega
    clear hrun hrow hus hx2 how hg hcur hu0 hcu k9 k3 h3 h9
    gi_upto_region 7 with (refine wpIn_append_at (fun _ => trivial) rfl (W.alloc (.cells #[] 35)) (.tmp 34) (.tmp 36) 22 rfl (by with_reducible rfl) HRUN.out rfl rfl rfl ?_)
    gi_upto_region 8 with (fail)
    have d9 := HK.out.1
    have d3 := HK.out.2
    have dg := HG.out
    rw [← set_other (w := w2) (g := g9) (k := w.heap.size) hne3 2 (.slice (some ⟨g, 0, none⟩) ls.length cap')] at d3
    rw [← set_other (w := w2) (g := g9) (k := g) hne1 2 (.slice (some ⟨g, 0, none⟩) ls.length cap')] at dg
    have d9 := set_same d9 2 (.slice (some ⟨g, 0, none⟩) ls.length cap')
    have x0 := HX2.out.set (b := g9) (by omega) 2 (.slice (some ⟨g, 0, none⟩) ls.length cap')
    generalize w2.setCell ⟨g9, 2, none⟩ (.slice (some ⟨g, 0, none⟩) ls.length cap') = w3 at *
    rw [← set_other (w := w3) (g := g) (k := w.heap.size) (by omega) j (.slice aw wl.length cw)] at d3
    rw [← set_other (w := w3) (g := g) (k := g9) (by omega) j (.slice aw wl.length cw)] at d9
    have dg := set_same dg j (.slice aw wl.length cw)
    have x1 := x0.set (b := g) (by omega) j (.slice aw wl.length cw)
    generalize w3.setCell ⟨g, j, none⟩ (.slice aw wl.length cw) = w4 at *
    simp only [List.setIfInBounds_toArray, List.set_cons_succ, List.set_cons_zero] at d9
    have HL := hid (lists_put (w := w) (us := us) (cap := cap') (ls := ls) (i := j) (v := .slice aw wl.length cw) (l := wl) x1 dg (fun i hi => HU.out.2 i (by omega)) (fun i hi => (HU.out.1 i hi).imp fun u hu => hu) (by omega) HWV.out)
    have HX4 := hid x1
    have H9 := hid d9
    have HT2 := hid HT.out.1
    have HT3 := hid HT.out.2
    have c3' := cell_of d3
    clear d9 d3 dg x0 x1 c9 f9 c3 cg fg HG HK HU HX2 HXW HRUN
    gi_upto_region 9 with (gi_at_call 23; ((with_reducible refine (HG1.out _ _ HX4.out (HUJ.out.mono HX4.out)).mono ?_); rintro e w5 ⟨rfl, hx5⟩; have c9 := cell_of (hx5.block H9.out); have HX5 := hid (HX4.out.trans hx5); have HL5 := hid (HL.out.mono hx5); clear hx5))
    gi_upto_region 10 with (gi_at_call 23; ((with_reducible refine (HG2.out _ _ _ HL5.out (HUJ.out.mono HX5.out)).mono ?_); rintro e w6 ⟨rfl, hx6⟩; have HX6 := hid (HX5.out.trans hx6); clear hx6))
    have ht1 := HT2.out
    have ht2 := HT3.out
    gi_wp2_with (gi_at_call 22; ((with_reducible refine (works_any _).mono ?_); rintro e w7 ⟨rfl, hx7⟩))
    go_ret
    exact ⟨rfl, HX6.out.trans hx7⟩

end Go.Proofs.Ytfkehbhlagpmcaa
