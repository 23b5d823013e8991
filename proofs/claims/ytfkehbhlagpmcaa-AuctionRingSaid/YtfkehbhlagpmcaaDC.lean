/- The laws' own sale and baskets; the chapter's examples hold. -/
import Derived.Test.YtfkehbhlagpmcaaDA
import Derived.Test.YtfkehbhlagpmcaaDD
set_option linter.unusedSimpArgs false
set_option linter.unusedVariables false
namespace Go.Proofs.Ytfkehbhlagpmcaa
open Go Go.RowKit Go.Shelf
open Au
theorem ints_lit {w : World} {g : Nat} {cs : Array Value} (xs : List Int) (h : w.heap[g]? = some (.cells cs 3 (0, 0))) (hc : cs.toList = intsV xs) (hl : xs.length ≤ 1000) : IntsAt w (.slice (some ⟨g, 0, none⟩) xs.length xs.length) xs := by
  refine ⟨_, xs.length, rfl, by omega, fun i hi => ⟨g, 0, rfl, lt_of_block h, ?_⟩⟩
  rw [cell_of h, Nat.zero_add, ← Array.getElem?_toList, hc]
  exact intsV_get hi
set_option maxHeartbeats 1000000 in
theorem to_any (a b : Int) (w : World) : Cal 45 #[.int .i64 a, .int .i64 b] w fun e w' => e = .returned (spnV ⟨a, b⟩) ∧ Ext w w' := by
  unfold spnV
  gi_enter Try.func45, Try.ntmps45
  gi_wp2
  have hx := (Ext.refl w).alloc (.cells #[.int .i64 a, .int .i64 b] 66)
  have c4 := cell_of (Ext.new (w := w) (o := .cells #[.int .i64 a, .int .i64 b] 66) (Ext.refl _))
  generalize w.alloc (.cells #[.int .i64 a, .int .i64 b] 66) = W at *
  refine bodyPost_ret (v := .agg #[.int .i64 a, .int .i64 b]) (by simp [results, Try.results45, go_sem, c4]) rfl ⟨rfl, hx⟩
set_option maxRecDepth 100000 in
set_option maxHeartbeats 1000000 in
theorem exSale_any (c : Int) (w : World) : Cal 44 #[.int .i64 c] w fun e w' => ∃ r, e = .returned (saleV (exS c) r) ∧ Ext w w' ∧ ListsAt w' r (exS c).offers := by
  gi_enter Try.func44, Try.ntmps44
  gi_wp2
  have hx : Ext w (((((w.alloc (.cells #[.int .i64 c, .int .i64 4, .slice (some ⟨w.heap.size + 1 + 1 + 1 + 1, 0, none⟩) 3 3] 24)).alloc (.cells #[.int .i64 20, .int .i64 12, .int .i64 5] 3)).alloc (.cells #[.int .i64 15, .int .i64 14] 3)).alloc (.cells #[.int .i64 10, .int .i64 3] 3)).alloc (.cells #[.slice (some ⟨w.heap.size + 1, 0, none⟩) 3 3, .slice (some ⟨w.heap.size + 1 + 1, 0, none⟩) 2 2, .slice (some ⟨w.heap.size + 1 + 1 + 1, 0, none⟩) 2 2] 35)) := (((((Ext.refl _).alloc _).alloc _).alloc _).alloc _).alloc _
  have h0 : (((((w.alloc (.cells #[.int .i64 c, .int .i64 4, .slice (some ⟨w.heap.size + 1 + 1 + 1 + 1, 0, none⟩) 3 3] 24)).alloc (.cells #[.int .i64 20, .int .i64 12, .int .i64 5] 3)).alloc (.cells #[.int .i64 15, .int .i64 14] 3)).alloc (.cells #[.int .i64 10, .int .i64 3] 3)).alloc (.cells #[.slice (some ⟨w.heap.size + 1, 0, none⟩) 3 3, .slice (some ⟨w.heap.size + 1 + 1, 0, none⟩) 2 2, .slice (some ⟨w.heap.size + 1 + 1 + 1, 0, none⟩) 2 2] 35)).heap[w.heap.size]? = some (.cells #[.int .i64 c, .int .i64 4, .slice (some ⟨w.heap.size + 1 + 1 + 1 + 1, 0, none⟩) 3 3] 24 (0, 0)) := by
    have := (show Ext (w.alloc (.cells #[.int .i64 c, .int .i64 4, .slice (some ⟨w.heap.size + 1 + 1 + 1 + 1, 0, none⟩) 3 3] 24)) (((((w.alloc (.cells #[.int .i64 c, .int .i64 4, .slice (some ⟨w.heap.size + 1 + 1 + 1 + 1, 0, none⟩) 3 3] 24)).alloc (.cells #[.int .i64 20, .int .i64 12, .int .i64 5] 3)).alloc (.cells #[.int .i64 15, .int .i64 14] 3)).alloc (.cells #[.int .i64 10, .int .i64 3] 3)).alloc (.cells #[.slice (some ⟨w.heap.size + 1, 0, none⟩) 3 3, .slice (some ⟨w.heap.size + 1 + 1, 0, none⟩) 2 2, .slice (some ⟨w.heap.size + 1 + 1 + 1, 0, none⟩) 2 2] 35)) from (((((Ext.refl _).alloc _).alloc _).alloc _).alloc _)).block (Ext.new (w := w) (o := .cells #[.int .i64 c, .int .i64 4, .slice (some ⟨w.heap.size + 1 + 1 + 1 + 1, 0, none⟩) 3 3] 24) (Ext.refl _))
    try simp only [World.size_alloc] at this
    exact this
  have h1 : (((((w.alloc (.cells #[.int .i64 c, .int .i64 4, .slice (some ⟨w.heap.size + 1 + 1 + 1 + 1, 0, none⟩) 3 3] 24)).alloc (.cells #[.int .i64 20, .int .i64 12, .int .i64 5] 3)).alloc (.cells #[.int .i64 15, .int .i64 14] 3)).alloc (.cells #[.int .i64 10, .int .i64 3] 3)).alloc (.cells #[.slice (some ⟨w.heap.size + 1, 0, none⟩) 3 3, .slice (some ⟨w.heap.size + 1 + 1, 0, none⟩) 2 2, .slice (some ⟨w.heap.size + 1 + 1 + 1, 0, none⟩) 2 2] 35)).heap[w.heap.size + 1]? = some (.cells #[.int .i64 20, .int .i64 12, .int .i64 5] 3 (0, 0)) := by
    have := (show Ext ((w.alloc (.cells #[.int .i64 c, .int .i64 4, .slice (some ⟨w.heap.size + 1 + 1 + 1 + 1, 0, none⟩) 3 3] 24)).alloc (.cells #[.int .i64 20, .int .i64 12, .int .i64 5] 3)) (((((w.alloc (.cells #[.int .i64 c, .int .i64 4, .slice (some ⟨w.heap.size + 1 + 1 + 1 + 1, 0, none⟩) 3 3] 24)).alloc (.cells #[.int .i64 20, .int .i64 12, .int .i64 5] 3)).alloc (.cells #[.int .i64 15, .int .i64 14] 3)).alloc (.cells #[.int .i64 10, .int .i64 3] 3)).alloc (.cells #[.slice (some ⟨w.heap.size + 1, 0, none⟩) 3 3, .slice (some ⟨w.heap.size + 1 + 1, 0, none⟩) 2 2, .slice (some ⟨w.heap.size + 1 + 1 + 1, 0, none⟩) 2 2] 35)) from ((((Ext.refl _).alloc _).alloc _).alloc _)).block (Ext.new (w := (w.alloc (.cells #[.int .i64 c, .int .i64 4, .slice (some ⟨w.heap.size + 1 + 1 + 1 + 1, 0, none⟩) 3 3] 24))) (o := .cells #[.int .i64 20, .int .i64 12, .int .i64 5] 3) (Ext.refl _))
    try simp only [World.size_alloc] at this
    exact this
  have h2 : (((((w.alloc (.cells #[.int .i64 c, .int .i64 4, .slice (some ⟨w.heap.size + 1 + 1 + 1 + 1, 0, none⟩) 3 3] 24)).alloc (.cells #[.int .i64 20, .int .i64 12, .int .i64 5] 3)).alloc (.cells #[.int .i64 15, .int .i64 14] 3)).alloc (.cells #[.int .i64 10, .int .i64 3] 3)).alloc (.cells #[.slice (some ⟨w.heap.size + 1, 0, none⟩) 3 3, .slice (some ⟨w.heap.size + 1 + 1, 0, none⟩) 2 2, .slice (some ⟨w.heap.size + 1 + 1 + 1, 0, none⟩) 2 2] 35)).heap[w.heap.size + 1 + 1]? = some (.cells #[.int .i64 15, .int .i64 14] 3 (0, 0)) := by
    have := (show Ext (((w.alloc (.cells #[.int .i64 c, .int .i64 4, .slice (some ⟨w.heap.size + 1 + 1 + 1 + 1, 0, none⟩) 3 3] 24)).alloc (.cells #[.int .i64 20, .int .i64 12, .int .i64 5] 3)).alloc (.cells #[.int .i64 15, .int .i64 14] 3)) (((((w.alloc (.cells #[.int .i64 c, .int .i64 4, .slice (some ⟨w.heap.size + 1 + 1 + 1 + 1, 0, none⟩) 3 3] 24)).alloc (.cells #[.int .i64 20, .int .i64 12, .int .i64 5] 3)).alloc (.cells #[.int .i64 15, .int .i64 14] 3)).alloc (.cells #[.int .i64 10, .int .i64 3] 3)).alloc (.cells #[.slice (some ⟨w.heap.size + 1, 0, none⟩) 3 3, .slice (some ⟨w.heap.size + 1 + 1, 0, none⟩) 2 2, .slice (some ⟨w.heap.size + 1 + 1 + 1, 0, none⟩) 2 2] 35)) from (((Ext.refl _).alloc _).alloc _)).block (Ext.new (w := ((w.alloc (.cells #[.int .i64 c, .int .i64 4, .slice (some ⟨w.heap.size + 1 + 1 + 1 + 1, 0, none⟩) 3 3] 24)).alloc (.cells #[.int .i64 20, .int .i64 12, .int .i64 5] 3))) (o := .cells #[.int .i64 15, .int .i64 14] 3) (Ext.refl _))
    try simp only [World.size_alloc] at this
    exact this
  have h3 : (((((w.alloc (.cells #[.int .i64 c, .int .i64 4, .slice (some ⟨w.heap.size + 1 + 1 + 1 + 1, 0, none⟩) 3 3] 24)).alloc (.cells #[.int .i64 20, .int .i64 12, .int .i64 5] 3)).alloc (.cells #[.int .i64 15, .int .i64 14] 3)).alloc (.cells #[.int .i64 10, .int .i64 3] 3)).alloc (.cells #[.slice (some ⟨w.heap.size + 1, 0, none⟩) 3 3, .slice (some ⟨w.heap.size + 1 + 1, 0, none⟩) 2 2, .slice (some ⟨w.heap.size + 1 + 1 + 1, 0, none⟩) 2 2] 35)).heap[w.heap.size + 1 + 1 + 1]? = some (.cells #[.int .i64 10, .int .i64 3] 3 (0, 0)) := by
    have := (show Ext ((((w.alloc (.cells #[.int .i64 c, .int .i64 4, .slice (some ⟨w.heap.size + 1 + 1 + 1 + 1, 0, none⟩) 3 3] 24)).alloc (.cells #[.int .i64 20, .int .i64 12, .int .i64 5] 3)).alloc (.cells #[.int .i64 15, .int .i64 14] 3)).alloc (.cells #[.int .i64 10, .int .i64 3] 3)) (((((w.alloc (.cells #[.int .i64 c, .int .i64 4, .slice (some ⟨w.heap.size + 1 + 1 + 1 + 1, 0, none⟩) 3 3] 24)).alloc (.cells #[.int .i64 20, .int .i64 12, .int .i64 5] 3)).alloc (.cells #[.int .i64 15, .int .i64 14] 3)).alloc (.cells #[.int .i64 10, .int .i64 3] 3)).alloc (.cells #[.slice (some ⟨w.heap.size + 1, 0, none⟩) 3 3, .slice (some ⟨w.heap.size + 1 + 1, 0, none⟩) 2 2, .slice (some ⟨w.heap.size + 1 + 1 + 1, 0, none⟩) 2 2] 35)) from ((Ext.refl _).alloc _)).block (Ext.new (w := (((w.alloc (.cells #[.int .i64 c, .int .i64 4, .slice (some ⟨w.heap.size + 1 + 1 + 1 + 1, 0, none⟩) 3 3] 24)).alloc (.cells #[.int .i64 20, .int .i64 12, .int .i64 5] 3)).alloc (.cells #[.int .i64 15, .int .i64 14] 3))) (o := .cells #[.int .i64 10, .int .i64 3] 3) (Ext.refl _))
    try simp only [World.size_alloc] at this
    exact this
  have h4 : (((((w.alloc (.cells #[.int .i64 c, .int .i64 4, .slice (some ⟨w.heap.size + 1 + 1 + 1 + 1, 0, none⟩) 3 3] 24)).alloc (.cells #[.int .i64 20, .int .i64 12, .int .i64 5] 3)).alloc (.cells #[.int .i64 15, .int .i64 14] 3)).alloc (.cells #[.int .i64 10, .int .i64 3] 3)).alloc (.cells #[.slice (some ⟨w.heap.size + 1, 0, none⟩) 3 3, .slice (some ⟨w.heap.size + 1 + 1, 0, none⟩) 2 2, .slice (some ⟨w.heap.size + 1 + 1 + 1, 0, none⟩) 2 2] 35)).heap[w.heap.size + 1 + 1 + 1 + 1]? = some (.cells #[.slice (some ⟨w.heap.size + 1, 0, none⟩) 3 3, .slice (some ⟨w.heap.size + 1 + 1, 0, none⟩) 2 2, .slice (some ⟨w.heap.size + 1 + 1 + 1, 0, none⟩) 2 2] 35 (0, 0)) := by
    have := (show Ext (((((w.alloc (.cells #[.int .i64 c, .int .i64 4, .slice (some ⟨w.heap.size + 1 + 1 + 1 + 1, 0, none⟩) 3 3] 24)).alloc (.cells #[.int .i64 20, .int .i64 12, .int .i64 5] 3)).alloc (.cells #[.int .i64 15, .int .i64 14] 3)).alloc (.cells #[.int .i64 10, .int .i64 3] 3)).alloc (.cells #[.slice (some ⟨w.heap.size + 1, 0, none⟩) 3 3, .slice (some ⟨w.heap.size + 1 + 1, 0, none⟩) 2 2, .slice (some ⟨w.heap.size + 1 + 1 + 1, 0, none⟩) 2 2] 35)) (((((w.alloc (.cells #[.int .i64 c, .int .i64 4, .slice (some ⟨w.heap.size + 1 + 1 + 1 + 1, 0, none⟩) 3 3] 24)).alloc (.cells #[.int .i64 20, .int .i64 12, .int .i64 5] 3)).alloc (.cells #[.int .i64 15, .int .i64 14] 3)).alloc (.cells #[.int .i64 10, .int .i64 3] 3)).alloc (.cells #[.slice (some ⟨w.heap.size + 1, 0, none⟩) 3 3, .slice (some ⟨w.heap.size + 1 + 1, 0, none⟩) 2 2, .slice (some ⟨w.heap.size + 1 + 1 + 1, 0, none⟩) 2 2] 35)) from (Ext.refl _)).block (Ext.new (w := ((((w.alloc (.cells #[.int .i64 c, .int .i64 4, .slice (some ⟨w.heap.size + 1 + 1 + 1 + 1, 0, none⟩) 3 3] 24)).alloc (.cells #[.int .i64 20, .int .i64 12, .int .i64 5] 3)).alloc (.cells #[.int .i64 15, .int .i64 14] 3)).alloc (.cells #[.int .i64 10, .int .i64 3] 3))) (o := .cells #[.slice (some ⟨w.heap.size + 1, 0, none⟩) 3 3, .slice (some ⟨w.heap.size + 1 + 1, 0, none⟩) 2 2, .slice (some ⟨w.heap.size + 1 + 1 + 1, 0, none⟩) 2 2] 35) (Ext.refl _))
    try simp only [World.size_alloc] at this
    exact this
  generalize (((((w.alloc (.cells #[.int .i64 c, .int .i64 4, .slice (some ⟨w.heap.size + 1 + 1 + 1 + 1, 0, none⟩) 3 3] 24)).alloc (.cells #[.int .i64 20, .int .i64 12, .int .i64 5] 3)).alloc (.cells #[.int .i64 15, .int .i64 14] 3)).alloc (.cells #[.int .i64 10, .int .i64 3] 3)).alloc (.cells #[.slice (some ⟨w.heap.size + 1, 0, none⟩) 3 3, .slice (some ⟨w.heap.size + 1 + 1, 0, none⟩) 2 2, .slice (some ⟨w.heap.size + 1 + 1 + 1, 0, none⟩) 2 2] 35)) = W at *
  have i1 := ints_lit [20, 12, 5] h1 rfl (by simp)
  have i2 := ints_lit [15, 14] h2 rfl (by simp)
  have i3 := ints_lit [10, 3] h3 rfl (by simp)
  have c0 := cell_of h0
  have hl : ListsAt W (.slice (some ⟨w.heap.size + 1 + 1 + 1 + 1, 0, none⟩) 3 3) (exS c).offers := by
    refine ⟨_, 3, rfl, (by show 3 ≤ 3 ∧ 3 ≤ 1000000000000000; omega), fun i hi => ?_⟩
    match i, hi with
    | 0, _ => exact ⟨_, 0, _, rfl, lt_of_block h4, by rw [cell_of h4]; rfl, i1⟩
    | 1, _ => exact ⟨_, 0, _, rfl, lt_of_block h4, by rw [cell_of h4]; rfl, i2⟩
    | 2, _ => exact ⟨_, 0, _, rfl, lt_of_block h4, by rw [cell_of h4]; rfl, i3⟩
  clear h0 h1 h2 h3 h4 i1 i2 i3
  refine bodyPost_ret (v := .agg #[.int .i64 c, .int .i64 4, .slice (some ⟨w.heap.size + 1 + 1 + 1 + 1, 0, none⟩) 3 3]) (by simp [results, Try.results44, go_sem, c0]) rfl ⟨_, rfl, hx, hl⟩
set_option maxRecDepth 100000 in
set_option maxHeartbeats 1000000 in
theorem exBask_any (w : World) : Cal 46 #[] w fun e w' => ∃ r, e = .returned r ∧ Ext w w' ∧ SpansAt w' r exB := by
  have HT := hid (fun (a b : Int) (u : World) => to_any a b u)
  unfold spnV at HT
  gi_enter Try.func46, Try.ntmps46
  gi_wp2_with (gi_at_call 45; ((with_reducible refine (HT.out _ _ _).mono ?_); rintro e w1 ⟨rfl, hx1⟩))
  rename_i x1 x2 x3 x4 x5 x6 x7 x8
  have hx := x2.trans (x4.trans (x6.trans (x8.trans hx1)))
  have hn := Ext.new (w := w1) (o := .cells #[.int .i64 10, .int .i64 20, .int .i64 15, .int .i64 30, .int .i64 18, .int .i64 19, .int .i64 25, .int .i64 40, .int .i64 5, .int .i64 26] 66) (Ext.refl _)
  have hE := hx.alloc (.cells #[.int .i64 10, .int .i64 20, .int .i64 15, .int .i64 30, .int .i64 18, .int .i64 19, .int .i64 25, .int .i64 40, .int .i64 5, .int .i64 26] 66)
  have hs : SpansAt (w1.alloc (.cells #[.int .i64 10, .int .i64 20, .int .i64 15, .int .i64 30, .int .i64 18, .int .i64 19, .int .i64 25, .int .i64 40, .int .i64 5, .int .i64 26] 66)) (.slice (some ⟨w1.heap.size, 0, none⟩) 5 5) exB := by
    refine ⟨_, 5, rfl, by decide, fun i hi => ?_⟩
    match i, hi with
    | 0, _ => exact ⟨_, 0, rfl, lt_of_block hn, by rw [cell_of hn]; rfl, by rw [cell_of hn]; rfl⟩
    | 1, _ => exact ⟨_, 0, rfl, lt_of_block hn, by rw [cell_of hn]; rfl, by rw [cell_of hn]; rfl⟩
    | 2, _ => exact ⟨_, 0, rfl, lt_of_block hn, by rw [cell_of hn]; rfl, by rw [cell_of hn]; rfl⟩
    | 3, _ => exact ⟨_, 0, rfl, lt_of_block hn, by rw [cell_of hn]; rfl, by rw [cell_of hn]; rfl⟩
    | 4, _ => exact ⟨_, 0, rfl, lt_of_block hn, by rw [cell_of hn]; rfl, by rw [cell_of hn]; rfl⟩
  go_ret
  exact ⟨_, rfl, hE, hs⟩
theorem sell3 : sellL (exS 3) = [⟨1, 10⟩, ⟨2, 22⟩, ⟨0, 0⟩] := by
  unfold sellL dealsL
  show [Dl.mk (gets (exS 3) 0) (pays (exS 3) 0), Dl.mk (gets (exS 3) 1) (pays (exS 3) 1), Dl.mk (gets (exS 3) 2) (pays (exS 3) 2)] = _
  rw [ex_pays0, ex_pays1, ex_pays2, ex_gets, ex_gets, ex_gets]; decide
theorem wk_Sell (w : World) (v : Value) (hv : ListsAt w v (exS 3).offers) : Cal 15 #[saleV (exS 3) v] w fun e w' => ∃ r, e = .returned (.tuple #[r, .int .i64 0]) ∧ Ext w w' ∧ DealsAt w' r [⟨1, 10⟩, ⟨2, 22⟩, ⟨0, 0⟩] := by
  have h := Sell_ok v (exS 3) w hv (by rfl)
  rw [sell3] at h
  exact h.mono fun e w' ⟨r, h1, h2, h3, _⟩ => ⟨r, h1, h2, h3⟩
theorem wk_Worth (w : World) (v : Value) (hv : ListsAt w v (exS 7).offers) : Cal 20 #[saleV (exS 7) v] w fun e w' => e = .returned (.tuple #[.int .i64 80, .int .i64 0]) ∧ Ext w w' := by
  have h := Worth_ok v (exS 7) w hv (by rfl)
  rwa [show worth (exS 7) = 80 from by rw [ex_worth]; decide] at h
theorem wk_Gain (w : World) (v wv : Value) (hv : ListsAt w v (exS 3).offers) (hwv : IntsAt w wv [20, 12, 5]) : Cal 23 #[saleV (exS 3) v, .int .i64 0, wv] w fun e w' => e = .returned (.tuple #[.int .i64 10, .int .i64 0]) ∧ Ext w w' := by
  have h := Gain_ok v (exS 3) 0 wv [20, 12, 5] w hv hwv (by rfl) (by decide) (by rfl)
  rwa [show gain (exS 3) 0 [20, 12, 5] = 10 from by unfold gain; rw [ex_pays0, ex_gets]; decide] at h
theorem wk_Price (w : World) (v ov : Value) (hv : ListsAt w v (exS 3).offers) (hov : IntsAt w ov [0, 1, 2]) : Cal 25 #[saleV (exS 3) v, ov] w fun e w' => e = .returned (.tuple #[.int .i64 14, .int .i64 0]) ∧ Ext w w' := by
  have h := Price_ok v (exS 3) ov [0, 1, 2] w hv hov (by rfl) (by rfl)
  rwa [priceF_last (ex_ok 3 (by rfl)) (order_ok (n := 3) (l := [0, 1, 2]) (by rfl)).1 ex_last3] at h
theorem wk_Taken (w : World) (v ov : Value) (hv : ListsAt w v (exS 3).offers) (hov : IntsAt w ov [2, 1, 0]) : Cal 27 #[saleV (exS 3) v, ov, .int .i64 12] w fun e w' => ∃ r, e = .returned (.tuple #[r, .int .i64 0]) ∧ Ext w w' ∧ IntsAt w' r [1, 2, 0] := by
  have h := Taken_ok v (exS 3) ov [2, 1, 0] 12 w hv hov (by rfl) (by rfl) (by rfl)
  have he := ex_taken (order_ok (n := 3) (l := [2, 1, 0]) (by rfl)).1
  rw [show (exS 3).offers.length = 3 from rfl, he] at h
  exact h
theorem wk_Lots (w : World) (v : Value) (hv : SpansAt w v exB) : Cal 30 #[v] w fun e w' => ∃ r, e = .returned (.tuple #[r, .int .i64 0]) ∧ Ext w w' ∧ IntsAt w' r [0, 3] := by
  have h := Lots_ok v exB w hv (by rfl)
  rw [ex_lots] at h
  exact h
theorem wk_AreLots (w : World) (v fv : Value) (hv : SpansAt w v exB) (hf : IntsAt w fv [0, 3]) : Cal 32 #[v, fv] w fun e w' => e = .returned (.tuple #[.bool true, .int .i64 0]) ∧ Ext w w' := by
  have h := AreLots_ok v exB fv [0, 3] w hv hf (by rfl) (by simp)
  rwa [show areLotsB exB [0, 3] = true from by decide] at h

end Go.Proofs.Ytfkehbhlagpmcaa
