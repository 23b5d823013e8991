/- The entry functions: the clock and the lots. -/
import Derived.Test.YtfkehbhlagpmcaaCW
set_option linter.unusedSimpArgs false
set_option linter.unusedVariables false
namespace Go.Proofs.Ytfkehbhlagpmcaa
open Go Go.RowKit Go.Shelf
open Au
def orderE (s : Sal) (l : List Int) : Int := if saleB s = true then (if orderB s.offers.length l = true then 0 else 42) else 40
set_option maxRecDepth 100000 in
set_option maxHeartbeats 4000000 in
theorem Price_bad (v : Value) (s : Sal) (ov : Value) (l : List Int) (w : World) (hv : ListsAt w v s.offers) (hov : IntsAt w ov l) (hb : saleB s = false) :
    Cal 25 #[saleV s v, ov] w fun e w' => e = .returned (.tuple #[.int .i64 0, .int .i64 40]) ∧ Ext w w' := by
  have HN := hid (fun (u : World) (hu : Ext w u) => newCall_bad v s ov l u (hv.mono hu) (hov.mono hu) hb)
  clear hb
  obtain ⟨ao, co, rfl, ⟨hco, hlo⟩, _⟩ := hov
  obtain ⟨a, cap, rfl, ⟨hcap, hlen⟩, _⟩ := hv
  try unfold saleV at *
  try unfold saleW at *
  try unfold callV at *
  try unfold noCall at *
  gi_enter Try.func25, Try.ntmps25
  gi_wp2_with (gi_at_call 56; ((with_reducible refine (HN.out _ ((Ext.refl _).alloc _)).mono ?_); rintro e w1 ⟨rfl, hx1⟩; have HX1 := hid (((Ext.refl w).alloc _).trans hx1); have H24 := hid (hx1.block (Ext.new (Ext.refl _))); have c24 := cell_of H24.out; have hl24 := lt_of_block H24.out; clear hx1))
  refine bodyPost_ret (v := .tuple #[.int .i64 0, .int .i64 40]) (by simp [results, Try.results25, go_sem]) rfl ⟨rfl, HX1.out.alloc _⟩
set_option maxRecDepth 100000 in
set_option maxHeartbeats 4000000 in
theorem Price_order (v : Value) (s : Sal) (ov : Value) (l : List Int) (w : World) (hv : ListsAt w v s.offers) (hov : IntsAt w ov l) (hb : saleB s = true) (hob : orderB s.offers.length l = false) :
    Cal 25 #[saleV s v, ov] w fun e w' => e = .returned (.tuple #[.int .i64 0, .int .i64 42]) ∧ Ext w w' := by
  have HN := hid (fun (u : World) (hu : Ext w u) => newCall_order v s ov l u (hv.mono hu) (hov.mono hu) hb hob)
  clear hb hob
  obtain ⟨ao, co, rfl, ⟨hco, hlo⟩, _⟩ := hov
  obtain ⟨a, cap, rfl, ⟨hcap, hlen⟩, _⟩ := hv
  try unfold saleV at *
  try unfold saleW at *
  try unfold callV at *
  try unfold noCall at *
  gi_enter Try.func25, Try.ntmps25
  gi_wp2_with (gi_at_call 56; ((with_reducible refine (HN.out _ ((Ext.refl _).alloc _)).mono ?_); rintro e w1 ⟨rfl, hx1⟩; have HX1 := hid (((Ext.refl w).alloc _).trans hx1); have H24 := hid (hx1.block (Ext.new (Ext.refl _))); have c24 := cell_of H24.out; have hl24 := lt_of_block H24.out; clear hx1))
  refine bodyPost_ret (v := .tuple #[.int .i64 0, .int .i64 42]) (by simp [results, Try.results25, go_sem]) rfl ⟨rfl, HX1.out.alloc _⟩
set_option maxRecDepth 100000 in
set_option maxHeartbeats 4000000 in
theorem Taken_bad (v : Value) (s : Sal) (ov : Value) (l : List Int) (p : Int) (w : World) (hv : ListsAt w v s.offers) (hov : IntsAt w ov l) (hb : saleB s = false) :
    Cal 27 #[saleV s v, ov, .int .i64 p] w fun e w' => e = .returned (.tuple #[.slice none 0 0, .int .i64 40]) ∧ Ext w w' := by
  have HN := hid (fun (u : World) (hu : Ext w u) => newCall_bad v s ov l u (hv.mono hu) (hov.mono hu) hb)
  clear hb
  obtain ⟨ao, co, rfl, ⟨hco, hlo⟩, _⟩ := hov
  obtain ⟨a, cap, rfl, ⟨hcap, hlen⟩, _⟩ := hv
  try unfold saleV at *
  try unfold saleW at *
  try unfold callV at *
  try unfold noCall at *
  gi_enter Try.func27, Try.ntmps27
  gi_wp2_with (gi_at_call 56; ((with_reducible refine (HN.out _ ((Ext.refl _).alloc _)).mono ?_); rintro e w1 ⟨rfl, hx1⟩; have HX1 := hid (((Ext.refl w).alloc _).trans hx1); have H24 := hid (hx1.block (Ext.new (Ext.refl _))); have c24 := cell_of H24.out; have hl24 := lt_of_block H24.out; clear hx1))
  refine bodyPost_ret (v := .tuple #[.slice none 0 0, .int .i64 40]) (by simp [results, Try.results27, go_sem]) rfl ⟨rfl, HX1.out.alloc _⟩
set_option maxRecDepth 100000 in
set_option maxHeartbeats 4000000 in
theorem Taken_order (v : Value) (s : Sal) (ov : Value) (l : List Int) (p : Int) (w : World) (hv : ListsAt w v s.offers) (hov : IntsAt w ov l) (hb : saleB s = true) (hob : orderB s.offers.length l = false) :
    Cal 27 #[saleV s v, ov, .int .i64 p] w fun e w' => e = .returned (.tuple #[.slice none 0 0, .int .i64 42]) ∧ Ext w w' := by
  have HN := hid (fun (u : World) (hu : Ext w u) => newCall_order v s ov l u (hv.mono hu) (hov.mono hu) hb hob)
  clear hb hob
  obtain ⟨ao, co, rfl, ⟨hco, hlo⟩, _⟩ := hov
  obtain ⟨a, cap, rfl, ⟨hcap, hlen⟩, _⟩ := hv
  try unfold saleV at *
  try unfold saleW at *
  try unfold callV at *
  try unfold noCall at *
  gi_enter Try.func27, Try.ntmps27
  gi_wp2_with (gi_at_call 56; ((with_reducible refine (HN.out _ ((Ext.refl _).alloc _)).mono ?_); rintro e w1 ⟨rfl, hx1⟩; have HX1 := hid (((Ext.refl w).alloc _).trans hx1); have H24 := hid (hx1.block (Ext.new (Ext.refl _))); have c24 := cell_of H24.out; have hl24 := lt_of_block H24.out; clear hx1))
  refine bodyPost_ret (v := .tuple #[.slice none 0 0, .int .i64 42]) (by simp [results, Try.results27, go_sem]) rfl ⟨rfl, HX1.out.alloc _⟩
set_option maxRecDepth 100000 in
set_option maxHeartbeats 4000000 in
theorem Price_ok (v : Value) (s : Sal) (ov : Value) (l : List Int) (w : World) (hv : ListsAt w v s.offers) (hov : IntsAt w ov l) (hb : saleB s = true) (hob : orderB s.offers.length l = true) :
    Cal 25 #[saleV s v, ov] w fun e w' => e = .returned (.tuple #[.int .i64 (priceF s (l.map Int.toNat)), .int .i64 0]) ∧ Ext w w' := by
  have ho := sale_ok hb
  obtain ⟨hor, hol⟩ := order_ok hob
  have HN := hid (fun (u : World) (hu : Ext w u) => newCall_ok v s ov l u (hv.mono hu) (hov.mono hu) hb hob)
  have HP := hid (fun (u : World) (hu : Ext w u) => price_any v ov s (l.map Int.toNat) u (hv.mono hu) (by rw [← hol]; exact hov.mono hu) ho hor)
  clear hb hob ho hor hol
  obtain ⟨ao, co, rfl, ⟨hco, hlo⟩, _⟩ := hov
  obtain ⟨a, cap, rfl, ⟨hcap, hlen⟩, _⟩ := hv
  try unfold saleV at *
  try unfold saleW at *
  try unfold callV at *
  try unfold noCall at *
  gi_enter Try.func25, Try.ntmps25
  gi_wp2_with (first | (gi_at_call 56; ((with_reducible refine (HN.out _ ((Ext.refl _).alloc _)).mono ?_); rintro e w1 ⟨rfl, hx1⟩; have HX1 := hid (((Ext.refl w).alloc _).trans hx1); have H24 := hid (hx1.block (Ext.new (Ext.refl _))); have c24 := cell_of H24.out; have hl24 := lt_of_block H24.out; clear hx1)) | (gi_at_call 57; ((with_reducible refine (HP.out _ (HX1.out.alloc _)).mono ?_); rintro e w2 ⟨rfl, hx2⟩)))
  have HF := hid ((HX1.out.alloc _).trans hx2)
  clear hx2
  refine bodyPost_ret (v := .tuple #[.int .i64 (priceF s (l.map Int.toNat)), .int .i64 0]) (by simp [results, Try.results25, go_sem]) rfl ⟨rfl, HF.out⟩
set_option maxRecDepth 100000 in
set_option maxHeartbeats 4000000 in
theorem Taken_ask (v : Value) (s : Sal) (ov : Value) (l : List Int) (p : Int) (w : World) (hv : ListsAt w v s.offers) (hov : IntsAt w ov l) (hb : saleB s = true) (hob : orderB s.offers.length l = true) (hp : inB p s.least 10000 = false) :
    Cal 27 #[saleV s v, ov, .int .i64 p] w fun e w' => e = .returned (.tuple #[.slice none 0 0, .int .i64 41]) ∧ Ext w w' := by
  have ho := sale_ok hb
  obtain ⟨hor, hol⟩ := order_ok hob
  have HN := hid (fun (u : World) (hu : Ext w u) => newCall_ok v s ov l u (hv.mono hu) (hov.mono hu) hb hob)
  have HI := hid (fun (u : World) => isIn_b p s.least 10000 false u hp)
  clear hb hob ho hor hol hp
  obtain ⟨ao, co, rfl, ⟨hco, hlo⟩, _⟩ := hov
  obtain ⟨a, cap, rfl, ⟨hcap, hlen⟩, _⟩ := hv
  try unfold saleV at *
  try unfold saleW at *
  try unfold callV at *
  try unfold noCall at *
  gi_enter Try.func27, Try.ntmps27
  gi_wp2_with (first | (gi_at_call 56; ((with_reducible refine (HN.out _ ((Ext.refl _).alloc _)).mono ?_); rintro e w1 ⟨rfl, hx1⟩; have HX1 := hid (((Ext.refl w).alloc _).trans hx1); have H24 := hid (hx1.block (Ext.new (Ext.refl _))); have c24 := cell_of H24.out; have hl24 := lt_of_block H24.out; clear hx1)) | (gi_at_call 60; ((with_reducible refine (HI.out _).mono ?_); rintro e w2 ⟨rfl, rfl⟩)))
  refine bodyPost_ret (v := .tuple #[.slice none 0 0, .int .i64 41]) (by simp [results, Try.results27, go_sem]) rfl ⟨rfl, HX1.out.alloc _⟩
/-- One array that is made by 6 and filled by 7. -/
def oneA (w0 : World) (A : Nat → Int) : InvJ := fun L x u => Ext w0 u ∧
  (L 6 = true → ∃ g, x 6 = .pointer (some ⟨g, 0, none⟩) ∧ w0.heap.size ≤ g ∧ (L 7 = false → u.heap[g]? = some (.cells (a8 zero8) 90 (0, 0))) ∧ (L 7 = true → u.heap[g]? = some (.cells (a8 A) 90 (0, 0)))) ∧ (L 7 = true → L 6 = true)
theorem oneA_start (w0 : World) (A : Nat → Int) : oneA w0 A (fun _ => false) (fun _ => undef) { w0 with drawn := w0.drawn + 1 } :=
  ⟨Ext.drawn _, (fun h => by cases h), fun h => by cases h⟩
section
variable {w0 u u' : World} {A : Nat → Int} {L : Nat → Bool} {x : Nat → Value}
theorem oneA_ext (h : oneA w0 A L x u) (hx : Ext u u') : oneA w0 A L x u' :=
  ⟨h.1.trans hx, fun q => by obtain ⟨g, h1, h2, h3, h4⟩ := h.2.1 q; exact ⟨g, h1, h2, fun r => hx.block (h3 r), fun r => hx.block (h4 r)⟩, h.2.2⟩
theorem oneA_make (h : oneA w0 A L x u) (hL : L 6 = false) : oneA w0 A (updL L 6) (updX x 6 (.pointer (some ⟨u.heap.size, 0, none⟩))) (u.alloc (.cells (a8 zero8) 90)) := by
  have h7 : L 7 = false := by
    cases q : L 7 with
    | false => rfl
    | true => rw [h.2.2 q] at hL; cases hL
  refine ⟨h.1.alloc _, fun _ => ⟨u.heap.size, rfl, h.1.size, fun _ => Ext.new (Ext.refl _), fun q => ?_⟩, fun _ => rfl⟩
  rw [show (updL L 6) 7 = L 7 from rfl, h7] at q; cases q
theorem oneA_fill (h : oneA w0 A L x u) (hL : L 6 = true) {g : Nat} (hx : x 6 = .pointer (some ⟨g, 0, none⟩)) (hb : u.heap[g]? = some (.cells (a8 zero8) 90 (0, 0))) (hg : w0.heap.size ≤ g) : oneA w0 A (updL L 7) x (fill8 u g A) :=
  ⟨fill8_ext h.1 hg A, fun _ => ⟨g, hx, hg, (fun q => by cases q), fun _ => fill8_same hb A⟩, fun _ => hL⟩
end
theorem ints_a8 {w : World} {g n : Nat} {F : Nat → Int} {T : TypeId} (h : w.heap[g]? = some (.cells (a8 F) T (0, 0))) (hn : n ≤ 8) : IntsAt w (.slice (some ⟨g, 0, none⟩) n n) ((List.range n).map F) := by
  refine ⟨_, n, by simp, by simp; omega, fun i hi => ⟨g, 0, rfl, lt_of_block h, ?_⟩⟩
  simp only [List.length_map, List.length_range] at hi
  rw [cell_of h, Nat.zero_add, a8_get F (by omega)]
  simp
set_option maxRecDepth 100000 in
set_option maxHeartbeats 4000000 in
theorem Taken_ok (v : Value) (s : Sal) (ov : Value) (l : List Int) (p : Int) (w : World) (hv : ListsAt w v s.offers) (hov : IntsAt w ov l) (hb : saleB s = true) (hob : orderB s.offers.length l = true) (hp : inB p s.least 10000 = true) :
    Cal 27 #[saleV s v, ov, .int .i64 p] w fun e w' => ∃ r, e = .returned (.tuple #[r, .int .i64 0]) ∧ Ext w w' ∧ IntsAt w' r ((List.range s.offers.length).map (tk s (l.map Int.toNat) (10001 - p).toNat)) := by
  have ho := sale_ok hb
  obtain ⟨hor, hol⟩ := order_ok hob
  have HN := hid (fun (u : World) (hu : Ext w u) => newCall_ok v s ov l u (hv.mono hu) (hov.mono hu) hb hob)
  have HI := hid (fun (u : World) => isIn_b p s.least 10000 true u hp)
  have hn8 := ho.n.2
  have HT := hid (fun (u : World) (hu : Ext w u) => taken_any v ov s (l.map Int.toNat) p u (hv.mono hu) (by rw [← hol]; exact hov.mono hu) ho hor (inB_spec hp))
  generalize tk s (l.map Int.toNat) (10001 - p).toNat = F at *
  have hn9 : (s.offers.length : Int) ≤ 8 := by omega
  clear hb hob ho hor hol hp
  obtain ⟨ao, co, rfl, ⟨hco, hlo⟩, _⟩ := hov
  obtain ⟨a, cap, rfl, ⟨hcap, hlen⟩, _⟩ := hv
  try unfold saleV at *
  try unfold saleW at *
  try unfold callV at *
  try unfold noCall at *
  unfold a8 at HT
  gi_enter Try.func27, Try.ntmps27
  gi_wp2_with (first | (gi_at_call 56; ((with_reducible refine (HN.out _ ((Ext.refl _).alloc _)).mono ?_); rintro e w1 ⟨rfl, hx1⟩; have HX1 := hid (((Ext.refl w).alloc _).trans hx1); have H24 := hid (hx1.block (Ext.new (Ext.refl _))); have c24 := cell_of H24.out; have hl24 := lt_of_block H24.out; clear hx1)) | (gi_at_call 60; ((with_reducible refine (HI.out _).mono ?_); rintro e w2 ⟨rfl, rfl⟩)))
  have hxa := (Ext.refl w1).alloc (.cells #[.int .i64 s.crans, .int .i64 s.least, .slice a s.offers.length cap, fnV 68, .slice ao l.length co] 84)
  have H84 := hid (Ext.new (w := w1) (o := .cells #[.int .i64 s.crans, .int .i64 s.least, .slice a s.offers.length cap, fnV 68, .slice ao l.length co] 84) (Ext.refl _))
  have H24B := hid (hxa.block H24.out)
  have HXA := hid (HX1.out.trans hxa)
  clear hxa c24 hl24
  generalize w1.alloc (.cells #[.int .i64 s.crans, .int .i64 s.least, .slice a s.offers.length cap, fnV 68, .slice ao l.length co] 84) = W at *
  refine jj_own 9 [6] (oneA W F) (by kernel_rfl) (by kernel_rfl) (oneA_start _ _) ?_
  simp only [List.take_succ_cons, List.take_zero, List.drop_succ_cons, List.drop_zero]
  apply jj_fun (by decide)
  · intro L x u hL hd hJ
    have c84 := cell_of (hJ.1.block H84.out)
    have HJ := hid hJ
    clear hJ hd hL
    go_simp
    exact ⟨rfl, HJ.out⟩
  simp only [Act.put, List.setIfInBounds_toArray, List.set_cons_succ, List.set_cons_zero]
  apply jj_fun (by decide)
  · intro L x u hL hd hJ
    have HJ := hid hJ
    clear hJ hd hL
    go_simp
    exact ⟨rfl, HJ.out⟩
  simp only [Act.put, List.setIfInBounds_toArray, List.set_cons_succ, List.set_cons_zero]
  refine jj_fun (v := .agg #[.int .i64 (F 0), .int .i64 (F 1), .int .i64 (F 2), .int .i64 (F 3), .int .i64 (F 4), .int .i64 (F 5), .int .i64 (F 6), .int .i64 (F 7)]) (by decide) ?_ ?_
  · intro L x u hL hd hJ
    have hcal := hid (HT.out u (HXA.out.trans hJ.1))
    have HJ := hid hJ
    clear hJ hd hL
    go_simp
    exact hcal.out.mono fun e w'' ⟨he, hx'⟩ => ⟨_, he, rfl, oneA_ext HJ.out hx'⟩
  simp only [Act.put, List.setIfInBounds_toArray, List.set_cons_succ, List.set_cons_zero]
  apply jj_fun (by decide)
  · intro L x u hL hd hJ
    have HJ := hid hJ
    clear hJ hd hL
    go_simp
    exact ⟨rfl, HJ.out⟩
  simp only [Act.put, List.setIfInBounds_toArray, List.set_cons_succ, List.set_cons_zero]
  apply jj_fun (by decide)
  · intro L x u hL hd hJ
    have c24 := cell_of (hJ.1.block H24B.out)
    have HJ := hid hJ
    clear hJ hd hL
    go_simp
    exact ⟨rfl, HJ.out⟩
  simp only [Act.put, List.setIfInBounds_toArray, List.set_cons_succ, List.set_cons_zero]
  apply jj_fun (by decide)
  · intro L x u hL hd hJ
    have HJ := hid hJ
    clear hJ hd hL
    go_simp
    exact ⟨rfl, HJ.out⟩
  simp only [Act.put, List.setIfInBounds_toArray, List.set_cons_succ, List.set_cons_zero]
  refine jj_inv (by decide) ?_ ?_
  · intro L x u hL hd hJ
    have HJ := hid (oneA_make hJ hL)
    clear hJ hd hL
    go_simp
    exact HJ.out
  simp only [Act.put, List.setIfInBounds_toArray, List.set_cons_succ, List.set_cons_zero]
  refine jj_fun (v := undef) (by decide) ?_ ?_
  · intro L x u hL hd hJ
    have hl : L 6 = true := hd.1 rfl
    obtain ⟨g, hx8, hg, h3, _⟩ := hJ.2.1 hl
    have hb := h3 hL
    have HJ := hid (oneA_fill hJ hl hx8 hb hg)
    have cb := cell_of hb
    have fb := free_of hb
    rw [hx8]
    unfold a8 zero8 at cb
    clear hJ hd hL hb h3 hl hx8
    go_simp
    exact HJ.out
  simp only [Act.put, List.setIfInBounds_toArray, List.set_cons_succ, List.set_cons_zero]
  apply jj_fun (by decide)
  · intro L x u hL hd hJ
    have HJ := hid hJ
    clear hJ hd hL
    go_simp
    exact ⟨rfl, HJ.out⟩
  simp only [Act.put, List.setIfInBounds_toArray, List.set_cons_succ, List.set_cons_zero]
  refine jj_nil fun L x w6 hall hJ => ?_
  obtain ⟨g, h6, hg, _, hgb⟩ := hJ.2.1 (hall 6 (by omega))
  have hgb := hgb (hall 7 (by omega))
  have hE := hJ.1
  clear hJ hall
  generalize x 6 = x6 at *
  clear x
  subst h6
  have HI8 := hid (ints_a8 hgb hn8)
  have HY := hid (HXA.out.trans hE)
  clear hgb hE
  gi_wp2

  refine bodyPost_ret (v := .tuple #[.slice (some ⟨g, 0, none⟩) s.offers.length s.offers.length, .int .i64 0]) (by simp [results, Try.results27, go_sem]) rfl ⟨_, rfl, HY.out, HI8.out⟩
set_option maxRecDepth 100000 in
set_option maxHeartbeats 4000000 in
theorem Lots_bad (v : Value) (l : List Spn) (w : World) (hv : SpansAt w v l) (hb : basketsB l = false) :
    Cal 30 #[v] w fun e w' => e = .returned (.tuple #[.slice none 0 0, .int .i64 43]) ∧ Ext w w' := by
  have HN := hid (fun (u : World) (hu : Ext w u) => areBaskets_any v l u (hv.mono hu))
  rw [hb] at HN
  clear hb
  obtain ⟨a, cap, rfl, _⟩ := hv
  gi_enter Try.func30, Try.ntmps30
  gi_wp2_with (gi_at_call 62; ((with_reducible refine (HN.out _ (Ext.refl _)).mono ?_); rintro e w1 ⟨rfl, hx1⟩))
  refine bodyPost_ret (v := .tuple #[.slice none 0 0, .int .i64 43]) (by simp [results, Try.results30, go_sem]) rfl ⟨rfl, hx1⟩
set_option maxRecDepth 100000 in
set_option maxHeartbeats 4000000 in
theorem Lots_ok (v : Value) (l : List Spn) (w : World) (hv : SpansAt w v l) (hb : basketsB l = true) :
    Cal 30 #[v] w fun e w' => ∃ r, e = .returned (.tuple #[r, .int .i64 0]) ∧ Ext w w' ∧ IntsAt w' r ((lotsF l).map fun i : Nat => (i : Int)) := by
  have HN := hid (fun (u : World) (hu : Ext w u) => areBaskets_any v l u (hv.mono hu))
  rw [hb] at HN
  have hok := baskets_ok hb
  have HL := hid (fun (u : World) (hu : Ext w u) => lots_any v l u (hv.mono hu) hok.1 hok.2.1)
  have hll : (lotsF l).length ≤ 40 := Nat.le_trans (lotSt_len l _) hok.2.1
  clear hb hok
  obtain ⟨a, cap, rfl, _⟩ := hv
  gi_enter Try.func30, Try.ntmps30
  gi_wp2_with (first | (gi_at_call 62; ((with_reducible refine (HN.out _ (Ext.refl _)).mono ?_); rintro e w1 ⟨rfl, hx1⟩)) | (gi_at_call 63; ((with_reducible refine (HL.out _ hx1).mono ?_); rintro e w2 ⟨r, rfl, hx2, hr⟩)))
  have HI := hid (ints_row hr.out.1 (by omega))
  have HF := hid (hx1.trans hx2)
  clear hr hx1 hx2
  refine bodyPost_ret (v := .tuple #[r, .int .i64 0]) (by simp [results, Try.results30, go_sem]) rfl ⟨r, rfl, HF.out, HI.out⟩
set_option maxRecDepth 100000 in
set_option maxHeartbeats 4000000 in
theorem AreLots_bad (v : Value) (l : List Spn) (fv : Value) (f : List Int) (w : World) (hv : SpansAt w v l) (hf : IntsAt w fv f) (hb : basketsB l = false) :
    Cal 32 #[v, fv] w fun e w' => e = .returned (.tuple #[.bool false, .int .i64 43]) ∧ Ext w w' := by
  have HN := hid (fun (u : World) (hu : Ext w u) => areBaskets_any v l u (hv.mono hu))
  rw [hb] at HN
  clear hb
  obtain ⟨a, cap, rfl, _⟩ := hv
  obtain ⟨af, cf, rfl, _⟩ := hf
  gi_enter Try.func32, Try.ntmps32
  gi_wp2_with (gi_at_call 62; ((with_reducible refine (HN.out _ (Ext.refl _)).mono ?_); rintro e w1 ⟨rfl, hx1⟩))
  refine bodyPost_ret (v := .tuple #[.bool false, .int .i64 43]) (by simp [results, Try.results32, go_sem]) rfl ⟨rfl, hx1⟩
set_option maxRecDepth 100000 in
set_option maxHeartbeats 4000000 in
theorem AreLots_ok (v : Value) (l : List Spn) (fv : Value) (f : List Int) (w : World) (hv : SpansAt w v l) (hf : IntsAt w fv f) (hb : basketsB l = true) (hfl : f.length ≤ 100000000) :
    Cal 32 #[v, fv] w fun e w' => e = .returned (.tuple #[.bool (areLotsB l f), .int .i64 0]) ∧ Ext w w' := by
  have HN := hid (fun (u : World) (hu : Ext w u) => areBaskets_any v l u (hv.mono hu))
  rw [hb] at HN
  have hok := baskets_ok hb
  have HL := hid (fun (u : World) (hu : Ext w u) => areLots_any v l fv f u (hv.mono hu) hok.1 hok.2.1 (hf.mono hu) hfl)
  clear hb hok
  obtain ⟨a, cap, rfl, _⟩ := hv
  obtain ⟨af, cf, rfl, _⟩ := hf
  gi_enter Try.func32, Try.ntmps32
  gi_wp2_with (first | (gi_at_call 62; ((with_reducible refine (HN.out _ (Ext.refl _)).mono ?_); rintro e w1 ⟨rfl, hx1⟩)) | (gi_at_call 66; ((with_reducible refine (HL.out _ hx1).mono ?_); rintro e w2 ⟨rfl, hx2⟩)))
  have HF := hid (hx1.trans hx2)
  clear hx1 hx2
  refine bodyPost_ret (v := .tuple #[.bool (areLotsB l f), .int .i64 0]) (by simp [results, Try.results32, go_sem]) rfl ⟨rfl, HF.out⟩

end Go.Proofs.Ytfkehbhlagpmcaa
