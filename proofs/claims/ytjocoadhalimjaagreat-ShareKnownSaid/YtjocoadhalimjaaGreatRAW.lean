/- Parts and Claims of a voyage. -/
import Derived.Test.YtjocoadhalimjaaGreatRAQ
import Derived.Test.YtjocoadhalimjaaGreatRAV
import Derived.Test.YtjocoadhalimjaaGreatRAG
import Derived.Test.YtjocoadhalimjaaGreatRAJ
import Derived.Test.YtjocoadhalimjaaGreatInv
import Derived.Test.YtjocoadhalimjaaGreatRAM
set_option linter.unusedSimpArgs false
set_option linter.unusedVariables false
namespace Go.Proofs.YtjocoadhalimjaaGreat
section
open Go Go.RowKit Go.Shelf
set_option maxRecDepth 100000 in
set_option maxHeartbeats 8000000 in
theorem Parts_ok (V : Voy) (s : VS) (w : World) (h : VoyAt w V s) (hE : voyE V = 0) : Cal 23 #[.agg (voyA V s)] w fun e w' => e = .returned (.tuple #[.int .i64 (partP V 0), .int .i64 (partP V 1), .int .i64 (partP V 2), .int .i64 0]) ∧ Ext w w' := by
  have HN := hid (fun (u : World) (hu : Ext w u) => newVoyage_ok (h.mono hu) hE)
  have hok := (voyE_ok hE).1
  have hn := net_bound hok
  have HPN := hid (fun (bv : Nat) (u : World) (hu : Ext w u) => vpence_any V.gr V.bo V.ne V.cr (.slice s.xa V.lo.length s.xc) (.map (some bv)) s.ca s.oa s.la s.ha s.cc V.ow.length s.oc V.le.length s.lc V.ha.length s.hc V.cs u (h.cs.mono hu) (fun x hx => by have := hok.cs x hx; have := hok.gr; omega) (by have := hok.csl; omega) (by have := hok.gr; omega) hn hok.bo hok.ne hok.cr hok.all)
  have HPN : Hid (∀ (bv : Nat) (u : World), Ext w u → Cal 58 #[.agg (voyB V s (.map (some bv)))] u fun e w' => e = .returned (.agg #[.int .i64 (partP V 0), .int .i64 (partP V 1), .int .i64 (partP V 2)]) ∧ Ext u w') := HPN
  obtain ⟨p0, hp0⟩ : ∃ p, partP V 0 = p := ⟨_, rfl⟩
  obtain ⟨p1, hp1⟩ : ∃ p, partP V 1 = p := ⟨_, rfl⟩
  obtain ⟨p2, hp2⟩ : ∃ p, partP V 2 = p := ⟨_, rfl⟩
  rw [hp0, hp1, hp2] at HPN
  rw [hp0, hp1, hp2]
  clear hok hn hp0 hp1 hp2
  clear h hE
  unfold voyA voyB at *
  obtain ⟨gr, bo, ne, cr, cs, ol, ll, hl, xs⟩ := V
  obtain ⟨ca, oa, la, ha, xa, cc, oc, lc, hc, xc⟩ := s
  simp only at *
  have hx0 : Ext w (w.alloc (.cells #[.int .i64 gr, .slice ca cs.length cc, .int .i64 bo, .int .i64 ne, .int .i64 cr, .slice oa ol.length oc, .slice la ll.length lc, .slice ha hl.length hc, .slice xa xs.length xc] 32)) := (Ext.refl _).alloc _
  have HNN := hid (HN.out _ hx0)
  clear HN
  gi_enter Tryz.func23, Tryz.ntmps23
  gi_upto_region 5 with (first | (gi_at_call 54; ((with_reducible refine (HNN.out).mono ?_); rintro e w1 ⟨bm, rfl, hx1, hbm, HM⟩; have HX1 := hid (hx0.trans hx1); clear hx1 hx0 hbm)) | (gi_at_call 58; ((with_reducible refine ((HPN.out bm _ (HX1.out.alloc _))).mono ?_); rintro e w3 ⟨rfl, hx3⟩; have HX3 := hid ((HX1.out.alloc _).trans hx3); clear hx3)))
  have HXA := hid (HX3.out.alloc (.cells #[.int .i64 p0, .int .i64 p1, .int .i64 p2] 90))
  have hna : (w3.alloc (.cells #[.int .i64 p0, .int .i64 p1, .int .i64 p2] 90)).heap[w3.heap.size]? = some (.cells #[.int .i64 p0, .int .i64 p1, .int .i64 p2] 90 (0, 0)) := Ext.new (Ext.refl _)
  generalize w3.alloc (.cells #[.int .i64 p0, .int .i64 p1, .int .i64 p2] 90) = W at *
  generalize w3.heap.size = q at *
  have c0 : ∀ e : Later W, e.1.cell? ⟨q, 0, none⟩ = some (.int .i64 p0) := fun e => by rw [cell_of (Ext.block e.grown hna)]; rfl
  have c1 : ∀ e : Later W, e.1.cell? ⟨q, 1, none⟩ = some (.int .i64 p1) := fun e => by rw [cell_of (Ext.block e.grown hna)]; rfl
  have c2 : ∀ e : Later W, e.1.cell? ⟨q, 2, none⟩ = some (.int .i64 p2) := fun e => by rw [cell_of (Ext.block e.grown hna)]; rfl
  clear hna HM HPN
  refine quiet_wide 10 (by kernel_rfl) (by kernel_rfl) ?_
  simp only [List.take_succ_cons, List.take_zero, List.drop_succ_cons, List.drop_zero]
  repeat (any_goals (first | go_big_quiet_step (fail) | quiet_step (fail)))
  refine wpQuiet_nil ?_
  rintro w5 ⟨⟨w5q, hx5⟩, hew5⟩
  obtain rfl : w5 = w5q := hew5
  have hx5 : Ext W w5 := hx5
  clear c0 c1 c2
  gi_wp2_with fail
  exact bodyPost_ret (v := .tuple #[.int .i64 p0, .int .i64 p1, .int .i64 p2, .int .i64 0]) (by simp [results, Tryz.results23, go_sem]) rfl ⟨rfl, HXA.out.trans hx5⟩
end
section
open Go Go.RowKit Go.Shelf

theorem wkDivE : divE 10 wkS = 0 := by
  have h : (divE 10 wkS == 0) = true := by kernel_rfl
  simpa using h
theorem wk_divide (v : Value) (u : World) (hv : StakesAt u v wkS) : Cal 15 #[.int .i64 10, v] u fun e w' => ∃ r, e = .returned (.tuple #[r, .int .i64 0]) ∧ Ext u w' ∧ Hid (IntsAt w' r [3, 4, 3]) :=
  (Divide_ok 10 v wkS u hv (fun s hs => by simp [wkS] at hs; rcases hs with h | h | h <;> subst h <;> decide) wkDivE).mono fun e w' ⟨r, h1, h2, h3⟩ =>
    ⟨r, h1, h2, hid (IntsAt.of_row (by have h := h3.out; rw [show wkS.length = 3 from rfl, wkDiv] at h; exact h) (by decide))⟩
theorem wk_claims (s : VS) (u : World) (h : VoyAt u nt s) : Cal 19 #[.agg (voyA nt s)] u fun e w' => ∃ r, e = .returned (.tuple #[r, .int .i64 0]) ∧ Ext u w' ∧ Hid (IntsAt w' r [160, 30, 50]) :=
  (Claims_ok nt s u h ntE).mono fun e w' ⟨r, h1, h2, h3⟩ => ⟨r, h1, h2, hid (IntsAt.of_row (by have h := h3.out; rw [ntC] at h; exact h) (by decide))⟩
theorem wk_parts (s : VS) (u : World) (h : VoyAt u nt s) : Cal 23 #[.agg (voyA nt s)] u fun e w' => e = .returned (.tuple #[.int .i64 353, .int .i64 353, .int .i64 235, .int .i64 0]) ∧ Ext u w' := by
  have := Parts_ok nt s u h ntE
  rw [ntP.1, ntP.2.1, ntP.2.2] at this
  exact this
theorem wk_shares (s : VS) (u : World) (h : VoyAt u nt s) : Cal 25 #[.agg (voyA nt s)] u fun e w' => ∃ r, e = .returned (.tuple #[r, .int .i64 0]) ∧ Ext u w' ∧ Hid (DuAt w' r ntD) :=
  (Shares_ok nt s u h ntE).mono fun e w' ⟨r, ns, h1, h2, h3, h4, h5⟩ => ⟨r, h1, h2, hid (DuAt.of_row (by have h := h5.out; rw [(ntDue h3).1, (ntDue h3).2] at h; exact h) (by decide))⟩
theorem wk_groups (v : Value) (u : World) (h : IntsAt u v wkX) : Cal 37 #[v] u fun e w' => ∃ ga gc, e = .returned (.tuple #[.slice ga 2 gc, .int .i64 0]) ∧ Ext u w' :=
  (Groups_ok v wkX u h wkB).mono fun e w' ⟨r, vs, ts, h1, h2, h3⟩ => by
    have h4 := wkBest h3.out.2.2.2.2.1
    have h5 := h3.out.1
    rw [h4] at h5
    obtain ⟨ga, gc, rfl⟩ := h5.isSliceN
    exact ⟨ga, gc, h1, h2⟩
theorem wk_clear (v : Value) (u : World) (h : IntsAt u v wkX) : Cal 41 #[v] u fun e w' => ∃ ga gc, e = .returned (.tuple #[.slice ga 3 gc, .int .i64 0]) ∧ Ext u w' :=
  (Clear_ok v wkX u h wkB).mono fun e w' ⟨r, ps, h1, h2, h3⟩ => by
    obtain ⟨k, hk, hn⟩ := h3.out.2.2.few
    rw [wkBest hk, wkN] at hn
    have h5 := h3.out.1
    rw [show ps.length = 3 by omega] at h5
    obtain ⟨ga, gc, rfl⟩ := h5.isSliceN
    exact ⟨ga, gc, h1, h2⟩
theorem wk_isClear (v pv : Value) (u : World) (h : IntsAt u v wkX) (hp : PaysAt u pv wkPy) : Cal 42 #[v, pv] u fun e w' => e = .returned (.tuple #[.bool true, .int .i64 0]) ∧ Ext u w' := by
  have := IsClear_ok v pv wkX wkPy u h hp (fun p hp => by simp [wkPy] at hp; rcases hp with h | h | h <;> subst h <;> unfold sm <;> simp) wkB
  rw [wkI] at this
  exact this
theorem wk_pays {W' : World} {ty : TypeId} {g : Nat} (hb : W'.heap[g]? = some (.cells #[.int .i64 1, .int .i64 0, .int .i64 5, .int .i64 2, .int .i64 1, .int .i64 2, .int .i64 4, .int .i64 3, .int .i64 4] ty (0, 0))) : PaysAt W' (.slice (some ⟨g, 0, none⟩) 3 3) wkPy := by
  refine ⟨_, _, rfl, ⟨Nat.le_refl _, by decide⟩, fun i hi => ⟨g, 0, rfl, lt_of_block hb, ?_⟩⟩
  rw [cell_of hb, cell_of hb, cell_of hb]
  have hi : i < 3 := hi
  rcases (by omega : i = 0 ∨ i = 1 ∨ i = 2) with rfl | rfl | rfl <;> exact ⟨rfl, rfl, rfl⟩
theorem same_true (v1 v2 : Value) (xs : List Int) (u : World) (h1 : IntsAt u v1 xs) (h2 : IntsAt u v2 xs) : Cal 17 #[v1, v2] u fun e w' => e = .returned (.bool true) ∧ Ext u w' := by
  have := Same_any v1 v2 xs xs u h1 h2
  rw [show (xs == xs) = true by simp] at this
  exact this
set_option maxRecDepth 100000 in
set_option maxHeartbeats 16000000 in
theorem works_any (w : World) : Cal 18 #[] w fun e w' => e = .returned (.bool true) ∧ Ext w w' := by
  have hs0 := Ext.new (w := w) (o := .cells #[.string ⟨#[98]⟩, .int .i64 1, .string ⟨#[97]⟩, .int .i64 1, .string ⟨#[99]⟩, .int .i64 1] 49) (Ext.refl _)
  have HD := hid (wk_divide (.slice (some ⟨w.heap.size, 0, none⟩) 3 3) (w.alloc (.cells #[.string ⟨#[98]⟩, .int .i64 1, .string ⟨#[97]⟩, .int .i64 1, .string ⟨#[99]⟩, .int .i64 1] 49)) (stakes_new (l := wkS) hs0 rfl (by decide)))
  have HX0 : Hid (Ext w (w.alloc (.cells #[.string ⟨#[98]⟩, .int .i64 1, .string ⟨#[97]⟩, .int .i64 1, .string ⟨#[99]⟩, .int .i64 1] 49))) := hid ((Ext.refl _).alloc _)
  clear hs0
  gi_enter Tryz.func18, Tryz.ntmps18
  gi_upto_region 2 with (gi_at_call 15; ((with_reducible refine (HD.out).mono ?_); rintro e w1 ⟨r1, rfl, hx1, H1⟩))
  have HX1 := hid (HX0.out.trans hx1)
  clear hx1 HX0 HD
  gi_upto_region 3 with (first | (gi_at_call 44; ((with_reducible refine (night_any _).mono ?_); rintro e w2 ⟨s2, rfl, hx2, HV2⟩; have HC2 := hid (wk_claims s2 w2 HV2.out))) | (gi_at_call 19; ((with_reducible refine (HC2.out).mono ?_); rintro e w3 ⟨r3, rfl, hx3, H3⟩)))
  have HX3 := hid (HX1.out.trans (hx2.trans hx3))
  have HA3 := hid (H1.out.mono (hx2.trans hx3))
  clear hx2 hx3 HV2 HC2 HX1 H1
  gi_upto_region 4 with (first | (gi_at_call 44; ((with_reducible refine (night_any _).mono ?_); rintro e w4 ⟨s4, rfl, hx4, HV4⟩; have HC4 := hid (wk_parts s4 w4 HV4.out))) | (gi_at_call 23; ((with_reducible refine (HC4.out).mono ?_); rintro e w5 ⟨rfl, hx5⟩)))
  have HX5 := hid (HX3.out.trans (hx4.trans hx5))
  have HA5 := hid (HA3.out.mono (hx4.trans hx5))
  have HB5 := hid (H3.out.mono (hx4.trans hx5))
  clear hx4 hx5 HV4 HC4 HX3 HA3 H3
  gi_upto_region 5 with (first | (gi_at_call 44; ((with_reducible refine (night_any _).mono ?_); rintro e w6 ⟨s6, rfl, hx6, HV6⟩; have HC6 := hid (wk_shares s6 w6 HV6.out))) | (gi_at_call 25; ((with_reducible refine (HC6.out).mono ?_); rintro e w7 ⟨r7, rfl, hx7, H7⟩)))
  have HX7 := hid (HX5.out.trans (hx6.trans hx7))
  have HA7 := hid (HA5.out.mono (hx6.trans hx7))
  have HB7 := hid (HB5.out.mono (hx6.trans hx7))
  clear hx6 hx7 HV6 HC6 HX5 HA5 HB5
  have hy1 := Ext.new (w := w7) (o := .cells #[.int .i64 3, .int .i64 4, .int .i64 3] 3) (Ext.refl _)
  have HS1 := hid (same_true r1 (.slice (some ⟨w7.heap.size, 0, none⟩) 3 3) [3, 4, 3] (w7.alloc (.cells #[.int .i64 3, .int .i64 4, .int .i64 3] 3)) (HA7.out.mono ((Ext.refl _).alloc _)) (ints_new (xs := [3, 4, 3]) hy1 rfl (by decide)))
  have HXa : Hid (Ext w7 (w7.alloc (.cells #[.int .i64 3, .int .i64 4, .int .i64 3] 3))) := hid ((Ext.refl _).alloc _)
  have HS2 : Hid (∀ u, Ext w7 u → Cal 17 #[r3, .slice (some ⟨u.heap.size, 0, none⟩) 3 3] (u.alloc (.cells #[.int .i64 160, .int .i64 30, .int .i64 50] 3)) fun e w' => e = .returned (.bool true) ∧ Ext (u.alloc (.cells #[.int .i64 160, .int .i64 30, .int .i64 50] 3)) w') := hid fun u hu => same_true r3 _ [160, 30, 50] _ (HB7.out.mono (hu.trans ((Ext.refl _).alloc _))) (ints_new (xs := [160, 30, 50]) (Ext.new (Ext.refl _)) rfl (by decide))
  clear hy1
  gi_upto_region 7 with (first | (gi_at_call 17; ((with_reducible refine (HS1.out).mono ?_); rintro e w8 ⟨rfl, hx8⟩; have HX8 := hid (HXa.out.trans hx8); clear hx8; have HS2 := hid (HS2.out w8 HX8.out))) | (gi_at_call 17; ((with_reducible refine (HS2.out).mono ?_); rintro e w9 ⟨rfl, hx9⟩; have HX9 := hid (HX8.out.trans (((Ext.refl w8).alloc _).trans hx9)); clear hx9)) | (gi_at_call 53; ((with_reducible refine (duesList_any _).mono ?_); rintro e w10 ⟨r10, rfl, hx10, H10⟩; have HX10 := hid (HX9.out.trans hx10); clear hx10; have HS3 := hid (sameDues_true r7 r10 ntD w10 (H7.out.mono HX10.out) H10.out))) | (gi_at_call 27; ((with_reducible refine (HS3.out).mono ?_); rintro e w11 ⟨rfl, hx11⟩; have HX11 := hid (HX10.out.trans hx11); clear hx11)))
  have HY0 := hid (HX7.out.trans HX11.out)
  clear HS1 HS2 HS3 HX8 HX9 HX10 HX11 HXa HA7 HB7 H7 H10 HX7
  gi_upto_region 8 with (first | (gi_at_call 45; ((with_reducible refine (balances_any _).mono ?_); rintro e w12 ⟨r12, rfl, hx12, H12⟩; have HG := hid (wk_groups r12 w12 H12.out))) | (gi_at_call 37; ((with_reducible refine (HG.out).mono ?_); rintro e w13 ⟨ga, gc, rfl, hx13⟩)))
  have HY1 := hid (HY0.out.trans (hx12.trans hx13))
  clear hx12 hx13 H12 HG HY0
  gi_upto_region 9 with (first | (gi_at_call 45; ((with_reducible refine (balances_any _).mono ?_); rintro e w14 ⟨r14, rfl, hx14, H14⟩; have HG := hid (wk_clear r14 w14 H14.out))) | (gi_at_call 41; ((with_reducible refine (HG.out).mono ?_); rintro e w15 ⟨ca, cc, rfl, hx15⟩)))
  have HY2 := hid (HY1.out.trans (hx14.trans hx15))
  clear hx14 hx15 H14 HG HY1
  gi_upto_region 10 with (first | (gi_at_call 45; ((with_reducible refine (balances_any _).mono ?_); rintro e w16 ⟨r16, rfl, hx16, H16⟩; have hpy := Ext.new (w := w16) (o := .cells #[.int .i64 1, .int .i64 0, .int .i64 5, .int .i64 2, .int .i64 1, .int .i64 2, .int .i64 4, .int .i64 3, .int .i64 4] 74) (Ext.refl _); have HG := hid (wk_isClear r16 (.slice (some ⟨w16.heap.size, 0, none⟩) 3 3) (w16.alloc (.cells #[.int .i64 1, .int .i64 0, .int .i64 5, .int .i64 2, .int .i64 1, .int .i64 2, .int .i64 4, .int .i64 3, .int .i64 4] 74)) (H16.out.mono ((Ext.refl _).alloc _)) (wk_pays hpy)); clear hpy)) | (gi_at_call 42; ((with_reducible refine (HG.out).mono ?_); rintro e w17 ⟨rfl, hx17⟩)))
  have HY3 := hid (HY2.out.trans (hx16.trans (((Ext.refl _).alloc _).trans hx17)))
  clear hx16 hx17 H16 HG HY2
  gi_wp2_with fail
  go_ret
  exact ⟨rfl, HY3.out⟩
end
section
open Go Go.RowKit Go.Shelf

theorem row_blk {w : World} {T : TypeId} {sz n : Nat} {v : Value} {xs : List Value} (h : Row w T sz v n xs) {g : Nat} (hg : v.ownBlock = some g) : g < w.heap.size := by
  rcases h.2 with ⟨rfl, _⟩ | ⟨g', cap, cur, rfl, hb, _⟩
  · simp [Value.ownBlock] at hg
  · simp [Value.ownBlock] at hg; subst hg; exact lt_of_block hb
/-- One row, beside another one; its box, if it has been made. -/
structure Half (w0 u : World) (c d : Value) (n : Nat) (xs : List Value) (made : Bool) (bx e : Value) : Prop where
  row : Row u 3 1 c n xs
  own : ∀ g, c.ownBlock = some g → w0.heap.size ≤ g
  dis : ∀ g, c.ownBlock = some g → d.ownBlock ≠ some g
  box : made = true → ∃ g, bx = .slice (some ⟨g, 0, none⟩) 1 1 ∧ u.heap[g]? = some (.cells #[e] 3 (0, 0)) ∧ c.ownBlock ≠ some g ∧ d.ownBlock ≠ some g
section
variable {w0 u u' : World} {c d c' d' bx e : Value} {n : Nat} {xs : List Value} {made : Bool}
theorem Half.ext (h : Half w0 u c d n xs made bx e) (hx : Ext u u') : Half w0 u' c d n xs made bx e :=
  ⟨h.row.mono hx, h.own, h.dis, fun hm => (h.box hm).elim fun g hg => ⟨g, hg.1, hx.block hg.2.1, hg.2.2⟩⟩
theorem Half.other (h : Half w0 u c d n xs made bx e) (hg : u.grownBy u' d.ownBlock) (how : d'.ownBlock = d.ownBlock ∨ d'.ownBlock = some u.heap.size) : Half w0 u' c d' n xs made bx e := by
  refine ⟨h.row.kept fun k o hk ho => grownBy_block hg ho (fun e => h.dis k hk e.symm), h.own, fun k hk hd => ?_, fun hm => ?_⟩
  · rcases how with q | q
    · exact h.dis k hk (by rw [← q]; exact hd)
    · rw [hd] at q; cases q
      have := row_blk h.row hk; omega
  · obtain ⟨g, h1, h2, h3, h4⟩ := h.box hm
    refine ⟨g, h1, grownBy_block hg h2 (fun e => h4 e.symm), h3, fun hd => ?_⟩
    rcases how with q | q
    · exact h4 (by rw [← q]; exact hd)
    · rw [hd] at q; cases q
      have := lt_of_block h2; omega
theorem Half.append (h : Half w0 u c d n xs made bx e) (hx : Ext w0 u) (hd : ∀ g, d.ownBlock = some g → g < u.heap.size) {m : Nat} {ys : List Value} (hr : Row u' 3 1 c' m ys) (hg : u.grownBy u' c.ownBlock) (how : c'.ownBlock = c.ownBlock ∨ c'.ownBlock = some u.heap.size) : Half w0 u' c' d m ys made bx e := by
  refine ⟨hr, fun k hk => ?_, fun k hk hq => ?_, fun hm => ?_⟩
  · rcases how with q | q
    · exact h.own k (by rw [← q]; exact hk)
    · rw [hk] at q; cases q; exact hx.size
  · rcases how with q | q
    · exact h.dis k (by rw [← q]; exact hk) hq
    · rw [hk] at q; cases q
      have := hd _ hq; omega
  · obtain ⟨g, h1, h2, h3, h4⟩ := h.box hm
    refine ⟨g, h1, grownBy_block hg h2 (fun e => h3 e.symm), fun hq => ?_, h4⟩
    rcases how with q | q
    · exact h3 (by rw [← q]; exact hq)
    · rw [hq] at q; cases q
      have := lt_of_block h2; omega
theorem Half.make (h : Half w0 u c d n xs made bx e) (hd : ∀ g, d.ownBlock = some g → g < u.heap.size) : Half w0 (u.alloc (.cells #[e] 3)) c d n xs true (.slice (some ⟨u.heap.size, 0, none⟩) 1 1) e := by
  have hx : Ext u (u.alloc (.cells #[e] 3)) := (Ext.refl _).alloc _
  refine ⟨h.row.mono hx, h.own, h.dis, fun _ => ⟨u.heap.size, rfl, Ext.new (Ext.refl _), fun hq => ?_, fun hq => ?_⟩⟩
  · have := row_blk h.row hq; omega
  · have := hd _ hq; omega
end
def curV (L : Nat → Bool) (x : Nat → Value) (j : Nat) (v : Value) : Value := if L j then x j else v
/-- Two rows in a region: their boxes are made by the operations i, and appended by the operations j. -/
def twoJ (w0 : World) (i1 j1 i2 j2 n : Nat) (v1 v2 : Value) (xs1 xs2 : List Value) (e1 e2 : Value) : InvJ := fun L x u => Ext w0 u ∧
  Half w0 u (curV L x j1 v1) (curV L x j2 v2) (if L j1 then n + 1 else n) (if L j1 then xs1 ++ [e1] else xs1) (L i1) (x i1) e1 ∧
  Half w0 u (curV L x j2 v2) (curV L x j1 v1) (if L j2 then n + 1 else n) (if L j2 then xs2 ++ [e2] else xs2) (L i2) (x i2) e2
section
variable {w0 u u' : World} {i1 j1 i2 j2 n : Nat} {v1 v2 e1 e2 : Value} {xs1 xs2 : List Value} {L : Nat → Bool} {x : Nat → Value}
theorem twoJ_swap (h : twoJ w0 i1 j1 i2 j2 n v1 v2 xs1 xs2 e1 e2 L x u) : twoJ w0 i2 j2 i1 j1 n v2 v1 xs2 xs1 e2 e1 L x u := ⟨h.1, h.2.2, h.2.1⟩
theorem twoJ_start {W : World} (hx : Ext w0 W) (h1 : Row W 3 1 v1 n xs1) (h2 : Row W 3 1 v2 n xs2) (o1 : ∀ g, v1.ownBlock = some g → w0.heap.size ≤ g) (o2 : ∀ g, v2.ownBlock = some g → w0.heap.size ≤ g) (hd : ∀ g, v1.ownBlock = some g → v2.ownBlock ≠ some g) :
    twoJ w0 i1 j1 i2 j2 n v1 v2 xs1 xs2 e1 e2 (fun _ => false) (fun _ => undef) { W with drawn := W.drawn + 1 } :=
  ⟨hx.trans (Ext.drawn _), ⟨h1.mono (Ext.drawn _), o1, hd, fun h => by cases h⟩, ⟨h2.mono (Ext.drawn _), o2, fun g hg he => hd g he hg, fun h => by cases h⟩⟩
theorem twoJ_skip {k : Nat} (hk : (i1 != k && j1 != k && i2 != k && j2 != k) = true) (h : twoJ w0 i1 j1 i2 j2 n v1 v2 xs1 xs2 e1 e2 L x u) : twoJ w0 i1 j1 i2 j2 n v1 v2 xs1 xs2 e1 e2 (updL L k) x u := by
  simp only [Bool.and_eq_true, bne_iff_ne, ne_eq] at hk
  unfold twoJ curV updL at *
  rw [if_neg hk.1.1.1, if_neg hk.1.1.2, if_neg hk.1.2, if_neg hk.2]
  exact h
theorem twoJ_lt (h : twoJ w0 i1 j1 i2 j2 n v1 v2 xs1 xs2 e1 e2 L x u) : (∀ g, (curV L x j1 v1).ownBlock = some g → g < u.heap.size) ∧ (∀ g, (curV L x j2 v2).ownBlock = some g → g < u.heap.size) :=
  ⟨fun g hg => row_blk h.2.1.row hg, fun g hg => row_blk h.2.2.row hg⟩
theorem twoJ_make1 (hk : (i1 != j1 && i1 != i2 && i1 != j2) = true) (h : twoJ w0 i1 j1 i2 j2 n v1 v2 xs1 xs2 e1 e2 L x u) : twoJ w0 i1 j1 i2 j2 n v1 v2 xs1 xs2 e1 e2 (updL L i1) (updX x i1 (.slice (some ⟨u.heap.size, 0, none⟩) 1 1)) (u.alloc (.cells #[e1] 3)) := by
  simp only [Bool.and_eq_true, bne_iff_ne, ne_eq] at hk
  have hx : Ext u (u.alloc (.cells #[e1] 3)) := (Ext.refl _).alloc _
  have hlt := twoJ_lt h
  unfold twoJ curV updL updX at *
  rw [if_neg (Ne.symm hk.1.1), if_neg (Ne.symm hk.1.1), if_neg (Ne.symm hk.1.2), if_neg (Ne.symm hk.1.2), if_neg (Ne.symm hk.2), if_neg (Ne.symm hk.2), if_pos rfl, if_pos rfl]
  exact ⟨h.1.trans hx, h.2.1.make hlt.2, h.2.2.ext hx⟩
theorem twoJ_app1 (hk : (i1 != j1 && j1 != i2 && j1 != j2) = true) (h : twoJ w0 i1 j1 i2 j2 n v1 v2 xs1 xs2 e1 e2 L x u) (hL : L j1 = false) {v' : Value} (hr : Row u' 3 1 v' (n + 1) (xs1 ++ [e1])) (hg : u.grownBy u' v1.ownBlock) (how : v'.ownBlock = v1.ownBlock ∨ v'.ownBlock = some u.heap.size) :
    twoJ w0 i1 j1 i2 j2 n v1 v2 xs1 xs2 e1 e2 (updL L j1) (updX x j1 v') u' := by
  simp only [Bool.and_eq_true, bne_iff_ne, ne_eq] at hk
  have hlt := twoJ_lt h
  have hc : curV L x j1 v1 = v1 := by unfold curV; rw [hL]; rfl
  rw [hc] at hlt
  have h1 := h.2.1
  have h2 := h.2.2
  rw [hc] at h1 h2
  have hx' : Ext w0 u' := ext_grown h.1 hg (fun g hg' => h1.own g hg')
  unfold twoJ
  have ec : curV (updL L j1) (updX x j1 v') j1 v1 = v' := by unfold curV updL updX; simp
  have ed : curV (updL L j1) (updX x j1 v') j2 v2 = curV L x j2 v2 := by unfold curV updL updX; simp [Ne.symm hk.2]
  have e1' : updL L j1 i1 = L i1 := if_neg hk.1.1
  have e2' : updL L j1 i2 = L i2 := if_neg (Ne.symm hk.1.2)
  have e3' : updL L j1 j2 = L j2 := if_neg (Ne.symm hk.2)
  have e4' : updL L j1 j1 = true := if_pos rfl
  have e5' : updX x j1 v' i1 = x i1 := if_neg hk.1.1
  have e6' : updX x j1 v' i2 = x i2 := if_neg (Ne.symm hk.1.2)
  rw [ec, ed, e1', e2', e3', e4', e5', e6']
  exact ⟨hx', h1.append h.1 hlt.2 hr hg how, h2.other hg how⟩
theorem twoJ_make2 (hk : (i2 != j2 && i2 != i1 && i2 != j1) = true) (h : twoJ w0 i1 j1 i2 j2 n v1 v2 xs1 xs2 e1 e2 L x u) : twoJ w0 i1 j1 i2 j2 n v1 v2 xs1 xs2 e1 e2 (updL L i2) (updX x i2 (.slice (some ⟨u.heap.size, 0, none⟩) 1 1)) (u.alloc (.cells #[e2] 3)) :=
  twoJ_swap (twoJ_make1 hk (twoJ_swap h))
theorem twoJ_app2 (hk : (i2 != j2 && j2 != i1 && j2 != j1) = true) (h : twoJ w0 i1 j1 i2 j2 n v1 v2 xs1 xs2 e1 e2 L x u) (hL : L j2 = false) {v' : Value} (hr : Row u' 3 1 v' (n + 1) (xs2 ++ [e2])) (hg : u.grownBy u' v2.ownBlock) (how : v'.ownBlock = v2.ownBlock ∨ v'.ownBlock = some u.heap.size) :
    twoJ w0 i1 j1 i2 j2 n v1 v2 xs1 xs2 e1 e2 (updL L j2) (updX x j2 v') u' := twoJ_swap (twoJ_app1 hk (twoJ_swap h) hL hr hg how)
/-- The append itself. -/
theorem twoJ_run1 (h : twoJ w0 i1 j1 i2 j2 n v1 v2 xs1 xs2 e1 e2 L x u) (hi : L i1 = true) (hj : L j1 = false) (hn : n ≤ 1000000) (he : e1.oneCell' = true) :
    ∃ v' u', (Builtin.append_ #[23, 23] 23 #[v1, x i1]).run Tryz.prog u = .ok v' u' ∧ Row u' 3 1 v' (n + 1) (xs1 ++ [e1]) ∧ u.grownBy u' v1.ownBlock ∧ (v'.ownBlock = v1.ownBlock ∨ v'.ownBlock = some u.heap.size) := by
  obtain ⟨i, hi3, hz0, hz1, hz2⟩ := info_parts info3
  obtain ⟨g, hg1, hg2, _, _⟩ := h.2.1.box hi
  have hc : curV L x j1 v1 = v1 := by unfold curV; rw [hj]; rfl
  have hr := h.2.1.row
  rw [hc, hj] at hr
  simp only [Bool.false_eq_true, if_false] at hr
  rw [hg1]
  obtain ⟨v', u', h1, h2, h3, h4, _⟩ := append_row (t := 23) (ty := 23) Tryz.underlying23 hi3 hz0 hz1 hz2 (by simp [Value.cells]) (by omega) hr ⟨g, 0, none⟩ 1 [e1] rfl (fun j q hq => by
    rw [Addr.add_mid, Nat.zero_add, cell_of hg2]
    match j, hq with
    | 0, hq => simpa using hq) (fun q hq => by rw [List.mem_singleton] at hq; subst hq; exact he) (by omega) (by omega)
  exact ⟨v', u', h1, h2, h3, h4⟩
theorem twoJ_run2 (h : twoJ w0 i1 j1 i2 j2 n v1 v2 xs1 xs2 e1 e2 L x u) (hi : L i2 = true) (hj : L j2 = false) (hn : n ≤ 1000000) (he : e2.oneCell' = true) :
    ∃ v' u', (Builtin.append_ #[23, 23] 23 #[v2, x i2]).run Tryz.prog u = .ok v' u' ∧ Row u' 3 1 v' (n + 1) (xs2 ++ [e2]) ∧ u.grownBy u' v2.ownBlock ∧ (v'.ownBlock = v2.ownBlock ∨ v'.ownBlock = some u.heap.size) := twoJ_run1 (twoJ_swap h) hi hj hn he
theorem twoJ_end (h : twoJ w0 i1 j1 i2 j2 n v1 v2 xs1 xs2 e1 e2 L x u) (h1 : L j1 = true) (h2 : L j2 = true) :
    Ext w0 u ∧ Row u 3 1 (x j1) (n + 1) (xs1 ++ [e1]) ∧ Row u 3 1 (x j2) (n + 1) (xs2 ++ [e2]) ∧ (∀ g, (x j1).ownBlock = some g → w0.heap.size ≤ g) ∧ (∀ g, (x j2).ownBlock = some g → w0.heap.size ≤ g) ∧ (∀ g, (x j1).ownBlock = some g → (x j2).ownBlock ≠ some g) := by
  have ec : curV L x j1 v1 = x j1 := by unfold curV; rw [h1]; rfl
  have ed : curV L x j2 v2 = x j2 := by unfold curV; rw [h2]; rfl
  have a := h.2.1
  have b := h.2.2
  rw [ec, ed, h1] at a
  rw [ec, ed, h2] at b
  exact ⟨h.1, a.row, b.row, a.own, b.own, a.dis⟩
end
end
end Go.Proofs.YtjocoadhalimjaaGreat
