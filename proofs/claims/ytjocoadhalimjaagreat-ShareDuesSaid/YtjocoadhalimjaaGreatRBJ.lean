/- The chapter's examples, as the laws ask them. -/
import Derived.Test.YtjocoadhalimjaaGreatRBH
import Derived.Test.YtjocoadhalimjaaGreatRAK
import Derived.Test.YtjocoadhalimjaaGreatRBI
import Derived.Test.YtjocoadhalimjaaGreatRBF
set_option linter.unusedSimpArgs false
set_option linter.unusedVariables false
namespace Go.Proofs.YtjocoadhalimjaaGreat
section
open Go Go.RowKit Go.Shelf

theorem wkDivE : divE 10 wkS = 0 := by
  have h : (divE 10 wkS == 0) = true := by kernel_rfl
  simpa using h
theorem wk_divide (v : Value) (u : World) (hv : StakesAt u v wkS) : Cal 15 #[.int .i64 10, v] u fun e w' => ∃ r, e = .returned (.tuple #[r, .int .i64 0]) ∧ Ext u w' ∧ Hid (IntsAt w' r [3, 4, 3]) :=
  (Divide_ok 10 v wkS u hv (fun s hs => by simp [wkS] at hs; rcases hs with h | h | h <;> subst h <;> decide) wkDivE).mono fun e w' ⟨r, h1, h2, h3⟩ =>
    ⟨r, h1, h2, hid (IntsAt.of_row (by have h := h3.out; rw [show wkS.length = 3 from rfl, wkDiv] at h; exact h) (by decide))⟩
theorem wk_claims (s : VS) (u : World) (h : VoyAt u nt s) : Cal 19 #[.agg (voyA nt s)] u fun e w' => ∃ r, e = .returned (.tuple #[r, .int .i64 0]) ∧ Ext u w' ∧ Hid (IntsAt w' r [160, 30, 50]) :=
  (Claims_ok nt s u h ntE).mono fun e w' ⟨r, h1, h2, h3⟩ => ⟨r, h1, h2, hid (IntsAt.of_row (by have h := h3.out; rw [ntC] at h; exact h) (by decide))⟩
theorem wk_parts (s : VS) (u : World) (h : VoyAt u nt s) : Cal 23 #[.agg (voyA nt s)] u fun e w' => e = .returned (.tuple #[.int .i64 353, .int .i64 353, .int .i64 235, .int .i64 0]) ∧ Ext u w' := by
  have := Parts_ok nt s u h ntE
  rw [ntP.1, ntP.2.1, ntP.2.2] at this
  exact this
theorem wk_shares (s : VS) (u : World) (h : VoyAt u nt s) : Cal 25 #[.agg (voyA nt s)] u fun e w' => ∃ r, e = .returned (.tuple #[r, .int .i64 0]) ∧ Ext u w' ∧ Hid (DuAt w' r ntD) :=
  (Shares_ok nt s u h ntE).mono fun e w' ⟨r, ns, h1, h2, h3, h4, h5⟩ => ⟨r, h1, h2, hid (DuAt.of_row (by have h := h5.out; rw [(ntDue h3).1, (ntDue h3).2] at h; exact h) (by decide))⟩
theorem wk_groups (v : Value) (u : World) (h : IntsAt u v wkX) : Cal 37 #[v] u fun e w' => ∃ ga gc, e = .returned (.tuple #[.slice ga 2 gc, .int .i64 0]) ∧ Ext u w' :=
  (Groups_ok v wkX u h wkB).mono fun e w' ⟨r, vs, ts, h1, h2, h3⟩ => by
    have h4 := wkBest h3.out.2.2.2.2.1
    have h5 := h3.out.1
    rw [h4] at h5
    obtain ⟨ga, gc, rfl⟩ := h5.isSliceN
    exact ⟨ga, gc, h1, h2⟩
theorem wk_clear (v : Value) (u : World) (h : IntsAt u v wkX) : Cal 41 #[v] u fun e w' => ∃ ga gc, e = .returned (.tuple #[.slice ga 3 gc, .int .i64 0]) ∧ Ext u w' :=
  (Clear_ok v wkX u h wkB).mono fun e w' ⟨r, ps, h1, h2, h3⟩ => by
    obtain ⟨k, hk, hn⟩ := h3.out.2.2.few
    rw [wkBest hk, wkN] at hn
    have h5 := h3.out.1
    rw [show ps.length = 3 by omega] at h5
    obtain ⟨ga, gc, rfl⟩ := h5.isSliceN
    exact ⟨ga, gc, h1, h2⟩
theorem wk_isClear (v pv : Value) (u : World) (h : IntsAt u v wkX) (hp : PaysAt u pv wkPy) : Cal 42 #[v, pv] u fun e w' => e = .returned (.tuple #[.bool true, .int .i64 0]) ∧ Ext u w' := by
  have := IsClear_ok v pv wkX wkPy u h hp (fun p hp => by simp [wkPy] at hp; rcases hp with h | h | h <;> subst h <;> unfold sm <;> simp) wkB
  rw [wkI] at this
  exact this
theorem wk_pays {W' : World} {ty : TypeId} {g : Nat} (hb : W'.heap[g]? = some (.cells #[.int .i64 1, .int .i64 0, .int .i64 5, .int .i64 2, .int .i64 1, .int .i64 2, .int .i64 4, .int .i64 3, .int .i64 4] ty (0, 0))) : PaysAt W' (.slice (some ⟨g, 0, none⟩) 3 3) wkPy := by
  refine ⟨_, _, rfl, ⟨Nat.le_refl _, by decide⟩, fun i hi => ⟨g, 0, rfl, lt_of_block hb, ?_⟩⟩
  rw [cell_of hb, cell_of hb, cell_of hb]
  have hi : i < 3 := hi
  rcases (by omega : i = 0 ∨ i = 1 ∨ i = 2) with rfl | rfl | rfl <;> exact ⟨rfl, rfl, rfl⟩
theorem same_true (v1 v2 : Value) (xs : List Int) (u : World) (h1 : IntsAt u v1 xs) (h2 : IntsAt u v2 xs) : Cal 17 #[v1, v2] u fun e w' => e = .returned (.bool true) ∧ Ext u w' := by
  have := Same_any v1 v2 xs xs u h1 h2
  rw [show (xs == xs) = true by simp] at this
  exact this
set_option maxRecDepth 100000 in
set_option maxHeartbeats 16000000 in
theorem works_any (w : World) : Cal 18 #[] w fun e w' => e = .returned (.bool true) ∧ Ext w w' := by
  have hs0 := Ext.new (w := w) (o := .cells #[.string ⟨#[98]⟩, .int .i64 1, .string ⟨#[97]⟩, .int .i64 1, .string ⟨#[99]⟩, .int .i64 1] 49) (Ext.refl _)
  have HD := hid (wk_divide (.slice (some ⟨w.heap.size, 0, none⟩) 3 3) (w.alloc (.cells #[.string ⟨#[98]⟩, .int .i64 1, .string ⟨#[97]⟩, .int .i64 1, .string ⟨#[99]⟩, .int .i64 1] 49)) (stakes_new (l := wkS) hs0 rfl (by decide)))
  have HX0 : Hid (Ext w (w.alloc (.cells #[.string ⟨#[98]⟩, .int .i64 1, .string ⟨#[97]⟩, .int .i64 1, .string ⟨#[99]⟩, .int .i64 1] 49))) := hid ((Ext.refl _).alloc _)
  clear hs0
  gi_enter Tryz.func18, Tryz.ntmps18
  gi_upto_region 2 with (gi_at_call 15; ((with_reducible refine (HD.out).mono ?_); rintro e w1 ⟨r1, rfl, hx1, H1⟩))
  have HX1 := hid (HX0.out.trans hx1)
  clear hx1 HX0 HD
  gi_upto_region 3 with (first | (gi_at_call 44; ((with_reducible refine (night_any _).mono ?_); rintro e w2 ⟨s2, rfl, hx2, HV2⟩; have HC2 := hid (wk_claims s2 w2 HV2.out))) | (gi_at_call 19; ((with_reducible refine (HC2.out).mono ?_); rintro e w3 ⟨r3, rfl, hx3, H3⟩)))
  have HX3 := hid (HX1.out.trans (hx2.trans hx3))
  have HA3 := hid (H1.out.mono (hx2.trans hx3))
  clear hx2 hx3 HV2 HC2 HX1 H1
  gi_upto_region 4 with (first | (gi_at_call 44; ((with_reducible refine (night_any _).mono ?_); rintro e w4 ⟨s4, rfl, hx4, HV4⟩; have HC4 := hid (wk_parts s4 w4 HV4.out))) | (gi_at_call 23; ((with_reducible refine (HC4.out).mono ?_); rintro e w5 ⟨rfl, hx5⟩)))
  have HX5 := hid (HX3.out.trans (hx4.trans hx5))
  have HA5 := hid (HA3.out.mono (hx4.trans hx5))
  have HB5 := hid (H3.out.mono (hx4.trans hx5))
  clear hx4 hx5 HV4 HC4 HX3 HA3 H3
  gi_upto_region 5 with (first | (gi_at_call 44; ((with_reducible refine (night_any _).mono ?_); rintro e w6 ⟨s6, rfl, hx6, HV6⟩; have HC6 := hid (wk_shares s6 w6 HV6.out))) | (gi_at_call 25; ((with_reducible refine (HC6.out).mono ?_); rintro e w7 ⟨r7, rfl, hx7, H7⟩)))
  have HX7 := hid (HX5.out.trans (hx6.trans hx7))
  have HA7 := hid (HA5.out.mono (hx6.trans hx7))
  have HB7 := hid (HB5.out.mono (hx6.trans hx7))
  clear hx6 hx7 HV6 HC6 HX5 HA5 HB5
  have hy1 := Ext.new (w := w7) (o := .cells #[.int .i64 3, .int .i64 4, .int .i64 3] 3) (Ext.refl _)
  have HS1 := hid (same_true r1 (.slice (some ⟨w7.heap.size, 0, none⟩) 3 3) [3, 4, 3] (w7.alloc (.cells #[.int .i64 3, .int .i64 4, .int .i64 3] 3)) (HA7.out.mono ((Ext.refl _).alloc _)) (ints_new (xs := [3, 4, 3]) hy1 rfl (by decide)))
  have HXa : Hid (Ext w7 (w7.alloc (.cells #[.int .i64 3, .int .i64 4, .int .i64 3] 3))) := hid ((Ext.refl _).alloc _)
  have HS2 : Hid (∀ u, Ext w7 u → Cal 17 #[r3, .slice (some ⟨u.heap.size, 0, none⟩) 3 3] (u.alloc (.cells #[.int .i64 160, .int .i64 30, .int .i64 50] 3)) fun e w' => e = .returned (.bool true) ∧ Ext (u.alloc (.cells #[.int .i64 160, .int .i64 30, .int .i64 50] 3)) w') := hid fun u hu => same_true r3 _ [160, 30, 50] _ (HB7.out.mono (hu.trans ((Ext.refl _).alloc _))) (ints_new (xs := [160, 30, 50]) (Ext.new (Ext.refl _)) rfl (by decide))
  clear hy1
  gi_upto_region 7 with (first | (gi_at_call 17; ((with_reducible refine (HS1.out).mono ?_); rintro e w8 ⟨rfl, hx8⟩; have HX8 := hid (HXa.out.trans hx8); clear hx8; have HS2 := hid (HS2.out w8 HX8.out))) | (gi_at_call 17; ((with_reducible refine (HS2.out).mono ?_); rintro e w9 ⟨rfl, hx9⟩; have HX9 := hid (HX8.out.trans (((Ext.refl w8).alloc _).trans hx9)); clear hx9)) | (gi_at_call 53; ((with_reducible refine (duesList_any _).mono ?_); rintro e w10 ⟨r10, rfl, hx10, H10⟩; have HX10 := hid (HX9.out.trans hx10); clear hx10; have HS3 := hid (sameDues_true r7 r10 ntD w10 (H7.out.mono HX10.out) H10.out))) | (gi_at_call 27; ((with_reducible refine (HS3.out).mono ?_); rintro e w11 ⟨rfl, hx11⟩; have HX11 := hid (HX10.out.trans hx11); clear hx11)))
  have HY0 := hid (HX7.out.trans HX11.out)
  clear HS1 HS2 HS3 HX8 HX9 HX10 HX11 HXa HA7 HB7 H7 H10 HX7
  gi_upto_region 8 with (first | (gi_at_call 45; ((with_reducible refine (balances_any _).mono ?_); rintro e w12 ⟨r12, rfl, hx12, H12⟩; have HG := hid (wk_groups r12 w12 H12.out))) | (gi_at_call 37; ((with_reducible refine (HG.out).mono ?_); rintro e w13 ⟨ga, gc, rfl, hx13⟩)))
  have HY1 := hid (HY0.out.trans (hx12.trans hx13))
  clear hx12 hx13 H12 HG HY0
  gi_upto_region 9 with (first | (gi_at_call 45; ((with_reducible refine (balances_any _).mono ?_); rintro e w14 ⟨r14, rfl, hx14, H14⟩; have HG := hid (wk_clear r14 w14 H14.out))) | (gi_at_call 41; ((with_reducible refine (HG.out).mono ?_); rintro e w15 ⟨ca, cc, rfl, hx15⟩)))
  have HY2 := hid (HY1.out.trans (hx14.trans hx15))
  clear hx14 hx15 H14 HG HY1
  gi_upto_region 10 with (first | (gi_at_call 45; ((with_reducible refine (balances_any _).mono ?_); rintro e w16 ⟨r16, rfl, hx16, H16⟩; have hpy := Ext.new (w := w16) (o := .cells #[.int .i64 1, .int .i64 0, .int .i64 5, .int .i64 2, .int .i64 1, .int .i64 2, .int .i64 4, .int .i64 3, .int .i64 4] 74) (Ext.refl _); have HG := hid (wk_isClear r16 (.slice (some ⟨w16.heap.size, 0, none⟩) 3 3) (w16.alloc (.cells #[.int .i64 1, .int .i64 0, .int .i64 5, .int .i64 2, .int .i64 1, .int .i64 2, .int .i64 4, .int .i64 3, .int .i64 4] 74)) (H16.out.mono ((Ext.refl _).alloc _)) (wk_pays hpy)); clear hpy)) | (gi_at_call 42; ((with_reducible refine (HG.out).mono ?_); rintro e w17 ⟨rfl, hx17⟩)))
  have HY3 := hid (HY2.out.trans (hx16.trans (((Ext.refl _).alloc _).trans hx17)))
  clear hx16 hx17 H16 HG HY2
  gi_wp2_with fail
  go_ret
  exact ⟨rfl, HY3.out⟩
end
section
open Go Go.RowKit Go.Shelf

theorem pysF_get : ∀ (l : List Py) (i : Nat) (h : i < l.length), (pysF l)[i * 3]? = some (.int .i64 l[i].a) ∧ (pysF l)[i * 3 + 1]? = some (.int .i64 l[i].z) ∧ (pysF l)[i * 3 + 2]? = some (.int .i64 l[i].s)
  | [], i, h => by simp at h
  | d :: l, 0, h => ⟨rfl, rfl, rfl⟩
  | d :: l, i + 1, h => by
    have ih := pysF_get l i (by simpa using h)
    have e : pysF (d :: l) = [.int .i64 d.a, .int .i64 d.z, .int .i64 d.s] ++ pysF l := rfl
    rw [e]
    refine ⟨?_, ?_, ?_⟩
    · rw [List.getElem?_append_right (by simp; omega), show (i + 1) * 3 - [Value.int .i64 d.a, .int .i64 d.z, .int .i64 d.s].length = i * 3 by simp; omega]; exact ih.1
    · rw [List.getElem?_append_right (by simp; omega), show (i + 1) * 3 + 1 - [Value.int .i64 d.a, .int .i64 d.z, .int .i64 d.s].length = i * 3 + 1 by simp; omega]; exact ih.2.1
    · rw [List.getElem?_append_right (by simp; omega), show (i + 1) * 3 + 2 - [Value.int .i64 d.a, .int .i64 d.z, .int .i64 d.s].length = i * 3 + 2 by simp; omega]; exact ih.2.2
theorem PaysAt.of_row {w : World} {v : Value} {l : List Py} (h : Row w 74 3 v l.length (pysF l)) (hl : l.length ≤ 1000) : PaysAt w v l := by
  obtain ⟨_, h⟩ := h
  rcases h with ⟨rfl, h0⟩ | ⟨g, cap, cur, rfl, hg, h1, h2, h3, h4⟩
  · exact ⟨none, 0, by rw [h0], ⟨by omega, by omega⟩, fun i hi => by omega⟩
  · refine ⟨_, cap, rfl, ⟨h1, by omega⟩, fun i hi => ⟨g, 0, rfl, lt_of_block hg, ?_⟩⟩
    obtain ⟨k0, k1, k2⟩ := pysF_get l i hi
    have key : ∀ j u, (pysF l)[j]? = some u → w.cell? ⟨g, j, none⟩ = some u := fun j u hj => by
      rw [← h4, List.getElem?_take] at hj
      split at hj
      · rw [Array.getElem?_toList] at hj; rw [cell_of hg]; exact hj
      · cases hj
    simp only [Nat.zero_add]
    exact ⟨key _ _ k0, key _ _ k1, key _ _ k2⟩
theorem sm_of {n : Nat} {p : Py} (h : pyGood n p = true ∧ p.s ≤ 1000000) : sm p := by
  obtain ⟨_, _, _, h4⟩ := pyGood_iff.1 h.1
  unfold sm; omega
theorem wrap_small {x : Int} (h1 : -1000000 ≤ x) (h2 : x ≤ 1000000) : wrap64 x = x := by unfold wrap64; omega
def nzTo (xs : List Int) (k : Nat) : Nat := (List.range k).countP fun i => decide (balF xs i ≠ 0)
theorem nzTo_succ (xs : List Int) (k : Nat) : nzTo xs (k + 1) = nzTo xs k + if balF xs k ≠ 0 then 1 else 0 := by
  unfold nzTo
  rw [List.range_succ, List.countP_append]
  by_cases h : balF xs k = 0 <;> simp [h]
theorem nzTo_le (xs : List Int) (k : Nat) : nzTo xs k ≤ k := by
  have h := List.countP_le_length (p := fun i => decide (balF xs i ≠ 0)) (l := List.range k)
  unfold nzTo; simpa using h
set_option maxRecDepth 100000 in
set_option maxHeartbeats 16000000 in
theorem ShareCleared_any (v bv : Value) (xs bits : List Int) (w : World) (hv : IntsAt w v xs) (hll : xs.length ≤ 1000000000000000) (hb : IntsAt w bv bits) : Cal 12 #[v, bv] w fun e w' => e = .returned (.bool true) ∧ Ext w w' := by
  have HV := hid hv
  obtain ⟨va, vc, rfl, _⟩ := id hv
  have HB := hid hb
  have HOW := hid (fun (u : World) (hu : Ext w u) => owing_any _ xs u (hv.mono hu) hll)
  have HWK := hid (fun (u : World) => works_any u)
  cases hd : debtsB xs with
  | false =>
    have HCL := hid (fun (u : World) (hu : Ext w u) => Clear_bad _ xs u (hv.mono hu) hd)
    have HGR := hid (fun (u : World) (hu : Ext w u) => Groups_bad _ xs u (hv.mono hu) hd)
    rw [hd] at HOW
    clear hv hb hd hll
    gi_enter Tryz.func12, Tryz.ntmps12
    gi_wp2_with (first | (gi_at_call 41; ((with_reducible refine (HCL.out w (Ext.refl _)).mono ?_); rintro e w1 ⟨rfl, hx1⟩; have HX := hid hx1; clear hx1)) | (gi_at_call 37; ((with_reducible refine (HGR.out _ HX.out).mono ?_); rintro e w2 ⟨rfl, hx2⟩; have HX := hid (HX.out.trans hx2); clear hx2)) | (gi_at_call 38; ((with_reducible refine (HOW.out _ HX.out).mono ?_); rintro e w3 ⟨rfl, rfl⟩)) | (gi_at_call 18; ((with_reducible refine (HWK.out _).mono ?_); rintro e w4 ⟨rfl, hx4⟩; have HX := hid (HX.out.trans hx4); clear hx4)))
    go_ret
    exact ⟨rfl, HX.out⟩
  | true =>
    have HDB := hid (debts_ok hd)
    have HCL := hid (Clear_ok _ xs w hv hd)
    have HGR := hid (fun (u : World) (hu : Ext w u) => Groups_ok _ xs u (hv.mono hu) hd)
    have HCH := hid (fun (u : World) (hu : Ext w u) => chosen_any _ bv xs bits u (hv.mono hu) (hb.mono hu) hd)
    have HIS := hid (fun (u : World) (hu : Ext w u) (pv : Value) (ps : List Py) (hp : PaysAt u pv ps) (hs : ∀ p ∈ ps, sm p) => IsClear_ok _ pv xs ps u (hv.mono hu) hp hs hd)
    rw [hd] at HOW
    have hxl : xs.length ≤ 10 := HDB.out.1
    clear hv hb hd hll
    gi_enter Tryz.func12, Tryz.ntmps12
    gi_upto_region 2 with (gi_at_call 41; ((with_reducible refine (HCL.out).mono ?_); rintro e w1 ⟨lr, ps, rfl, hx1, HC⟩))
    have HX1 := hid hx1
    clear hx1 HCL
    gi_upto_region 3 with (gi_at_call 37; ((with_reducible refine (HGR.out _ HX1.out).mono ?_); rintro e w2 ⟨gr, gvs, ts, rfl, hx2, HG⟩))
    obtain ⟨la, lc, rfl⟩ := HC.out.1.isSliceN
    obtain ⟨ga, gc, rfl⟩ := HG.out.1.isSliceN
    have HX2 := hid (HX1.out.trans hx2)
    have HP2 := hid (HC.out.1.mono hx2)
    have hlen : ps.length + ts.length = nzC xs := by
      obtain ⟨k, hk, hn⟩ := HC.out.2.2.few
      have h := hk.eq HG.out.2.2.2.2.1
      omega
    have HLE := hid hlen
    have hpl : ps.length ≤ 10 := by
      have h1 : nzC xs ≤ xs.length := nzTo_le xs xs.length
      omega
    have HPL := hid hpl
    have HI1 := hid (fun (u : World) (hu : Ext w2 u) => HIS.out u (HX2.out.trans hu) _ ps (PaysAt.of_row (HP2.out.mono hu) (by have := HPL.out; omega)) (fun p hp => sm_of (HC.out.2.2.good p hp)))
    rw [clear_of hxl (fun p hp => (HC.out.2.2.good p hp).1) HC.out.2.2.zero] at HI1
    clear hx2 HGR HX1 hlen hpl
    gi_upto_region 6 with (first | (gi_at_call 38; ((with_reducible refine (HOW.out _ HX2.out).mono ?_); rintro e w3 ⟨rfl, rfl⟩)) | (gi_at_call 42; ((with_reducible refine (HI1.out _ (Ext.refl _)).mono ?_); rintro e w4 ⟨rfl, hx4⟩)))
    have HX4 := hid (HX2.out.trans hx4)
    clear hx4 HI1
    gi_upto_region 7 with (gi_at_call 43; ((with_reducible refine (HCH.out _ HX4.out).mono ?_); rintro e w5 ⟨cr, qs, rfl, hx5, HQ⟩))
    obtain ⟨ca, cc, rfl⟩ := HQ.out.1.isSliceN
    have HX5 := hid (HX4.out.trans hx5)
    have HI2 := hid (HIS.out w5 HX5.out _ qs (PaysAt.of_row HQ.out.1 (by have := HQ.out.2.1; omega)) (fun p hp => sm_of (HQ.out.2.2.1 p hp)))
    rw [clear_of hxl (fun p hp => (HQ.out.2.2.1 p hp).1) HQ.out.2.2.2] at HI2
    have HMO : Hid (ps.length ≤ qs.length) := hid (by
      obtain ⟨k, hk, hn⟩ := HC.out.2.2.few
      have h := clears_least (fun p hp => (HQ.out.2.2.1 p hp).1) (fun i _ => HQ.out.2.2.2 i) hk
      omega)
    have hql := HQ.out.2.1
    clear hx5 HX4 HCH HIS
    gi_upto_region 8 with (gi_at_call 42; ((with_reducible refine (HI2.out).mono ?_); rintro e w6 ⟨rfl, hx6⟩))
    have HX6 := hid (HX5.out.trans hx6)
    clear hx6 HI2 HX5
    gi_wp2_with fail
    gi_loopw [12, 13] (fun c i wr => wr = w6 ∧ ∃ k : Nat, k ≤ xs.length ∧ i = .int .i64 k ∧ c = .int .i64 (nzTo xs k)) (fun _ i _ => xs.length - (intOf i).toNat)
    case atStart => exact ⟨rfl, 0, Nat.zero_le _, rfl, rfl⟩
    case round =>
      obtain ⟨rfl, k, hk, rfl, rfl⟩ := hrel
      by_cases hlt : k < xs.length
      · have hki : (k : Int) < (xs.length : Int) := by omega
        obtain ⟨a1, c1, e1, _, hc⟩ := HV.out
        cases e1
        obtain ⟨b, off, rfl, hbb, hcell⟩ := hc k hlt
        rw [← HX6.out.cell (p := ⟨b, _, none⟩) hbb] at hcell
        have hnl0 := nzTo_le xs k
        have HNL := hid (And.intro hnl0 (And.intro hk hxl))
        have hw1 : wrap64 ((k : Int) + 1) = (k : Int) + 1 := wrap_small (by omega) (by omega)
        have hw2 : wrap64 ((nzTo xs k : Int) + 1) = (nzTo xs k : Int) + 1 := wrap_small (by omega) (by omega)
        have hsu := nzTo_succ xs k
        have hbx : balF xs k = xs[k] := by unfold balF; rw [getD_of hlt]
        rw [hbx] at hsu
        have HLT := hid hlt
        clear hbx hc
        generalize xs[k] = x at *
        by_cases hx : x = 0
        · subst hx
          have HS := hid hsu
          clear hsu
          gi_wp2_with fail
          go_roundw
          case rel => exact ⟨by first | rfl | trivial, k + 1, by have := HLT.out; omega, by go_num, by rw [HS.out]; simp⟩
          case measure => have := HLT.out; simp [intOf]; omega
        · have hxb : (x == 0) = false := by simpa using hx
          have HS := hid (show nzTo xs (k + 1) = nzTo xs k + 1 by rw [hsu, if_pos hx])
          clear hsu
          gi_wp2_with fail
          go_roundw
          case rel => exact ⟨by first | rfl | trivial, k + 1, by have := HLT.out; omega, by go_num, by rw [HS.out]; first | rfl | go_num⟩
          case measure => have := HLT.out; simp [intOf]; omega
      · obtain rfl : k = xs.length := by omega
        have hki : ¬ (xs.length : Int) < (xs.length : Int) := by omega
        have hnz : nzTo xs xs.length = nzC xs := rfl
        have hle := HLE.out
        have hmo := HMO.out
        have hws : wrap64 ((nzTo xs xs.length : Int) - (ts.length : Int)) = (ps.length : Int) := by rw [hnz, wrap_small (by omega) (by omega)]; omega
        have hmi : (ps.length : Int) ≤ (qs.length : Int) := by omega
        clear hnz hle hmo
        gi_wp2_with (gi_at_call 18; ((with_reducible refine (HWK.out _).mono ?_); rintro e w9 ⟨rfl, hx9⟩; have HX9 := hid (HX6.out.trans hx9); clear hx9))
        go_ret
        exact ⟨rfl, HX9.out⟩
end
end Go.Proofs.YtjocoadhalimjaaGreat
