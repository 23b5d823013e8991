/- The law ShareCleared. -/
import Derived.Test.YtjocoadhalimjaaGreatRAX
import Derived.Test.YtjocoadhalimjaaGreatRAW
set_option linter.unusedSimpArgs false
set_option linter.unusedVariables false
namespace Go.Proofs.YtjocoadhalimjaaGreat
section
open Go Go.RowKit Go.Shelf

theorem pysF_get : ∀ (l : List Py) (i : Nat) (h : i < l.length), (pysF l)[i * 3]? = some (.int .i64 l[i].a) ∧ (pysF l)[i * 3 + 1]? = some (.int .i64 l[i].z) ∧ (pysF l)[i * 3 + 2]? = some (.int .i64 l[i].s)
  | [], i, h => by simp at h
  | d :: l, 0, h => ⟨rfl, rfl, rfl⟩
  | d :: l, i + 1, h => by
    have ih := pysF_get l i (by simpa using h)
    have e : pysF (d :: l) = [.int .i64 d.a, .int .i64 d.z, .int .i64 d.s] ++ pysF l := rfl
    rw [e]
    refine ⟨?_, ?_, ?_⟩
    · rw [List.getElem?_append_right (by simp; omega), show (i + 1) * 3 - [Value.int .i64 d.a, .int .i64 d.z, .int .i64 d.s].length = i * 3 by simp; omega]; exact ih.1
    · rw [List.getElem?_append_right (by simp; omega), show (i + 1) * 3 + 1 - [Value.int .i64 d.a, .int .i64 d.z, .int .i64 d.s].length = i * 3 + 1 by simp; omega]; exact ih.2.1
    · rw [List.getElem?_append_right (by simp; omega), show (i + 1) * 3 + 2 - [Value.int .i64 d.a, .int .i64 d.z, .int .i64 d.s].length = i * 3 + 2 by simp; omega]; exact ih.2.2
theorem PaysAt.of_row {w : World} {v : Value} {l : List Py} (h : Row w 74 3 v l.length (pysF l)) (hl : l.length ≤ 1000) : PaysAt w v l := by
  obtain ⟨_, h⟩ := h
  rcases h with ⟨rfl, h0⟩ | ⟨g, cap, cur, rfl, hg, h1, h2, h3, h4⟩
  · exact ⟨none, 0, by rw [h0], ⟨by omega, by omega⟩, fun i hi => by omega⟩
  · refine ⟨_, cap, rfl, ⟨h1, by omega⟩, fun i hi => ⟨g, 0, rfl, lt_of_block hg, ?_⟩⟩
    obtain ⟨k0, k1, k2⟩ := pysF_get l i hi
    have key : ∀ j u, (pysF l)[j]? = some u → w.cell? ⟨g, j, none⟩ = some u := fun j u hj => by
      rw [← h4, List.getElem?_take] at hj
      split at hj
      · rw [Array.getElem?_toList] at hj; rw [cell_of hg]; exact hj
      · cases hj
    simp only [Nat.zero_add]
    exact ⟨key _ _ k0, key _ _ k1, key _ _ k2⟩
theorem sm_of {n : Nat} {p : Py} (h : pyGood n p = true ∧ p.s ≤ 1000000) : sm p := by
  obtain ⟨_, _, _, h4⟩ := pyGood_iff.1 h.1
  unfold sm; omega
theorem wrap_small {x : Int} (h1 : -1000000 ≤ x) (h2 : x ≤ 1000000) : wrap64 x = x := by unfold wrap64; omega
def nzTo (xs : List Int) (k : Nat) : Nat := (List.range k).countP fun i => decide (balF xs i ≠ 0)
theorem nzTo_succ (xs : List Int) (k : Nat) : nzTo xs (k + 1) = nzTo xs k + if balF xs k ≠ 0 then 1 else 0 := by
  unfold nzTo
  rw [List.range_succ, List.countP_append]
  by_cases h : balF xs k = 0 <;> simp [h]
theorem nzTo_le (xs : List Int) (k : Nat) : nzTo xs k ≤ k := by
  have h := List.countP_le_length (p := fun i => decide (balF xs i ≠ 0)) (l := List.range k)
  unfold nzTo; simpa using h
set_option maxRecDepth 100000 in
set_option maxHeartbeats 16000000 in
theorem ShareCleared_any (v bv : Value) (xs bits : List Int) (w : World) (hv : IntsAt w v xs) (hll : xs.length ≤ 1000000000000000) (hb : IntsAt w bv bits) : Cal 12 #[v, bv] w fun e w' => e = .returned (.bool true) ∧ Ext w w' := by
  have HV := hid hv
  obtain ⟨va, vc, rfl, _⟩ := id hv
  have HB := hid hb
  have HOW := hid (fun (u : World) (hu : Ext w u) => owing_any _ xs u (hv.mono hu) hll)
  have HWK := hid (fun (u : World) => works_any u)
  cases hd : debtsB xs with
  | false =>
    have HCL := hid (fun (u : World) (hu : Ext w u) => Clear_bad _ xs u (hv.mono hu) hd)
    have HGR := hid (fun (u : World) (hu : Ext w u) => Groups_bad _ xs u (hv.mono hu) hd)
    rw [hd] at HOW
    clear hv hb hd hll
    gi_enter Tryz.func12, Tryz.ntmps12
    gi_wp2_with (first | (gi_at_call 41; ((with_reducible refine (HCL.out w (Ext.refl _)).mono ?_); rintro e w1 ⟨rfl, hx1⟩; have HX := hid hx1; clear hx1)) | (gi_at_call 37; ((with_reducible refine (HGR.out _ HX.out).mono ?_); rintro e w2 ⟨rfl, hx2⟩; have HX := hid (HX.out.trans hx2); clear hx2)) | (gi_at_call 38; ((with_reducible refine (HOW.out _ HX.out).mono ?_); rintro e w3 ⟨rfl, rfl⟩)) | (gi_at_call 18; ((with_reducible refine (HWK.out _).mono ?_); rintro e w4 ⟨rfl, hx4⟩; have HX := hid (HX.out.trans hx4); clear hx4)))
    go_ret
    exact ⟨rfl, HX.out⟩
  | true =>
    have HDB := hid (debts_ok hd)
    have HCL := hid (Clear_ok _ xs w hv hd)
    have HGR := hid (fun (u : World) (hu : Ext w u) => Groups_ok _ xs u (hv.mono hu) hd)
    have HCH := hid (fun (u : World) (hu : Ext w u) => chosen_any _ bv xs bits u (hv.mono hu) (hb.mono hu) hd)
    have HIS := hid (fun (u : World) (hu : Ext w u) (pv : Value) (ps : List Py) (hp : PaysAt u pv ps) (hs : ∀ p ∈ ps, sm p) => IsClear_ok _ pv xs ps u (hv.mono hu) hp hs hd)
    rw [hd] at HOW
    have hxl : xs.length ≤ 10 := HDB.out.1
    clear hv hb hd hll
    gi_enter Tryz.func12, Tryz.ntmps12
    gi_upto_region 2 with (gi_at_call 41; ((with_reducible refine (HCL.out).mono ?_); rintro e w1 ⟨lr, ps, rfl, hx1, HC⟩))
    have HX1 := hid hx1
    clear hx1 HCL
    gi_upto_region 3 with (gi_at_call 37; ((with_reducible refine (HGR.out _ HX1.out).mono ?_); rintro e w2 ⟨gr, gvs, ts, rfl, hx2, HG⟩))
    obtain ⟨la, lc, rfl⟩ := HC.out.1.isSliceN
    obtain ⟨ga, gc, rfl⟩ := HG.out.1.isSliceN
    have HX2 := hid (HX1.out.trans hx2)
    have HP2 := hid (HC.out.1.mono hx2)
    have hlen : ps.length + ts.length = nzC xs := by
      obtain ⟨k, hk, hn⟩ := HC.out.2.2.few
      have h := hk.eq HG.out.2.2.2.2.1
      omega
    have HLE := hid hlen
    have hpl : ps.length ≤ 10 := by
      have h1 : nzC xs ≤ xs.length := nzTo_le xs xs.length
      omega
    have HPL := hid hpl
    have HI1 := hid (fun (u : World) (hu : Ext w2 u) => HIS.out u (HX2.out.trans hu) _ ps (PaysAt.of_row (HP2.out.mono hu) (by have := HPL.out; omega)) (fun p hp => sm_of (HC.out.2.2.good p hp)))
    rw [clear_of hxl (fun p hp => (HC.out.2.2.good p hp).1) HC.out.2.2.zero] at HI1
    clear hx2 HGR HX1 hlen hpl
    gi_upto_region 6 with (first | (gi_at_call 38; ((with_reducible refine (HOW.out _ HX2.out).mono ?_); rintro e w3 ⟨rfl, rfl⟩)) | (gi_at_call 42; ((with_reducible refine (HI1.out _ (Ext.refl _)).mono ?_); rintro e w4 ⟨rfl, hx4⟩)))
    have HX4 := hid (HX2.out.trans hx4)
    clear hx4 HI1
    gi_upto_region 7 with (gi_at_call 43; ((with_reducible refine (HCH.out _ HX4.out).mono ?_); rintro e w5 ⟨cr, qs, rfl, hx5, HQ⟩))
    obtain ⟨ca, cc, rfl⟩ := HQ.out.1.isSliceN
    have HX5 := hid (HX4.out.trans hx5)
    have HI2 := hid (HIS.out w5 HX5.out _ qs (PaysAt.of_row HQ.out.1 (by have := HQ.out.2.1; omega)) (fun p hp => sm_of (HQ.out.2.2.1 p hp)))
    rw [clear_of hxl (fun p hp => (HQ.out.2.2.1 p hp).1) HQ.out.2.2.2] at HI2
    have HMO : Hid (ps.length ≤ qs.length) := hid (by
      obtain ⟨k, hk, hn⟩ := HC.out.2.2.few
      have h := clears_least (fun p hp => (HQ.out.2.2.1 p hp).1) (fun i _ => HQ.out.2.2.2 i) hk
      omega)
    have hql := HQ.out.2.1
    clear hx5 HX4 HCH HIS
    gi_upto_region 8 with (gi_at_call 42; ((with_reducible refine (HI2.out).mono ?_); rintro e w6 ⟨rfl, hx6⟩))
    have HX6 := hid (HX5.out.trans hx6)
    clear hx6 HI2 HX5
    gi_wp2_with fail
    gi_loopw [12, 13] (fun c i wr => wr = w6 ∧ ∃ k : Nat, k ≤ xs.length ∧ i = .int .i64 k ∧ c = .int .i64 (nzTo xs k)) (fun _ i _ => xs.length - (intOf i).toNat)
    case atStart => exact ⟨rfl, 0, Nat.zero_le _, rfl, rfl⟩
    case round =>
      obtain ⟨rfl, k, hk, rfl, rfl⟩ := hrel
      by_cases hlt : k < xs.length
      · have hki : (k : Int) < (xs.length : Int) := by omega
        obtain ⟨a1, c1, e1, _, hc⟩ := HV.out
        cases e1
        obtain ⟨b, off, rfl, hbb, hcell⟩ := hc k hlt
        rw [← HX6.out.cell (p := ⟨b, _, none⟩) hbb] at hcell
        have hnl0 := nzTo_le xs k
        have HNL := hid (And.intro hnl0 (And.intro hk hxl))
        have hw1 : wrap64 ((k : Int) + 1) = (k : Int) + 1 := wrap_small (by omega) (by omega)
        have hw2 : wrap64 ((nzTo xs k : Int) + 1) = (nzTo xs k : Int) + 1 := wrap_small (by omega) (by omega)
        have hsu := nzTo_succ xs k
        have hbx : balF xs k = xs[k] := by unfold balF; rw [getD_of hlt]
        rw [hbx] at hsu
        have HLT := hid hlt
        clear hbx hc
        generalize xs[k] = x at *
        by_cases hx : x = 0
        · subst hx
          have HS := hid hsu
          clear hsu
          gi_wp2_with fail
          go_roundw
          case rel => exact ⟨by first | rfl | trivial, k + 1, by have := HLT.out; omega, by go_num, by rw [HS.out]; simp⟩
          case measure => have := HLT.out; simp [intOf]; omega
        · have hxb : (x == 0) = false := by simpa using hx
          have HS := hid (show nzTo xs (k + 1) = nzTo xs k + 1 by rw [hsu, if_pos hx])
          clear hsu
          gi_wp2_with fail
          go_roundw
          case rel => exact ⟨by first | rfl | trivial, k + 1, by have := HLT.out; omega, by go_num, by rw [HS.out]; first | rfl | go_num⟩
          case measure => have := HLT.out; simp [intOf]; omega
      · obtain rfl : k = xs.length := by omega
        have hki : ¬ (xs.length : Int) < (xs.length : Int) := by omega
        have hnz : nzTo xs xs.length = nzC xs := rfl
        have hle := HLE.out
        have hmo := HMO.out
        have hws : wrap64 ((nzTo xs xs.length : Int) - (ts.length : Int)) = (ps.length : Int) := by rw [hnz, wrap_small (by omega) (by omega)]; omega
        have hmi : (ps.length : Int) ≤ (qs.length : Int) := by omega
        clear hnz hle hmo
        gi_wp2_with (gi_at_call 18; ((with_reducible refine (HWK.out _).mono ?_); rintro e w9 ⟨rfl, hx9⟩; have HX9 := hid (HX6.out.trans hx9); clear hx9))
        go_ret
        exact ⟨rfl, HX9.out⟩
end
section
open Go Go.RowKit Go.Shelf

/-- What a payment adds. -/
def payC (p : Py) (i : Nat) : Int := if (i : Int) = p.z then -p.s else if (i : Int) = p.a then p.s else 0
theorem payL_add (D : Nat → Int) (p : Py) (i : Nat) : payL D p i = D i + payC p i := by
  unfold payL payC; split
  · omega
  · split <;> omega
theorem fold_add : ∀ (ps : List Py) (D : Nat → Int) (i : Nat), ps.foldl payL D i = D i + (ps.map fun p => payC p i).sum
  | [], D, i => by simp
  | p :: ps, D, i => by
    rw [List.foldl_cons, fold_add ps (payL D p) i, payL_add, List.map_cons, List.sum_cons]; omega
theorem clear_not {xs : List Int} {ps : List Py} {i : Nat} (hn : xs.length ≤ 10) (hi : i < xs.length) (h : ps.foldl payL (balF xs) i ≠ 0) : clearB xs ps = false := by
  have e0 : leftFrom xs xs.length = balF xs := by
    funext i
    unfold leftFrom balF
    by_cases h : i < xs.length
    · rw [if_pos h]
    · rw [if_neg h, List.getD_eq_getElem?_getD, List.getElem?_eq_none (by omega)]; rfl
  cases hc : clearB xs ps with
  | false => rfl
  | true =>
    exfalso
    unfold clearB allTo at hc
    rw [Bool.and_eq_true, List.all_eq_true, List.all_eq_true] at hc
    have h1 := hc.2 i (List.mem_range.2 (by omega))
    unfold leftPay at h1
    rw [List.take_length, e0] at h1
    exact h (by simpa using h1)
theorem sum_set {α : Type} (f : α → Int) : ∀ (l : List α) (k : Nat) (hk : k < l.length) (q : α), ((l.set k q).map f).sum = (l.map f).sum + f q - f l[k]
  | [], k, hk, _ => by simp at hk
  | x :: l, 0, hk, q => by simp; omega
  | x :: l, k + 1, hk, q => by
    have ih := sum_set f l k (by simpa using hk) q
    simp only [List.set_cons_succ, List.map_cons, List.sum_cons, List.getElem_cons_succ]
    omega
theorem sum_out {α : Type} (f : α → Int) : ∀ (l : List α) (k : Nat) (hk : k < l.length), ((l.take k ++ l.drop (k + 1)).map f).sum = (l.map f).sum - f l[k]
  | [], k, hk => by simp at hk
  | x :: l, 0, hk => by simp; omega
  | x :: l, k + 1, hk => by
    have ih := sum_out f l k (by simpa using hk)
    simp only [List.take_succ_cons, List.drop_succ_cons, List.cons_append, List.map_cons, List.sum_cons, List.getElem_cons_succ]
    omega
/-- One penny more, and it is no clearing. -/
theorem spoilt_more {xs : List Int} {ps : List Py} {k : Nat} (hn : xs.length ≤ 10) (hz : ∀ i, ps.foldl payL (balF xs) i = 0) (hk : k < ps.length) (hg : pyGood xs.length ps[k] = true) :
    clearB xs (ps.set k ⟨ps[k].a, ps[k].z, ps[k].s + 1⟩) = false := by
  obtain ⟨h1, h2, h3, h4⟩ := pyGood_iff.1 hg
  refine clear_not (i := ps[k].a.toNat) hn (by omega) ?_
  have h5 := hz ps[k].a.toNat
  rw [fold_add] at h5 ⊢
  rw [sum_set _ ps k hk]
  have e1 : payC ⟨ps[k].a, ps[k].z, ps[k].s + 1⟩ ps[k].a.toNat = ps[k].s + 1 := by
    unfold payC; dsimp only; rw [if_neg (by omega), if_pos (by omega)]
  have e2 : payC ps[k] ps[k].a.toNat = ps[k].s := by
    unfold payC; rw [if_neg (by omega), if_pos (by omega)]
  rw [e1, e2]
  omega
/-- One payment less, and it is no clearing. -/
theorem spoilt_less {xs : List Int} {ps : List Py} {k : Nat} (hn : xs.length ≤ 10) (hz : ∀ i, ps.foldl payL (balF xs) i = 0) (hk : k < ps.length) (hg : pyGood xs.length ps[k] = true) :
    clearB xs (ps.take k ++ ps.drop (k + 1)) = false := by
  obtain ⟨h1, h2, h3, h4⟩ := pyGood_iff.1 hg
  refine clear_not (i := ps[k].a.toNat) hn (by omega) ?_
  have h5 := hz ps[k].a.toNat
  rw [fold_add] at h5 ⊢
  rw [sum_out _ ps k hk]
  have e2 : payC ps[k] ps[k].a.toNat = ps[k].s := by
    unfold payC; rw [if_neg (by omega), if_pos (by omega)]
  rw [e2]
  omega
theorem balF_twice (xs : List Int) (i : Nat) : balF (xs.map fun x => 2 * x) i = 2 * balF xs i := by
  unfold balF
  rw [List.getD_eq_getElem?_getD, List.getD_eq_getElem?_getD, List.getElem?_map]
  cases xs[i]? <;> simp
/-- Two clearings after each other are one of both together. -/
theorem twice_clear {xs : List Int} {ps : List Py} (hn : xs.length ≤ 10) (hg : ∀ p ∈ ps, pyGood xs.length p = true) (hz : ∀ i, ps.foldl payL (balF xs) i = 0) : clearB (xs.map fun x => 2 * x) (ps ++ ps) = true := by
  refine clear_of (by simpa using hn) (fun p hp => ?_) fun i => ?_
  · rw [List.length_map]
    rcases List.mem_append.1 hp with h | h <;> exact hg p h
  · have h := hz i
    rw [fold_add] at h ⊢
    rw [balF_twice, List.map_append, List.sum_append]
    omega
theorem Bit_any (s k : Nat) (w : World) (hs : s < 1024) (hk : k ≤ 20) : Cal 40 #[.int .i64 s, .int .i64 k] w fun e w' => e = .returned (.bool (s.testBit k)) ∧ w = w' := by
  have HB := hid (has_bits (k := k) hs)
  have h1 : (0 : Int) ≤ (k : Int) := by omega
  have h2 : (k : Int) ≤ 64 := by omega
  gi_enter Tryz.func40, Tryz.ntmps40
  gi_wp2
  go_ret
  exact ⟨by rw [← HB.out]; rfl, rfl⟩
end
section
open Go Go.RowKit Go.Shelf

theorem undef_no' {b : Bool} (h : some undef = some (Value.bool b)) : False := by cases h
theorem pysF_len (ps : List Py) : (pysF ps).length = ps.length * 3 := by
  induction ps with
  | nil => rfl
  | cons p ps ih => 
    have e : pysF (p :: ps) = [.int .i64 p.a, .int .i64 p.z, .int .i64 p.s] ++ pysF ps := rfl
    rw [e, List.length_append, ih]; simp; omega
theorem pysF_set : ∀ (ps : List Py) (k : Nat) (q : Py), k < ps.length → pysF (ps.set k q) = (pysF ps).take (k * 3) ++ [.int .i64 q.a, .int .i64 q.z, .int .i64 q.s] ++ (pysF ps).drop (k * 3 + 3)
  | [], k, q, h => by simp at h
  | p :: ps, 0, q, h => by
    have e : pysF (p :: ps) = [.int .i64 p.a, .int .i64 p.z, .int .i64 p.s] ++ pysF ps := rfl
    rw [e]; rfl
  | p :: ps, k + 1, q, h => by
    have e : pysF (p :: ps) = [.int .i64 p.a, .int .i64 p.z, .int .i64 p.s] ++ pysF ps := rfl
    have ih := pysF_set ps k q (by simpa using h)
    have e2 : pysF ((p :: ps).set (k + 1) q) = [.int .i64 p.a, .int .i64 p.z, .int .i64 p.s] ++ pysF (ps.set k q) := rfl
    rw [e2, e, ih, show (k + 1) * 3 = k * 3 + 3 by omega]
    simp only [List.cons_append, List.nil_append, List.take_succ_cons, List.drop_succ_cons]
theorem app_pays {w : World} {v : Value} {n : Nat} {xs : List Value} (h : Row w 74 3 v n xs) (p : Addr) (c : Nat) (m : List Py) (hn : n + m.length ≤ 1000000) (hnews : ∀ j u, (pysF m)[j]? = some u → w.cell? (p.add j) = some u) :
    ∃ v' w', (Builtin.append_ #[67, 67] 67 #[v, .slice (some p) m.length c]).run Tryz.prog w = .ok v' w' ∧ Row w' 74 3 v' (n + m.length) (xs ++ pysF m) ∧ w.grownBy w' v.ownBlock ∧ (v'.ownBlock = v.ownBlock ∨ v'.ownBlock = some w.heap.size) := by
  obtain ⟨i, hi, hz0, hz1, hz2⟩ := info_parts info74
  rcases Nat.eq_zero_or_pos m.length with h0 | h0
  · have hm : m = [] := List.eq_nil_of_length_eq_zero h0
    subst hm
    obtain ⟨sa, sc, rfl⟩ := h.isSliceN
    have hc : n ≤ sc := by
      rcases h.2 with ⟨e, h0⟩ | ⟨g, cap, cur, e, _, h1, _⟩
      · omega
      · cases e; exact h1
    exact ⟨_, w, append_none Tryz.underlying67 hi hc (some p) c, by simpa [pysF] using h, ⟨rfl, rfl, rfl, Nat.le_refl _, fun _ _ _ => rfl⟩, .inl rfl⟩
  · exact append_rows (sz := 3) (bytes := 24) (t := 67) (ty := 67) Tryz.underlying67 hi hz0 hz1 hz2 (by simp [Value.cells]) (by omega) h0 h p c (pysF m) (pysF_len m) hnews (pysF_one m) (by omega) (by omega)
/-- All payments but one. -/
theorem less_pays {w0 w : World} {b : Nat} {sc c1 c2 : Nat} {p2 : Addr} {l : List Py} (hx : Ext w0 w) (h : Row w0 74 3 (.slice (some ⟨b, 0, none⟩) l.length sc) l.length (pysF l)) {k : Nat} (hk : k < l.length) (h0 : l.length ≤ 1000) (hp : k + 1 < l.length → p2 = ⟨b, (k + 1) * 3, none⟩) :
    ∃ v1 w1, (Builtin.append_ #[67, 67] 67 #[.slice (some ⟨w.heap.size, 0, none⟩) 0 0, .slice (some ⟨b, 0, none⟩) k c1]).run Tryz.prog (w.alloc (.cells #[] 74)) = .ok v1 w1 ∧ Ext w w1 ∧
      ∃ v2 w2, (Builtin.append_ #[67, 67] 67 #[v1, .slice (some p2) (l.length - (k + 1)) c2]).run Tryz.prog w1 = .ok v2 w2 ∧
      Row w2 74 3 v2 (l.length - 1) (pysF (l.take k ++ l.drop (k + 1))) ∧ Ext w w2 := by
  have e1 : (l.take k).length = k := by simp; omega
  have e2 : (l.drop (k + 1)).length = l.length - (k + 1) := by simp
  have cells : ∀ u : World, Ext w0 u → ∀ j x, (pysF l)[j]? = some x → u.cell? ((⟨b, 0, none⟩ : Addr).add j) = some x := fun u hu => by
    obtain ⟨g, cap, e, hc⟩ := row_src (h.mono hu) (by omega)
    cases e; exact hc
  have ea : pysF l = pysF (l.take k) ++ pysF (l.drop k) := by rw [← pysF_app, List.take_append_drop]
  have eb : pysF l = pysF (l.take (k + 1)) ++ pysF (l.drop (k + 1)) := by rw [← pysF_app, List.take_append_drop]
  obtain ⟨v1, w1, hrun1, hrow1, hgr1, how1⟩ := app_pays (row_empty w 74 3) ⟨b, 0, none⟩ c1 (l.take k) (by omega) (fun j u hj => by
    refine cells _ (hx.alloc _) j u ?_
    have hj2 := (List.getElem?_eq_some_iff.1 hj).1
    rw [ea, List.getElem?_append_left hj2]; exact hj)
  have hx1 : Ext w w1 := ext_grown ((Ext.refl w).alloc _) hgr1 fun g' hg' => by cases hg'; exact Nat.le_refl _
  rw [e1] at hrun1
  rw [Nat.zero_add, List.nil_append, e1] at hrow1
  obtain ⟨v2, w2, hrun2, hrow2, hgr2, how2⟩ := app_pays hrow1 p2 c2 (l.drop (k + 1)) (by omega) (fun j u hj => by
    have hj2 : j < (l.drop (k + 1)).length * 3 := by rw [← pysF_len]; exact (List.getElem?_eq_some_iff.1 hj).1
    rw [hp (by omega)]
    have := cells _ (hx.trans hx1) ((k + 1) * 3 + j) u (by
      rw [eb, List.getElem?_append_right (by rw [pysF_len, List.length_take]; omega), pysF_len, List.length_take, show (k + 1) * 3 + j - min (k + 1) l.length * 3 = j by rw [Nat.min_eq_left (by omega)]; omega]
      exact hj)
    rw [Addr.add_mid] at this ⊢
    rw [Nat.zero_add] at this
    exact this)
  rw [e2] at hrun2
  rw [e2, show k + (l.length - (k + 1)) = l.length - 1 by omega, ← pysF_app] at hrow2
  have ho1 : ∀ g, v1.ownBlock = some g → w.heap.size ≤ g := fun g hg => by
    rcases how1 with e | e <;> rw [hg] at e <;> cases e <;> simp
  exact ⟨v1, w1, hrun1, hx1, v2, w2, hrun2, hrow2, ext_grown hx1 hgr2 ho1⟩
/-- What goes on in the region that copies all but one: nothing, a new list, the first part, the other one. -/
def fewJ (wd wa w1 w2 : World) (i j k : Nat) : InvJ := fun L x u => (L i = false → u = wd) ∧ (L i = true → L j = false → u = wa) ∧ (L j = true → L k = false → u = w1) ∧ (L k = true → u = w2) ∧ (L j = true → L i = true) ∧ (L k = true → L j = true)
section
variable {wd wa w1 w2 u : World} {L : Nat → Bool} {x : Nat → Value} {i j k : Nat}
theorem fewJ_start : fewJ wd wa w1 w2 i j k (fun _ => false) (fun _ => undef) wd :=
  by refine ⟨fun _ => rfl, ?_, ?_, ?_, ?_, ?_⟩ <;> intro h <;> cases h
theorem fewJ_ext (h : fewJ wd wa w1 w2 i j k L x u) (ha : Ext wd wa) (h1 : Ext wd w1) (h2 : Ext wd w2) : Ext wd u := by
  obtain ⟨a, b, c, d, _, _⟩ := h
  cases hi : L i with
  | false => rw [a hi]; exact Ext.refl _
  | true =>
    cases hj : L j with
    | false => rw [b hi hj]; exact ha
    | true =>
      cases hk : L k with
      | false => rw [c hj hk]; exact h1
      | true => rw [d hk]; exact h2
theorem fewJ_other (h : fewJ wd wa w1 w2 i j k L x u) {q : Nat} (hi : i ≠ q) (hj : j ≠ q) (hk : k ≠ q) : fewJ wd wa w1 w2 i j k (updL L q) x u := by
  unfold fewJ updL at *
  rw [if_neg hi, if_neg hj, if_neg hk]; exact h
theorem fewJ_0 (h : fewJ wd wa w1 w2 i j k L x u) (hL : L i = false) (hj : j ≠ i) (hk : k ≠ i) : u = wd ∧ fewJ wd wa w1 w2 i j k (updL L i) x wa := by
  obtain ⟨a, b, c, d, e, f⟩ := h
  have hLj : L j = false := by cases hh : L j with | false => rfl | true => rw [e hh] at hL; cases hL
  have hLk : L k = false := by cases hh : L k with | false => rfl | true => rw [f hh] at hLj; cases hLj
  refine ⟨a hL, ?_⟩
  unfold fewJ updL
  rw [if_pos rfl, if_neg hj, if_neg hk, hLj, hLk]
  exact ⟨fun h => (by cases h), fun _ _ => rfl, fun h => (by cases h), fun h => (by cases h), fun h => (by cases h), fun h => (by cases h)⟩
theorem fewJ_1 (h : fewJ wd wa w1 w2 i j k L x u) (h0 : L i = true) (hL : L j = false) (hi : i ≠ j) (hk : k ≠ j) : u = wa ∧ fewJ wd wa w1 w2 i j k (updL L j) x w1 := by
  obtain ⟨a, b, c, d, e, f⟩ := h
  have hLk : L k = false := by cases hh : L k with | false => rfl | true => rw [f hh] at hL; cases hL
  refine ⟨b h0 hL, ?_⟩
  unfold fewJ updL
  rw [if_pos rfl, if_neg hi, if_neg hk, h0, hLk]
  exact ⟨fun h => (by cases h), fun _ h => (by cases h), fun _ _ => rfl, fun h => (by cases h), fun _ => rfl, fun h => (by cases h)⟩
theorem fewJ_2 (h : fewJ wd wa w1 w2 i j k L x u) (h1 : L j = true) (hL : L k = false) (hi : i ≠ k) (hj : j ≠ k) : u = w1 ∧ fewJ wd wa w1 w2 i j k (updL L k) x w2 := by
  obtain ⟨a, b, c, d, e, f⟩ := h
  refine ⟨c h1 hL, ?_⟩
  unfold fewJ updL
  rw [if_pos rfl, if_neg hi, if_neg hj, h1, e h1]
  exact ⟨fun h => (by cases h), fun _ h => (by cases h), fun _ h => (by cases h), fun _ => rfl, fun _ => rfl, fun _ => rfl⟩
end
theorem gives_store {F : Fence} {n : Nat} {R : World → World → Prop} {o : Oper} {a : Act} {w : World} {V : Value → World → Prop} (ty : TypeId) (x y : Operand) (ho : o.op = .store ty x y) {g off : Nat} (hx : a.eval x = .pointer (some ⟨g, off, none⟩)) {t : TypeId} {cells cur : Array Value}
    (hy : a.eval y = .agg cells) (hg : w.heap[g]? = some (.cells cur t (0, 0))) (hi : (Tryz.prog.info? ty).map (·.size) = some cells.size) (hl : off + cells.size ≤ cur.size) (h1 : cells.all (·.oneCell') = true)
    (h : V undef (w.setRow g (cur.toList.take off ++ cells.toList ++ cur.toList.drop (off + cells.size)).toArray) ∧ R w (w.setRow g (cur.toList.take off ++ cells.toList ++ cur.toList.drop (off + cells.size)).toArray)) : gives F n Tryz.prog R o a w V := by
  have hl : (storeVar ty ⟨g, off, none⟩ (.agg cells)).run Tryz.prog w = .ok () (w.setRow g (cur.toList.take off ++ cells.toList ++ cur.toList.drop (off + cells.size)).toArray) := by
    have := run_storeCells_at (P := Tryz.prog) g off t cells.toList 0 cur w hg (by simpa using hl) (fun v hv => (Array.all_eq_true_iff_forall_mem.1 h1) v (by simpa using hv))
    cases hq : Tryz.prog.info? ty with
    | none => simp [hq] at hi
    | some i =>
      have hs : cells.size = i.size := by simp [hq] at hi; omega
      simp only [Nat.add_zero, Array.length_toList] at this
      simp [storeVar, sizeOf, typeInfo, hq, Value.cells, hs, this]
  unfold gives
  rw [Oper.semAt_eq _ _ _ (by rw [ho]; intro c h; cases h)]
  unfold execOp
  simp only [ho, hx, hy, Instr.storeAt, Instr.sureAddr, Sem.run_bind, Sem.run_pure, Result.andThen_ok, hl]
  exact h
/-- A payment of a row is changed. -/
theorem pays_set {w : World} {g cap : Nat} {ps : List Py} (h : Row w 74 3 (.slice (some ⟨g, 0, none⟩) ps.length cap) ps.length (pysF ps)) {k : Nat} (hk : k < ps.length) (q : Py) :
    ∃ cur : Array Value, w.heap[g]? = some (.cells cur 74 (0, 0)) ∧ k * 3 + 3 ≤ cur.size ∧ Row (w.setRow g (cur.toList.take (k * 3) ++ [Value.int .i64 q.a, .int .i64 q.z, .int .i64 q.s] ++ cur.toList.drop (k * 3 + 3)).toArray) 74 3 (.slice (some ⟨g, 0, none⟩) ps.length cap) ps.length (pysF (ps.set k q)) := by
  obtain ⟨hl, h⟩ := h
  rcases h with ⟨e, _⟩ | ⟨g', cap', cur, e, hg, h1, h2, h3, h4⟩
  · cases e
  · cases e
    have hle : ps.length * 3 ≤ cur.size := by rw [h3]; exact Nat.mul_le_mul_right _ h1
    refine ⟨cur, hg, by omega, ⟨by rw [pysF_len, List.length_set], .inr ⟨g, cap, _, rfl, setRow_heap w g cur _ 74 _ hg, h1, h2, ?_, ?_⟩⟩⟩
    · simp only [List.size_toArray, List.length_append, List.length_take, List.length_drop, Array.length_toList, List.length_cons, List.length_nil]
      omega
    · rw [pysF_set ps k q hk, ← h4]
      refine List.ext_getElem? fun j => ?_
      simp only [List.getElem?_take, List.getElem?_append, List.length_append, List.length_take, List.length_cons, List.length_nil, Array.length_toList, List.getElem?_drop]
      have e1 : min (k * 3) cur.size = k * 3 := by omega
      have e2 : min (k * 3) (min (ps.length * 3) cur.size) = k * 3 := by omega
      rw [e1, e2]
      by_cases c0 : j < ps.length * 3
      · rw [if_pos c0]
        by_cases c1 : j < k * 3 + (0 + 1 + 1 + 1)
        · rw [if_pos c1, if_pos c1]
          by_cases c2 : j < k * 3
          · rw [if_pos c2, if_pos c2, if_pos c2, if_pos c2, if_pos c0]
          · rw [if_neg c2, if_neg c2]
        · rw [if_neg c1, if_neg c1, if_pos (by omega)]
      · rw [if_neg c0]
        rw [if_neg (show ¬ j < k * 3 + (0 + 1 + 1 + 1) by omega), if_neg (by omega)]
end
end Go.Proofs.YtjocoadhalimjaaGreat
