/- Clearing: the walk. -/
import Derived.Test.YtjocoadhalimjaaGreatRAT
import Derived.Test.YtjocoadhalimjaaGreatRAK
import Derived.Test.YtjocoadhalimjaaGreatRAR
import Derived.Test.YtjocoadhalimjaaGreatRAN
set_option linter.unusedSimpArgs false
set_option linter.unusedVariables false
namespace Go.Proofs.YtjocoadhalimjaaGreat
section
open Go Go.RowKit Go.Shelf

theorem row_src {w : World} {T : TypeId} {sz n : Nat} {v : Value} {xs : List Value} (h : Row w T sz v n xs) (hn : 0 < n) : ∃ g cap, v = .slice (some ⟨g, 0, none⟩) n cap ∧ ∀ j u, xs[j]? = some u → w.cell? ((⟨g, 0, none⟩ : Addr).add j) = some u := by
  obtain ⟨hl, h⟩ := h
  rcases h with ⟨_, h0⟩ | ⟨g, cap, cur, rfl, hg, h1, h2, h3, h4⟩
  · omega
  · refine ⟨g, cap, rfl, fun j u hj => ?_⟩
    rw [Addr.add_mid, Nat.zero_add, cell_of hg]
    rw [← h4, List.getElem?_take] at hj
    split at hj
    · rw [Array.getElem?_toList] at hj; exact hj
    · cases hj
/-- A whole row is appended. -/
theorem wpIn_append_many {F : Fence} {n0 : Nat} (hF : ∀ f, F.fn f) (hn : F.depth = none) {o : Oper} {act : Act} {w : World} {K : Act → World → Prop} {Q : Exit → Act → World → Prop} (s x : Operand) {t T : TypeId} {sz bytes : Nat} {i : TypeInfo} {z : Value}
    (ho : o.op = .call { callee := .builtin .append, args := #[s, x], argTypes := #[t, t] })
    (ht : Tryz.prog.underlying t = some (.slice T)) (hi : Tryz.prog.info? T = some i) (hz : i.zero = some z) (hs : i.size = sz) (hby : i.bytes = bytes) (hzs : z.cells.size = sz) (hsz : 0 < sz)
    {v v2 : Value} {n m : Nat} {xs news : List Value} (hv : act.eval s = v) (h : Row w T sz v n xs) (hx : act.eval x = v2) (h2 : Row w T sz v2 m news) (h1 : ∀ u ∈ news, u.oneCell' = true)
    (h63 : n + m ≤ 1000000000) (hbytes : bytes ≤ 1000)
    (hK : ∀ v' w', Row w' T sz v' (n + m) (xs ++ news) → w.grownBy w' v.ownBlock → (v'.ownBlock = v.ownBlock ∨ v'.ownBlock = some w.heap.size) → K (act.put o.dst v') w') : o.wpIn F n0 Tryz.prog act w K Q := by
  rcases Nat.eq_zero_or_pos m with hm | hm
  · subst hm
    have hnil : news = [] := by have := h2.1; simp at this; exact this
    subst hnil
    obtain ⟨xa, xc, rfl⟩ : ∃ xa xc, v2 = .slice xa 0 xc := h2.isSliceN
    obtain ⟨sa, sc, rfl⟩ := h.isSliceN
    have hc : n ≤ sc := by
      rcases h.2 with ⟨e, h0⟩ | ⟨g, cap, cur, e, _, h1, _⟩
      · omega
      · cases e; exact h1
    have hrun := append_none (w := w) (ty := o.type) ht hi (sa := sa) hc xa xc
    refine wpIn_of_gives (R := fun u u' => u = w → u' = w) (V := fun u u' => u = .slice sa n sc ∧ u' = w) hF hn (gives_append s x t ho hv hx hrun ⟨⟨rfl, rfl⟩, fun _ => rfl⟩) fun u u' hu _ => ?_
    rw [hu.1, hu.2]
    exact hK _ _ (by simpa using h) ⟨rfl, rfl, rfl, Nat.le_refl _, fun _ _ _ => rfl⟩ (.inl rfl)
  · obtain ⟨g, cap, rfl, hcells⟩ := row_src h2 hm
    obtain ⟨v', w', hrun, hrow, hgr, how⟩ := append_rows (ty := o.type) ht hi hz hs hby hzs hsz hm h ⟨g, 0, none⟩ cap news h2.1 hcells h1 h63 hbytes
    exact wpIn_of_gives (R := fun u u' => u = w → u' = w') (V := fun u u' => u = v' ∧ u' = w') hF hn (gives_append s x t ho hv hx hrun ⟨⟨rfl, rfl⟩, fun _ => rfl⟩) fun u u' hu _ => by
      rw [hu.1, hu.2]; exact hK v' w' hrow hgr how
theorem intsV_bal (xs : List Int) : intsV xs = intsF xs.length (balF xs) := by
  refine List.ext_getElem (by simp [intsV, intsF]) fun i h1 h2 => ?_
  have hi : i < xs.length := by simpa [intsV] using h1
  simp only [intsV, intsF, List.getElem_map, List.getElem_range]
  unfold balF
  rw [getD_of hi]
theorem pysF_one (ps : List Py) : ∀ u ∈ pysF ps, u.oneCell' = true := by
  intro u hu
  obtain ⟨p, _, h⟩ := List.mem_flatMap.1 hu
  simp at h
  rcases h with rfl | rfl | rfl <;> rfl
theorem pysF_app (ps qs : List Py) : pysF (ps ++ qs) = pysF ps ++ pysF qs := by simp [pysF]
theorem GAt.of_row {db c : Nat} {w : World} {v : Value} {g : List Int} (h : Row w 3 1 v g.length (intsV g)) (hg : g.length ≤ 10) (hdb : ∀ q, v.ownBlock = some q → q ≠ db) : ∃ a c, v = .slice a g.length c ∧ GAt db w (.slice a g.length g.length) g := by
  obtain ⟨a, c, rfl⟩ := h.isSliceN
  refine ⟨a, c, rfl, a, g.length, rfl, ⟨Nat.le_refl _, by omega⟩, fun i hi => ?_⟩
  obtain ⟨q, cap, cur, e, _, hq, hc, _⟩ := h.cells1 hi
  cases e
  exact ⟨q, 0, rfl, lt_of_block hq, hdb q rfl, by rw [Nat.zero_add, hc, intsV_get hi]⟩
/-- A clearing of the fewest payments. -/
structure Cleared (xs : List Int) (ps : List Py) : Prop where
  good : ∀ p ∈ ps, pyGood xs.length p = true ∧ p.s ≤ 1000000
  zero : ∀ i, ps.foldl payL (balF xs) i = 0
  few : ∃ k, Sv.Best xs.length (balF xs) (Sv.nz xs.length (balF xs)) k ∧ ps.length + k = nzC xs
set_option maxRecDepth 100000 in
set_option maxHeartbeats 16000000 in
theorem clear_any (v : Value) (xs : List Int) (n0 w : World) (hx : Ext n0 w) (hv : Row w 3 1 v xs.length (intsV xs)) (ho : ∀ q, v.ownBlock = some q → n0.heap.size ≤ q) (hl : xs.length ≤ 10) (hb : ∀ x ∈ xs, -1000000 ≤ x ∧ x ≤ 1000000) (hs : xs.sum = 0) :
    Cal 64 #[v] w fun e w' => ∃ (r : Value) (ps : List Py), e = .returned r ∧ Ext n0 w' ∧ Hid (Row w' 74 3 r ps.length (pysF ps) ∧ (∀ q, r.ownBlock = some q → n0.heap.size ≤ q) ∧ Cleared xs ps) := by
  have HGR := hid (groups_any v xs w (IntsAt.of_row hv (by omega)) hl hb hs)
  have HL := hid hl
  have HV := hid hv
  have HO := hid ho
  have HX := hid hx
  have HST := hid (fun (ts : List Nat) => ClOk.start (ts := ts) hb)
  clear hx hv ho hl hb hs
  gi_enter Tryz.func64, Tryz.ntmps64
  gi_wp2_with (gi_at_call 63; ((with_reducible refine (HGR.out).mono ?_); rintro e w1 ⟨gr, vs, ts, rfl, hx1, HG⟩; obtain ⟨ga, gc, rfl⟩ := HG.out.1.isSliceN; have HX1 := hid hx1; clear hx1))
  have HVL : Hid (∀ q, v.ownBlock = some q → q < w.heap.size) := hid fun q hq => by obtain ⟨cur, hc⟩ := row_mem HV.out hq; exact lt_of_block hc
  have HTL : Hid (ts.length ≤ 10) := hid HG.out.2.2.2.2.2
  have HJ : Hid (∃ (D : Nat → Int) (ps : List Py), Ext n0 w1 ∧ (∀ db, v.ownBlock = some db → KM db w1 w1) ∧ Row w1 3 1 v xs.length (intsF xs.length D) ∧ ClOk xs ts 0 D ps ∧ Row w1 74 3 (.slice none 0 0) ps.length (pysF ps) ∧ ∀ q, (Value.slice none 0 0).ownBlock = some q → w1.heap.size ≤ q) :=
    hid ⟨balF xs, [], HX.out.trans HX1.out, fun _ _ => KM.refl _ _, by rw [← intsV_bal]; exact HV.out.mono HX1.out, HST.out ts, Row.nil _ _ _, fun q h => by simp [Value.ownBlock] at h⟩
  gi_loopw [3, 5, 9] (fun r u5 i wr => ∃ j : Nat, j ≤ ts.length ∧ i = .int .i64 j ∧ Hid (∃ (D : Nat → Int) (ps : List Py), Ext n0 wr ∧ (∀ db, v.ownBlock = some db → KM db w1 wr) ∧ Row wr 3 1 v xs.length (intsF xs.length D) ∧ ClOk xs ts j D ps ∧ Row wr 74 3 r ps.length (pysF ps) ∧ ∀ q, r.ownBlock = some q → w1.heap.size ≤ q)) (fun _ _ i _ => ts.length - (intOf i).toNat)
  case atStart => exact ⟨0, Nat.zero_le _, rfl, HJ⟩
  case round =>
    obtain ⟨j, hj, rfl, HI⟩ := hrel
    clear HJ
    by_cases hlt : j < ts.length
    · have hji : (j : Int) < (ts.length : Int) := by omega
      obtain ⟨D, ps, hxr, hkm, hrow, hok, hpy, hown⟩ := HI.out
      obtain ⟨h1, h2, h3, h4, h5⟩ := hok.group HL.out HG.out.2.2.2.1 hlt
      have hn0 : 0 < xs.length := by
        obtain ⟨_, _, ⟨i0, h6, _⟩, _⟩ := HG.out.2.2.2.1.each _ (List.getElem_mem hlt)
        omega
      obtain ⟨db, dcap, rfl⟩ := row_addr hrow hn0
      have hkm := hkm db rfl
      have hdl := HVL.out db rfl
      obtain ⟨q, gcap, cur, e, _, hqb, hqc, _⟩ := HG.out.1.cells1 hlt
      cases e
      have hq1 := HG.out.2.1 q rfl
      have hvl : j < vs.length := by rw [HG.out.2.2.1.1]; simpa [grpsN] using hlt
      obtain ⟨hgr1, hgr2⟩ := HG.out.2.2.1.2 j (by simpa [grpsN] using hlt)
      have eg : (grpsN ts).getD j [] = numsTo ts[j] 10 := by rw [List.getD_eq_getElem?_getD]; simp [grpsN, hlt]
      rw [eg] at hgr1
      have ev : vs.getD j undef = vs[j] := getD_of hvl
      rw [ev] at hgr1 hgr2
      rw [List.getElem?_eq_getElem hvl] at hqc
      obtain ⟨ja, jc, ej, hgat⟩ := GAt.of_row (db := db) (c := 0) hgr1 (numsTo_len _ 10) (fun p hp => by have := hgr2 p hp; omega)
      rw [ej] at hqc
      have hqcr : wr.cell? ⟨q, j, none⟩ = some (.slice ja (numsTo ts[j] 10).length jc) := by rw [hkm.cell? (lt_of_block hqb) (by omega)]; exact hqc
      have hjc : (numsTo ts[j] 10).length ≤ jc := by
        rw [ej] at hgr1
        obtain ⟨g', c', cur', e', hle, _⟩ := hgr1.cells1 h5
        cases e'; exact hle
      have HSE := hid (settle_any db dcap xs.length D _ (numsTo ts[j] 10) n0 wr hxr (HO.out db rfl) HL.out hrow (hgat.km hkm) (numsTo_nodup _ _) h1 h2 hok.bnd (numsTo_len _ 10))
      have HKM := hid hkm
      have HOK := hid hok
      have HOW := hid hown
      have HPY := hid hpy
      have HXR := hid hxr
      have HSP := hid (fun (D' : Nat → Int) (qs : List Py) => hok.step (D' := D') (qs := qs) HL.out HG.out.2.2.2.1 hlt)
      have HDL := hid hdl
      obtain ⟨na, nc, rfl⟩ := hpy.isSliceN
      obtain ⟨i0, hi0, hz0, hz1, hz2⟩ := info_parts info74
      have HZ := hid (And.intro hi0 (And.intro hz0 (And.intro hz1 hz2)))
      have hjl := numsTo_len ts[j] 10
      clear HI hxr hkm hrow hok hpy hown h1 h2 h3 h4 h5 hn0 hdl hqb hqc hq1 hvl hgr1 hgr2 eg ev ej hgat hi0 hz0 hz1 hz2
      generalize hgl : (numsTo ts[j] 10).length = gl at *
      have HGL := hid hgl
      clear hgl
      gi_wp2_with (first | (gi_at_call 89; ((with_reducible refine (HSE.out).mono ?_); rintro e w5 ⟨r2, D', qs, rfl, hx5, hk5, HS5⟩; have HP5 := hid (HPY.out.kept (w' := w5) fun p o hp ho => hk5.2 p o (by have h1 := HOW.out p hp; have h2 := HDL.out; have h3 := HX1.out.size; omega) ho); have HX5 := hid hx5; have HK5 := hid (HKM.out.trans hk5); clear hx5 hk5)) | (refine wpIn_append_many (fun _ => trivial) rfl (.tmp 13) (.tmp 21) rfl Tryz.underlying67 HZ.out.1 HZ.out.2.1 HZ.out.2.2.1 HZ.out.2.2.2 (by simp [Value.cells]) (by omega) (v := .slice na ps.length nc) rfl HP5.out rfl HS5.out.1.pays (pysF_one qs) (by have h1 := (HSP.out D' qs HS5.out.1.ok HS5.out.2.1 HS5.out.2.2).cnt; have h2 := List.countP_le_length (p := fun i => decide (balF xs i ≠ 0) && (D' i == 0)) (l := List.range 10); simp only [List.length_append, List.length_range] at h1 h2; omega) (by omega) ?_; intro v' w' hrow' hgr' how'))
      have hwj : wrap64 ((j : Int) + 1) = (j : Int) + 1 := by have := HTL.out; unfold wrap64; omega
      have hw5 : w1.heap.size ≤ w5.heap.size := HK5.out.1
      have hbel := ext_grown HX5.out hgr' (fun p hp => by have h1 := HOW.out p hp; have h2 := HX.out.size; have h3 := HX1.out.size; omega)
      have hkk := HK5.out.grown hgr' (fun p hp => HOW.out p hp)
      have hrow := HS5.out.1.row.kept (w' := w') (fun p o hp ho => grownBy_block hgr' ho (fun e => by
        have h1 := HOW.out p e.symm
        simp [Value.ownBlock] at hp
        have h2 := HDL.out; have h3 := HX1.out.size; omega))
      have hown' : ∀ p, v'.ownBlock = some p → w1.heap.size ≤ p := fun p hp => by
        rcases how' with e | e
        · exact HOW.out p (by rw [← e]; exact hp)
        · rw [hp] at e; cases e; exact hw5
      refine ⟨⟨j + 1, by omega, by rw [hwj]; rfl, hid ⟨D', ps ++ qs, hbel, fun db' e => by cases e; exact hkk, hrow, HSP.out D' qs HS5.out.1.ok HS5.out.2.1 HS5.out.2.2, by rw [List.length_append, pysF_app]; exact hrow', hown'⟩⟩, ?_⟩
      rw [hwj]; simp [intOf]; omega
    · obtain rfl : j = ts.length := by omega
      obtain ⟨D, ps, hxr, hkm, hrow, hok, hpy, hown⟩ := HI.out
      have HR := hid (And.intro hxr (And.intro hpy hown))
      have HEN := hid (hok.ended HL.out HG.out.2.2.2.1 HG.out.2.2.2.2.1)
      have HGD := hid (And.intro hok.good hok.fold)
      have hji : ¬ (ts.length : Int) < (ts.length : Int) := by omega
      clear HI hxr hkm hrow hok hpy hown hlt
      gi_wp2_with fail
      go_ret
      exact ⟨_, rfl, HR.out.1, ps, hid ⟨HR.out.2.1, fun p hp => by have h1 := HR.out.2.2 p hp; have h2 := HX.out.size; have h3 := HX1.out.size; omega, ⟨HGD.out.1, fun i => by rw [← HGD.out.2]; exact HEN.out.1 i, _, HG.out.2.2.2.2.1, HEN.out.2⟩⟩⟩
end
section
open Go Go.RowKit Go.Shelf

theorem newDebts_bad {v : Value} {xs : List Int} {w : World} (hv : IntsAt w v xs) (h : debtsB xs = false) : Cal 62 #[v] w fun e w' => e = .returned (.tuple #[.slice none 0 0, .int .i64 33]) ∧ Ext w w' :=
  (newDebts_any v xs w hv).mono fun e w' ⟨hx, h'⟩ => by
    rcases h' with ⟨_, h1⟩ | ⟨h1, _⟩
    · exact ⟨h1, hx⟩
    · rw [h] at h1; cases h1
theorem newDebts_ok {v : Value} {xs : List Int} {w : World} (hv : IntsAt w v xs) (h : debtsB xs = true) : Cal 62 #[v] w fun e w' => ∃ r, e = .returned (.tuple #[r, .int .i64 0]) ∧ Ext w w' ∧ Hid (Row w' 3 1 r xs.length (intsV xs) ∧ ∀ g, r.ownBlock = some g → w.heap.size ≤ g) :=
  (newDebts_any v xs w hv).mono fun e w' ⟨hx, h'⟩ => by
    rcases h' with ⟨h1, _⟩ | ⟨_, r, h1, h2⟩
    · rw [h] at h1; cases h1
    · exact ⟨r, h1, hx, h2⟩
set_option maxHeartbeats 4000000 in
theorem Groups_bad (v : Value) (xs : List Int) (w : World) (hv : IntsAt w v xs) (h : debtsB xs = false) : Cal 37 #[v] w fun e w' => e = .returned (.tuple #[.slice none 0 0, .int .i64 33]) ∧ Ext w w' := by
  have HD := hid (newDebts_bad hv h)
  clear hv h
  gi_enter Tryz.func37, Tryz.ntmps37
  gi_wp2_with (gi_at_call 62; ((with_reducible refine (HD.out).mono ?_); rintro e w1 ⟨rfl, hx1⟩))
  exact bodyPost_ret (v := .tuple #[.slice none 0 0, .int .i64 33]) (by simp [results, Tryz.results37, go_sem]) rfl ⟨rfl, hx1⟩
set_option maxHeartbeats 4000000 in
theorem Clear_bad (v : Value) (xs : List Int) (w : World) (hv : IntsAt w v xs) (h : debtsB xs = false) : Cal 41 #[v] w fun e w' => e = .returned (.tuple #[.slice none 0 0, .int .i64 33]) ∧ Ext w w' := by
  have HD := hid (newDebts_bad hv h)
  clear hv h
  gi_enter Tryz.func41, Tryz.ntmps41
  gi_wp2_with (gi_at_call 62; ((with_reducible refine (HD.out).mono ?_); rintro e w1 ⟨rfl, hx1⟩))
  exact bodyPost_ret (v := .tuple #[.slice none 0 0, .int .i64 33]) (by simp [results, Tryz.results41, go_sem]) rfl ⟨rfl, hx1⟩
set_option maxHeartbeats 4000000 in
theorem IsClear_bad (v pv : Value) (xs : List Int) (w : World) (hv : IntsAt w v xs) (h : debtsB xs = false) : Cal 42 #[v, pv] w fun e w' => e = .returned (.tuple #[.bool false, .int .i64 33]) ∧ Ext w w' := by
  have HD := hid (newDebts_bad hv h)
  clear hv h
  gi_enter Tryz.func42, Tryz.ntmps42
  gi_wp2_with (gi_at_call 62; ((with_reducible refine (HD.out).mono ?_); rintro e w1 ⟨rfl, hx1⟩))
  exact bodyPost_ret (v := .tuple #[.bool false, .int .i64 33]) (by simp [results, Tryz.results42, go_sem]) rfl ⟨rfl, hx1⟩
/-- Groups in memory, as many as there can be. -/
def GroupsIn (n0 : Nat) (w : World) (r : Value) (xs : List Int) (vs : List Value) (ts : List Nat) : Prop :=
  Row w 23 1 r ts.length vs ∧ (∀ g, r.ownBlock = some g → n0 ≤ g) ∧ GsAt n0 w vs (grpsN ts) ∧ GroupsOk xs.length (balF xs) (openTo xs xs.length) 0 ts ∧ Sv.Best xs.length (balF xs) (Sv.nz xs.length (balF xs)) ts.length ∧ ts.length ≤ 10
set_option maxHeartbeats 4000000 in
theorem Groups_ok (v : Value) (xs : List Int) (w : World) (hv : IntsAt w v xs) (h : debtsB xs = true) : Cal 37 #[v] w fun e w' => ∃ r vs ts, e = .returned (.tuple #[r, .int .i64 0]) ∧ Ext w w' ∧ Hid (GroupsIn w.heap.size w' r xs vs ts) := by
  have HD := hid (newDebts_ok hv h)
  have HB := hid (debts_ok h)
  clear hv h
  gi_enter Tryz.func37, Tryz.ntmps37
  gi_wp2_with (first | (gi_at_call 62; ((with_reducible refine (HD.out).mono ?_); rintro e w1 ⟨r1, rfl, hx1, HR1⟩; have HX1 := hid hx1; have HG1 := hid (groups_any r1 xs w1 (IntsAt.of_row HR1.out.1 (by have := HB.out.1; omega)) HB.out.1 HB.out.2.1 HB.out.2.2); clear hx1)) | (gi_at_call 63; ((with_reducible refine (HG1.out).mono ?_); rintro e w2 ⟨r, vs, ts, rfl, hx2, HG2⟩; have HX2 := hid (HX1.out.trans hx2); clear hx2)))
  exact bodyPost_ret (v := .tuple #[r, .int .i64 0]) (by simp [results, Tryz.results37, go_sem]) rfl ⟨r, vs, ts, rfl, HX2.out, hid ⟨HG2.out.1, fun g hg => Nat.le_trans HX1.out.size (HG2.out.2.1 g hg), ⟨HG2.out.2.2.1.1, fun k hk => ⟨(HG2.out.2.2.1.2 k hk).1, fun g hg => Nat.le_trans HX1.out.size ((HG2.out.2.2.1.2 k hk).2 g hg)⟩⟩, HG2.out.2.2.2⟩⟩
set_option maxHeartbeats 4000000 in
theorem Clear_ok (v : Value) (xs : List Int) (w : World) (hv : IntsAt w v xs) (h : debtsB xs = true) : Cal 41 #[v] w fun e w' => ∃ r ps, e = .returned (.tuple #[r, .int .i64 0]) ∧ Ext w w' ∧ Hid (Row w' 74 3 r ps.length (pysF ps) ∧ (∀ q, r.ownBlock = some q → w.heap.size ≤ q) ∧ Cleared xs ps) := by
  have HD := hid (newDebts_ok hv h)
  have HB := hid (debts_ok h)
  clear hv h
  gi_enter Tryz.func41, Tryz.ntmps41
  gi_wp2_with (first | (gi_at_call 62; ((with_reducible refine (HD.out).mono ?_); rintro e w1 ⟨r1, rfl, hx1, HR1⟩; have HG1 := hid (clear_any r1 xs w w1 hx1 HR1.out.1 HR1.out.2 HB.out.1 HB.out.2.1 HB.out.2.2); clear hx1)) | (gi_at_call 64; ((with_reducible refine (HG1.out).mono ?_); rintro e w2 ⟨r, ps, rfl, hx2, HG2⟩; have HX2 := hid hx2; clear hx2)))
  exact bodyPost_ret (v := .tuple #[r, .int .i64 0]) (by simp [results, Tryz.results41, go_sem]) rfl ⟨r, ps, rfl, HX2.out, HG2⟩
set_option maxHeartbeats 4000000 in
theorem IsClear_ok (v pv : Value) (xs : List Int) (ps : List Py) (w : World) (hv : IntsAt w v xs) (hp : PaysAt w pv ps) (hsm : ∀ p ∈ ps, sm p) (h : debtsB xs = true) : Cal 42 #[v, pv] w fun e w' => e = .returned (.tuple #[.bool (clearB xs ps), .int .i64 0]) ∧ Ext w w' := by
  have HD := hid (newDebts_ok hv h)
  have HB := hid (debts_ok h)
  have HP := hid hp
  have HS := hid hsm
  clear hv h hp hsm
  gi_enter Tryz.func42, Tryz.ntmps42
  gi_wp2_with (first | (gi_at_call 62; ((with_reducible refine (HD.out).mono ?_); rintro e w1 ⟨r1, rfl, hx1, HR1⟩; have HX1 := hid hx1; have HG1 := hid (isCleared_any r1 pv xs ps w1 (IntsAt.of_row HR1.out.1 (by have := HB.out.1; omega)) (HP.out.mono hx1) (fun x hx => by have := HB.out.2.1 x hx; omega) HB.out.1 HS.out); clear hx1)) | (gi_at_call 65; ((with_reducible refine (HG1.out).mono ?_); rintro e w2 ⟨rfl, hx2⟩; have HX2 := hid (HX1.out.trans hx2); clear hx2)))
  exact bodyPost_ret (v := .tuple #[.bool (clearB xs ps), .int .i64 0]) (by simp [results, Tryz.results42, go_sem]) rfl ⟨rfl, HX2.out⟩
end
section
open Go Go.RowKit Go.Shelf
def wkS : List Stk := [⟨⟨#[98]⟩, 1⟩, ⟨⟨#[97]⟩, 1⟩, ⟨⟨#[99]⟩, 1⟩]
def nt : Voy where
  gr := 1000
  bo := 3
  ne := 3
  cr := 2
  cs := [40, 19]
  ow := [⟨⟨#[98, 117, 99, 107, 105, 101]⟩, 5⟩, ⟨⟨#[99, 117, 108, 108, 101, 110]⟩, 3⟩]
  le := [⟨⟨#[98, 117, 99, 107, 105, 101]⟩, 20⟩, ⟨⟨#[101, 121, 101, 109, 111, 117, 116, 104]⟩, 10⟩, ⟨⟨#[115, 109, 105, 116, 104]⟩, 0⟩]
  ha := [⟨⟨#[115, 109, 105, 116, 104]⟩, 10⟩, ⟨⟨#[119, 105, 99, 107]⟩, 8⟩, ⟨⟨#[98, 111, 121]⟩, 4⟩]
  lo := [⟨⟨#[101, 121, 101, 109, 111, 117, 116, 104]⟩, ⟨#[115, 109, 105, 116, 104]⟩, 10, 3⟩]
set_option maxRecDepth 100000
/-- A division that is reckoned. -/
def giveC (P : Int) (l : List Stk) (i : Nat) : Nat := Sv.gets (List.range l.length) P.toNat (wN l) (ltN l) i
def canC (P : Int) (l : List Stk) : Bool := decide (0 ≤ P) && (l.all (fun s => decide (0 ≤ s.weight)) && (decide (0 < sumW l) && decide ((l.map (·.name)).Nodup)))
theorem give_c {P : Int} {l : List Stk} (h : canC P l = true) {i : Nat} (hi : i < l.length) : giveTo P l i = (giveC P l i : Nat) := by
  simp only [canC, Bool.and_eq_true, decide_eq_true_eq, List.all_eq_true] at h
  exact giveTo_eq h.1 h.2.1 h.2.2.1 h.2.2.2 hi
theorem wkCan : canC 10 wkS = true := by kernel_rfl
theorem wkG : ((List.range 3).map (giveC 10 wkS) == [3, 4, 3]) = true := by kernel_rfl
theorem ntT : (canC (netV nt) (threeS nt.bo nt.ne nt.cr) && ((List.range 3).map (giveC (netV nt) (threeS nt.bo nt.ne nt.cr)) == [353, 353, 235])) = true := by kernel_rfl
theorem ntG : (canC 353 (partL nt 0) && canC 353 (partL nt 1) && canC 235 (partL nt 2) && ((List.range 2).map (giveC 353 (partL nt 0)) == [221, 132]) && ((List.range 3).map (giveC 353 (partL nt 1)) == [235, 44, 74]) && ((List.range 3).map (giveC 235 (partL nt 2)) == [107, 85, 43])) = true := by kernel_rfl
theorem wkDiv : intsF 3 (giveTo 10 wkS) = intsV [3, 4, 3] := by
  have h := wkG
  simp only [beq_iff_eq] at h
  have e : intsF 3 (giveTo 10 wkS) = ((List.range 3).map (giveC 10 wkS)).map fun n : Nat => (.int .i64 n : Value) := by
    unfold intsF
    rw [List.map_map]
    apply List.map_congr_left
    intro i hi
    rw [give_c wkCan (show i < wkS.length from List.mem_range.1 hi)]; rfl
  rw [e, h]; rfl
theorem list3 {f : Nat → Nat} {a b c : Nat} (h : (List.range 3).map f = [a, b, c]) : f 0 = a ∧ f 1 = b ∧ f 2 = c := by
  simp [List.range_succ] at h
  exact h
theorem list2 {f : Nat → Nat} {a b : Nat} (h : (List.range 2).map f = [a, b]) : f 0 = a ∧ f 1 = b := by
  simp [List.range_succ] at h
  exact h
theorem ntE : voyE nt = 0 := by
  have : (voyE nt == 0) = true := by kernel_rfl
  simpa using this
theorem ntC : wts (clm nt.le (lentV nt) nt.le.length) = [160, 30, 50] := by
  have : (wts (clm nt.le (lentV nt) nt.le.length) == [160, 30, 50]) = true := by kernel_rfl
  simpa using this
theorem ntP : partP nt 0 = 353 ∧ partP nt 1 = 353 ∧ partP nt 2 = 235 := by
  have h := ntT
  simp only [Bool.and_eq_true, beq_iff_eq] at h
  obtain ⟨h0, h1, h2⟩ := list3 h.2
  refine ⟨?_, ?_, ?_⟩
  · show giveTo (netV nt) (threeS nt.bo nt.ne nt.cr) 0 = 353
    rw [give_c h.1 (show 0 < 3 by omega), h0]; rfl
  · show giveTo (netV nt) (threeS nt.bo nt.ne nt.cr) 1 = 353
    rw [give_c h.1 (show 1 < 3 by omega), h1]; rfl
  · show giveTo (netV nt) (threeS nt.bo nt.ne nt.cr) 2 = 235
    rw [give_c h.1 (show 2 < 3 by omega), h2]; rfl
def ntA : Nat → Nat → Int
  | 0 => fun i => ([221, 132] : List Int).getD i 0
  | 1 => fun i => ([235, 44, 74] : List Int).getD i 0
  | _ => fun i => ([107, 85, 43] : List Int).getD i 0
theorem valTo_congr {L : List Stk} {A B : Nat → Int} {nm : ByteArray} : ∀ k, (∀ i, i < k → A i = B i) → valTo L A nm k = valTo L B nm k
  | 0, _ => rfl
  | k + 1, h => by
    unfold valTo
    rw [h k (by omega), valTo_congr k fun i hi => h i (by omega)]
theorem lens_nt : lensV nt 0 = 2 ∧ lensV nt 1 = 3 ∧ lensV nt 2 = 3 := ⟨by kernel_rfl, by kernel_rfl, by kernel_rfl⟩
theorem ntVals (nm : ByteArray) : valsD (partL nt) (partG nt) (lensV nt) nm 0 = valsD (partL nt) ntA (lensV nt) nm 0 ∧ valsD (partL nt) (partG nt) (lensV nt) nm 1 = valsD (partL nt) ntA (lensV nt) nm 1 ∧ valsD (partL nt) (partG nt) (lensV nt) nm 2 = valsD (partL nt) ntA (lensV nt) nm 2 := by
  have h := ntG
  simp only [Bool.and_eq_true, beq_iff_eq] at h
  obtain ⟨⟨⟨⟨⟨h0, h1⟩, h2⟩, h3⟩, h4⟩, h5⟩ := h
  obtain ⟨l0, l1, l2⟩ := lens_nt
  obtain ⟨p0, p1, p2⟩ := ntP
  obtain ⟨a0, a1⟩ := list2 h3
  obtain ⟨b0, b1, b2⟩ := list3 h4
  obtain ⟨c0, c1, c2⟩ := list3 h5
  refine ⟨?_, ?_, ?_⟩
  · unfold valsD
    rw [l0]
    refine valTo_congr 2 fun i hi => ?_
    unfold partG
    rw [p0, give_c h0 (show i < (partL nt 0).length by have : (partL nt 0).length = 2 := l0; omega)]
    rcases (by omega : i = 0 ∨ i = 1) with rfl | rfl
    · rw [a0]; rfl
    · rw [a1]; rfl
  · unfold valsD
    rw [l1]
    refine valTo_congr 3 fun i hi => ?_
    unfold partG
    rw [p1, give_c h1 (show i < (partL nt 1).length by have : (partL nt 1).length = 3 := l1; omega)]
    rcases (by omega : i = 0 ∨ i = 1 ∨ i = 2) with rfl | rfl | rfl
    · rw [b0]; rfl
    · rw [b1]; rfl
    · rw [b2]; rfl
  · unfold valsD
    rw [l2]
    refine valTo_congr 3 fun i hi => ?_
    unfold partG
    rw [p2, give_c h2 (show i < (partL nt 2).length by have : (partL nt 2).length = 3 := l2; omega)]
    rcases (by omega : i = 0 ∨ i = 1 ∨ i = 2) with rfl | rfl | rfl
    · rw [c0]; rfl
    · rw [c1]; rfl
    · rw [c2]; rfl
/-- Who gets what. -/
structure Du where
  nm : ByteArray
  b : Int
  n : Int
  c : Int
def ntD : List Du := [⟨⟨#[98, 111, 121]⟩, 0, 0, 43⟩, ⟨⟨#[98, 117, 99, 107, 105, 101]⟩, 221, 235, 0⟩, ⟨⟨#[99, 117, 108, 108, 101, 110]⟩, 132, 0, 0⟩, ⟨⟨#[101, 121, 101, 109, 111, 117, 116, 104]⟩, 0, 44, 0⟩, ⟨⟨#[115, 109, 105, 116, 104]⟩, 0, 74, 107⟩, ⟨⟨#[119, 105, 99, 107]⟩, 0, 0, 85⟩]
def duC (d : Du) : List Value := [.string d.nm, .int .i64 d.b, .int .i64 d.n, .int .i64 d.c]
def duF (l : List Du) : List Value := l.flatMap duC
def riseB : List ByteArray → Bool
  | [] => true
  | x :: l => l.all (fun y => nmLt x y) && riseB l
theorem riseB_iff : ∀ {l : List ByteArray}, riseB l = true → l.Pairwise fun a b => nmLt a b = true
  | [], _ => .nil
  | x :: l, h => by
    unfold riseB at h
    simp only [Bool.and_eq_true, List.all_eq_true] at h
    exact .cons h.1 (riseB_iff h.2)
theorem ntRise : riseB (ntD.map (·.nm)) = true := by kernel_rfl
theorem ntIn1 : (ntD.all fun d => (partL nt 0 ++ partL nt 1 ++ partL nt 2).any fun s => decide (s.name = d.nm)) = true := by kernel_rfl
theorem ntIn2 : ((partL nt 0 ++ partL nt 1 ++ partL nt 2).all fun s => ntD.any fun d => decide (s.name = d.nm)) = true := by kernel_rfl
theorem ntNames {ns : List ByteArray} (h : DueNames nt ns) : ns = ntD.map (·.nm) := by
  refine rise_eq h.rise (riseB_iff ntRise) fun nm => ?_
  rw [h.mem, inAny_mem]
  constructor
  · rintro ⟨s, hs, rfl⟩
    have h2 := ntIn2
    rw [List.all_eq_true] at h2
    have h3 := h2 s (by simp only [List.mem_append]; rcases hs with h | h | h; exact .inl (.inl h); exact .inl (.inr h); exact .inr h)
    rw [List.any_eq_true] at h3
    obtain ⟨d, hd, he⟩ := h3
    exact List.mem_map.2 ⟨d, hd, (of_decide_eq_true he).symm⟩
  · intro hm
    obtain ⟨d, hd, rfl⟩ := List.mem_map.1 hm
    have h2 := ntIn1
    rw [List.all_eq_true] at h2
    have h3 := h2 d hd
    rw [List.any_eq_true] at h3
    obtain ⟨s, hs, he⟩ := h3
    simp only [List.mem_append] at hs
    exact ⟨s, by rcases hs with (h | h) | h; exact .inl h; exact .inr (.inl h); exact .inr (.inr h), of_decide_eq_true he⟩
theorem ntDueB : (ntD.all fun d => (valsD (partL nt) ntA (lensV nt) d.nm 0 == d.b) && (valsD (partL nt) ntA (lensV nt) d.nm 1 == d.n) && (valsD (partL nt) ntA (lensV nt) d.nm 2 == d.c)) = true := by kernel_rfl
theorem ntDue {ns : List ByteArray} (h : DueNames nt ns) : ns.length = 6 ∧ dueF nt ns = duF ntD := by
  rw [ntNames h]
  refine ⟨rfl, ?_⟩
  have h2 := ntDueB
  rw [List.all_eq_true] at h2
  have e : ∀ l : List Du, (∀ d ∈ l, d ∈ ntD) → dueF nt (l.map (·.nm)) = duF l := by
    intro l
    induction l with
    | nil => intro _; rfl
    | cons d l ih =>
      intro hl
      have h3 := h2 d (hl d List.mem_cons_self)
      simp only [Bool.and_eq_true, beq_iff_eq] at h3
      have h4 := ntVals d.nm
      have e1 : dueC nt d.nm = duC d := by
        unfold dueC duC
        rw [h4.1, h4.2.1, h4.2.2, h3.1.1, h3.1.2, h3.2]
      have ih2 := ih fun x hx => hl x (List.mem_cons_of_mem _ hx)
      unfold dueF duF at ih2 ⊢
      rw [List.map_cons, List.flatMap_cons, List.flatMap_cons, e1, ih2]
  exact e ntD fun _ h => h
def wkX : List Int := [5, -3, -2, 4, -4, 0]
def wkPy : List Py := [⟨1, 0, 5⟩, ⟨2, 1, 2⟩, ⟨4, 3, 4⟩]
theorem wkB : debtsB wkX = true := by kernel_rfl
theorem wkN : nzC wkX = 5 := by kernel_rfl
theorem wkI : clearB wkX wkPy = true := by kernel_rfl
end
end Go.Proofs.YtjocoadhalimjaaGreat
