/- The law ShareGrouped. -/
import Derived.Test.YtjocoadhalimjaaGreatRBL
import Derived.Test.YtjocoadhalimjaaGreatRBM
import Derived.Test.YtjocoadhalimjaaGreatRBJ
import Derived.Test.YtjocoadhalimjaaGreatRBI
set_option linter.unusedSimpArgs false
set_option linter.unusedVariables false
namespace Go.Proofs.YtjocoadhalimjaaGreat
open Go Go.RowKit Go.Shelf

theorem make_ints (w : World) (n : Nat) (hn : n ≤ 1000) : (Instr.makeSlice 23 (.int .i64 (n : Int)) (.int .i64 (n : Int))).run Tryz.prog w = .ok (.slice (some ⟨w.heap.size, 0, none⟩) n n) (w.alloc (.cells (madeCells #[.int .i64 0] n) 3)) := by
  obtain ⟨i0, hi, hz0, hz1, hz2⟩ := info_parts info3
  have := run_make (P := Tryz.prog) w 23 3 i0 (.int .i64 0) Tryz.underlying23 hi hz0 .i64 .i64 n n (by omega) (by omega) (by rw [hz2]; omega) (by omega)
  rw [this]; simp [hz1, Value.cells]
theorem made_row (w : World) (n : Nat) (hn : n ≤ 1000) : Row (w.alloc (.cells (madeCells #[.int .i64 0] n) 3)) 3 1 (.slice (some ⟨w.heap.size, 0, none⟩) n n) n (intsF n fun _ => 0) := by
  refine ⟨by simp [intsF], .inr ⟨_, n, _, rfl, Ext.new (Ext.refl _), Nat.le_refl _, by unfold maxLen; omega, by rw [size_madeCells]; omega, ?_⟩⟩
  have e : (madeCells #[.int .i64 0] n).toList = intsF n fun _ => 0 := by
    unfold madeCells intsF
    simp [Nat.mod_one]
  rw [e, List.take_of_length_le (by simp [intsF])]
/-- What has been counted, in a block of its own; all else is kept. -/
structure MetAt (wb : World) (mb n : Nat) (M : Nat → Int) (wr : World) : Prop where
  km : KM mb wb wr
  row : Row wr 3 1 (.slice (some ⟨mb, 0, none⟩) n n) n (intsF n M)
theorem MetAt.cell {wb wr : World} {mb n : Nat} {M : Nat → Int} (h : MetAt wb mb n M wr) {c : Nat} (hc : c < n) : wr.cell? ⟨mb, c, none⟩ = some (.int .i64 (M c)) ∧ wr.frozen? ⟨mb, c, none⟩ = false := by
  obtain ⟨g, cap, cur, e, _, _, h1, h2⟩ := h.row.cells1 hc
  cases e
  exact ⟨by rw [h1]; simp [intsF, hc], h2 _⟩
theorem MetAt.put {wb wr : World} {mb n : Nat} {M : Nat → Int} (h : MetAt wb mb n M wr) {c : Nat} (hc : c < n) {M' : Nat → Int} (hM : ∀ i, i < n → M' i = if i = c then M c + 1 else M i) : MetAt wb mb n M' (wr.setCell ⟨mb, c, none⟩ (.int .i64 (M c + 1))) := by
  refine ⟨h.km.put_self _ _, ?_⟩
  have := h.row.put1 c (.int .i64 (M c + 1))
  have e : (intsF n M).set c (.int .i64 (M c + 1)) = intsF n M' := by
    refine List.ext_getElem (by simp [intsF]) fun i h1 h2 => ?_
    have hi : i < n := by simpa [intsF] using h2
    rw [List.getElem_set]
    simp only [intsF, List.getElem_map, List.getElem_range]
    rw [hM i hi]
    by_cases hic : c = i
    · rw [if_pos hic, if_pos hic.symm]
    · rw [if_neg hic, if_neg (Ne.symm hic)]
  rwa [e] at this
theorem MetAt.mono {wb wr wr' : World} {mb n : Nat} {M : Nat → Int} (h : MetAt wb mb n M wr) (hx : Ext wr wr') : MetAt wb mb n M wr' := ⟨h.km.trans (KM.of_ext hx), h.row.mono hx⟩
theorem MetAt.congr {wb wr : World} {mb n : Nat} {M M' : Nat → Int} (h : MetAt wb mb n M wr) (hM : ∀ i, i < n → M' i = M i) : MetAt wb mb n M' wr := ⟨h.km, by rw [intsF_congr hM]; exact h.row⟩
theorem KM.ext {bm : Nat} {w u v : World} (hw : Ext w u) (h : KM bm u v) (hb : w.heap.size ≤ bm) (hos : v.os = w.os) (ht : v.tape = w.tape) (ho : v.output = w.output) : Ext w v :=
  ⟨hos, ht, ho, Nat.le_trans hw.size h.1, fun k hk => by
    have h1 : w.heap[k]? = some w.heap[k] := Array.getElem?_eq_getElem hk
    rw [h1]
    exact h.2 k _ (by omega) (hw.block h1)⟩
theorem bal_bound {xs : List Int} (h : ∀ x ∈ xs, -1000000 ≤ x ∧ x ≤ 1000000) (i : Nat) : -1000000 ≤ balF xs i ∧ balF xs i ≤ 1000000 := by
  unfold balF
  by_cases hi : i < xs.length
  · rw [getD_of hi]; exact h _ (List.getElem_mem hi)
  · rw [List.getD_eq_getElem?_getD, List.getElem?_eq_none (by omega)]; simp
theorem runL_bound {b : Nat → Int} (h : ∀ i, -1000000 ≤ b i ∧ b i ≤ 1000000) (g : List Int) : ∀ k, k ≤ g.length → -1000000 * (k : Int) ≤ runL b g k ∧ runL b g k ≤ 1000000 * (k : Int)
  | 0, _ => by simp [runL]
  | k + 1, hk => by
    have ih := runL_bound h g k (by omega)
    rw [runL_succ (by omega)]
    have := h g[k].toNat
    omega
theorem runP_bound {b : Nat → Int} (h : ∀ i, -1000000 ≤ b i ∧ b i ≤ 1000000) (s : Nat) (g : List Int) : ∀ k : Nat, -1000000 * (k : Int) ≤ runP b s g k ∧ runP b s g k ≤ 1000000 * (k : Int)
  | 0 => by simp [runP]
  | k + 1 => by
    have ih := runP_bound h s g k
    have := h (g.getD k 0).toNat
    unfold runP
    split <;> omega
theorem runP_succ {b : Nat → Int} {s : Nat} {g : List Int} {k : Nat} (h : k < g.length) : runP b s g (k + 1) = runP b s g k + if s.testBit k then b g[k].toNat else 0 := by
  show _ + _ = _
  rw [getD_of h]
theorem pow_wrap {n : Nat} (h : n ≤ 10) : wrap64 ((2 : Int) ^ n) = ((2 ^ n : Nat) : Int) := by
  have h1 : (2 : Nat) ^ n ≤ 2 ^ 10 := Nat.pow_le_pow_right (by omega) h
  have h2 : ((2 ^ n : Nat) : Int) = (2 : Int) ^ n := by norm_cast
  have h3 : (2 : Nat) ^ 10 = 1024 := by decide
  have h4 : ((2 ^ n : Nat) : Int) ≤ 1024 := by omega
  rw [← h2]
  generalize (2 ^ n : Nat) = m at *
  unfold wrap64; omega
set_option maxRecDepth 100000 in
set_option maxHeartbeats 16000000 in
theorem ShareGrouped_any (v : Value) (xs : List Int) (n : Int) (w : World) (hv : IntsAt w v xs) (hll : xs.length ≤ 1000000000000000) : Cal 11 #[v, .int .i64 n] w fun e w' => e = .returned (.bool true) ∧ Ext w w' := by
  have HV := hid hv
  obtain ⟨va, vc, rfl, _⟩ := id hv
  have HOW := hid (fun (u : World) (hu : Ext w u) => owing_any _ xs u (hv.mono hu) hll)
  have HWK := hid (fun (u : World) => works_any u)
  cases hd : debtsB xs with
  | false =>
    have HGR := hid (Groups_bad _ xs w hv hd)
    rw [hd] at HOW
    clear hv hd hll
    gi_enter Tryz.func11, Tryz.ntmps11
    gi_wp2_with (first | (gi_at_call 37; ((with_reducible refine (HGR.out).mono ?_); rintro e w1 ⟨rfl, hx1⟩; have HX := hid hx1; clear hx1)) | (gi_at_call 38; ((with_reducible refine (HOW.out _ HX.out).mono ?_); rintro e w3 ⟨rfl, rfl⟩)) | (gi_at_call 18; ((with_reducible refine (HWK.out _).mono ?_); rintro e w4 ⟨rfl, hx4⟩; have HX := hid (HX.out.trans hx4); clear hx4)))
    go_ret
    exact ⟨rfl, HX.out⟩
  | true =>
    have HDB := hid (debts_ok hd)
    have HGR := hid (Groups_ok _ xs w hv hd)
    rw [hd] at HOW
    clear hv hd hll
    gi_enter Tryz.func11, Tryz.ntmps11
    gi_upto_region 2 with (gi_at_call 37; ((with_reducible refine (HGR.out).mono ?_); rintro e w1 ⟨r, vs, ts, rfl, hx1, HG⟩))
    obtain ⟨ra, rc, rfl⟩ := HG.out.1.isSliceN
    have HX1 := hid hx1
    have hn10 := HDB.out.1
    have hmk := make_ints w1 xs.length (by omega)
    have hmr := made_row w1 xs.length (by omega)
    have hxa : Ext w1 (w1.alloc (.cells (madeCells #[.int .i64 0] xs.length) 3)) := (Ext.refl _).alloc _
    have HMB := hid hx1.size
    clear hx1 HGR
    gi_upto_region 5 with (gi_at_call 38; ((with_reducible refine (HOW.out _ HX1.out).mono ?_); rintro e w3 ⟨rfl, rfl⟩))
    clear hmk
    have HB := hid (bal_bound HDB.out.2.1)
    -- what is read of the balances, of the groups
    have HCX := hid (fun (c : Nat) (hc : c < xs.length) => (show ∃ b off, va = some ⟨b, off, none⟩ ∧ ∀ u, KM w1.heap.size (w1.alloc (.cells (madeCells #[.int .i64 0] xs.length) 3)) u → u.cell? ⟨b, off + c, none⟩ = some (.int .i64 (balF xs c)) by
      obtain ⟨a1, c1, e1, _, h⟩ := HV.out
      cases e1
      obtain ⟨b, off, rfl, hb, hcell⟩ := h c hc
      have hsz := HX1.out.size
      refine ⟨b, off, rfl, fun u hu => ?_⟩
      rw [hu.cell? (by simp; omega) (by omega), (HX1.out.trans hxa).cell (p := ⟨b, _, none⟩) hb, hcell]
      unfold balF; rw [getD_of hc]))
    have HCR := hid (fun (m : Nat) (hm : m < ts.length) => (show ∃ q gb gc, ra = some ⟨q, 0, none⟩ ∧ (∀ u, KM w1.heap.size (w1.alloc (.cells (madeCells #[.int .i64 0] xs.length) 3)) u → u.cell? ⟨q, m, none⟩ = some (.slice (some ⟨gb, 0, none⟩) (numsTo ts[m] 10).length gc)) ∧
        (∀ u, KM w1.heap.size (w1.alloc (.cells (madeCells #[.int .i64 0] xs.length) 3)) u → IntsAt u (.slice (some ⟨gb, 0, none⟩) (numsTo ts[m] 10).length gc) (numsTo ts[m] 10)) ∧ GrpOk xs.length (balF xs) (numsTo ts[m] 10) by
      have hok := grp_ok HDB.out.1 HG.out.2.2.2.1 (openTo_nz xs) (List.getElem_mem hm)
      obtain ⟨q, gcap, cur, e, _, hqb, hqc, _⟩ := HG.out.1.cells1 hm
      cases e
      have hvl : m < vs.length := by rw [HG.out.2.2.1.1]; simpa [grpsN] using hm
      obtain ⟨hgr1, hgr2⟩ := HG.out.2.2.1.2 m (by simpa [grpsN] using hm)
      have eg : (grpsN ts).getD m [] = numsTo ts[m] 10 := by rw [List.getD_eq_getElem?_getD]; simp [grpsN, hm]
      rw [eg] at hgr1
      rw [getD_of hvl] at hgr1
      rw [List.getElem?_eq_getElem hvl] at hqc
      obtain ⟨gb, gc, e⟩ := row_addr hgr1 (by have := hok.len; omega)
      rw [e] at hgr1 hqc
      have hql := lt_of_block hqb
      obtain ⟨cur2, hc2⟩ := row_mem hgr1 (g := gb) rfl
      have hgl := lt_of_block hc2
      refine ⟨q, gb, gc, rfl, fun u hu => ?_, fun u hu => ?_, hok⟩
      · rw [hu.cell? (by simp; omega) (by omega), hxa.cell (p := ⟨q, _, none⟩) hql, hqc]
      · refine IntsAt.of_row (hgr1.kept fun g o hg ho => ?_) (by have := hok.len; omega)
        have hg2 : gb = g := by simpa [Value.ownBlock] using hg
        subst hg2
        exact hu.2 _ _ (by omega) (hxa.block ho)))
    have HGK := hid HG.out.2.2.2.1
    have HT10 := hid HG.out.2.2.2.2.2
    have HXA := hid (HX1.out.trans hxa)
    have HM0 : Hid (MetAt (w1.alloc (.cells (madeCells #[.int .i64 0] xs.length) 3)) w1.heap.size xs.length (fun c => (metT ts 0 c : Nat)) (w1.alloc (.cells (madeCells #[.int .i64 0] xs.length) 3))) := hid ⟨KM.refl _ _, by simpa [metT] using hmr⟩
    clear hmr hxa HG
    obtain ⟨mb, hmb⟩ : ∃ mb, mb = w1.heap.size := ⟨_, rfl⟩
    rw [← hmb] at HCX HCR HM0 HMB ⊢
    generalize w1.alloc (.cells (madeCells #[.int .i64 0] xs.length) 3) = wb at *
    clear hmb
    gi_wp2_with fail
    gi_loopw [8, 9, 10, 11, 12] (fun i u9 u10 u11 u12 wr => ∃ m : Nat, m ≤ ts.length ∧ i = .int .i64 m ∧ Hid (Ext w wr ∧ MetAt wb mb xs.length (fun c => (metT ts m c : Nat)) wr)) (fun i _ _ _ _ _ => ts.length - (intOf i).toNat)
    case atStart => exact ⟨0, Nat.zero_le _, rfl, hid ⟨HXA.out, HM0.out⟩⟩
    case round =>
      obtain ⟨m, hm, rfl, HI⟩ := hrel
      by_cases hlt : m < ts.length
      · have hmi : (m : Int) < (ts.length : Int) := by omega
        obtain ⟨q, gb, gc, rfl, hcr, hci, hok⟩ := HCR.out m hlt
        have HLT := hid hlt
        have hgl := hok.len
        have HX := hid HI.out.1
        have HM := hid HI.out.2
        have HMS := hid (fun i => metT_succ (i := i) hlt)
        have HCA := hid (fun i (hi : i < 10) => cnt_all (t := ts[m]) hi)
        generalize ts[m] = tt at *
        obtain ⟨g, hg⟩ : ∃ g, g = numsTo tt 10 := ⟨_, rfl⟩
        rw [← hg] at hcr hci hok hgl HCA
        clear hg hlt HI HM0
        have HCI := hid hci
        have HCRm := hid hcr
        have HOK := hid hok
        have hr := hcr wr HM.out.km
        have hl2 : decide ((g.length : Int) < 2) = false := decide_eq_false (by omega)
        have HGR := hid (fun i (hi : i < g.length) => (show (0 ≤ g[i] ∧ g[i] < (xs.length : Int)) ∧ ∀ (h0 : 0 < i), g[i - 1] < g[i] by
          refine ⟨hok.rng _ (List.getElem_mem hi), fun h0 => ?_⟩
          exact List.pairwise_iff_getElem.1 hok.up (i - 1) i (by omega) hi (by omega)))
        have HRI := hid (Rising_true _ g xs.length wr (hci wr HM.out.km) (by omega) (by omega) HGR.out)
        clear hcr hci hok
        gi_upto_region 11 with (gi_at_call 39; ((with_reducible refine (HRI.out).mono ?_); rintro e w5 ⟨rfl, hx5⟩))
        have HX5 := hid (HX.out.trans hx5)
        have HM5 : Hid (MetAt wb mb xs.length (fun c => (metT ts m c : Int) + (cntT g 0 c : Nat)) w5) := hid ((HM.out.mono hx5).congr fun i _ => by simp [cntT])
        clear hr hl2 HRI hx5 HM HX
        have HB0 := hid (show runL (balF xs) g 0 = 0 by simp [runL])
        have hP10 : g.length ≤ 10 := hgl.2
        have hpw := pow_wrap hP10
        have hmodp : (1 : Int) ≤ ((2 ^ g.length : Nat) : Int) ∧ ((2 ^ g.length : Nat) : Int) ≤ 1024 := by
          have h1 : (2 : Nat) ^ g.length ≤ 2 ^ 10 := Nat.pow_le_pow_right (by omega) hP10
          have h2 : 0 < (2 : Nat) ^ g.length := Nat.pow_pos (by omega)
          have h3 : (2 : Nat) ^ 10 = 1024 := by decide
          omega
        have hmo := modI_ok n hmodp.1
        obtain ⟨S, hS⟩ : ∃ S : Nat, modI n ((2 ^ g.length : Nat) : Int) = S := ⟨(modI n ((2 ^ g.length : Nat) : Int)).toNat, by omega⟩
        have hS10 : S < 1024 := by omega
        have HMO := hid (fun (u : World) => mod_any n ((2 ^ g.length : Nat) : Int) u (by omega))
        rw [hS] at HMO
        obtain ⟨P, hP⟩ : ∃ P : Int, P = ((2 ^ g.length : Nat) : Int) := ⟨_, rfl⟩
        rw [← hP] at hpw HMO
        have HPW := hid hpw
        clear hmo hS hmodp hpw hP
        gi_wp2_with fail
        gi_loopw [9, 10, 11, 12] (fun s p mm i wr => ∃ k : Nat, k ≤ g.length ∧ i = .int .i64 k ∧ s = .int .i64 (runL (balF xs) g k) ∧ p = .int .i64 (runP (balF xs) S g k) ∧ mm = .int .i64 (runM S k : Nat) ∧ Hid (Ext w wr ∧ MetAt wb mb xs.length (fun c => (metT ts m c : Int) + (cntT g k c : Nat)) wr)) (fun _ _ _ i _ => g.length - (intOf i).toNat)
        case atStart => exact ⟨0, Nat.zero_le _, rfl, by rw [HB0.out], rfl, rfl, hid ⟨HX5.out, HM5.out⟩⟩
        case round =>
          obtain ⟨k, hk, rfl, rfl, rfl, rfl, HI⟩ := hrel
          clear HB0 HM5 HX5
          have hr := HCRm.out wr HI.out.2.km
          have hmi2 : (m : Int) < (ts.length : Int) := by have := HLT.out; omega
          by_cases hkl : k < g.length
          · have hki : (k : Int) < (g.length : Int) := by omega
            have hrng := (HGR.out k hkl).1
            obtain ⟨c, hc⟩ : ∃ c : Nat, g[k] = (c : Int) := ⟨g[k].toNat, by omega⟩
            rw [hc] at hrng
            have hci : (c : Int) < (xs.length : Int) := hrng.2
            have hcn : c < xs.length := by omega
            obtain ⟨b, off, rfl, hcx⟩ := HCX.out c hcn
            have HGC := hid (fun (u : World) (hu : KM mb wb u) => (show u.cell? ⟨gb, k, none⟩ = some (.int .i64 c) by
              obtain ⟨a1, c1, e1, _, h⟩ := HCI.out u hu
              cases e1
              obtain ⟨b1, o1, e2, _, h3⟩ := h k hkl
              cases e2
              rw [Nat.zero_add, hc] at h3; exact h3))
            have HCXc := hid hcx
            have hg := HGC.out wr HI.out.2.km
            have hmc := (HI.out.2.cell hcn).1
            have hmf := (HI.out.2.cell hcn).2
            have HK := hid (And.intro hkl (And.intro hcn hgl))
            have HL1 := hid (runL_succ (b := balF xs) hkl)
            have HP1 := hid (runP_succ (b := balF xs) (s := S) hkl)
            have HM1 := hid (show runM S (k + 1) = runM S k + if S.testBit k then 1 else 0 from rfl)
            have HBL := hid (And.intro (runL_bound HB.out g k (by omega)) (And.intro (runP_bound HB.out S g k) (And.intro (HB.out c) (runM_le S k))))
            have HCN := hid (fun i => (show (cntT g (k + 1) i : Nat) = cntT g k i + if i = c then 1 else 0 by
              rw [cntT_succ hkl, hc]
              by_cases h : i = c
              · rw [if_pos h, if_pos (by omega)]
              · rw [if_neg h, if_neg (by omega)]))
            rw [hc, Int.toNat_natCast] at HL1 HP1
            have hMb : 0 ≤ (metT ts m c : Int) + (cntT g k c : Nat) ∧ (metT ts m c : Int) + (cntT g k c : Nat) ≤ 1000 := by
              have h1 := metT_le ts m c
              have h2 : cntT g k c ≤ g.length := Nat.le_trans List.count_le_length (by rw [List.length_take]; omega)
              have h3 := HT10.out
              omega
            have HPUT := hid (HI.out.2.put hcn (M' := fun i => (metT ts m i : Int) + (cntT g (k + 1) i : Nat)) fun i hi => by
              show (metT ts m i : Int) + (cntT g (k + 1) i : Nat) = if i = c then _ else _
              rw [HCN.out i]
              by_cases h : i = c
              · subst h; rw [if_pos rfl, if_pos rfl]; omega
              · rw [if_neg h, if_neg h]; omega)
            have HXR := hid HI.out.1
            have HMBb := HMB.out
            generalize (metT ts m c : Int) + (cntT g k c : Nat) = Mc at *
            have hwm : wrap64 (Mc + 1) = Mc + 1 := wrap_small (by omega) (by omega)
            clear hc hrng hkl hcn hcx HI hMb hgl
            gi_upto_region 15 with fail
            have HX2 := hid (HXR.out.set (b := mb) HMBb c (.int .i64 (Mc + 1)))
            generalize wr.setCell ⟨mb, c, none⟩ (.int .i64 (Mc + 1)) = W2 at *
            clear hr hg hmc hmf hwm HXR HMBb
            obtain ⟨b1, b2, b3, b4⟩ := HBL.out
            have hr := HCRm.out W2 HPUT.out.km
            have hg := HGC.out W2 HPUT.out.km
            have hx := HCXc.out W2 HPUT.out.km
            generalize runL (balF xs) g k = sl at *
            generalize runP (balF xs) S g k = sp at *
            generalize runM S k = sm' at *
            generalize balF xs c = x at *
            have HS2 := hid (wrap_mid (x := sp + x) (by omega) (by omega))
            have HS3 := hid (wrap_mid (x := (sm' : Int) + 1) (by omega) (by omega))
            have hws := wrap_mid (x := sl + x) (by omega) (by omega)
            clear b1 b2 b3 b4
            gi_upto_region 16 with fail
            simp only [hws]
            clear hx hg hws
            have hpw := HPW.out
            have HBT := hid (Bit_any S k W2 hS10 (by have := HK.out; omega))
            cases hbit : S.testBit k with
            | true =>
              rw [hbit] at HBT HP1 HM1
              simp only [if_true] at HP1 HM1
              clear hbit
              have hr := HCRm.out W2 HPUT.out.km
              have hg := HGC.out W2 HPUT.out.km
              have hx := HCXc.out W2 HPUT.out.km
              have hws := HS2.out
              gi_upto_region 18 with (first | (gi_at_call 32; ((with_reducible refine (HMO.out _).mono ?_); rintro e w6 ⟨rfl, rfl⟩)) | (gi_at_call 40; ((with_reducible refine (HBT.out).mono ?_); rintro e w6 ⟨rfl, rfl⟩)))
              simp only [hws]
              clear hr hg hx hws hpw
              have hws := HS3.out
              gi_wp2_with fail
              go_roundw
              case rel => exact ⟨k + 1, by have := HK.out; omega, by go_num, by rw [HL1.out], by rw [HP1.out]; first | done | simp, by rw [HM1.out]; first | rfl | go_num, hid ⟨HX2.out, HPUT.out⟩⟩
              case measure => have := HK.out; simp [intOf]; omega
            | false =>
              rw [hbit] at HBT HP1 HM1
              simp only [Bool.false_eq_true, if_false] at HP1 HM1
              clear hbit
              gi_wp2_with (first | (gi_at_call 32; ((with_reducible refine (HMO.out _).mono ?_); rintro e w6 ⟨rfl, rfl⟩)) | (gi_at_call 40; ((with_reducible refine (HBT.out).mono ?_); rintro e w6 ⟨rfl, rfl⟩)))
              clear hr hpw
              go_roundw
              case rel => exact ⟨k + 1, by have := HK.out; omega, by go_num, by rw [HL1.out], by rw [HP1.out]; first | done | simp, by rw [HM1.out]; first | rfl | go_num, hid ⟨HX2.out, HPUT.out⟩⟩
              case measure => have := HK.out; simp [intOf]; omega
          · obtain rfl : k = g.length := by omega
            have hki : ¬ (g.length : Int) < (g.length : Int) := by omega
            have HMN := hid (HI.out.2.congr (M' := fun c => ((metT ts (m + 1) c : Nat) : Int)) fun i hi => by
              show ((metT ts (m + 1) i : Nat) : Int) = (metT ts m i : Int) + (cntT g g.length i : Nat)
              rw [HMS.out i, HCA.out i (by have := HDB.out.1; omega)]
              omega)
            have HXN := hid HI.out.1
            have HMIN := hid (HOK.out.min S)
            rw [HOK.out.sum]
            generalize runP (balF xs) S g g.length = pp at *
            generalize runM S g.length = mm at *
            clear HI hkl
            have hmt := HLT.out
            have htt := HT10.out
            by_cases hp : pp = 0
            · subst hp
              by_cases hm0 : mm = 0
              · subst hm0
                gi_wp2_with fail
                all_goals first
                  | exact (undef_no' ‹_›).elim
                  | (go_roundw
                     case rel => exact ⟨m + 1, by have := HLT.out; omega, by go_num, hid ⟨HXN.out, HMN.out⟩⟩
                     case measure => have := HLT.out; have := HT10.out; simp [intOf]; omega)
              · have hm1 : 0 < mm := by omega
                have hm2 : ¬ mm < g.length := fun h => HMIN.out rfl (by omega) (by omega)
                clear hm0
                gi_wp2_with fail
                all_goals first
                  | exact (undef_no' ‹_›).elim
                  | (go_roundw
                     case rel => exact ⟨m + 1, by have := HLT.out; omega, by go_num, hid ⟨HXN.out, HMN.out⟩⟩
                     case measure => have := HLT.out; have := HT10.out; simp [intOf]; omega)
            · have hpb : (pp == 0) = false := by simpa using hp
              clear hp
              gi_wp2_with fail
              all_goals first
                | exact (undef_no' ‹_›).elim
                | (go_roundw
                   case rel => exact ⟨m + 1, by have := HLT.out; omega, by go_num, hid ⟨HXN.out, HMN.out⟩⟩
                   case measure => have := HLT.out; have := HT10.out; simp [intOf]; omega)
      · obtain rfl : m = ts.length := by omega
        have hmi : ¬ (ts.length : Int) < (ts.length : Int) := by omega
        have HX9 := hid HI.out.1
        have HM9 := hid (HI.out.2.congr (M' := fun c => if balF xs c = 0 then 0 else 1) fun i hi => by
          show (if balF xs i = 0 then (0 : Int) else 1) = ((metT ts ts.length i : Nat) : Int)
          rw [met_all HGK.out (openTo_nz xs) hi]
          split <;> rfl)
        clear HI HM0 hlt
        gi_wp2_with fail
        gi_loopw [13] (fun i wr => ∃ c : Nat, c ≤ xs.length ∧ i = .int .i64 c ∧ Hid (Ext w wr ∧ MetAt wb mb xs.length (fun c => if balF xs c = 0 then 0 else 1) wr)) (fun i _ => xs.length - (intOf i).toNat)
        case atStart => exact ⟨0, Nat.zero_le _, rfl, hid ⟨HX9.out, HM9.out⟩⟩
        case round =>
          obtain ⟨c, hc, rfl, HI⟩ := hrel
          clear HM9 HX9
          by_cases hcl : c < xs.length
          · have hci : (c : Int) < (xs.length : Int) := by omega
            obtain ⟨b, off, rfl, hcx⟩ := HCX.out c hcl
            have c1 : ∀ e : Later wr, e.1.cell? ⟨b, off + c, none⟩ = some (.int .i64 (balF xs c)) := fun e => hcx _ (HI.out.2.mono e.grown).km
            have HMC := hid (fun (u : World) (hu : Ext wr u) => ((HI.out.2.mono hu).cell hcl).1)
            have HXR := hid HI.out.1
            have HMR := hid HI.out.2
            have HCL := hid hcl
            generalize balF xs c = x at *
            clear HI hcx hcl
            by_cases hx : x = 0
            · subst hx
              have c2 : ∀ e : Later wr, e.1.cell? ⟨mb, c, none⟩ = some (.int .i64 0) := fun e => (HMC.out _ e.grown).trans (by rw [if_pos rfl])
              clear HMC
              gi_upto_region 24 with fail
              refine quiet_wide 18 (by kernel_rfl) (by kernel_rfl) ?_
              simp only [List.take_succ_cons, List.take_zero, List.drop_succ_cons, List.drop_zero]
              repeat (any_goals (first | go_big_quiet_step (fail) | quiet_step (fail)))
              refine wpQuiet_nil ?_
              rintro w6 ⟨⟨w6q, hx5⟩, hew5⟩
              obtain rfl : w6 = w6q := hew5
              have HX6 : Hid (Ext wr w6) := hid (show Ext wr w6 from hx5)
              clear hx5
              clear c1 c2
              gi_wp2_with fail
              all_goals first
                | exact (undef_no' ‹_›).elim
                | (go_roundw
                   case rel => exact ⟨c + 1, by have := HCL.out; omega, by go_num, hid ⟨HXR.out.trans HX6.out, HMR.out.mono HX6.out⟩⟩
                   case measure => have := HCL.out; simp [intOf]; omega)
            · have c2 : ∀ e : Later wr, e.1.cell? ⟨mb, c, none⟩ = some (.int .i64 1) := fun e => (HMC.out _ e.grown).trans (by rw [if_neg hx])
              have hxb : (x == 0) = false := by simpa using hx
              have hxn : (x != 0) = true := by simpa using hx
              clear HMC hx
              gi_upto_region 24 with fail
              refine quiet_wide 18 (by kernel_rfl) (by kernel_rfl) ?_
              simp only [List.take_succ_cons, List.take_zero, List.drop_succ_cons, List.drop_zero]
              repeat (any_goals (first | go_big_quiet_step (fail) | quiet_step (fail)))
              refine wpQuiet_nil ?_
              rintro w6 ⟨⟨w6q, hx5⟩, hew5⟩
              obtain rfl : w6 = w6q := hew5
              have HX6 : Hid (Ext wr w6) := hid (show Ext wr w6 from hx5)
              clear hx5
              clear c1 c2
              gi_wp2_with fail
              all_goals first
                | exact (undef_no' ‹_›).elim
                | (go_roundw
                   case rel => exact ⟨c + 1, by have := HCL.out; omega, by go_num, hid ⟨HXR.out.trans HX6.out, HMR.out.mono HX6.out⟩⟩
                   case measure => have := HCL.out; simp [intOf]; omega)
          · obtain rfl : c = xs.length := by omega
            have hci : ¬ (xs.length : Int) < (xs.length : Int) := by omega
            have HXE := hid HI.out.1
            clear HI hcl
            gi_wp2_with (gi_at_call 18; ((with_reducible refine (HWK.out _).mono ?_); rintro e w9 ⟨rfl, hx9⟩; have HXD := hid (HXE.out.trans hx9); clear hx9))
            go_ret
            exact ⟨rfl, HXD.out⟩

end Go.Proofs.YtjocoadhalimjaaGreat
