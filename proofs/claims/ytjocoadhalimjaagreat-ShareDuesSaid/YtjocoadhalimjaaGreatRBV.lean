/- The reference: the place of a lender; what is divided. -/
import Derived.Test.YtjocoadhalimjaaGreatRBR
import Derived.Test.YtjocoadhalimjaaGreatRBM
import Derived.Test.YtjocoadhalimjaaGreatRAT
import Derived.Test.YtjocoadhalimjaaGreatRBL
import Derived.Test.YtjocoadhalimjaaGreatRBJ
set_option linter.unusedSimpArgs false
set_option linter.unusedVariables false
namespace Go.Proofs.YtjocoadhalimjaaGreat
section
open Go Go.RowKit Go.Shelf

set_option maxRecDepth 100000 in
set_option maxHeartbeats 8000000 in
theorem place_any (V : Voy) (s : VS) (nm : ByteArray) (w : World) (h : VoyAt w V s) : Cal 76 #[.agg (voyA V s), .string nm] w fun e w' => e = .returned (.int .i64 (placeN (nmsOf V.le) nm)) ∧ Ext w w' := by
  have HX0 : Hid (Ext w (w.alloc (.cells (voyA V s) 32))) := hid ((Ext.refl _).alloc _)
  have HB0 : Hid ((w.alloc (.cells (voyA V s) 32)).heap[w.heap.size]? = some (.cells (voyA V s) 32 (0, 0))) := hid (Ext.new (Ext.refl _))
  have HST := hid (fun (k : Nat) (hk : k < V.le.length) => (show ∃ b off, s.la = some ⟨b, off, none⟩ ∧ ∀ u, Ext w u → u.cell? ⟨b, off + k * 2, none⟩ = some (.string V.le[k].name) by
    obtain ⟨a1, c1, e, _, hc⟩ := h.le
    obtain ⟨e1, _, _⟩ := Value.slice.inj e
    obtain ⟨b, off, e2, hb, h0, _⟩ := hc k hk
    exact ⟨b, off, e1.trans e2, fun u hu => by rw [hu.cell (p := ⟨b, _, none⟩) hb, h0]⟩))
  have HLL : Hid (V.le.length ≤ 1000000000000000) := hid (by obtain ⟨a1, c1, e, h1, hc⟩ := h.le; exact h1.2)
  clear h
  unfold voyA at *
  gi_enter Tryz.func76, Tryz.ntmps76
  gi_wp2_with fail
  generalize w.alloc (.cells _ 32) = wa at *
  obtain ⟨bx, hbx⟩ : ∃ bx, bx = w.heap.size := ⟨_, rfl⟩
  rw [← hbx] at HB0 ⊢
  clear hbx
  gi_loopw [4, 5] (fun ur i wr => wr = wa ∧ ∃ k : Nat, k ≤ V.le.length ∧ i = .int .i64 k ∧ Hid (∀ j (hj : j < V.le.length), j < k → (V.le[j].name.toList == nm.toList) = false)) (fun _ i _ => V.le.length - (intOf i).toNat)
  case atStart => exact ⟨rfl, 0, Nat.zero_le _, rfl, hid fun j _ h => by omega⟩
  case round =>
    obtain ⟨rfl, k, hk, rfl, HI⟩ := hrel
    have hll := HLL.out
    by_cases hlt : k < V.le.length
    · have hki : (k : Int) < (V.le.length : Int) := by omega
      obtain ⟨b, off, hsa, hc⟩ := HST.out k hlt
      have c0 := (cell_of HB0.out 6).trans (show some (Value.slice s.la V.le.length s.lc) = some (Value.slice (some ⟨b, off, none⟩) V.le.length s.lc) by rw [hsa])
      have c1 := hc _ HX0.out
      by_cases he : V.le[k].name.toList = nm.toList
      · have HF := hid (show placeN (nmsOf V.le) nm = k by
          refine placeN_at (k := k) (by simp [nmsOf]; exact hlt) (fun j hj => ?_) (by simpa [nmsOf] using he)
          have := HI.out j (by omega) hj
          rw [getD_of (by simp [nmsOf]; omega)]
          simpa [nmsOf] using this)
        have heb : (V.le[k].name.toList == nm.toList) = true := by simpa using he
        generalize V.le[k].name = x at *
        clear HI hc hsa he
        gi_wp2_with fail
        go_ret
        exact ⟨by rw [HF.out]; rfl, HX0.out⟩
      · have HU : Hid (∀ j (hj : j < V.le.length), j < k + 1 → (V.le[j].name.toList == nm.toList) = false) := hid fun j hj hjk => by
          by_cases h : j < k
          · exact HI.out j hj h
          · obtain rfl : j = k := by omega
            simpa using he
        have heb : (V.le[k].name.toList == nm.toList) = false := by simpa using he
        have HLT := hid hlt
        generalize V.le[k].name = x at *
        clear HI hc hsa he hlt
        gi_wp2_with fail
        go_roundw
        case rel => exact ⟨by first | rfl | trivial, k + 1, by have := HLT.out; omega, by go_num, HU⟩
        case measure => have := HLT.out; simp [intOf]; omega
    · obtain rfl : k = V.le.length := by omega
      have hki : ¬ (V.le.length : Int) < (V.le.length : Int) := by omega
      have HF := hid (show placeN (nmsOf V.le) nm = -1 from placeN_none fun j hj => by
        have hj2 : j < V.le.length := by simpa [nmsOf] using hj
        rw [getD_of hj]
        simpa [nmsOf] using HI.out j hj2 hj2)
      have c0 := (cell_of HB0.out 6).trans (show some (Value.slice s.la V.le.length s.lc) = some (Value.slice s.la V.le.length s.lc) from rfl)
      clear HI hlt
      gi_wp2_with fail
      go_ret
      exact ⟨by rw [HF.out]; rfl, HX0.out⟩
end
section
open Go Go.RowKit Go.Shelf

theorem cells_pay {w : World} {g cap : Nat} {ps : List Py} (h : Row w 74 3 (.slice (some ⟨g, 0, none⟩) ps.length cap) ps.length (pysF ps)) {k : Nat} (hk : k < ps.length) :
    w.cell? ⟨g, k * 3, none⟩ = some (.int .i64 ps[k].a) ∧ w.cell? ⟨g, k * 3 + 1, none⟩ = some (.int .i64 ps[k].z) ∧ w.cell? ⟨g, k * 3 + 2, none⟩ = some (.int .i64 ps[k].s) := by
  obtain ⟨g', c', e, hc⟩ := row_src h (by omega)
  cases e
  obtain ⟨k0, k1, k2⟩ := pysF_get ps k hk
  have h0 := hc _ _ k0
  have h1 := hc _ _ k1
  have h2 := hc _ _ k2
  rw [Addr.add_mid, Nat.zero_add] at h0 h1 h2
  exact ⟨h0, h1, h2⟩
/-- Before the store, and after it. -/
def oneJ (w0 wa wb : World) (k : Nat) : InvJ := fun L x u => Ext w0 u ∧ (L k = false → u = wa) ∧ (L k = true → u = wb)
theorem oneJ_start {w0 wa wb : World} {k : Nat} (h : Ext w0 wa) : oneJ w0 wa wb k (fun _ => false) (fun _ => undef) wa := ⟨h, fun _ => rfl, fun h => (by cases h)⟩
theorem oneJ_other {w0 wa wb u : World} {k q : Nat} {L : Nat → Bool} {x : Nat → Value} (h : oneJ w0 wa wb k L x u) (hq : k ≠ q) : oneJ w0 wa wb k (updL L q) x u := by
  unfold oneJ updL at *
  rw [if_neg hq]; exact h
theorem oneJ_set {w0 wa wb u : World} {k : Nat} {L : Nat → Bool} {x : Nat → Value} (h : oneJ w0 wa wb k L x u) (hL : L k = false) (hb : Ext w0 wb) : u = wa ∧ oneJ w0 wa wb k (updL L k) x wb := by
  refine ⟨h.2.1 hL, ?_⟩
  unfold oneJ updL
  rw [if_pos rfl]
  exact ⟨hb, fun h => (by cases h), fun _ => rfl⟩
theorem mem_set_or {α : Type} {l : List α} {k : Nat} {q x : α} (h : x ∈ l.set k q) : x = q ∨ x ∈ l := by
  rcases List.mem_or_eq_of_mem_set h with h | h
  · exact .inr h
  · exact .inl h
def twiceTo (xs : List Int) (k : Nat) : List Int := (xs.take k).map fun x => 2 * x
theorem twiceTo_succ (xs : List Int) {k : Nat} (h : k < xs.length) : twiceTo xs (k + 1) = twiceTo xs k ++ [2 * xs[k]] := by
  unfold twiceTo; rw [List.take_succ_eq_append_getElem h, List.map_append]; rfl
theorem twiceTo_len (xs : List Int) {k : Nat} (h : k ≤ xs.length) : (twiceTo xs k).length = k := by unfold twiceTo; simp; omega
set_option maxRecDepth 100000 in
set_option maxHeartbeats 16000000 in
theorem ShareSpoilt_any (v : Value) (xs : List Int) (n : Int) (w : World) (hv : IntsAt w v xs) (hll : xs.length ≤ 1000000000000000) : Cal 13 #[v, .int .i64 n] w fun e w' => e = .returned (.bool true) ∧ Ext w w' := by
  have HV := hid hv
  obtain ⟨va, vc, rfl, _⟩ := id hv
  have HOW := hid (fun (u : World) (hu : Ext w u) => owing_any _ xs u (hv.mono hu) hll)
  have HWK := hid (fun (u : World) => works_any u)
  cases hd : debtsB xs with
  | false =>
    have HCL := hid (Clear_bad _ xs w hv hd)
    clear hv hd hll
    gi_enter Tryz.func13, Tryz.ntmps13
    gi_wp2_with (first | (gi_at_call 41; ((with_reducible refine (HCL.out).mono ?_); rintro e w1 ⟨rfl, hx1⟩; have HX := hid hx1; clear hx1)) | (gi_at_call 18; ((with_reducible refine (HWK.out _).mono ?_); rintro e w4 ⟨rfl, hx4⟩; have HX := hid (HX.out.trans hx4); clear hx4)))
    go_ret
    exact ⟨rfl, HX.out⟩
  | true =>
    have HDB := hid (debts_ok hd)
    have HCL := hid (Clear_ok _ xs w hv hd)
    have HIS := hid (fun (u : World) (hu : Ext w u) (pv : Value) (ps : List Py) (hp : PaysAt u pv ps) (hs : ∀ p ∈ ps, sm p) => IsClear_ok _ pv xs ps u (hv.mono hu) hp hs hd)
    rw [hd] at HOW
    clear hv hd hll
    gi_enter Tryz.func13, Tryz.ntmps13
    gi_upto_region 2 with (gi_at_call 41; ((with_reducible refine (HCL.out).mono ?_); rintro e w1 ⟨lr, ps, rfl, hx1, HC⟩))
    obtain ⟨la, lc, rfl⟩ := HC.out.1.isSliceN
    have HX1 := hid hx1
    clear hx1 HCL
    have HPL : Hid (ps.length ≤ 10) := hid (by
      obtain ⟨k, hk, hn⟩ := HC.out.2.2.few
      have h1 : nzC xs ≤ xs.length := nzTo_le xs xs.length
      have := HDB.out.1
      omega)
    by_cases hp0 : ps.length = 0
    · have hz : ((ps.length : Int) == 0) = true := by rw [beq_iff_eq]; omega
      clear hp0
      gi_wp2_with (first | (gi_at_call 38; ((with_reducible refine (HOW.out _ HX1.out).mono ?_); rintro e w3 ⟨rfl, rfl⟩)) | (gi_at_call 18; ((with_reducible refine (HWK.out _).mono ?_); rintro e w4 ⟨rfl, hx4⟩; have HX := hid (HX1.out.trans hx4); clear hx4)))
      go_ret
      exact ⟨rfl, HX.out⟩
    · have hz : ((ps.length : Int) == 0) = false := by rw [beq_eq_false_iff_ne]; omega
      have hmo := modI_ok n (m := (ps.length : Int)) (by omega)
      obtain ⟨j, hj⟩ : ∃ j : Nat, modI n ps.length = j := ⟨(modI n ps.length).toNat, by omega⟩
      have hjl : j < ps.length := by omega
      have HM := hid (fun (u : World) => mod_any n ps.length u (by have := HPL.out; omega))
      rw [hj] at HM
      have hpl := HPL.out
      obtain ⟨g, cap, e⟩ := row_addr HC.out.1 (by omega)
      cases e
      have hpc : ps.length ≤ lc := by
        rcases HC.out.1.2 with ⟨e, _⟩ | ⟨g', cap', cur, e, _, h1, _⟩
        · cases e
        · cases e; exact h1
      clear hmo hj hp0
      obtain ⟨i0, hi0, hz0, hz1, hz2⟩ := info_parts info74
      have HZ := hid (And.intro hi0 (And.intro hz0 (And.intro hz1 hz2)))
      clear hi0 hz0 hz1 hz2
      gi_upto_region 6 with (first | (gi_at_call 38; ((with_reducible refine (HOW.out _ HX1.out).mono ?_); rintro e w3 ⟨rfl, rfl⟩)) | (gi_at_call 32; ((with_reducible refine (HM.out _).mono ?_); rintro e w4 ⟨rfl, rfl⟩)) | (refine wpIn_append_many (fun _ => trivial) rfl (.tmp 43) (.tmp 44) rfl Tryz.underlying67 HZ.out.1 HZ.out.2.1 HZ.out.2.2.1 HZ.out.2.2.2 (by simp [Value.cells]) (by omega) (v := .slice (some ⟨w1.heap.size, 0, none⟩) 0 0) rfl (row_empty w1 74 3) rfl (HC.out.1.mono ((Ext.refl w1).alloc _)) (pysF_one ps) (by omega) (by omega) ?_; intro v5 w5 hrow5 hgr5 how5))
      have hx15 : Ext w1 w5 := ext_grown ((Ext.refl w1).alloc _) hgr5 fun g' hg' => by cases hg'; exact Nat.le_refl _
      rw [Nat.zero_add, List.nil_append] at hrow5
      obtain ⟨mg, mcap, rfl⟩ := row_addr hrow5 (by omega)
      have hmg : w1.heap.size ≤ mg := by rcases how5 with e | e <;> cases e <;> simp
      have hmc : ps.length ≤ mcap := by
        rcases hrow5.2 with ⟨e, _⟩ | ⟨g', cap', cur, e, _, h1, _⟩
        · cases e
        · cases e; exact h1
      obtain ⟨wd, hwd⟩ : ∃ wd : World, wd = { w5 with drawn := w5.drawn + 1 } := ⟨_, rfl⟩
      have hxd : Ext w5 wd := by rw [hwd]; exact Ext.drawn _
      obtain ⟨cur, hcur, hcsz, hrowb⟩ := pays_set (hrow5.mono hxd) hjl ⟨ps[j].a, ps[j].z, ps[j].s + 1⟩
      have hxb := ext_setRow (g := mg) (hx15.trans hxd) hmg (cur.toList.take (j * 3) ++ [Value.int .i64 ps[j].a, .int .i64 ps[j].z, .int .i64 (ps[j].s + 1)] ++ cur.toList.drop (j * 3 + 3)).toArray
      have HPC := hid (fun (u : World) (hu : Ext w1 u) => cells_pay (HC.out.1.mono hu) hjl)
      have hgood := HC.out.2.2.good ps[j] (List.getElem_mem hjl)
      have HSP := hid (And.intro (spoilt_more HDB.out.1 HC.out.2.2.zero hjl hgood.1) (spoilt_less HDB.out.1 HC.out.2.2.zero hjl hgood.1))
      have hsm := sm_of hgood
      have hs1 : ps[j].s ≤ 1000000 := hgood.2
      have hs0 : 0 < ps[j].s := (pyGood_iff.1 hgood.1).2.2.2
      have HQ : Hid (∀ p ∈ ps.set j ⟨ps[j].a, ps[j].z, ps[j].s + 1⟩, sm p) := hid fun p hp => by
        rcases List.mem_or_eq_of_mem_set hp with h | h
        · exact sm_of (HC.out.2.2.good p h)
        · subst h; show -9223372036854775808 ≤ ps[j].s + 1 ∧ ps[j].s + 1 ≤ 9223372036854775807; omega
      have HRB : Hid (Row (wd.setRow mg (cur.toList.take (j * 3) ++ [Value.int .i64 ps[j].a, .int .i64 ps[j].z, .int .i64 (ps[j].s + 1)] ++ cur.toList.drop (j * 3 + 3)).toArray) 74 3 (.slice (some ⟨mg, 0, none⟩) ps.length mcap) ps.length (pysF (ps.set j ⟨ps[j].a, ps[j].z, ps[j].s + 1⟩))) := hid hrowb
      have hwp : wrap64 (ps[j].s + 1) = ps[j].s + 1 := by unfold wrap64; omega
      have hwq : IntKind.i64.wrap (ps[j].s + 1) = ps[j].s + 1 := by rw [IntKind.wrap_i64]; omega
      have HJL := hid hjl
      have HLS := hid (fun (p2 : Addr) (c2 : Nat) (u : World) (hu : Ext w1 u) (hp : j + 1 < ps.length → p2 = ⟨g, (j + 1) * 3, none⟩) => less_pays (c1 := lc) (c2 := c2) hu HC.out.1 hjl (by omega) hp)
      have HCB := hid (And.intro hcur (And.intro hcsz hxb))
      clear hgood hsm hs0 hs1 hrowb hrow5 hgr5 how5 hcur hcsz hxb hz
      have hji : (j : Int) < (ps.length : Int) := by omega
      generalize ps[j] = pj at *
      obtain ⟨wb, hwb⟩ : ∃ wb, wb = wd.setRow mg (cur.toList.take (j * 3) ++ [Value.int .i64 pj.a, .int .i64 pj.z, .int .i64 (pj.s + 1)] ++ cur.toList.drop (j * 3 + 3)).toArray := ⟨_, rfl⟩
      rw [← hwb] at HCB HRB
      have HWB := hid hwb
      clear hwb
      have HST : oneJ w1 wd wb 20 (fun _ => false) (fun _ => undef) { w5 with drawn := w5.drawn + 1 } := by rw [← hwd]; exact oneJ_start (hx15.trans hxd)
      refine jj_own 21 [] _ (by kernel_rfl) (by kernel_rfl) HST ?_
      simp only [List.take_succ_cons, List.take_zero, List.drop_succ_cons, List.drop_zero]
      clear hwd HST
      apply jj_fun (by decide)
      · intro L x u hL hd hJ
        have HJ := hid hJ
        clear hJ hd hL
        go_simp
        exact ⟨rfl, HJ.out⟩
      simp only [Act.put, List.setIfInBounds_toArray, List.set_cons_succ, List.set_cons_zero]
      apply jj_fun (by decide)
      · intro L x u hL hd hJ
        have HJ := hid hJ
        clear hJ hd hL
        go_simp
        exact ⟨rfl, HJ.out⟩
      simp only [Act.put, List.setIfInBounds_toArray, List.set_cons_succ, List.set_cons_zero]
      apply jj_fun (by decide)
      · intro L x u hL hd hJ
        have HJ := hid hJ
        clear hJ hd hL
        go_simp
        exact ⟨rfl, HJ.out⟩
      simp only [Act.put, List.setIfInBounds_toArray, List.set_cons_succ, List.set_cons_zero]
      apply jj_fun (by decide)
      · intro L x u hL hd hJ
        have HJ := hid hJ
        clear hJ hd hL
        go_simp
        exact ⟨rfl, HJ.out⟩
      simp only [Act.put, List.setIfInBounds_toArray, List.set_cons_succ, List.set_cons_zero]
      apply jj_fun (by decide)
      · intro L x u hL hd hJ
        have HJ := hid hJ
        clear hJ hd hL
        go_simp
        exact ⟨rfl, HJ.out⟩
      simp only [Act.put, List.setIfInBounds_toArray, List.set_cons_succ, List.set_cons_zero]
      apply jj_fun (by decide)
      · intro L x u hL hd hJ
        have HJ := hid hJ
        clear hJ hd hL
        go_simp
        exact ⟨rfl, HJ.out⟩
      simp only [Act.put, List.setIfInBounds_toArray, List.set_cons_succ, List.set_cons_zero]
      apply jj_fun (by decide)
      · intro L x u hL hd hJ
        obtain ⟨c0, c1, c2⟩ := HPC.out _ hJ.1
        have HJ := hid hJ
        clear hJ hd hL
        go_simp
        exact ⟨rfl, HJ.out⟩
      simp only [Act.put, List.setIfInBounds_toArray, List.set_cons_succ, List.set_cons_zero]
      apply jj_fun (by decide)
      · intro L x u hL hd hJ
        have HJ := hid hJ
        clear hJ hd hL
        go_simp
        exact ⟨rfl, HJ.out⟩
      simp only [Act.put, List.setIfInBounds_toArray, List.set_cons_succ, List.set_cons_zero]
      apply jj_fun (by decide)
      · intro L x u hL hd hJ
        have HJ := hid hJ
        clear hJ hd hL
        go_simp
        exact ⟨rfl, HJ.out⟩
      simp only [Act.put, List.setIfInBounds_toArray, List.set_cons_succ, List.set_cons_zero]
      apply jj_fun (by decide)
      · intro L x u hL hd hJ
        have HJ := hid hJ
        clear hJ hd hL
        go_simp
        exact ⟨rfl, HJ.out⟩
      simp only [Act.put, List.setIfInBounds_toArray, List.set_cons_succ, List.set_cons_zero]
      apply jj_fun (by decide)
      · intro L x u hL hd hJ
        have HJ := hid hJ
        clear hJ hd hL
        go_simp
        exact ⟨rfl, HJ.out⟩
      simp only [Act.put, List.setIfInBounds_toArray, List.set_cons_succ, List.set_cons_zero]
      apply jj_fun (by decide)
      · intro L x u hL hd hJ
        obtain ⟨c0, c1, c2⟩ := HPC.out _ hJ.1
        have HJ := hid hJ
        clear hJ hd hL
        go_simp
        exact ⟨rfl, HJ.out⟩
      simp only [Act.put, List.setIfInBounds_toArray, List.set_cons_succ, List.set_cons_zero]
      apply jj_fun (by decide)
      · intro L x u hL hd hJ
        have HJ := hid hJ
        clear hJ hd hL
        go_simp
        exact ⟨rfl, HJ.out⟩
      simp only [Act.put, List.setIfInBounds_toArray, List.set_cons_succ, List.set_cons_zero]
      apply jj_fun (by decide)
      · intro L x u hL hd hJ
        have HJ := hid hJ
        clear hJ hd hL
        go_simp
        exact ⟨rfl, HJ.out⟩
      simp only [Act.put, List.setIfInBounds_toArray, List.set_cons_succ, List.set_cons_zero]
      apply jj_fun (by decide)
      · intro L x u hL hd hJ
        have HJ := hid hJ
        clear hJ hd hL
        go_simp
        exact ⟨rfl, HJ.out⟩
      simp only [Act.put, List.setIfInBounds_toArray, List.set_cons_succ, List.set_cons_zero]
      apply jj_fun (by decide)
      · intro L x u hL hd hJ
        have HJ := hid hJ
        clear hJ hd hL
        go_simp
        exact ⟨rfl, HJ.out⟩
      simp only [Act.put, List.setIfInBounds_toArray, List.set_cons_succ, List.set_cons_zero]
      apply jj_fun (by decide)
      · intro L x u hL hd hJ
        obtain ⟨c0, c1, c2⟩ := HPC.out _ hJ.1
        have HJ := hid hJ
        clear hJ hd hL
        go_simp
        exact ⟨rfl, HJ.out⟩
      simp only [Act.put, List.setIfInBounds_toArray, List.set_cons_succ, List.set_cons_zero]
      apply jj_fun (by decide)
      · intro L x u hL hd hJ
        have HJ := hid hJ
        clear hJ hd hL
        go_simp
        exact ⟨rfl, HJ.out⟩
      simp only [Act.put, List.setIfInBounds_toArray, List.set_cons_succ, List.set_cons_zero]
      apply jj_fun (by decide)
      · intro L x u hL hd hJ
        have HJ := hid hJ
        clear hJ hd hL
        go_simp
        exact ⟨rfl, HJ.out⟩
      simp only [Act.put, List.setIfInBounds_toArray, List.set_cons_succ, List.set_cons_zero]
      apply jj_fun (by decide)
      · intro L x u hL hd hJ
        have HJ := hid hJ
        clear hJ hd hL
        go_simp
        exact ⟨rfl, HJ.out⟩
      simp only [Act.put, List.setIfInBounds_toArray, List.set_cons_succ, List.set_cons_zero]
      refine jj_fun (v := undef) (by decide) ?_ ?_
      · intro L x u hL hd hJ
        obtain ⟨rfl, hJ2⟩ := oneJ_set hJ hL HCB.out.2.2
        rw [if_pos (show Region.wanted _ _ = true from rfl)]
        refine gives_store 74 (.tmp 65) (.tmp 64) rfl rfl (cells := #[.int .i64 pj.a, .int .i64 pj.z, .int .i64 (pj.s + 1)]) rfl HCB.out.1 (by kernel_rfl) HCB.out.2.1 (by simp [Value.oneCell']) ?_
        exact ⟨⟨rfl, Eq.mp (congrArg (oneJ w1 u wb 20 (updL L 20) x) HWB.out) hJ2⟩, trivial⟩
      simp only [Act.put, List.setIfInBounds_toArray, List.set_cons_succ, List.set_cons_zero]
      refine jj_nil fun L x u hall hJ => ?_
      have hub := hJ.2.2 (hall 20 (by omega))
      have hxu := hJ.1
      clear hall hJ x L
      rw [← hub] at HRB
      have HX6 := hid hxu
      clear hub hxu HCB hx15 hxd hmg
      clear hwp hwq HWB
      gi_upto_region 7 with fail
      obtain ⟨w7, hw7⟩ : ∃ wd : World, wd = { u with drawn := u.drawn + 1 } := ⟨_, rfl⟩
      have hx7 : Ext u w7 := by rw [hw7]; exact Ext.drawn _
      obtain ⟨p2, hp2, hpe⟩ : ∃ p2 : Addr, (if lc = j + 1 then some ⟨g, 0, none⟩ else some ⟨g, (j + 1) * 3, none⟩ : Option Addr) = some p2 ∧ (j + 1 < ps.length → p2 = ⟨g, (j + 1) * 3, none⟩) := by
        by_cases hs : lc = j + 1
        · exact ⟨_, if_pos hs, fun h => by omega⟩
        · exact ⟨_, if_neg hs, fun _ => rfl⟩
      have HP2 : Hid (Value.slice (if lc = j + 1 then some ⟨g, 0, none⟩ else some ⟨g, (j + 1) * 3, none⟩) (ps.length - (j + 1)) (lc - (j + 1)) = .slice (some p2) (ps.length - (j + 1)) (lc - (j + 1))) := by show _ = _; rw [hp2]
      clear hp2
      obtain ⟨v1, w8, hrun1, hx8, v2, w9, hrun2, hrow2, hx9⟩ := HLS.out p2 (lc - (j + 1)) w7 (HX6.out.trans hx7) hpe
      have hxa : Ext w7 (w7.alloc (.cells #[] 74)) := (Ext.refl _).alloc _
      have HR1 := hid hrun1
      have HR2 := hid hrun2
      have HXX := hid (And.intro hx7 (And.intro hxa (And.intro hx8 hx9)))
      have HLE := hid hrow2
      have HST : fewJ w7 (w7.alloc (.cells #[] 74)) w8 w9 0 4 9 (fun _ => false) (fun _ => undef) { u with drawn := u.drawn + 1 } := by rw [← hw7]; exact fewJ_start
      clear hpe hrun1 hrun2 hrow2 hx8 hx9 hxa hx7 HLS
      have hk1 : j ≤ lc := by omega
      have hk2 : (j : Int) ≤ lc := by omega
      have hk3 : j + 1 ≤ ps.length := by omega
      have hk4 : (j : Int) + 1 ≤ ps.length := by omega
      have hkw : IntKind.i64.wrap ((j : Int) + 1) = (j : Int) + 1 := by rw [IntKind.wrap_i64]; omega
      refine jj_own 10 [] _ (by kernel_rfl) (by kernel_rfl) HST ?_
      simp only [List.take_succ_cons, List.take_zero, List.drop_succ_cons, List.drop_zero]
      clear hw7 HST
      refine jj_fun (v := .slice (some ⟨w7.heap.size, 0, none⟩) 0 0) (by decide) ?_ ?_
      · intro L x u hL hd hJ
        obtain ⟨rfl, hJ2⟩ := fewJ_0 hJ hL (by decide) (by decide)
        have HJ := hid hJ2
        clear hJ hJ2 hd hL
        go_simp
        exact HJ.out
      simp only [Act.put, List.setIfInBounds_toArray, List.set_cons_succ, List.set_cons_zero]
      apply jj_fun (by decide)
      · intro L x u hL hd hJ
        have HJ := hid hJ
        clear hJ hd hL
        go_simp
        exact ⟨rfl, HJ.out⟩
      simp only [Act.put, List.setIfInBounds_toArray, List.set_cons_succ, List.set_cons_zero]
      apply jj_fun (by decide)
      · intro L x u hL hd hJ
        have HJ := hid hJ
        clear hJ hd hL
        go_simp
        exact ⟨rfl, HJ.out⟩
      simp only [Act.put, List.setIfInBounds_toArray, List.set_cons_succ, List.set_cons_zero]
      apply jj_fun (by decide)
      · intro L x u hL hd hJ
        have HJ := hid hJ
        clear hJ hd hL
        go_simp
        exact ⟨rfl, HJ.out⟩
      simp only [Act.put, List.setIfInBounds_toArray, List.set_cons_succ, List.set_cons_zero]
      refine jj_fun (v := v1) (by decide) ?_ ?_
      · intro L x u hL hd hJ
        obtain ⟨rfl, hJ2⟩ := fewJ_1 hJ (hd.1 rfl) hL (by decide) (by decide)
        rw [if_pos (show Region.wanted _ _ = true from rfl)]
        exact gives_append (.tmp 66) (.tmp 69) 67 rfl rfl rfl HR1.out ⟨⟨rfl, hJ2⟩, trivial⟩
      simp only [Act.put, List.setIfInBounds_toArray, List.set_cons_succ, List.set_cons_zero]
      apply jj_fun (by decide)
      · intro L x u hL hd hJ
        have HJ := hid hJ
        clear hJ hd hL
        go_simp
        exact ⟨rfl, HJ.out⟩
      simp only [Act.put, List.setIfInBounds_toArray, List.set_cons_succ, List.set_cons_zero]
      apply jj_fun (by decide)
      · intro L x u hL hd hJ
        have HJ := hid hJ
        clear hJ hd hL
        go_simp
        exact ⟨rfl, HJ.out⟩
      simp only [Act.put, List.setIfInBounds_toArray, List.set_cons_succ, List.set_cons_zero]
      apply jj_fun (by decide)
      · intro L x u hL hd hJ
        have HJ := hid hJ
        clear hJ hd hL
        go_simp
        exact ⟨rfl, HJ.out⟩
      simp only [Act.put, List.setIfInBounds_toArray, List.set_cons_succ, List.set_cons_zero]
      apply jj_fun (by decide)
      · intro L x u hL hd hJ
        have HJ := hid hJ
        clear hJ hd hL
        go_simp
        exact ⟨rfl, HJ.out⟩
      simp only [Act.put, List.setIfInBounds_toArray, List.set_cons_succ, List.set_cons_zero]
      refine jj_fun (v := v2) (by decide) ?_ ?_
      · intro L x u hL hd hJ
        obtain ⟨rfl, hJ2⟩ := fewJ_2 hJ (hd.1 rfl) hL (by decide) (by decide)
        rw [if_pos (show Region.wanted _ _ = true from rfl)]
        exact gives_append (.tmp 70) (.tmp 74) 67 rfl rfl HP2.out HR2.out ⟨⟨rfl, hJ2⟩, trivial⟩
      simp only [Act.put, List.setIfInBounds_toArray, List.set_cons_succ, List.set_cons_zero]
      refine jj_nil fun L x u7 hall hJ => ?_
      have hu7 := hJ.2.2.2.1 (hall 9 (by omega))
      clear hall hJ x L
      generalize (if lc = j + 1 then (some ⟨g, 0, none⟩ : Option Addr) else some ⟨g, (j + 1) * 3, none⟩) = p9 at *
      subst hu7
      have HX9 := hid (HX6.out.trans (HXX.out.1.trans HXX.out.2.2.2))
      have HRB9 := hid (HRB.out.mono (HXX.out.1.trans HXX.out.2.2.2))
      clear HRB HXX HR1 HR2 HP2 hk1 hk2 hk3 hk4 hkw
      have hlm : (ps.set j ⟨pj.a, pj.z, pj.s + 1⟩).length = ps.length := List.length_set
      have hll : (ps.take j ++ ps.drop (j + 1)).length = ps.length - 1 := by have := HJL.out; simp; omega
      have HI1 := hid (fun (u : World) (hu : Ext u7 u) => HIS.out u (HX1.out.trans (HX9.out.trans hu)) (.slice (some ⟨mg, 0, none⟩) ps.length mcap) _ (PaysAt.of_row (l := ps.set j ⟨pj.a, pj.z, pj.s + 1⟩) (by rw [hlm]; exact HRB9.out.mono hu) (by omega)) HQ.out)
      have HI2 := hid (fun (u : World) (hu : Ext u7 u) => HIS.out u (HX1.out.trans (HX9.out.trans hu)) v2 _ (PaysAt.of_row (l := ps.take j ++ ps.drop (j + 1)) (by rw [hll]; exact HLE.out.mono hu) (by omega)) (fun p hp => sm_of (HC.out.2.2.good p ((List.mem_append.1 hp).elim List.mem_of_mem_take List.mem_of_mem_drop))))
      rw [HSP.out.1] at HI1
      rw [HSP.out.2] at HI2
      obtain ⟨v2a, v2c, rfl⟩ := HLE.out.isSliceN
      clear hlm hll HSP HQ HRB9 HLE HPC hji
      gi_upto_region 12 with (gi_at_call 42; (first | ((with_reducible refine (HI1.out _ (Ext.refl _)).mono ?_); rintro e w10 ⟨rfl, hx10⟩; have HX10 := hid hx10; clear hx10) | ((with_reducible refine (HI2.out _ HX10.out).mono ?_); rintro e w11 ⟨rfl, hx11⟩; have HX11 := hid (HX9.out.trans (HX10.out.trans hx11)); clear hx11)))
      clear HI1 HI2 HX9 HX10
      obtain ⟨i3, hi3, hy0, hy1, hy2⟩ := info_parts info3
      have HZ3 := hid (And.intro hi3 (And.intro hy0 (And.intro hy1 hy2)))
      clear hi3 hy0 hy1 hy2
      gi_wp2_with fail
      gi_loopw [12, 13] (fun r i wr => ∃ k : Nat, k ≤ xs.length ∧ i = .int .i64 k ∧ Hid (Ext w11 wr ∧ Row wr 3 1 r k (intsV (twiceTo xs k)) ∧ ∀ g, r.ownBlock = some g → w11.heap.size ≤ g)) (fun _ i _ => xs.length - (intOf i).toNat)
      case atStart => exact ⟨0, Nat.zero_le _, rfl, hid ⟨Ext.refl _, by simpa [twiceTo, intsV] using Row.nil _ _ _, fun g h => by simp [Value.ownBlock] at h⟩⟩
      case round =>
        obtain ⟨k, hk, rfl, HI⟩ := hrel
        by_cases hlt : k < xs.length
        · have hki : (k : Int) < (xs.length : Int) := by omega
          obtain ⟨a1, c1, e1, _, hc⟩ := HV.out
          cases e1
          obtain ⟨b, off, rfl, hbb, hcell⟩ := hc k hlt
          obtain ⟨hx, hrow, hown⟩ := HI.out
          rw [← (HX1.out.trans (HX11.out.trans hx)).cell (p := ⟨b, _, none⟩) hbb] at hcell
          have HN2 := hid (show intsV (twiceTo xs (k + 1)) = intsV (twiceTo xs k) ++ [.int .i64 (2 * xs[k])] by rw [twiceTo_succ xs hlt, intsV_snoc])
          have hxb := HDB.out.2.1 xs[k] (List.getElem_mem _)
          have hkl := HDB.out.1
          clear hc
          generalize xs[k] = x at *
          have hw2 : wrap64 (2 * x) = 2 * x := by unfold wrap64; omega
          have hw3 : IntKind.i64.wrap (2 * x) = 2 * x := by rw [IntKind.wrap_i64]; omega
          have HX := hid hx
          have HR := hid hrow
          have HO := hid hown
          have HLT := hid hlt
          obtain ⟨na, nc, rfl⟩ := hrow.isSliceN
          clear HI hx hrow hown hxb hlt
          have hxa : Ext wr (wr.alloc (.cells #[.int .i64 (2 * x)] 3)) := (Ext.refl _).alloc _
          have HRW := hid (HR.out.mono hxa)
          have HX2 := hid (HX.out.trans hxa)
          have HNW : Hid (∀ j u, ([.int .i64 (2 * x)] : List Value)[j]? = some u → (wr.alloc (.cells #[.int .i64 (2 * x)] 3)).cell? ((⟨wr.heap.size, 0, none⟩ : Addr).add j) = some u) := fun j u hj => by rw [Addr.add_mid, Nat.zero_add, new_cell _ _ rfl]; simpa using hj
          have hmax : k + 1 ≤ 1000000000 := by omega
          clear hxa
          gi_wp2_with (refine wpIn_append_row (fun _ => trivial) rfl (.tmp 106) (.tmp 112) rfl Tryz.underlying23 HZ3.out.1 HZ3.out.2.1 HZ3.out.2.2.1 HZ3.out.2.2.2 (by simp [Value.cells]) (by omega) (v := .slice na k nc) rfl HRW.out ⟨wr.heap.size, 0, none⟩ 1 rfl [.int .i64 (2 * x)] rfl HNW.out (fun u hu => by simp at hu; subst hu; rfl) hmax (by omega) ?_; intro v' w' hrow' hgr' how')
          have hn := own_next HX2.out HO.out hgr' how'
          go_roundw
          case rel => exact ⟨k + 1, by have := HLT.out; omega, by go_num, hid ⟨hn.1, by rw [HN2.out]; exact hrow', hn.2⟩⟩
          case measure => have := HLT.out; simp [intOf]; omega
        · obtain rfl : k = xs.length := by omega
          have hki : ¬ (xs.length : Int) < (xs.length : Int) := by omega
          obtain ⟨hx, hrow, hown⟩ := HI.out
          obtain ⟨na, nc, rfl⟩ := hrow.isSliceN
          have etw : twiceTo xs xs.length = xs.map fun x => 2 * x := by unfold twiceTo; rw [List.take_length]
          rw [etw] at hrow
          have HT := hid (fun (u : World) (hu : Ext wr u) => (show IntsAt u (.slice na xs.length nc) (xs.map fun x => 2 * x) by
            have h := IntsAt.of_row (xs := xs.map fun x => 2 * x) (by rw [List.length_map]; exact hrow.mono hu) (by rw [List.length_map]; have := HDB.out.1; omega)
            exact h))
          have HXR := hid (HX1.out.trans (HX11.out.trans hx))
          have HPR := hid (fun (u : World) (hu : Ext wr u) => HC.out.1.mono (HX11.out.trans (hx.trans hu)))
          have HSM : Hid (∀ p ∈ ps ++ ps, sm p) := hid fun p hp => sm_of (HC.out.2.2.good p ((List.mem_append.1 hp).elim id id))
          have HTW : Hid (clearB (xs.map fun x => 2 * x) (ps ++ ps) = true) := hid (twice_clear HDB.out.1 (fun p hp => (HC.out.2.2.good p hp).1) HC.out.2.2.zero)
          have HPP := hid (show (ps ++ ps).length = ps.length + ps.length by simp)
          clear HI hx hrow hown etw hlt HZ3
          have HZB := HZ
          cases hd2 : debtsB (xs.map fun x => 2 * x) with
          | true =>
            have HI3 := hid (fun (u : World) (hu : Ext wr u) (pv : Value) (hp : Row u 74 3 pv (ps.length + ps.length) (pysF (ps ++ ps))) => IsClear_ok _ pv _ (ps ++ ps) u (HT.out u hu) (PaysAt.of_row (by rw [HPP.out]; exact hp) (by rw [HPP.out]; have := HPL.out; omega)) HSM.out hd2)
            rw [HTW.out] at HI3
            gi_wp2_with (first | (refine wpIn_append_many (fun _ => trivial) rfl (.tmp 116) (.tmp 117) rfl Tryz.underlying67 HZ.out.1 HZ.out.2.1 HZ.out.2.2.1 HZ.out.2.2.2 (by simp [Value.cells]) (by omega) (v := .slice (some ⟨wr.heap.size, 0, none⟩) 0 0) rfl (row_empty wr 74 3) rfl (HPR.out _ ((Ext.refl wr).alloc _)) (pysF_one ps) (by omega) (by omega) ?_; intro vA wA hrowA hgrA howA; have HXA := hid (ext_grown ((Ext.refl wr).alloc _) hgrA fun g' hg' => by cases hg'; exact Nat.le_refl _); have HOA : Hid (∀ g, vA.ownBlock = some g → wr.heap.size ≤ g) := hid (fun g hg => by rcases howA with e | e <;> rw [hg] at e <;> cases e <;> simp); rw [Nat.zero_add, List.nil_append] at hrowA; have HRA := hid hrowA; clear hrowA hgrA howA) | (refine wpIn_append_many (fun _ => trivial) rfl (.tmp 118) (.tmp 119) rfl Tryz.underlying67 HZ.out.1 HZ.out.2.1 HZ.out.2.2.1 HZ.out.2.2.2 (by simp [Value.cells]) (by omega) (v := vA) rfl HRA.out rfl (HPR.out _ HXA.out) (pysF_one ps) (by omega) (by omega) ?_; intro vB wB hrowB hgrB howB; have HXB := hid (ext_grown HXA.out hgrB HOA.out); rw [← pysF_app] at hrowB; have HRB := hid hrowB; clear hrowB hgrB howB) | (gi_at_call 42; ((with_reducible refine (HI3.out _ HXB.out _ HRB.out).mono ?_); rintro e w20 ⟨rfl, hx20⟩; have HXC := hid (HXB.out.trans hx20); clear hx20)) | (gi_at_call 18; ((with_reducible refine (HWK.out _).mono ?_); rintro e w9 ⟨rfl, hx9⟩; have HXD := hid (HXC.out.trans hx9); clear hx9)))
            all_goals first | exact (undef_no' ‹_›).elim | (go_ret; exact ⟨rfl, HXR.out.trans HXD.out⟩)
          | false =>
            have HI3 := hid (fun (u : World) (hu : Ext wr u) (pv : Value) => IsClear_bad _ pv _ u (HT.out u hu) hd2)
            have HO3 := hid (fun (u : World) (hu : Ext wr u) => owing_any _ _ u (HT.out u hu) (by rw [List.length_map]; have := HDB.out.1; omega))
            rw [hd2] at HO3
            gi_wp2_with (first | (refine wpIn_append_many (fun _ => trivial) rfl (.tmp 116) (.tmp 117) rfl Tryz.underlying67 HZ.out.1 HZ.out.2.1 HZ.out.2.2.1 HZ.out.2.2.2 (by simp [Value.cells]) (by omega) (v := .slice (some ⟨wr.heap.size, 0, none⟩) 0 0) rfl (row_empty wr 74 3) rfl (HPR.out _ ((Ext.refl wr).alloc _)) (pysF_one ps) (by omega) (by omega) ?_; intro vA wA hrowA hgrA howA; have HXA := hid (ext_grown ((Ext.refl wr).alloc _) hgrA fun g' hg' => by cases hg'; exact Nat.le_refl _); have HOA : Hid (∀ g, vA.ownBlock = some g → wr.heap.size ≤ g) := hid (fun g hg => by rcases howA with e | e <;> rw [hg] at e <;> cases e <;> simp); rw [Nat.zero_add, List.nil_append] at hrowA; have HRA := hid hrowA; clear hrowA hgrA howA) | (refine wpIn_append_many (fun _ => trivial) rfl (.tmp 118) (.tmp 119) rfl Tryz.underlying67 HZ.out.1 HZ.out.2.1 HZ.out.2.2.1 HZ.out.2.2.2 (by simp [Value.cells]) (by omega) (v := vA) rfl HRA.out rfl (HPR.out _ HXA.out) (pysF_one ps) (by omega) (by omega) ?_; intro vB wB hrowB hgrB howB; have HXB := hid (ext_grown HXA.out hgrB HOA.out); rw [← pysF_app] at hrowB; have HRB := hid hrowB; clear hrowB hgrB howB) | (gi_at_call 42; ((with_reducible refine (HI3.out _ HXB.out _).mono ?_); rintro e w20 ⟨rfl, hx20⟩; have HXC := hid (HXB.out.trans hx20); clear hx20)) | (gi_at_call 38; ((with_reducible refine (HO3.out _ HXC.out).mono ?_); rintro e w21 ⟨rfl, rfl⟩)) | (gi_at_call 18; ((with_reducible refine (HWK.out _).mono ?_); rintro e w9 ⟨rfl, hx9⟩; have HXD := hid (HXC.out.trans hx9); clear hx9)))
            go_ret
            exact ⟨rfl, HXR.out.trans HXD.out⟩
end
end Go.Proofs.YtjocoadhalimjaaGreat
