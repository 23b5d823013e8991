/- The reference: where a net lies. -/
import Derived.Test.YtmjelgonhpgmbaaGreatSF
set_option linter.unusedSimpArgs false
set_option linter.unusedVariables false
namespace Go.Proofs.YtmjelgonhpgmbaaGreat
open Go Go.RowKit Go.Shelf

theorem where_e_start (T : TruthD) (n : NetD) (i : Nat) : where_eF T n i n.shot = n.east := by
  unfold where_eF
  rw [Nat.sub_self, sumTo_zero]; simp
theorem where_e_succ (T : TruthD) (n : NetD) (i k : Nat) (h0 : 0 ≤ n.shot) (hs : n.shot ≤ k) (hk : k < T.east.length) (hi : i < T.se.length) : where_eF T n i ((k : Int) + 1) = where_eF T n i k + (T.east[k] + T.se[i]) := by
  unfold where_eF
  obtain ⟨s, hs'⟩ : ∃ s : Nat, n.shot = s := ⟨n.shot.toNat, by omega⟩
  rw [hs'] at hs ⊢
  have hsk : s ≤ k := by omega
  have e1 : ((k : Int) + 1).toNat - (s : Int).toNat = (k - s) + 1 := by omega
  have e2 : (k : Int).toNat - (s : Int).toNat = k - s := by omega
  rw [e1, e2, Int.toNat_natCast, sumTo_succ _ _ _ (by omega), getD_of hi]
  have e3 : s + (k - s) = k := by omega
  simp only [e3]
  have e4 : T.se[i] * ((k : Int) + 1 - s) = T.se[i] * (k - s) + T.se[i] := by rw [show ((k : Int) + 1 - s) = (k - s) + 1 by omega, Int.mul_add, Int.mul_one]
  omega

theorem where_n_start (T : TruthD) (n : NetD) (i : Nat) : where_nF T n i n.shot = n.north := by
  unfold where_nF
  rw [Nat.sub_self, sumTo_zero]; simp
theorem where_n_succ (T : TruthD) (n : NetD) (i k : Nat) (h0 : 0 ≤ n.shot) (hs : n.shot ≤ k) (hk : k < T.north.length) (hi : i < T.sn.length) : where_nF T n i ((k : Int) + 1) = where_nF T n i k + (T.north[k] + T.sn[i]) := by
  unfold where_nF
  obtain ⟨s, hs'⟩ : ∃ s : Nat, n.shot = s := ⟨n.shot.toNat, by omega⟩
  rw [hs'] at hs ⊢
  have hsk : s ≤ k := by omega
  have e1 : ((k : Int) + 1).toNat - (s : Int).toNat = (k - s) + 1 := by omega
  have e2 : (k : Int).toNat - (s : Int).toNat = k - s := by omega
  rw [e1, e2, Int.toNat_natCast, sumTo_succ _ _ _ (by omega), getD_of hi]
  have e3 : s + (k - s) = k := by omega
  simp only [e3]
  have e4 : T.sn[i] * ((k : Int) + 1 - s) = T.sn[i] * (k - s) + T.sn[i] := by rw [show ((k : Int) + 1 - s) = (k - s) + 1 by omega, Int.mul_add, Int.mul_one]
  omega

theorem size31 : (Tryz.prog.info? 31).map (·.size) = some 2 := by kernel_rfl
theorem after_at {w w5 : World} {g : Nat} {a b v : Value} (hb : w5.heap[g]? = some (.cells #[a, b] 31 (0, 0))) (hw : Ext w w5) (hg : w.heap.size ≤ g) (k : Nat) (hk : k < 2) :
    Ext w (w5.setCell ⟨g, k, none⟩ v) ∧ (w5.setCell ⟨g, k, none⟩ v).heap[g]? = some (.cells (#[a, b].setIfInBounds k v) 31 (0, 0)) ∧ (∀ j o, j ≠ g → w5.heap[j]? = some o → (w5.setCell ⟨g, k, none⟩ v).heap[j]? = some o) ∧ w5.heap.size ≤ (w5.setCell ⟨g, k, none⟩ v).heap.size :=
  ⟨Ext.set hw hg k v, set_same hb k v, fun j o hj ho => by rw [set_other hj]; exact ho, by simp [World.setCell]⟩
set_option maxRecDepth 100000 in
set_option maxHeartbeats 8000000 in
theorem lies_z (F : FleetD) (hF : FleetOk F) (T : TruthD) (hT : TruthOk F T) (ev nv sv tv1 tv2 tv3 tv4 : Value) (i : Nat) (hi : i < F.nets.length) (h : Nat) (hh : F.nets[i].shot ≤ h ∧ (h : Int) ≤ F.nets[i].haul) (w : World) (he : SpansAt w ev F.east) (hn : SpansAt w nv F.north) (hs : ShotsAt w sv F.nets) (h1 : IntsAt w tv1 T.east) (h2 : IntsAt w tv2 T.north) (h3 : IntsAt w tv3 T.se) (h4 : IntsAt w tv4 T.sn) :
    Cal 26 #[.agg #[ev, nv, .int .i64 F.gap, sv], .agg #[tv1, tv2, tv3, tv4], .int .i64 (i : Int), .int .i64 (h : Int)] w fun e w' => e = .returned (.agg #[.int .i64 (where_eF T F.nets[i] i h), .int .i64 (where_nF T F.nets[i] i h)]) ∧ Ext w w' := by
  obtain ⟨ea, ec, rfl, ⟨hec, hel⟩, _⟩ := he
  obtain ⟨na, nc, rfl, ⟨hnc, hnl⟩, _⟩ := hn
  obtain ⟨sa, sc, rfl, ⟨hsc, hsl⟩, hcs⟩ := hs
  obtain ⟨ta, tac, rfl, ht1, hd1⟩ := h1
  obtain ⟨tb, tbc, rfl, ht2, hd2⟩ := h2
  obtain ⟨tc, tcc, rfl, ht3, hd3⟩ := h3
  obtain ⟨td, tdc, rfl, ht4, hd4⟩ := h4
  have HCS := hid hcs
  have HD1 := hid hd1
  have HD2 := hid hd2
  have HD3 := hid hd3
  have HD4 := hid hd4
  clear hcs hd1 hd2 hd3 hd4
  gi_enter Tryz.func26, Tryz.ntmps26
  gi_upto_region 1 with fail
  have hW : Ext w (((w.alloc (.cells #[.slice ea F.east.length ec, .slice na F.north.length nc, .int .i64 F.gap, .slice sa F.nets.length sc] 25)).alloc (.cells #[.slice ta T.east.length tac, .slice tb T.north.length tbc, .slice tc T.se.length tcc, .slice td T.sn.length tdc] 28)).alloc (.cells #[.int .i64 0, .int .i64 0] 31)) := (((Ext.refl _).alloc _).alloc _).alloc _
  have hB0 : (((w.alloc (.cells #[.slice ea F.east.length ec, .slice na F.north.length nc, .int .i64 F.gap, .slice sa F.nets.length sc] 25)).alloc (.cells #[.slice ta T.east.length tac, .slice tb T.north.length tbc, .slice tc T.se.length tcc, .slice td T.sn.length tdc] 28)).alloc (.cells #[.int .i64 0, .int .i64 0] 31)).heap[w.heap.size]? = some (.cells #[.slice ea F.east.length ec, .slice na F.north.length nc, .int .i64 F.gap, .slice sa F.nets.length sc] 25 (0, 0)) := three_new
  have hB1 : (((w.alloc (.cells #[.slice ea F.east.length ec, .slice na F.north.length nc, .int .i64 F.gap, .slice sa F.nets.length sc] 25)).alloc (.cells #[.slice ta T.east.length tac, .slice tb T.north.length tbc, .slice tc T.se.length tcc, .slice td T.sn.length tdc] 28)).alloc (.cells #[.int .i64 0, .int .i64 0] 31)).heap[w.heap.size + 1]? = some (.cells #[.slice ta T.east.length tac, .slice tb T.north.length tbc, .slice tc T.se.length tcc, .slice td T.sn.length tdc] 28 (0, 0)) := three_mid
  have hB2 : (((w.alloc (.cells #[.slice ea F.east.length ec, .slice na F.north.length nc, .int .i64 F.gap, .slice sa F.nets.length sc] 25)).alloc (.cells #[.slice ta T.east.length tac, .slice tb T.north.length tbc, .slice tc T.se.length tcc, .slice td T.sn.length tdc] 28)).alloc (.cells #[.int .i64 0, .int .i64 0] 31)).heap[w.heap.size + 2]? = some (.cells #[.int .i64 0, .int .i64 0] 31 (0, 0)) := three_top
  generalize (((w.alloc (.cells #[.slice ea F.east.length ec, .slice na F.north.length nc, .int .i64 F.gap, .slice sa F.nets.length sc] 25)).alloc (.cells #[.slice ta T.east.length tac, .slice tb T.north.length tbc, .slice tc T.se.length tcc, .slice td T.sn.length tdc] 28)).alloc (.cells #[.int .i64 0, .int .i64 0] 31)) = W at *
  have HX := hid hW
  have HB0 := hid hB0
  have HB1 := hid hB1
  have HB2 := hid hB2
  have c0 := cell_of hB0
  have c1 := cell_of hB1
  have c2 := cell_of hB2
  clear hW hB0 hB1 hB2
  have hWs : w.heap.size + 3 ≤ W.heap.size := by have := lt_of_block HB2.out; omega
  have HWS := hid hWs
  clear hWs c1 c2
  obtain ⟨b, off, rfl, hb, d0, d1, d2, d3, d4, d5, d6, d7, d8, d9⟩ := HCS.out i hi
  rw [← HX.out.cell (p := ⟨b, _, none⟩) hb] at d0 d1 d2 d3 d4 d5 d6 d7 d8 d9
  have hok := hF.nets _ (List.getElem_mem hi)
  have hin : (i : Int) < F.nets.length := by omega
  have l1 := (withinB_spec hT.east).1
  have l2 := (withinB_spec hT.north).1
  have l3 := (withinB_spec hT.se).1
  have l4 := (withinB_spec hT.sn).1
  simp only [List.length_map] at l3 l4
  have hsame := hF.same
  have HL := hid (show F.nets[i].shot ≤ h ∧ (h : Int) ≤ F.east.length ∧ T.east.length = F.east.length ∧ T.north.length = F.east.length ∧ i < T.se.length ∧ i < T.sn.length ∧ 0 ≤ F.nets[i].shot ∧ F.east.length ≤ 24 from ⟨hh.1, by have := hok.haul.2; omega, l1, by omega, by omega, by omega, hok.shot.1, hF.hours.2⟩)
  have HIN := hid (fun (k : Nat) (h1 : F.nets[i].shot ≤ k) (h2 : k ≤ h) => And.intro (where_e_in hF hT hi rfl ⟨h1, show (k : Int) ≤ _ by omega⟩) (where_n_in hF hT hi rfl ⟨h1, show (k : Int) ≤ _ by omega⟩))
  have HBD := hid (And.intro (within_bound hT.east hF.east) (And.intro (within_bound hT.north hF.north) (And.intro (within_bound hT.se (M := 50) (fun x hx => by obtain ⟨n, hn, rfl⟩ := List.mem_map.1 hx; exact (hF.nets n hn).se)) (within_bound hT.sn (M := 50) (fun x hx => by obtain ⟨n, hn, rfl⟩ := List.mem_map.1 hx; exact (hF.nets n hn).sn)))))
  have HST := hid (And.intro (where_e_start T F.nets[i] i) (And.intro (where_n_start T F.nets[i] i) (And.intro (fun k => where_e_succ T F.nets[i] i k) (fun k => where_n_succ T F.nets[i] i k))))
  clear hok hh l1 l2 l3 l4 hsame hF hT
  generalize hm : F.nets[i] = m at *
  have HM := hid hm
  clear hm
  gi_upto_region 3 with (first | (refine wpIn_store_fresh (fun _ => trivial) 63 (.tmp 9) (.tmp 16) rfl (W := W) (c' := #[.int .i64 m.east, .int .i64 m.north, .int .i64 m.long, .int .i64 m.along, .int .i64 m.shot, .int .i64 m.haul, .int .i64 m.se.lo, .int .i64 m.se.hi, .int .i64 m.sn.lo, .int .i64 m.sn.hi]) rfl rfl rfl info63 rfl (by kernel_rfl) ?_) | (refine wpIn_store_fresh (fun _ => trivial) 31 (.tmp 10) (.tmp 18) rfl (W := W.alloc (.cells #[.int .i64 m.east, .int .i64 m.north, .int .i64 m.long, .int .i64 m.along, .int .i64 m.shot, .int .i64 m.haul, .int .i64 m.se.lo, .int .i64 m.se.hi, .int .i64 m.sn.lo, .int .i64 m.sn.hi] 63)) (c' := #[.int .i64 m.east, .int .i64 m.north]) (by show Value.pointer (some ⟨W.heap.size + 1, 0, none⟩) = _; rw [World.size_alloc]) rfl rfl size31 rfl (by kernel_rfl) ?_))
  have hx2 : Ext W ((W.alloc (.cells #[.int .i64 m.east, .int .i64 m.north, .int .i64 m.long, .int .i64 m.along, .int .i64 m.shot, .int .i64 m.haul, .int .i64 m.se.lo, .int .i64 m.se.hi, .int .i64 m.sn.lo, .int .i64 m.sn.hi] 63)).alloc (.cells #[.int .i64 m.east, .int .i64 m.north] 31)) := ((Ext.refl _).alloc _).alloc _
  have e0 : ((W.alloc (.cells #[.int .i64 m.east, .int .i64 m.north, .int .i64 m.long, .int .i64 m.along, .int .i64 m.shot, .int .i64 m.haul, .int .i64 m.se.lo, .int .i64 m.se.hi, .int .i64 m.sn.lo, .int .i64 m.sn.hi] 63)).alloc (.cells #[.int .i64 m.east, .int .i64 m.north] 31)).heap[W.heap.size]? = some (.cells #[.int .i64 m.east, .int .i64 m.north, .int .i64 m.long, .int .i64 m.along, .int .i64 m.shot, .int .i64 m.haul, .int .i64 m.se.lo, .int .i64 m.se.hi, .int .i64 m.sn.lo, .int .i64 m.sn.hi] 63 (0, 0)) := two_new
  have e1 : ((W.alloc (.cells #[.int .i64 m.east, .int .i64 m.north, .int .i64 m.long, .int .i64 m.along, .int .i64 m.shot, .int .i64 m.haul, .int .i64 m.se.lo, .int .i64 m.se.hi, .int .i64 m.sn.lo, .int .i64 m.sn.hi] 63)).alloc (.cells #[.int .i64 m.east, .int .i64 m.north] 31)).heap[W.heap.size + 1]? = some (.cells #[.int .i64 m.east, .int .i64 m.north] 31 (0, 0)) := by have := Ext.new (w := W.alloc (.cells #[.int .i64 m.east, .int .i64 m.north, .int .i64 m.long, .int .i64 m.along, .int .i64 m.shot, .int .i64 m.haul, .int .i64 m.se.lo, .int .i64 m.se.hi, .int .i64 m.sn.lo, .int .i64 m.sn.hi] 63)) (o := .cells #[.int .i64 m.east, .int .i64 m.north] 31) (Ext.refl _); rwa [World.size_alloc] at this
  clear d0 d1 d2 d3 d4 d5 d6 d7 d8 d9 c0
  generalize (W.alloc (.cells #[.int .i64 m.east, .int .i64 m.north, .int .i64 m.long, .int .i64 m.along, .int .i64 m.shot, .int .i64 m.haul, .int .i64 m.se.lo, .int .i64 m.se.hi, .int .i64 m.sn.lo, .int .i64 m.sn.hi] 63)).alloc (.cells #[.int .i64 m.east, .int .i64 m.north] 31) = W2 at *
  have c1 := cell_of e0
  have HX2 := hid (HX.out.trans hx2)
  have HB12 := hid (And.intro (hx2.block HB1.out) (And.intro (hx2.block HB2.out) e1))
  have HG := hid (show w.heap.size + 3 ≤ W.heap.size + 1 by have := HWS.out; omega)
  clear hx2 e0 e1
  gi_wp2_with fail
  clear c1
  generalize W.heap.size + 1 = g at *
  gi_loopw [11] (fun j wr => ∃ k : Nat, k ≤ h ∧ j = .int .i64 k ∧ Hid (m.shot ≤ k ∧ Ext w wr ∧ wr.heap[w.heap.size + 1]? = some (.cells #[.slice ta T.east.length tac, .slice tb T.north.length tbc, .slice tc T.se.length tcc, .slice td T.sn.length tdc] 28 (0, 0)) ∧ wr.heap[w.heap.size + 2]? = some (.cells #[.int .i64 0, .int .i64 0] 31 (0, 0)) ∧ wr.heap[g]? = some (.cells #[.int .i64 (where_eF T m i k), .int .i64 (where_nF T m i k)] 31 (0, 0)))) (fun j _ => h - (intOf j).toNat)
  case atStart =>
    have hl := HL.out
    refine ⟨m.shot.toNat, by omega, by rw [Int.toNat_of_nonneg hl.2.2.2.2.2.2.1], by omega, HX2.out, HB12.out.1, HB12.out.2.1, ?_⟩
    rw [Int.toNat_of_nonneg hl.2.2.2.2.2.2.1, HST.out.1, HST.out.2.1]
    exact HB12.out.2.2
  case round =>
    obtain ⟨k, hk, rfl, HR⟩ := hrel
    by_cases hlt : k < h
    · have hl := HL.out
      obtain ⟨b1, o1, rfl, hb1, x1⟩ := HD1.out k (by omega)
      obtain ⟨b2, o2, rfl, hb2, x2⟩ := HD2.out k (by omega)
      obtain ⟨b3, o3, rfl, hb3, x3⟩ := HD3.out i (by omega)
      obtain ⟨b4, o4, rfl, hb4, x4⟩ := HD4.out i (by omega)
      have y1 := HBD.out.1 _ (List.getElem_mem (h := (by omega : k < T.east.length)))
      have y2 := HBD.out.2.1 _ (List.getElem_mem (h := (by omega : k < T.north.length)))
      have y3 := HBD.out.2.2.1 _ (List.getElem_mem (h := (by omega : i < T.se.length)))
      have y4 := HBD.out.2.2.2 _ (List.getElem_mem (h := (by omega : i < T.sn.length)))
      have s1 := HST.out.2.2.1 k hl.2.2.2.2.2.2.1 HR.out.1 (by omega) (by omega)
      have s2 := HST.out.2.2.2 k hl.2.2.2.2.2.2.1 HR.out.1 (by omega) (by omega)
      have i1 := HIN.out k HR.out.1 (by omega)
      have i2 := HIN.out (k + 1) (by have := HR.out.1; omega) (by omega)
      rw [Int.natCast_add, Int.natCast_one] at i2
      have hkl : (k : Int) < T.east.length := by omega
      have hkl2 : (k : Int) < T.north.length := by omega
      have hil : (i : Int) < T.se.length := by omega
      have hil2 : (i : Int) < T.sn.length := by omega
      have HC := hid (fun (u : World) (hu : Ext w u) => And.intro ((hu.cell (p := ⟨b1, o1 + k, none⟩) hb1).trans x1) (And.intro ((hu.cell (p := ⟨b2, o2 + k, none⟩) hb2).trans x2) (And.intro ((hu.cell (p := ⟨b3, o3 + i, none⟩) hb3).trans x3) ((hu.cell (p := ⟨b4, o4 + i, none⟩) hb4).trans x4))))
      clear x1 x2 x3 x4 hb1 hb2 hb3 hb4
      generalize T.east[k] = a1 at *
      generalize T.north[k] = a2 at *
      generalize T.se[i] = a3 at *
      generalize T.sn[i] = a4 at *
      have HE := hid (And.intro s1 s2)
      have w1 : wrap64 (a1 + a3) = a1 + a3 := by unfold wrap64; omega
      have w2 : wrap64 (where_eF T m i k + (a1 + a3)) = where_eF T m i k + (a1 + a3) := by unfold wrap64; omega
      have w3 : wrap64 (a2 + a4) = a2 + a4 := by unfold wrap64; omega
      have w4 : wrap64 (where_nF T m i k + (a2 + a4)) = where_nF T m i k + (a2 + a4) := by unfold wrap64; omega
      clear s1 s2 i1 i2 y1 y2 y3 y4 hl
      have hki : (k : Int) < h := by omega
      gi_upto_region 6 with fail
      refine quiet_wide 15 (by kernel_rfl) (by kernel_rfl) ?_
      simp only [List.take_succ_cons, List.take_zero, List.drop_succ_cons, List.drop_zero]
      have q0 := fun e : Later wr => cell_of (Ext.block e.grown HR.out.2.2.1)
      have q1 := fun e : Later wr => cell_of (Ext.block e.grown HR.out.2.2.2.2)
      have q2 := fun e : Later wr => (HC.out e.val (HR.out.2.1.trans e.grown)).1
      have q3 := fun e : Later wr => (HC.out e.val (HR.out.2.1.trans e.grown)).2.1
      have q4 := fun e : Later wr => (HC.out e.val (HR.out.2.1.trans e.grown)).2.2.1
      have q5 := fun e : Later wr => (HC.out e.val (HR.out.2.1.trans e.grown)).2.2.2
      repeat (any_goals (first | go_big_quiet_step ((fail)) | quiet_step ((fail))))
      refine wpQuiet_nil ?_
      rintro w5 ⟨⟨w5q, hx5⟩, hew5⟩
      obtain rfl : w5 = w5q := hew5
      have hx5 : Ext wr w5 := hx5
      clear q0 q1 q2 q3 q4 q5
      have hgg := HG.out
      have A := after_at (v := .int .i64 (where_eF T m i k + (a1 + a3))) (hx5.block HR.out.2.2.2.2) (HR.out.2.1.trans hx5) (by omega) 0 (by omega)
      have A1 := A.2.2.1 _ _ (by omega) (hx5.block HR.out.2.2.1)
      have A2 := A.2.2.1 _ _ (by omega) (hx5.block HR.out.2.2.2.1)
      have f0 := free_of (hx5.block HR.out.2.2.2.2)
      have c0 := cell_of (hx5.block HR.out.2.2.2.2)
      gi_upto_region 7 with fail
      clear c0 f0
      simp only [List.setIfInBounds_toArray, List.set_cons_zero] at A
      have HA := hid (And.intro A.1 (And.intro A1 (And.intro A2 A.2.1)))
      clear A A1 A2
      generalize w5.setCell ⟨g, 0, none⟩ (.int .i64 (where_eF T m i k + (a1 + a3))) = W6 at *
      refine quiet_wide 15 (by kernel_rfl) (by kernel_rfl) ?_
      simp only [List.take_succ_cons, List.take_zero, List.drop_succ_cons, List.drop_zero]
      have q0 := fun e : Later W6 => cell_of (Ext.block e.grown HA.out.2.1)
      have q1 := fun e : Later W6 => cell_of (Ext.block e.grown HA.out.2.2.2)
      have q2 := fun e : Later W6 => (HC.out e.val (HA.out.1.trans e.grown)).1
      have q3 := fun e : Later W6 => (HC.out e.val (HA.out.1.trans e.grown)).2.1
      have q4 := fun e : Later W6 => (HC.out e.val (HA.out.1.trans e.grown)).2.2.1
      have q5 := fun e : Later W6 => (HC.out e.val (HA.out.1.trans e.grown)).2.2.2
      repeat (any_goals (first | go_big_quiet_step ((fail)) | quiet_step ((fail))))
      refine wpQuiet_nil ?_
      rintro w7 ⟨⟨w7q, hx7⟩, hew7⟩
      obtain rfl : w7 = w7q := hew7
      have hx7 : Ext W6 w7 := hx7
      clear q0 q1 q2 q3 q4 q5
      have A := after_at (v := .int .i64 (where_nF T m i k + (a2 + a4))) (hx7.block HA.out.2.2.2) (HA.out.1.trans hx7) (by omega) 1 (by omega)
      have A1 := A.2.2.1 _ _ (by omega) (hx7.block HA.out.2.1)
      have A2 := A.2.2.1 _ _ (by omega) (hx7.block HA.out.2.2.1)
      have f0 := free_of (hx7.block HA.out.2.2.2)
      have c0 := cell_of (hx7.block HA.out.2.2.2)
      gi_upto_region 5 with fail
      clear c0 f0
      simp only [List.setIfInBounds_toArray, List.set_cons_zero, List.set_cons_succ] at A
      have HA2 := hid (And.intro A.1 (And.intro A1 (And.intro A2 A.2.1)))
      clear A A1 A2
      generalize w7.setCell ⟨g, 1, none⟩ (.int .i64 (where_nF T m i k + (a2 + a4))) = W8 at *
      gi_wp2_with fail
      go_roundw
      case rel => exact ⟨k + 1, by omega, by go_num, by have := HR.out.1; omega, HA2.out.1, HA2.out.2.1, HA2.out.2.2.1, by rw [Int.natCast_add, Int.natCast_one, HE.out.1, HE.out.2]; exact HA2.out.2.2.2⟩
      case measure => simp [intOf]; omega
    · obtain rfl : k = h := by omega
      have hki : ¬ (k : Int) < k := by omega
      have c0 := cell_of HR.out.2.2.2.2
      have f0 := free_of HR.out.2.2.2.1
      have c2 := cell_of HR.out.2.2.2.1
      have hgg := HG.out
      have A := after_at (v := .int .i64 (where_eF T m i k)) HR.out.2.2.2.1 HR.out.2.1 (by omega) 0 (by omega)
      simp only [List.setIfInBounds_toArray, List.set_cons_zero] at A
      have B := after_at (v := .int .i64 (where_nF T m i k)) A.2.1 A.1 (by omega) 1 (by omega)
      simp only [List.setIfInBounds_toArray, List.set_cons_zero, List.set_cons_succ] at B
      have HA := hid B
      clear A B
      gi_wp2_with fail
      have cB := cell_of HA.out.2.1
      refine bodyPost_ret (v := .agg #[.int .i64 (where_eF T m i k), .int .i64 (where_nF T m i k)]) (by simp [results, Tryz.results26, go_sem, cB]) rfl ⟨by rw [HM.out], HA.out.1⟩

end Go.Proofs.YtmjelgonhpgmbaaGreat
