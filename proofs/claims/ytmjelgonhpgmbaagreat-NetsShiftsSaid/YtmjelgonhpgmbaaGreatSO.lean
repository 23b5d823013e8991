/- The reference: Shift. -/
import Derived.Test.YtmjelgonhpgmbaaGreatSN
set_option linter.unusedSimpArgs false
set_option linter.unusedVariables false
namespace Go.Proofs.YtmjelgonhpgmbaaGreat
open Go Go.RowKit Go.Shelf

theorem size25 : (Tryz.prog.info? 25).map (·.size) = some 4 := by kernel_rfl
theorem shiftE_bad {F : FleetD} {n m : Int} (hF : fleetB F = true) (h : (inB n 0 ((F.nets.length : Int) - 1) && inB m 0 5000) = false) : shiftE F n m = 22 := by
  unfold shiftE; rw [hF, h]; rfl
theorem shiftV_0 {F : FleetD} {n m : Int} {e : Int} (h : shiftE F n m = e) (he : e ≠ 0) : shiftV F n m = 0 := by
  unfold shiftV; rw [h, if_neg he]
theorem shift_found {F : FleetD} (hF : fleetB F = true) {n : Nat} (hn : n < F.nets.length) {m : Int} (hm : 0 ≤ m ∧ m ≤ 5000) {d : Nat} (hd : (d : Int) ≤ m) (hc : clearB (movF F n d) n = true) (hno : ∀ e : Nat, e < d → clearB (movF F n e) n = false) : shiftE F n m = 0 ∧ shiftV F n m = d := by
  have hFo := fleetB_ok hF
  have hf : IsFirst (barAll F n) d := by
    refine ⟨by omega, fun s hs hq => (mov_clear hFo hn d).1 hc ⟨s, hs, hq⟩, fun e h0 h1 => ?_⟩
    obtain ⟨e, rfl⟩ : ∃ k : Nat, e = k := ⟨e.toNat, by omega⟩
    have h2 := hno e (by omega)
    refine Classical.byContradiction fun hcon => ?_
    have := (mov_clear hFo hn e).2 (fun ⟨s, hs, hq⟩ => hcon ⟨s, hs, hq⟩)
    rw [h2] at this; cases this
  have hr := firstOut_of hf
  have he : shiftE F n m = 0 := by
    unfold shiftE
    rw [hF, if_pos rfl, show (inB (n : Int) 0 ((F.nets.length : Int) - 1) && inB m 0 5000) = true by unfold inB; simp; omega, if_pos rfl, if_neg (by omega)]
  exact ⟨he, by unfold shiftV; rw [he, if_pos rfl, hr]⟩
theorem shift_none {F : FleetD} (hF : fleetB F = true) {n : Nat} (hn : n < F.nets.length) {m : Int} (hm : 0 ≤ m ∧ m ≤ 5000) (hno : ∀ e : Nat, (e : Int) ≤ m → clearB (movF F n e) n = false) : shiftE F n m = 4 := by
  have hFo := fleetB_ok hF
  have hf := firstOut_first (barAll F n)
  have hlt : m < firstOut (barAll F n) := by
    refine Classical.byContradiction fun hcon => ?_
    have h1 := hno (firstOut (barAll F n)).toNat (by have := hf.1; omega)
    have h2 := (mov_clear hFo hn (firstOut (barAll F n)).toNat).2 (fun ⟨s, hs, hq⟩ => hf.2.1 s hs (by rw [Int.toNat_of_nonneg hf.1] at hq; exact hq))
    rw [h1] at h2; cases h2
  unfold shiftE
  rw [hF, if_pos rfl, show (inB (n : Int) 0 ((F.nets.length : Int) - 1) && inB m 0 5000) = true by unfold inB; simp; omega, if_pos rfl, if_pos hlt]
set_option maxRecDepth 100000 in
set_option maxHeartbeats 8000000 in
theorem Shift_z (F : FleetD) (ev nv sv : Value) (n most : Int) (w : World) (he : SpansAt w ev F.east) (hn : SpansAt w nv F.north) (hs : ShotsAt w sv F.nets) :
    Cal 18 #[.agg #[ev, nv, .int .i64 F.gap, sv], .int .i64 n, .int .i64 most] w fun e w' => e = .returned (.tuple #[.int .i64 (shiftV F n most), .int .i64 (shiftE F n most)]) ∧ Ext w w' := by
  have HCK := hid (fun (u : World) (hu : Ext w u) => Check_z F _ _ _ u (he.mono hu) (hn.mono hu) (hs.mono hu))
  have HCL := hid (fun (X : FleetD) (hX : FleetW X) (k : Nat) (hk : k < X.nets.length) (he' : X.east = F.east) (hn' : X.north = F.north) (hg' : X.gap = F.gap) (xv : Value) (u : World) (hu : Ext w u) (hxv : ShotsAt u xv X.nets) => clear_z X hX k hk ev nv xv u (by rw [he']; exact he.mono hu) (by rw [hn']; exact hn.mono hu) hxv)
  have HSH := hid hs
  obtain ⟨ea, ec, rfl, ⟨hec, hel⟩, _⟩ := he
  obtain ⟨na, nc, rfl, ⟨hnc, hnl⟩, _⟩ := hn
  obtain ⟨sa, sc, rfl, ⟨hsc, hsl⟩, hcs⟩ := hs
  have HCS := hid hcs
  clear hcs
  gi_enter Tryz.func18, Tryz.ntmps18
  gi_upto_region 1 with fail
  have hW : Ext w (w.alloc (.cells #[.slice ea F.east.length ec, .slice na F.north.length nc, .int .i64 F.gap, .slice sa F.nets.length sc] 25)) := (Ext.refl _).alloc _
  have hB0 : (w.alloc (.cells #[.slice ea F.east.length ec, .slice na F.north.length nc, .int .i64 F.gap, .slice sa F.nets.length sc] 25)).heap[w.heap.size]? = some (.cells #[.slice ea F.east.length ec, .slice na F.north.length nc, .int .i64 F.gap, .slice sa F.nets.length sc] 25 (0, 0)) := by
    have h := Ext.new (w := w) (o := .cells #[.slice ea F.east.length ec, .slice na F.north.length nc, .int .i64 F.gap, .slice sa F.nets.length sc] 25) (Ext.refl _)
    try simp only [World.size_alloc] at h
    exact (Ext.refl _).block h
  have hZ : (w.alloc (.cells #[.slice ea F.east.length ec, .slice na F.north.length nc, .int .i64 F.gap, .slice sa F.nets.length sc] 25)).heap.size = w.heap.size + 1 := by simp only [World.size_alloc]
  generalize (w.alloc (.cells #[.slice ea F.east.length ec, .slice na F.north.length nc, .int .i64 F.gap, .slice sa F.nets.length sc] 25)) = W at *
  have HX := hid hW
  have HZ := hid hZ
  have HB0 := hid hB0
  have c0 := cell_of hB0
  clear hW hZ hB0
  cases hF : fleetB F
  case false =>
    have HE : Hid (shiftE F n most = 20) := by show shiftE F n most = _; unfold shiftE; rw [hF]; rfl
    have HV := hid (shiftV_0 HE.out (by omega))
    rw [chk_20 hF] at HCK
    gi_wp2_with (gi_at_call 9; ((with_reducible refine (HCK.out _ HX.out).mono ?_); rintro e w9 ⟨rfl, hx9⟩; clear c0; have HX := hid (HX.out.trans hx9); have HB0 := hid (hx9.block HB0.out); have c0 := cell_of HB0.out; clear hx9))
    refine bodyPost_ret (v := .tuple #[.int .i64 0, .int .i64 20]) (by simp [results, Tryz.results18, go_sem]) rfl ⟨by rw [HV.out, HE.out], HX.out⟩
  case true =>
  have hFo := fleetB_ok hF
  have hn6 := hFo.count
  have HFO := hid hFo
  have HFB := hid hF
  rw [chk_0 hF] at HCK
  clear hF hFo
  have hwr : wrap64 ((F.nets.length : Int) - 1) = (F.nets.length : Int) - 1 := by unfold wrap64; omega
  cases q1 : inB n 0 ((F.nets.length : Int) - 1)
  case false =>
    have HE : Hid (shiftE F n most = 22) := shiftE_bad HFB.out (by rw [q1]; rfl)
    have HV := hid (shiftV_0 HE.out (by omega))
    have HQ1 := hid (fun u => rin_b q1 u)
    clear q1
    gi_wp2_with (first | (gi_at_call 9; ((with_reducible refine (HCK.out _ HX.out).mono ?_); rintro e w9 ⟨rfl, hx9⟩; clear c0; have HX := hid (HX.out.trans hx9); have HB0 := hid (hx9.block HB0.out); have c0 := cell_of HB0.out; clear hx9)) | (gi_at_call 28; ((with_reducible refine (HQ1.out _).mono ?_); rintro e w8 ⟨rfl, rfl⟩)))
    refine bodyPost_ret (v := .tuple #[.int .i64 0, .int .i64 22]) (by simp [results, Tryz.results18, go_sem]) rfl ⟨by rw [HV.out, HE.out], HX.out⟩
  case true =>
  have HQ1 := hid (fun u => rin_b q1 u)
  cases q2 : inB most 0 5000
  case false =>
    have HE : Hid (shiftE F n most = 22) := shiftE_bad HFB.out (by rw [q1, q2]; rfl)
    have HV := hid (shiftV_0 HE.out (by omega))
    have HQ2 := hid (fun u => rin_b q2 u)
    clear q1 q2
    gi_wp2_with (first | (gi_at_call 9; ((with_reducible refine (HCK.out _ HX.out).mono ?_); rintro e w9 ⟨rfl, hx9⟩; clear c0; have HX := hid (HX.out.trans hx9); have HB0 := hid (hx9.block HB0.out); have c0 := cell_of HB0.out; clear hx9)) | (gi_at_call 28; ((with_reducible refine (HQ1.out _).mono ?_); rintro e w8 ⟨rfl, rfl⟩)) | (gi_at_call 28; ((with_reducible refine (HQ2.out _).mono ?_); rintro e w8 ⟨rfl, rfl⟩)))
    refine bodyPost_ret (v := .tuple #[.int .i64 0, .int .i64 22]) (by simp [results, Tryz.results18, go_sem]) rfl ⟨by rw [HV.out, HE.out], HX.out⟩
  case true =>
  have HQ2 := hid (fun u => rin_b q2 u)
  obtain ⟨k, rfl, hk⟩ := in_len q1
  have hm := inB_spec q2
  obtain ⟨most, rfl⟩ : ∃ j : Nat, most = j := ⟨most.toNat, by omega⟩
  clear q1 q2
  gi_upto_region 6 with (first | (gi_at_call 9; ((with_reducible refine (HCK.out _ HX.out).mono ?_); rintro e w9 ⟨rfl, hx9⟩; clear c0; have HX := hid (HX.out.trans hx9); have HB0 := hid (hx9.block HB0.out); have c0 := cell_of HB0.out; clear hx9)) | (gi_at_call 28; ((with_reducible refine (HQ1.out _).mono ?_); rintro e w8 ⟨rfl, rfl⟩)) | (gi_at_call 28; ((with_reducible refine (HQ2.out _).mono ?_); rintro e w8 ⟨rfl, rfl⟩)))
  gi_wp2_with fail
  clear hwr c0 HCK HQ1 HQ2
  gi_loopw [9] (fun j wr => ∃ d : Nat, d ≤ most + 1 ∧ j = .int .i64 d ∧ Hid ((∀ e : Nat, e < d → clearB (movF F k e) k = false) ∧ Ext w9 wr)) (fun j _ => most + 1 - (intOf j).toNat)
  case atStart => exact ⟨0, Nat.zero_le _, rfl, fun _ h => absurd h (by omega), Ext.refl _⟩
  case round =>
    obtain ⟨d, hd, rfl, HR⟩ := hrel
    by_cases hlt : d ≤ most
    · have hki : (d : Int) ≤ most := by omega
      have HX0 := HR.out.2
      have HB := hid (HR.out.2.block HB0.out)
      have c0 := cell_of HB.out
      gi_upto_region 10 with (refine wpIn_store_fresh (fun _ => trivial) 25 (.tmp 10) (.tmp 34) rfl (W := wr) (c' := #[.slice ea F.east.length ec, .slice na F.north.length nc, .int .i64 F.gap, .slice sa F.nets.length sc]) rfl rfl rfl size25 rfl (by kernel_rfl) ?_)
      have hxa : Ext wr (wr.alloc (.cells #[.slice ea F.east.length ec, .slice na F.north.length nc, .int .i64 F.gap, .slice sa F.nets.length sc] 25)) := (Ext.refl _).alloc _
      have hba : (wr.alloc (.cells #[.slice ea F.east.length ec, .slice na F.north.length nc, .int .i64 F.gap, .slice sa F.nets.length sc] 25)).heap[wr.heap.size]? = some (.cells #[.slice ea F.east.length ec, .slice na F.north.length nc, .int .i64 F.gap, .slice sa F.nets.length sc] 25 (0, 0)) := Ext.new (Ext.refl _)
      have HX1 := hid (HX0.trans hxa)
      have HB1 := hid (hxa.block HB.out)
      have HK1 := hid hba
      have hkw : w.heap.size < wr.heap.size ∧ w9.heap.size ≤ wr.heap.size := ⟨lt_of_block HB.out, HX0.size⟩
      have HWK := hid hkw
      clear c0 hxa hba hkw HX0
      generalize wr.alloc (.cells #[.slice ea F.east.length ec, .slice na F.north.length nc, .int .i64 F.gap, .slice sa F.nets.length sc] 25) = w1 at *
      generalize hKB : wr.heap.size = KB at *
      have HWK := hid (show w.heap.size < KB ∧ w9.heap.size ≤ KB from HWK.out)
      clear hKB
      obtain ⟨p0, o0, hsa, hpb, _⟩ := HCS.out k hk
      subst hsa
      obtain ⟨sg, scap, w2, hrun, hrow, hge, hx2⟩ := whole_shots (HX.out.trans HX1.out) HSH.out (by omega)
      have hk2 := hx2.block HK1.out
      have hb2 := hx2.block HB1.out
      have c0 := cell_of HB1.out
      have hlb1 := lt_of_block HB1.out
      have hlk1 := lt_of_block HK1.out
      gi_upto_region 11 with (refine wpIn_append_at (fun _ => trivial) rfl (w1.alloc (.cells #[] 63)) (.tmp 35) (.tmp 37) 23 rfl (by with_reducible rfl) hrun rfl rfl rfl ?_; have ck := cell_of hk2; have fk := free_of hk2)
      have hk3 := set_same hk2 3 (.slice (some ⟨sg, 0, none⟩) F.nets.length scap)
      simp only [List.setIfInBounds_toArray, List.set_cons_succ, List.set_cons_zero] at hk3
      have HX3 := hid ((HX1.out.trans hx2).set (b := KB) HWK.out.2 3 (.slice (some ⟨sg, 0, none⟩) F.nets.length scap))
      have HK3 := hid hk3
      have HB3 := hid ((set_other (show w.heap.size ≠ KB by have := HWK.out; omega) 3 (.slice (some ⟨sg, 0, none⟩) F.nets.length scap)).trans hb2)
      have HS3 := hid (hrow.set (g := KB) (fun e => by have : sg = KB := Option.some.inj e; omega) 3 (.slice (some ⟨sg, 0, none⟩) F.nets.length scap))
      have HNE := hid (show sg ≠ KB ∧ w9.heap.size ≤ sg ∧ sg ≠ w.heap.size by have := HWK.out; have := HX1.out.size; omega)
      clear c0 ck fk hk2 hb2 hrow hrun hx2 hge hlb1 hlk1 hk3 HX1 HB1 HK1
      generalize w2.setCell ⟨KB, 3, none⟩ (.slice (some ⟨sg, 0, none⟩) F.nets.length scap) = w3 at *
      obtain ⟨p1, o1, hsa, hpb1, d0, d1, d2, d3, d4, d5, d6, d7, d8, d9⟩ := HCS.out k hk
      cases hsa
      rw [← (HX.out.trans HX3.out).cell (p := ⟨p0, _, none⟩) hpb1] at d0 d1 d2 d3 d4 d5 d6 d7 d8 d9
      have c0 := cell_of HB3.out
      have hkk : (k : Int) < F.nets.length := by omega
      have HMV : Hid (movF F k d = { F with nets := F.nets.set k (movN F.nets[k] d) }) := by show _ = _; unfold movF; rw [getD_of hk]
      have hbe := HFO.out.nets _ (List.getElem_mem hk)
      have hbe := hbe.east
      generalize F.nets[k] = m at *
      have hw64 : wrap64 (m.east + (d : Int)) = m.east + d := by unfold wrap64; omega
      clear hbe
      gi_upto_region 12 with (refine wpIn_store_fresh (fun _ => trivial) 63 (.tmp 11) (.tmp 44) rfl (W := w3) (c' := #[.int .i64 m.east, .int .i64 m.north, .int .i64 m.long, .int .i64 m.along, .int .i64 m.shot, .int .i64 m.haul, .int .i64 m.se.lo, .int .i64 m.se.hi, .int .i64 m.sn.lo, .int .i64 m.sn.hi]) rfl rfl rfl info63 rfl (by kernel_rfl) ?_)
      have hxa : Ext w3 (w3.alloc (.cells #[.int .i64 m.east, .int .i64 m.north, .int .i64 m.long, .int .i64 m.along, .int .i64 m.shot, .int .i64 m.haul, .int .i64 m.se.lo, .int .i64 m.se.hi, .int .i64 m.sn.lo, .int .i64 m.sn.hi] 63)) := (Ext.refl _).alloc _
      have hba : (w3.alloc (.cells #[.int .i64 m.east, .int .i64 m.north, .int .i64 m.long, .int .i64 m.along, .int .i64 m.shot, .int .i64 m.haul, .int .i64 m.se.lo, .int .i64 m.se.hi, .int .i64 m.sn.lo, .int .i64 m.sn.hi] 63)).heap[w3.heap.size]? = some (.cells #[.int .i64 m.east, .int .i64 m.north, .int .i64 m.long, .int .i64 m.along, .int .i64 m.shot, .int .i64 m.haul, .int .i64 m.se.lo, .int .i64 m.se.hi, .int .i64 m.sn.lo, .int .i64 m.sn.hi] 63 (0, 0)) := Ext.new (Ext.refl _)
      have HX4 := hid (HX3.out.trans hxa)
      have HB4 := hid (hxa.block HB3.out)
      have HK4 := hid (hxa.block HK3.out)
      have HS4 := hid (HS3.out.mono hxa)
      have hyk : KB < w3.heap.size := lt_of_block HK3.out
      have hyb : w.heap.size < w3.heap.size ∧ w9.heap.size ≤ w3.heap.size := ⟨lt_of_block HB3.out, HX3.out.size⟩
      have hys : sg < w3.heap.size := HS3.out.lt (g := sg) rfl
      have HY := hid (And.intro hyk (And.intro hyb hys))
      clear d0 d1 d2 d3 d4 d5 d6 d7 d8 d9 c0 hxa hyk hyb hys HX3 HB3 HK3 HS3
      generalize w3.alloc (.cells #[.int .i64 m.east, .int .i64 m.north, .int .i64 m.long, .int .i64 m.along, .int .i64 m.shot, .int .i64 m.haul, .int .i64 m.se.lo, .int .i64 m.se.hi, .int .i64 m.sn.lo, .int .i64 m.sn.hi] 63) = w4 at *
      generalize w3.heap.size = YB at *
      have cy := cell_of hba
      have fy := free_of hba
      have hy5 := set_same hba 0 (.int .i64 (m.east + (d : Int)))
      gi_upto_region 13 with fail
      simp only [List.setIfInBounds_toArray, List.set_cons_zero] at hy5
      have hY := HY.out
      have HX5 := hid (HX4.out.set (b := YB) (by omega) 0 (.int .i64 (m.east + (d : Int))))
      have HB5 := hid ((set_other (show w.heap.size ≠ YB by omega) 0 (.int .i64 (m.east + (d : Int)))).trans HB4.out)
      have HK5 := hid ((set_other (show KB ≠ YB by omega) 0 (.int .i64 (m.east + (d : Int)))).trans HK4.out)
      have HS5 := hid (HS4.out.set (g := YB) (fun e => by have : sg = YB := Option.some.inj e; omega) 0 (.int .i64 (m.east + (d : Int))))
      have HY5 := hid hy5
      clear cy fy hba hy5 hY HX4 HB4 HK4 HS4 hw64
      generalize w4.setCell ⟨YB, 0, none⟩ (.int .i64 (m.east + (d : Int))) = w5 at *
      obtain ⟨cur, hcur, hcs, hset⟩ := nets_set HS5.out hk
      have hset := hset (movN m d)
      have HCUR := hid hcur
      have HCSZ := hid (show k * 10 + (#[.int .i64 (m.east + (d : Int)), .int .i64 m.north, .int .i64 m.long, .int .i64 m.along, .int .i64 m.shot, .int .i64 m.haul, .int .i64 m.se.lo, .int .i64 m.se.hi, .int .i64 m.sn.lo, .int .i64 m.sn.hi] : Array Value).size ≤ cur.size from hcs)
      have ck := cell_of HK5.out
      have cy := cell_of HY5.out
      have HNEo := HNE.out
      have HSV := hid hset
      clear hset hcs hcur HS5
      gi_upto_region 14 with (refine wpIn_store_at 63 (.tmp 56) (.tmp 55) rfl (fun _ => trivial) (g := sg) (off := k * 10) (by show Value.pointer _ = _; simp) rfl HCUR.out siz58 HCSZ.out (by simp [Value.oneCell']) ?_; refine Hid.out ?_)
      have HX6 := hid (ext_setRow (g := sg) HX5.out HNEo.2.1 (cur.toList.take (k * 10) ++ ntCells (movN m d) ++ cur.toList.drop (k * 10 + 10)).toArray)
      have HB6 := hid ((setRow_other w5 sg w.heap.size (cur.toList.take (k * 10) ++ ntCells (movN m d) ++ cur.toList.drop (k * 10 + 10)).toArray (Ne.symm HNEo.2.2)).trans HB5.out)
      have HK6 := hid ((setRow_other w5 sg KB (cur.toList.take (k * 10) ++ ntCells (movN m d) ++ cur.toList.drop (k * 10 + 10)).toArray (Ne.symm HNEo.1)).trans HK5.out)
      refine hid ?_
      clear cy ck HX5 HB5 HK5 HY5 HCUR HCSZ
      have e12 : (cur.toList.take (k * 10) ++ .int .i64 (m.east + (d : Int)) :: .int .i64 m.north :: .int .i64 m.long :: .int .i64 m.along :: .int .i64 m.shot :: .int .i64 m.haul :: .int .i64 m.se.lo :: .int .i64 m.se.hi :: .int .i64 m.sn.lo :: .int .i64 m.sn.hi :: cur.toList.drop (k * 10 + 10)).toArray = (cur.toList.take (k * 10) ++ ntCells (movN m d) ++ cur.toList.drop (k * 10 + 10)).toArray := by rw [List.append_assoc]; rfl
      rw [e12]
      clear e12
      generalize w5.setRow sg (cur.toList.take (k * 10) ++ ntCells (movN m d) ++ cur.toList.drop (k * 10 + 10)).toArray = w6 at *
      have ck := cell_of HK6.out
      have HMX : Hid ((movF F k d).east = F.east ∧ (movF F k d).north = F.north ∧ (movF F k d).gap = F.gap ∧ (movF F k d).nets = F.nets.set k (movN m d) ∧ (movF F k d).nets.length = F.nets.length) := ⟨rfl, rfl, rfl, by rw [HMV.out], mov_len F k d⟩
      have HCC := hid (HCL.out (movF F k d) (mov_ok HFO.out hk (by omega)) k (by rw [mov_len]; exact hk) rfl rfl rfl (.slice (some ⟨sg, 0, none⟩) F.nets.length scap) w6 (HX.out.trans HX6.out) (by
        rw [HMX.out.2.2.2.1]
        have := nets_row HSV.out (by rw [List.length_set]; omega)
        exact this))
      rw [HMX.out.2.2.1] at HCC
      cases hc : clearB (movF F k d) k
      case true =>
        rw [hc] at HCC
        have HSF := hid (shift_found HFB.out hk hm (show (d : Int) ≤ most by omega) hc HR.out.1)
        clear hc
        gi_wp2_with (gi_at_call 50; ((with_reducible refine (HCC.out).mono ?_); rintro e w8 ⟨rfl, hx8⟩))
        refine bodyPost_ret (v := .tuple #[.int .i64 d, .int .i64 0]) (by simp [results, Tryz.results18, go_sem]) rfl ⟨by rw [HSF.out.1, HSF.out.2], (HX.out.trans HX6.out).trans hx8⟩
      case false =>
        rw [hc] at HCC
        have HU : Hid (∀ e : Nat, e < d + 1 → clearB (movF F k e) k = false) := fun e he => by
          rcases Nat.lt_succ_iff_lt_or_eq.1 he with h | rfl
          · exact HR.out.1 e h
          · exact hc
        clear hc
        gi_wp2_with (gi_at_call 50; ((with_reducible refine (HCC.out).mono ?_); rintro e w8 ⟨rfl, hx8⟩))
        go_roundw
        case rel => exact ⟨d + 1, by omega, by go_num, HU.out, HX6.out.trans hx8⟩
        case measure => simp [intOf]; omega
    · obtain rfl : d = most + 1 := by omega
      have hki : ¬ ((most + 1 : Nat) : Int) ≤ most := by omega
      have HE := hid (shift_none HFB.out hk hm (fun e he => HR.out.1 e (by omega)))
      have HV := hid (shiftV_0 HE.out (by omega))
      gi_wp2_with fail
      refine bodyPost_ret (v := .tuple #[.int .i64 0, .int .i64 4]) (by simp [results, Tryz.results18, go_sem]) rfl ⟨by rw [HV.out, HE.out], HX.out.trans HR.out.2⟩

end Go.Proofs.YtmjelgonhpgmbaaGreat
