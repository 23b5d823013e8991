/- The reference: Apart, can. -/
import Derived.Test.YtmjelgonhpgmbaaGreatSK
import Derived.Test.YtmjelgonhpgmbaaGreatME
set_option linter.unusedSimpArgs false
set_option linter.unusedVariables false
namespace Go.Proofs.YtmjelgonhpgmbaaGreat
open Go Go.RowKit Go.Shelf

theorem apRe_eq {F : FleetD} {a b : NetD} {h : Nat} (h0 : 0 ≤ a.shot) (h1 : 0 ≤ b.shot) (h2 : a.shot ≤ h) (h3 : b.shot ≤ h) (h4 : h ≤ F.east.length) : apRe F a b h = apart_eF F a b h := apR_eq h0 h1 h2 h3 h4
theorem apRn_eq {F : FleetD} (hs : F.north.length = F.east.length) {a b : NetD} {h : Nat} (h0 : 0 ≤ a.shot) (h1 : 0 ≤ b.shot) (h2 : a.shot ≤ h) (h3 : b.shot ≤ h) (h4 : h ≤ F.east.length) : apRn F a b h = apart_nF F a b h := apR_eq h0 h1 h2 h3 (by rw [hs]; exact h4)
set_option maxRecDepth 100000 in
set_option maxHeartbeats 8000000 in
theorem Apart_z (F : FleetD) (ev nv sv : Value) (i k h : Int) (w : World) (he : SpansAt w ev F.east) (hn : SpansAt w nv F.north) (hs : ShotsAt w sv F.nets) :
    Cal 14 #[.agg #[ev, nv, .int .i64 F.gap, sv], .int .i64 i, .int .i64 k, .int .i64 h] w fun e w' => e = .returned (.tuple #[spnV (apartVe F i k h), spnV (apartVn F i k h), .int .i64 (apartE F i k h)]) ∧ Ext w w' := by
  have HCK := hid (fun (u : World) (hu : Ext w u) => Check_z F _ _ _ u (he.mono hu) (hn.mono hu) (hs.mono hu))
  have HL1 := hid (fun (u : World) (hu : Ext w u) => lying_z F _ _ _ i h u (he.mono hu) (hn.mono hu) (hs.mono hu))
  have HL2 := hid (fun (u : World) (hu : Ext w u) => lying_z F _ _ _ k h u (he.mono hu) (hn.mono hu) (hs.mono hu))
  have HBO := hid (fun (hF : FleetW F) (i k j : Nat) (hi : i < F.nets.length) (hk : k < F.nets.length) (hh : j ≤ F.east.length) (h1 : F.nets[i].shot ≤ j) (h2 : F.nets[k].shot ≤ j) (u : World) (hu : Ext w u) => both_z F hF _ _ _ i k j hi hk hh h1 h2 u (he.mono hu) (hn.mono hu) (hs.mono hu))
  obtain ⟨ea, ec, rfl, ⟨hec, hel⟩, _⟩ := he
  obtain ⟨na, nc, rfl, ⟨hnc, hnl⟩, _⟩ := hn
  obtain ⟨sa, sc, rfl, ⟨hsc, hsl⟩, hcs⟩ := hs
  clear hcs
  gi_enter Tryz.func14, Tryz.ntmps14
  gi_upto_region 1 with fail
  have hW : Ext w (((w.alloc (.cells #[.slice ea F.east.length ec, .slice na F.north.length nc, .int .i64 F.gap, .slice sa F.nets.length sc] 25)).alloc (.cells #[.int .i64 0, .int .i64 0] 44)).alloc (.cells #[.int .i64 0, .int .i64 0] 44)) := (((Ext.refl _).alloc _).alloc _).alloc _
  have hB0 : (((w.alloc (.cells #[.slice ea F.east.length ec, .slice na F.north.length nc, .int .i64 F.gap, .slice sa F.nets.length sc] 25)).alloc (.cells #[.int .i64 0, .int .i64 0] 44)).alloc (.cells #[.int .i64 0, .int .i64 0] 44)).heap[w.heap.size]? = some (.cells #[.slice ea F.east.length ec, .slice na F.north.length nc, .int .i64 F.gap, .slice sa F.nets.length sc] 25 (0, 0)) := by
    have h := Ext.new (w := w) (o := .cells #[.slice ea F.east.length ec, .slice na F.north.length nc, .int .i64 F.gap, .slice sa F.nets.length sc] 25) (Ext.refl _)
    try simp only [World.size_alloc] at h
    exact (((Ext.refl _).alloc _).alloc _).block h
  have hB1 : (((w.alloc (.cells #[.slice ea F.east.length ec, .slice na F.north.length nc, .int .i64 F.gap, .slice sa F.nets.length sc] 25)).alloc (.cells #[.int .i64 0, .int .i64 0] 44)).alloc (.cells #[.int .i64 0, .int .i64 0] 44)).heap[w.heap.size + 1]? = some (.cells #[.int .i64 0, .int .i64 0] 44 (0, 0)) := by
    have h := Ext.new (w := (w.alloc (.cells #[.slice ea F.east.length ec, .slice na F.north.length nc, .int .i64 F.gap, .slice sa F.nets.length sc] 25))) (o := .cells #[.int .i64 0, .int .i64 0] 44) (Ext.refl _)
    try simp only [World.size_alloc] at h
    exact ((Ext.refl _).alloc _).block h
  have hB2 : (((w.alloc (.cells #[.slice ea F.east.length ec, .slice na F.north.length nc, .int .i64 F.gap, .slice sa F.nets.length sc] 25)).alloc (.cells #[.int .i64 0, .int .i64 0] 44)).alloc (.cells #[.int .i64 0, .int .i64 0] 44)).heap[w.heap.size + 1 + 1]? = some (.cells #[.int .i64 0, .int .i64 0] 44 (0, 0)) := by
    have h := Ext.new (w := ((w.alloc (.cells #[.slice ea F.east.length ec, .slice na F.north.length nc, .int .i64 F.gap, .slice sa F.nets.length sc] 25)).alloc (.cells #[.int .i64 0, .int .i64 0] 44))) (o := .cells #[.int .i64 0, .int .i64 0] 44) (Ext.refl _)
    try simp only [World.size_alloc] at h
    exact (Ext.refl _).block h
  have hZ : (((w.alloc (.cells #[.slice ea F.east.length ec, .slice na F.north.length nc, .int .i64 F.gap, .slice sa F.nets.length sc] 25)).alloc (.cells #[.int .i64 0, .int .i64 0] 44)).alloc (.cells #[.int .i64 0, .int .i64 0] 44)).heap.size = w.heap.size + 3 := by simp only [World.size_alloc]
  generalize (((w.alloc (.cells #[.slice ea F.east.length ec, .slice na F.north.length nc, .int .i64 F.gap, .slice sa F.nets.length sc] 25)).alloc (.cells #[.int .i64 0, .int .i64 0] 44)).alloc (.cells #[.int .i64 0, .int .i64 0] 44)) = W at *
  have HX := hid hW
  have HZ := hid hZ
  have HB0 := hid hB0
  have HB1 := hid hB1
  have HB2 := hid hB2
  have c0 := cell_of hB0
  have c1 := cell_of hB1
  have c2 := cell_of hB2
  clear hW hZ hB0 hB1 hB2
  have f1 := free_of HB1.out
  have f2 := free_of HB2.out
  cases hF : fleetB F
  case false =>
    rw [chk_20 hF] at HCK
    have HE : Hid (apartE F i k h = 20) := by show apartE F i k h = _; unfold apartE; rw [hF]; rfl
    have HV : Hid (apartVe F i k h = spZ ∧ apartVn F i k h = spZ) := by show _ ∧ _; unfold apartVe apartVn; rw [HE.out]; exact ⟨rfl, rfl⟩
    gi_wp2_with (gi_at_call 9; ((with_reducible refine (HCK.out _ HX.out).mono ?_); rintro e w9 ⟨rfl, hx9⟩; clear c0 c1 c2 f1 f2; have HX := hid (HX.out.trans hx9); have HB0 := hid (hx9.block HB0.out); have HB1 := hid (hx9.block HB1.out); have HB2 := hid (hx9.block HB2.out); have c0 := cell_of HB0.out; have c1 := cell_of HB1.out; have c2 := cell_of HB2.out; have f1 := free_of HB1.out; have f2 := free_of HB2.out; clear hx9))
    have P := hid (put2 HB1.out HX.out (by omega) (.int .i64 0) (.int .i64 0))
    have hB := P.out.2.2 _ _ (by omega) HB2.out
    have P2 := hid (put2 hB P.out.1 (by omega) (.int .i64 0) (.int .i64 0))
    have hB1 := P2.out.2.2 _ _ (by omega) P.out.2.1
    clear c0 c1 c2 f1 f2 hB
    have cB1 := cell_of hB1
    have cB2 := cell_of P2.out.2.1
    refine bodyPost_ret (v := .tuple #[.agg #[.int .i64 0, .int .i64 0], .agg #[.int .i64 0, .int .i64 0], .int .i64 20]) (by simp [results, Tryz.results14, go_sem, cB1, cB2]) rfl ⟨by rw [HV.out.1, HV.out.2, HE.out]; first | done | rfl, P2.out.1⟩
  case true =>
  have hFo := fleetB_ok hF
  rw [chk_0 hF] at HCK
  cases hik : i == k
  case true =>
    have HE : Hid (apartE F i k h = 22) := by show apartE F i k h = _; unfold apartE; rw [hF, hik]; rfl
    have HV : Hid (apartVe F i k h = spZ ∧ apartVn F i k h = spZ) := by show _ ∧ _; unfold apartVe apartVn; rw [HE.out]; exact ⟨rfl, rfl⟩
    gi_wp2_with (gi_at_call 9; ((with_reducible refine (HCK.out _ HX.out).mono ?_); rintro e w9 ⟨rfl, hx9⟩; clear c0 c1 c2 f1 f2; have HX := hid (HX.out.trans hx9); have HB0 := hid (hx9.block HB0.out); have HB1 := hid (hx9.block HB1.out); have HB2 := hid (hx9.block HB2.out); have c0 := cell_of HB0.out; have c1 := cell_of HB1.out; have c2 := cell_of HB2.out; have f1 := free_of HB1.out; have f2 := free_of HB2.out; clear hx9))
    have P := hid (put2 HB1.out HX.out (by omega) (.int .i64 0) (.int .i64 0))
    have hB := P.out.2.2 _ _ (by omega) HB2.out
    have P2 := hid (put2 hB P.out.1 (by omega) (.int .i64 0) (.int .i64 0))
    have hB1 := P2.out.2.2 _ _ (by omega) P.out.2.1
    clear c0 c1 c2 f1 f2 hB
    have cB1 := cell_of hB1
    have cB2 := cell_of P2.out.2.1
    refine bodyPost_ret (v := .tuple #[.agg #[.int .i64 0, .int .i64 0], .agg #[.int .i64 0, .int .i64 0], .int .i64 22]) (by simp [results, Tryz.results14, go_sem, cB1, cB2]) rfl ⟨by rw [HV.out.1, HV.out.2, HE.out]; first | done | rfl, P2.out.1⟩
  case false =>
  cases q1 : hasB F i h
  case false =>
    rw [q1] at HL1
    have HE : Hid (apartE F i k h = 22) := by show apartE F i k h = _; unfold apartE; rw [hF, hik, q1]; rfl
    have HV : Hid (apartVe F i k h = spZ ∧ apartVn F i k h = spZ) := by show _ ∧ _; unfold apartVe apartVn; rw [HE.out]; exact ⟨rfl, rfl⟩
    gi_wp2_with (first | (gi_at_call 9; ((with_reducible refine (HCK.out _ HX.out).mono ?_); rintro e w9 ⟨rfl, hx9⟩; clear c0 c1 c2 f1 f2; have HX := hid (HX.out.trans hx9); have HB0 := hid (hx9.block HB0.out); have HB1 := hid (hx9.block HB1.out); have HB2 := hid (hx9.block HB2.out); have c0 := cell_of HB0.out; have c1 := cell_of HB1.out; have c2 := cell_of HB2.out; have f1 := free_of HB1.out; have f2 := free_of HB2.out; clear hx9)) | (gi_at_call 25; ((with_reducible refine (HL1.out _ HX.out).mono ?_); rintro e w9 ⟨rfl, hx9⟩; clear c0 c1 c2 f1 f2; have HX := hid (HX.out.trans hx9); have HB0 := hid (hx9.block HB0.out); have HB1 := hid (hx9.block HB1.out); have HB2 := hid (hx9.block HB2.out); have c0 := cell_of HB0.out; have c1 := cell_of HB1.out; have c2 := cell_of HB2.out; have f1 := free_of HB1.out; have f2 := free_of HB2.out; clear hx9)))
    have P := hid (put2 HB1.out HX.out (by omega) (.int .i64 0) (.int .i64 0))
    have hB := P.out.2.2 _ _ (by omega) HB2.out
    have P2 := hid (put2 hB P.out.1 (by omega) (.int .i64 0) (.int .i64 0))
    have hB1 := P2.out.2.2 _ _ (by omega) P.out.2.1
    clear c0 c1 c2 f1 f2 hB
    have cB1 := cell_of hB1
    have cB2 := cell_of P2.out.2.1
    refine bodyPost_ret (v := .tuple #[.agg #[.int .i64 0, .int .i64 0], .agg #[.int .i64 0, .int .i64 0], .int .i64 22]) (by simp [results, Tryz.results14, go_sem, cB1, cB2]) rfl ⟨by rw [HV.out.1, HV.out.2, HE.out]; first | done | rfl, P2.out.1⟩
  case true =>
  rw [q1] at HL1
  cases q2 : hasB F k h
  case false =>
    rw [q2] at HL2
    have HE : Hid (apartE F i k h = 22) := by show apartE F i k h = _; unfold apartE; rw [hF, hik, q1, q2]; rfl
    have HV : Hid (apartVe F i k h = spZ ∧ apartVn F i k h = spZ) := by show _ ∧ _; unfold apartVe apartVn; rw [HE.out]; exact ⟨rfl, rfl⟩
    gi_wp2_with (first | (gi_at_call 9; ((with_reducible refine (HCK.out _ HX.out).mono ?_); rintro e w9 ⟨rfl, hx9⟩; clear c0 c1 c2 f1 f2; have HX := hid (HX.out.trans hx9); have HB0 := hid (hx9.block HB0.out); have HB1 := hid (hx9.block HB1.out); have HB2 := hid (hx9.block HB2.out); have c0 := cell_of HB0.out; have c1 := cell_of HB1.out; have c2 := cell_of HB2.out; have f1 := free_of HB1.out; have f2 := free_of HB2.out; clear hx9)) | (gi_at_call 25; ((with_reducible refine (HL1.out _ HX.out).mono ?_); rintro e w9 ⟨rfl, hx9⟩; clear c0 c1 c2 f1 f2; have HX := hid (HX.out.trans hx9); have HB0 := hid (hx9.block HB0.out); have HB1 := hid (hx9.block HB1.out); have HB2 := hid (hx9.block HB2.out); have c0 := cell_of HB0.out; have c1 := cell_of HB1.out; have c2 := cell_of HB2.out; have f1 := free_of HB1.out; have f2 := free_of HB2.out; clear hx9)) | (gi_at_call 25; ((with_reducible refine (HL2.out _ HX.out).mono ?_); rintro e w9 ⟨rfl, hx9⟩; clear c0 c1 c2 f1 f2; have HX := hid (HX.out.trans hx9); have HB0 := hid (hx9.block HB0.out); have HB1 := hid (hx9.block HB1.out); have HB2 := hid (hx9.block HB2.out); have c0 := cell_of HB0.out; have c1 := cell_of HB1.out; have c2 := cell_of HB2.out; have f1 := free_of HB1.out; have f2 := free_of HB2.out; clear hx9)))
    have P := hid (put2 HB1.out HX.out (by omega) (.int .i64 0) (.int .i64 0))
    have hB := P.out.2.2 _ _ (by omega) HB2.out
    have P2 := hid (put2 hB P.out.1 (by omega) (.int .i64 0) (.int .i64 0))
    have hB1 := P2.out.2.2 _ _ (by omega) P.out.2.1
    clear c0 c1 c2 f1 f2 hB
    have cB1 := cell_of hB1
    have cB2 := cell_of P2.out.2.1
    refine bodyPost_ret (v := .tuple #[.agg #[.int .i64 0, .int .i64 0], .agg #[.int .i64 0, .int .i64 0], .int .i64 22]) (by simp [results, Tryz.results14, go_sem, cB1, cB2]) rfl ⟨by rw [HV.out.1, HV.out.2, HE.out]; first | done | rfl, P2.out.1⟩
  case true =>
  rw [q2] at HL2
  have HE : Hid (apartE F i k h = 0) := by show apartE F i k h = _; unfold apartE; rw [hF, hik, q1, q2]; rfl
  obtain ⟨p, rfl, hp, hpl⟩ := hasB_spec q1
  obtain ⟨q, rfl, hq, hql⟩ := hasB_spec q2
  have hpi := inB_spec hpl
  have hqi := inB_spec hql
  have o1 := hFo.nets _ (List.getElem_mem hp)
  have o2 := hFo.nets _ (List.getElem_mem hq)
  obtain ⟨j, rfl⟩ : ∃ j : Nat, h = j := ⟨h.toNat, by have := o1.shot; omega⟩
  have hjl : j ≤ F.east.length := by have := o1.haul; omega
  have n1 : netOf F p = F.nets[p] := by unfold netOf; rw [Int.toNat_natCast, getD_of hp]
  have n2 : netOf F q = F.nets[q] := by unfold netOf; rw [Int.toNat_natCast, getD_of hq]
  have HV : Hid (apartVe F p q j = apRe F F.nets[p] F.nets[q] j ∧ apartVn F p q j = apRn F F.nets[p] F.nets[q] j) := by
    show _ ∧ _
    unfold apartVe apartVn
    rw [HE.out, n1, n2, apRe_eq o1.shot.1 o2.shot.1 hpi.1 hqi.1 hjl, apRn_eq hFo.same o1.shot.1 o2.shot.1 hpi.1 hqi.1 hjl]
    exact ⟨rfl, rfl⟩
  have HBO := hid (HBO.out (FleetW.of hFo) p q j hp hq hjl hpi.1 hqi.1)
  clear o1 o2 n1 n2 hpi hqi hpl hql hFo q1 q2
  generalize apRe F F.nets[p] F.nets[q] j = re at *
  generalize apRn F F.nets[p] F.nets[q] j = rn at *
  gi_upto_region 7 with (first | (gi_at_call 9; ((with_reducible refine (HCK.out _ HX.out).mono ?_); rintro e w9 ⟨rfl, hx9⟩; clear c0 c1 c2 f1 f2; have HX := hid (HX.out.trans hx9); have HB0 := hid (hx9.block HB0.out); have HB1 := hid (hx9.block HB1.out); have HB2 := hid (hx9.block HB2.out); have c0 := cell_of HB0.out; have c1 := cell_of HB1.out; have c2 := cell_of HB2.out; have f1 := free_of HB1.out; have f2 := free_of HB2.out; clear hx9)) | (gi_at_call 25; ((with_reducible refine (HL1.out _ HX.out).mono ?_); rintro e w9 ⟨rfl, hx9⟩; clear c0 c1 c2 f1 f2; have HX := hid (HX.out.trans hx9); have HB0 := hid (hx9.block HB0.out); have HB1 := hid (hx9.block HB1.out); have HB2 := hid (hx9.block HB2.out); have c0 := cell_of HB0.out; have c1 := cell_of HB1.out; have c2 := cell_of HB2.out; have f1 := free_of HB1.out; have f2 := free_of HB2.out; clear hx9)) | (gi_at_call 25; ((with_reducible refine (HL2.out _ HX.out).mono ?_); rintro e w9 ⟨rfl, hx9⟩; clear c0 c1 c2 f1 f2; have HX := hid (HX.out.trans hx9); have HB0 := hid (hx9.block HB0.out); have HB1 := hid (hx9.block HB1.out); have HB2 := hid (hx9.block HB2.out); have c0 := cell_of HB0.out; have c1 := cell_of HB1.out; have c2 := cell_of HB2.out; have f1 := free_of HB1.out; have f2 := free_of HB2.out; clear hx9)) | (gi_at_call 44; ((with_reducible refine (HBO.out _ HX.out).mono ?_); rintro e w9 ⟨rfl, hx9⟩; clear c0 c1 c2 f1 f2; have HX := hid (HX.out.trans hx9); have HB0 := hid (hx9.block HB0.out); have HB1 := hid (hx9.block HB1.out); have HB2 := hid (hx9.block HB2.out); have c0 := cell_of HB0.out; have c1 := cell_of HB1.out; have c2 := cell_of HB2.out; have f1 := free_of HB1.out; have f2 := free_of HB2.out; clear hx9)) | (refine wpIn_store_new (t := 44) 44 (.tmp 12) (.tmp 46) rfl (fun _ => trivial) rfl rfl two_new size44 rfl (by kernel_rfl) ?_; intro w7 e1 e2 e3) | (refine wpIn_store_new (t := 44) (old := #[.int .i64 0, .int .i64 0]) 44 (.tmp 13) (.tmp 47) rfl (fun _ => trivial) (g := w9.heap.size + 1) rfl rfl ((e2 _ (by omega)).trans (by have := Ext.new (w := w9.alloc (.cells #[.int .i64 0, .int .i64 0] 44)) (o := .cells #[.int .i64 0, .int .i64 0] 44) (Ext.refl _); rwa [World.size_alloc] at this)) size44 rfl (by kernel_rfl) ?_; intro w8 e4 e5 e6))
  have hx7 : Ext w9 w8 := e6 w9 (by omega) (e3 w9 (by omega) (((Ext.refl _).alloc _).alloc _))
  have b1 := (e5 _ (by omega)).trans e1
  have HB29 := HB2
  have HX := hid (HX.out.trans hx7)
  have HB1 := hid (hx7.block HB1.out)
  have HB2 := hid (hx7.block HB2.out)
  have hz9 : w.heap.size + 3 ≤ w9.heap.size := by have := lt_of_block HB29.out; omega
  clear c0 c1 c2 f1 f2 e1 e2 e3 e5 e6 hx7 HB29
  have HOG : OxG w ([⟨w.heap.size + 1, 2, 44, #[.int .i64 0, .int .i64 0], #[.int .i64 re.lo, .int .i64 re.hi]⟩, ⟨w.heap.size + 1 + 1, 3, 44, #[.int .i64 0, .int .i64 0], #[.int .i64 rn.lo, .int .i64 rn.hi]⟩] : List OX) ([(w9.heap.size, .cells #[.int .i64 re.lo, .int .i64 re.hi] 44), (w9.heap.size + 1, .cells #[.int .i64 rn.lo, .int .i64 rn.hi] 44)] : List (Nat × Obj)) := by
    refine ⟨fun i b hb => match i, b, hb with
      | 0, b, hb => by cases hb; exact (by simp only; omega)
      | 1, b, hb => by cases hb; exact (by simp only; omega)
      | i + 2, b, hb => by simp at hb, ?_, ?_⟩
    · intro i j b c hb hc hne
      have hi : i < 2 := by have := List.getElem?_eq_some_iff.1 hb; exact this.1
      have hj : j < 2 := by have := List.getElem?_eq_some_iff.1 hc; exact this.1
      rcases (by omega : i = 0 ∨ i = 1) with rfl | rfl <;> rcases (by omega : j = 0 ∨ j = 1) with rfl | rfl <;> first | exact absurd rfl hne | (cases hb; cases hc; exact ⟨by simp only; omega, by simp⟩)
    · intro i j b k hb hk
      have hi : i < 2 := by have := List.getElem?_eq_some_iff.1 hb; exact this.1
      have hj : j < 2 := by have := List.getElem?_eq_some_iff.1 hk; exact this.1
      rcases (by omega : i = 0 ∨ i = 1) with rfl | rfl <;> rcases (by omega : j = 0 ∨ j = 1) with rfl | rfl <;> (cases hb; cases hk; simp only; omega)
  refine jj_own 5 [] (oxJ w ([⟨w.heap.size + 1, 2, 44, #[.int .i64 0, .int .i64 0], #[.int .i64 re.lo, .int .i64 re.hi]⟩, ⟨w.heap.size + 1 + 1, 3, 44, #[.int .i64 0, .int .i64 0], #[.int .i64 rn.lo, .int .i64 rn.hi]⟩] : List OX) ([(w9.heap.size, .cells #[.int .i64 re.lo, .int .i64 re.hi] 44), (w9.heap.size + 1, .cells #[.int .i64 rn.lo, .int .i64 rn.hi] 44)] : List (Nat × Obj))) (by kernel_rfl) (by kernel_rfl) (ox_start HX.out (fun i b hb => match i, b, hb with
      | 0, b, hb => by cases hb; exact HB1.out
      | 1, b, hb => by cases hb; exact HB2.out
      | i + 2, b, hb => by simp at hb) (fun i b hb => match i, b, hb with
      | 0, b, hb => by cases hb; exact b1
      | 1, b, hb => by cases hb; exact e4
      | i + 2, b, hb => by simp at hb)) ?_
  simp only [List.take_succ_cons, List.take_zero, List.drop_succ_cons, List.drop_zero]
  apply jj_fun (by decide)
  · intro L x u hL hd hJ
    have b : u.heap[w9.heap.size]? = some (.cells #[.int .i64 re.lo, .int .i64 re.hi] 44 (0, 0)) := hJ.2.2 0 _ (rfl : ([(w9.heap.size, .cells #[.int .i64 re.lo, .int .i64 re.hi] 44), (w9.heap.size + 1, .cells #[.int .i64 rn.lo, .int .i64 rn.hi] 44)] : List (Nat × Obj))[0]? = some _); have cc := cell_of b
    have HJ := hid (ox_skip (k := 0) (by rfl) hJ)
    clear hJ hd hL
    go_simp
    first | exact ⟨rfl, HJ.out⟩ | exact HJ.out
  simp only [Act.put, List.setIfInBounds_toArray, List.set_cons_succ, List.set_cons_zero]
  apply jj_fun (by decide)
  · intro L x u hL hd hJ
    have b : u.heap[w9.heap.size + 1]? = some (.cells #[.int .i64 rn.lo, .int .i64 rn.hi] 44 (0, 0)) := hJ.2.2 1 _ (rfl : ([(w9.heap.size, .cells #[.int .i64 re.lo, .int .i64 re.hi] 44), (w9.heap.size + 1, .cells #[.int .i64 rn.lo, .int .i64 rn.hi] 44)] : List (Nat × Obj))[1]? = some _); have cc := cell_of b
    have HJ := hid (ox_skip (k := 1) (by rfl) hJ)
    clear hJ hd hL
    go_simp
    first | exact ⟨rfl, HJ.out⟩ | exact HJ.out
  simp only [Act.put, List.setIfInBounds_toArray, List.set_cons_succ, List.set_cons_zero]
  refine jj_fun (v := undef) (by decide) ?_ ?_
  · intro L x u hL hd hJ
    have hb := hJ.2.1 0 _ (rfl : ([⟨w.heap.size + 1, 2, 44, #[.int .i64 0, .int .i64 0], #[.int .i64 re.lo, .int .i64 re.hi]⟩, ⟨w.heap.size + 1 + 1, 3, 44, #[.int .i64 0, .int .i64 0], #[.int .i64 rn.lo, .int .i64 rn.hi]⟩] : List OX)[0]? = some _)
    rw [show (if L 2 = true then _ else _) = _ from if_neg (by rw [hL]; exact Bool.false_ne_true)] at hb
    have HJ := ox_fill 0 (rfl : ([⟨w.heap.size + 1, 2, 44, #[.int .i64 0, .int .i64 0], #[.int .i64 re.lo, .int .i64 re.hi]⟩, ⟨w.heap.size + 1 + 1, 3, 44, #[.int .i64 0, .int .i64 0], #[.int .i64 rn.lo, .int .i64 rn.hi]⟩] : List OX)[0]? = some _) HOG hJ
    rw [if_pos (by rfl)]
    exact gives_store_row 44 (.tmp 8) (.tmp 48) rfl rfl rfl hb size44 rfl (by kernel_rfl) ⟨⟨rfl, HJ⟩, trivial⟩
  simp only [Act.put, List.setIfInBounds_toArray, List.set_cons_succ, List.set_cons_zero]
  refine jj_fun (v := undef) (by decide) ?_ ?_
  · intro L x u hL hd hJ
    have hb := hJ.2.1 1 _ (rfl : ([⟨w.heap.size + 1, 2, 44, #[.int .i64 0, .int .i64 0], #[.int .i64 re.lo, .int .i64 re.hi]⟩, ⟨w.heap.size + 1 + 1, 3, 44, #[.int .i64 0, .int .i64 0], #[.int .i64 rn.lo, .int .i64 rn.hi]⟩] : List OX)[1]? = some _)
    rw [show (if L 3 = true then _ else _) = _ from if_neg (by rw [hL]; exact Bool.false_ne_true)] at hb
    have HJ := ox_fill 1 (rfl : ([⟨w.heap.size + 1, 2, 44, #[.int .i64 0, .int .i64 0], #[.int .i64 re.lo, .int .i64 re.hi]⟩, ⟨w.heap.size + 1 + 1, 3, 44, #[.int .i64 0, .int .i64 0], #[.int .i64 rn.lo, .int .i64 rn.hi]⟩] : List OX)[1]? = some _) HOG hJ
    rw [if_pos (by rfl)]
    exact gives_store_row 44 (.tmp 9) (.tmp 49) rfl rfl rfl hb size44 rfl (by kernel_rfl) ⟨⟨rfl, HJ⟩, trivial⟩
  simp only [Act.put, List.setIfInBounds_toArray, List.set_cons_succ, List.set_cons_zero]
  apply jj_fun (by decide)
  · intro L x u hL hd hJ
    have HJ := hid (ox_skip (k := 4) (by rfl) hJ)
    clear hJ hd hL
    go_simp
    first | exact ⟨rfl, HJ.out⟩ | exact HJ.out
  simp only [Act.put, List.setIfInBounds_toArray, List.set_cons_succ, List.set_cons_zero]
  refine jj_nil fun L x u hall hJ => ?_
  have hgb0 := hJ.2.1 0 _ (rfl : ([⟨w.heap.size + 1, 2, 44, #[.int .i64 0, .int .i64 0], #[.int .i64 re.lo, .int .i64 re.hi]⟩, ⟨w.heap.size + 1 + 1, 3, 44, #[.int .i64 0, .int .i64 0], #[.int .i64 rn.lo, .int .i64 rn.hi]⟩] : List OX)[0]? = some _)
  rw [show (if L 2 = true then _ else _) = _ from if_pos (hall 2 (by omega))] at hgb0
  simp only at hgb0
  have hgb1 := hJ.2.1 1 _ (rfl : ([⟨w.heap.size + 1, 2, 44, #[.int .i64 0, .int .i64 0], #[.int .i64 re.lo, .int .i64 re.hi]⟩, ⟨w.heap.size + 1 + 1, 3, 44, #[.int .i64 0, .int .i64 0], #[.int .i64 rn.lo, .int .i64 rn.hi]⟩] : List OX)[1]? = some _)
  rw [show (if L 3 = true then _ else _) = _ from if_pos (hall 3 (by omega))] at hgb1
  simp only at hgb1
  have hE := hJ.1
  clear hJ hall HOG
  clear x
  clear hz9
  gi_wp2_with fail
  have cB1 := cell_of hgb0
  have cB2 := cell_of hgb1
  refine bodyPost_ret (v := .tuple #[.agg #[.int .i64 re.lo, .int .i64 re.hi], .agg #[.int .i64 rn.lo, .int .i64 rn.hi], .int .i64 0]) (by simp [results, Tryz.results14, go_sem, cB1, cB2]) rfl ⟨by rw [HV.out.1, HV.out.2, HE.out]; first | done | rfl, hE⟩

def canB (F : FleetD) (i k h : Nat) : Bool := lieB (F.nets.getD i netZ) h && (lieB (F.nets.getD k netZ) h && (nearB (apRe F (F.nets.getD i netZ) (F.nets.getD k netZ) h) (long_eF (F.nets.getD i netZ)) (long_eF (F.nets.getD k netZ)) F.gap && nearB (apRn F (F.nets.getD i netZ) (F.nets.getD k netZ) h) (long_nF (F.nets.getD i netZ)) (long_nF (F.nets.getD k netZ)) F.gap))
theorem hasB_nat {F : FleetD} {i : Nat} (hi : i < F.nets.length) (h : Int) : hasB F i h = lieB (F.nets.getD i netZ) h := by
  unfold hasB
  have : inB (i : Int) 0 ((F.nets.length : Int) - 1) = true := by unfold inB; simp; omega
  rw [this, Int.toNat_natCast]; rfl
set_option maxRecDepth 100000 in
set_option maxHeartbeats 8000000 in
theorem can_z (F : FleetD) (hF : FleetW F) (ev nv sv : Value) (i k h : Nat) (hi : i < F.nets.length) (hk : k < F.nets.length) (hh : h ≤ F.east.length) (w : World) (he : SpansAt w ev F.east) (hn : SpansAt w nv F.north) (hs : ShotsAt w sv F.nets) :
    Cal 45 #[.agg #[ev, nv, .int .i64 F.gap, sv], .int .i64 (i : Int), .int .i64 (k : Int), .int .i64 (h : Int)] w fun e w' => e = .returned (.bool (canB F i k h)) ∧ Ext w w' := by
  have HL1 := hid (fun (u : World) (hu : Ext w u) => lying_z F _ _ _ i h u (he.mono hu) (hn.mono hu) (hs.mono hu))
  have HL2 := hid (fun (u : World) (hu : Ext w u) => lying_z F _ _ _ k h u (he.mono hu) (hn.mono hu) (hs.mono hu))
  rw [hasB_nat hi] at HL1
  rw [hasB_nat hk] at HL2
  have HBO := hid (fun (h1 : F.nets[i].shot ≤ h) (h2 : F.nets[k].shot ≤ h) (u : World) (hu : Ext w u) => both_z F hF _ _ _ i k h hi hk hh h1 h2 u (he.mono hu) (hn.mono hu) (hs.mono hu))
  have a1 := hF.nets _ (List.getElem_mem hi)
  have a2 := hF.nets _ (List.getElem_mem hk)
  have HFO := hid (fun (e1 e2 n1 n2 : Int) (u : World) (hu : Ext w u) => foul_z F hF.gap _ _ _ i k hi hk a1.long a1.along a2.long a2.along e1 e2 n1 n2 u (he.mono hu) (hn.mono hu) (hs.mono hu))
  have HCB : Hid (canB F i k h = (lieB (F.nets.getD i netZ) h && (lieB (F.nets.getD k netZ) h && (nearB (apRe F F.nets[i] F.nets[k] h) (long_eF F.nets[i]) (long_eF F.nets[k]) F.gap && nearB (apRn F F.nets[i] F.nets[k] h) (long_nF F.nets[i]) (long_nF F.nets[k]) F.gap)))) := by show _ = _; unfold canB; rw [getD_of hi, getD_of hk]
  have HLI : Hid ((lieB (F.nets.getD i netZ) h = true → F.nets[i].shot ≤ h) ∧ (lieB (F.nets.getD k netZ) h = true → F.nets[k].shot ≤ h)) := by
    rw [getD_of hi, getD_of hk]
    exact ⟨fun q => (inB_spec q).1, fun q => (inB_spec q).1⟩
  clear a1 a2 hF
  obtain ⟨ea, ec, rfl, ⟨hec, hel⟩, _⟩ := he
  obtain ⟨na, nc, rfl, ⟨hnc, hnl⟩, _⟩ := hn
  obtain ⟨sa, sc, rfl, ⟨hsc, hsl⟩, hcs⟩ := hs
  clear hcs
  gi_enter Tryz.func45, Tryz.ntmps45
  gi_upto_region 1 with fail
  have hW : Ext w (w.alloc (.cells #[.slice ea F.east.length ec, .slice na F.north.length nc, .int .i64 F.gap, .slice sa F.nets.length sc] 25)) := (Ext.refl _).alloc _
  have hB0 : (w.alloc (.cells #[.slice ea F.east.length ec, .slice na F.north.length nc, .int .i64 F.gap, .slice sa F.nets.length sc] 25)).heap[w.heap.size]? = some (.cells #[.slice ea F.east.length ec, .slice na F.north.length nc, .int .i64 F.gap, .slice sa F.nets.length sc] 25 (0, 0)) := by
    have h := Ext.new (w := w) (o := .cells #[.slice ea F.east.length ec, .slice na F.north.length nc, .int .i64 F.gap, .slice sa F.nets.length sc] 25) (Ext.refl _)
    try simp only [World.size_alloc] at h
    exact (Ext.refl _).block h
  have hZ : (w.alloc (.cells #[.slice ea F.east.length ec, .slice na F.north.length nc, .int .i64 F.gap, .slice sa F.nets.length sc] 25)).heap.size = w.heap.size + 1 := by simp only [World.size_alloc]
  generalize (w.alloc (.cells #[.slice ea F.east.length ec, .slice na F.north.length nc, .int .i64 F.gap, .slice sa F.nets.length sc] 25)) = W at *
  have HX := hid hW
  have HZ := hid hZ
  have HB0 := hid hB0
  have c0 := cell_of hB0
  clear hW hZ hB0
  cases q1 : lieB (F.nets.getD i netZ) h
  case false =>
    rw [q1] at HL1
    have HG : Hid (canB F i k h = false) := by show canB F i k h = _; rw [HCB.out, q1]; rfl
    gi_wp2_with (gi_at_call 25; ((with_reducible refine (HL1.out _ HX.out).mono ?_); rintro e w9 ⟨rfl, hx9⟩; clear c0; have HX := hid (HX.out.trans hx9); have HB0 := hid (hx9.block HB0.out); have c0 := cell_of HB0.out; clear hx9))
    go_ret
    exact ⟨by rw [HG.out]; first | done | rfl, HX.out⟩
  case true =>
  rw [q1] at HL1
  cases q2 : lieB (F.nets.getD k netZ) h
  case false =>
    rw [q2] at HL2
    have HG : Hid (canB F i k h = false) := by show canB F i k h = _; rw [HCB.out, q1, q2]; rfl
    gi_wp2_with (first | (gi_at_call 25; ((with_reducible refine (HL1.out _ HX.out).mono ?_); rintro e w9 ⟨rfl, hx9⟩; clear c0; have HX := hid (HX.out.trans hx9); have HB0 := hid (hx9.block HB0.out); have c0 := cell_of HB0.out; clear hx9)) | (gi_at_call 25; ((with_reducible refine (HL2.out _ HX.out).mono ?_); rintro e w9 ⟨rfl, hx9⟩; clear c0; have HX := hid (HX.out.trans hx9); have HB0 := hid (hx9.block HB0.out); have c0 := cell_of HB0.out; clear hx9)))
    go_ret
    exact ⟨by rw [HG.out]; first | done | rfl, HX.out⟩
  case true =>
  rw [q2] at HL2
  have HBO := hid (HBO.out (HLI.out.1 q1) (HLI.out.2 q2))
  have HFO := hid (HFO.out (apRe F F.nets[i] F.nets[k] h).lo (apRe F F.nets[i] F.nets[k] h).hi (apRn F F.nets[i] F.nets[k] h).lo (apRn F F.nets[i] F.nets[k] h).hi)
  rw [q1, q2] at HCB
  have HG : Hid (canB F i k h = (nearB (apRe F F.nets[i] F.nets[k] h) (long_eF F.nets[i]) (long_eF F.nets[k]) F.gap && nearB (apRn F F.nets[i] F.nets[k] h) (long_nF F.nets[i]) (long_nF F.nets[k]) F.gap)) := HCB.out
  clear HCB q1 q2
  generalize apRe F F.nets[i] F.nets[k] h = re at *
  generalize apRn F F.nets[i] F.nets[k] h = rn at *
  generalize (nearB re (long_eF F.nets[i]) (long_eF F.nets[k]) F.gap && nearB rn (long_nF F.nets[i]) (long_nF F.nets[k]) F.gap) = r at *
  gi_upto_region 4 with (first | (gi_at_call 25; ((with_reducible refine (HL1.out _ HX.out).mono ?_); rintro e w9 ⟨rfl, hx9⟩; clear c0; have HX := hid (HX.out.trans hx9); have HB0 := hid (hx9.block HB0.out); have c0 := cell_of HB0.out; clear hx9)) | (gi_at_call 25; ((with_reducible refine (HL2.out _ HX.out).mono ?_); rintro e w9 ⟨rfl, hx9⟩; clear c0; have HX := hid (HX.out.trans hx9); have HB0 := hid (hx9.block HB0.out); have c0 := cell_of HB0.out; clear hx9)) | (gi_at_call 44; ((with_reducible refine (HBO.out _ HX.out).mono ?_); rintro e w9 ⟨rfl, hx9⟩; clear c0; have HX := hid (HX.out.trans hx9); have HB0 := hid (hx9.block HB0.out); have c0 := cell_of HB0.out; clear hx9)) | (refine wpIn_store_new (t := 44) 44 (.tmp 9) (.tmp 29) rfl (fun _ => trivial) rfl rfl two_new size44 rfl (by kernel_rfl) ?_; intro w7 e1 e2 e3) | (refine wpIn_store_new (t := 44) (old := #[.int .i64 0, .int .i64 0]) 44 (.tmp 10) (.tmp 30) rfl (fun _ => trivial) (g := w9.heap.size + 1) rfl rfl ((e2 _ (by omega)).trans (by have := Ext.new (w := w9.alloc (.cells #[.int .i64 0, .int .i64 0] 44)) (o := .cells #[.int .i64 0, .int .i64 0] 44) (Ext.refl _); rwa [World.size_alloc] at this)) size44 rfl (by kernel_rfl) ?_; intro w8 e4 e5 e6))
  have hx7 : Ext w9 w8 := e6 w9 (by omega) (e3 w9 (by omega) (((Ext.refl _).alloc _).alloc _))
  have b1 := (e5 _ (by omega)).trans e1
  have HX := hid (HX.out.trans hx7)
  have HB0 := hid (hx7.block HB0.out)
  have x1 := cell_of b1
  have x2 := cell_of e4
  clear c0 e1 e2 e3 e4 e5 e6 hx7 b1
  have c0 := cell_of HB0.out
  gi_wp2_with (gi_at_call 33; ((with_reducible refine (HFO.out _ HX.out).mono ?_); rintro e w9 ⟨rfl, hx9⟩; clear c0; have HX := hid (HX.out.trans hx9); have HB0 := hid (hx9.block HB0.out); have c0 := cell_of HB0.out; clear hx9))
  go_ret
  exact ⟨by rw [HG.out]; first | done | rfl, HX.out⟩

end Go.Proofs.YtmjelgonhpgmbaaGreat
