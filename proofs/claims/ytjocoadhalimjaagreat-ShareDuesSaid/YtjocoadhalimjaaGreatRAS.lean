/- Loans are made: the walk. -/
import Derived.Test.YtjocoadhalimjaaGreatRAR
set_option linter.unusedSimpArgs false
set_option linter.unusedVariables false
namespace Go.Proofs.YtjocoadhalimjaaGreat
section
open Go Go.RowKit Go.Shelf

set_option maxRecDepth 100000 in
set_option maxHeartbeats 16000000 in
theorem lend_any (gr bo ne cr : Int) (cv mv : Value) (oa la ha xa : Option Addr) (on oc lc hn hc xc : Nat) (ll : List Stk) (xs : List Ln) (w : World)
    (hl : StakesAt w (.slice la ll.length lc) ll) (hx : LoansAt w (.slice xa xs.length xc) xs) (hw : ∀ s ∈ ll, 0 ≤ s.weight ∧ s.weight ≤ 1000) (hd : (ll.map (·.name)).Nodup) (hl10 : ll.length ≤ 10) :
    Cal 75 #[.agg #[.int .i64 gr, cv, .int .i64 bo, .int .i64 ne, .int .i64 cr, .slice oa on oc, .slice la ll.length lc, .slice ha hn hc, .slice xa xs.length xc, mv]] w fun e w' => Ext w w' ∧ ((lendB ll xs = false ∧ e = .returned (.tuple #[.map none, .bool false])) ∨ (lendB ll xs = true ∧ ∃ bm, e = .returned (.tuple #[.map (some bm), .bool true]) ∧ w.heap.size ≤ bm ∧ Hid (GMapAt .string w' bm (entM ll (lentTo ll xs xs.length) ll.length)))) := by
  obtain ⟨a1, c1, e1, hlb, hlc⟩ := hl
  cases e1
  obtain ⟨a2, c2, e2, hxb, hxc⟩ := hx
  cases e2
  have HLC := hid hlc
  have HXC := hid hxc
  have HW := hid hw
  have HD := hid hd
  have HBN := hid (fun k hk hg i => lentTo_bound (xs := xs) hw k hk hg i)
  have hX0 : Ext w (w.alloc (.cells #[.int .i64 gr, cv, .int .i64 bo, .int .i64 ne, .int .i64 cr, .slice oa on oc, .slice la ll.length lc, .slice ha hn hc, .slice xa xs.length xc, mv] 83)) := (Ext.refl _).alloc _
  have hB0 := Ext.new (w := w) (o := .cells #[.int .i64 gr, cv, .int .i64 bo, .int .i64 ne, .int .i64 cr, .slice oa on oc, .slice la ll.length lc, .slice ha hn hc, .slice xa xs.length xc, mv] 83) (Ext.refl _)
  have hmm := @run_makeMap Tryz.prog
  clear hlc hxc hw hd
  gi_enter Tryz.func75, Tryz.ntmps75
  gi_upto_region 2 with fail
  clear hmm
  have hxm : Ext w ((w.alloc (.cells #[.int .i64 gr, cv, .int .i64 bo, .int .i64 ne, .int .i64 cr, .slice oa on oc, .slice la ll.length lc, .slice ha hn hc, .slice xa xs.length xc, mv] 83)).alloc (.map #[] 0)) := hX0.alloc _
  have HX0 := hid hX0
  have hbx : ((w.alloc (.cells #[.int .i64 gr, cv, .int .i64 bo, .int .i64 ne, .int .i64 cr, .slice oa on oc, .slice la ll.length lc, .slice ha hn hc, .slice xa xs.length xc, mv] 83)).alloc (.map #[] 0)).heap[w.heap.size]? = some (.cells #[.int .i64 gr, cv, .int .i64 bo, .int .i64 ne, .int .i64 cr, .slice oa on oc, .slice la ll.length lc, .slice ha hn hc, .slice xa xs.length xc, mv] 83 (0, 0)) := ((Ext.refl _).alloc _).block hB0
  have hmp : GMapAt .string ((w.alloc (.cells #[.int .i64 gr, cv, .int .i64 bo, .int .i64 ne, .int .i64 cr, .slice oa on oc, .slice la ll.length lc, .slice ha hn hc, .slice xa xs.length xc, mv] 83)).alloc (.map #[] 0)) (w.heap.size + 1) (entM ll (lent0 ll) 0) := by
    have := GMapAt.made .string (w.alloc (.cells #[.int .i64 gr, cv, .int .i64 bo, .int .i64 ne, .int .i64 cr, .slice oa on oc, .slice la ll.length lc, .slice ha hn hc, .slice xa xs.length xc, mv] 83)); rwa [World.size_alloc] at this
  have hsz : ((w.alloc (.cells #[.int .i64 gr, cv, .int .i64 bo, .int .i64 ne, .int .i64 cr, .slice oa on oc, .slice la ll.length lc, .slice ha hn hc, .slice xa xs.length xc, mv] 83)).alloc (.map #[] 0)).heap.size = w.heap.size + 2 := by simp
  clear hX0 hB0 HX0
  generalize (w.alloc (.cells #[.int .i64 gr, cv, .int .i64 bo, .int .i64 ne, .int .i64 cr, .slice oa on oc, .slice la ll.length lc, .slice ha hn hc, .slice xa xs.length xc, mv] 83)).alloc (.map #[] 0) = W at *
  generalize hbm : w.heap.size + 1 = bm at *
  have HBM : Hid (w.heap.size < bm) := hid (by omega)
  clear hbm hsz
  have cb := cell_of hbx
  gi_wp2_with fail
  have HJ : Hid (Ext w W ∧ W.heap[w.heap.size]? = some (.cells #[.int .i64 gr, cv, .int .i64 bo, .int .i64 ne, .int .i64 cr, .slice oa on oc, .slice la ll.length lc, .slice ha hn hc, .slice xa xs.length xc, mv] 83 (0, 0)) ∧ GMapAt .string W bm (entM ll (lent0 ll) 0)) := hid ⟨hxm, hbx, hmp⟩
  clear hxm hbx hmp cb
  gi_loopw [6, 21] (fun u6 i wr => ∃ k : Nat, k ≤ ll.length ∧ i = .int .i64 k ∧ Hid (Ext w wr ∧ wr.heap[w.heap.size]? = some (.cells #[.int .i64 gr, cv, .int .i64 bo, .int .i64 ne, .int .i64 cr, .slice oa on oc, .slice la ll.length lc, .slice ha hn hc, .slice xa xs.length xc, mv] 83 (0, 0)) ∧ GMapAt .string wr bm (entM ll (lent0 ll) k))) (fun _ i _ => ll.length - (intOf i).toNat)
  case atStart => exact ⟨0, Nat.zero_le _, rfl, HJ⟩
  case round =>
    obtain ⟨k, hk, rfl, HI⟩ := hrel
    clear HJ
    by_cases hlt : k < ll.length
    · have hki : (k : Int) < (ll.length : Int) := by omega
      obtain ⟨b, off, rfl, hbb, c0, c1⟩ := HLC.out k hlt
      rw [← HI.out.1.cell (p := ⟨b, _, none⟩) hbb] at c0 c1
      have HS := hid (entM_succ ll (lent0 ll) k)
      have HNO := hid (entM_no HD.out (lent0 ll) hlt)
      have hl0 : lent0 ll k = (ll[k].weight, 8 * ll[k].weight) := by unfold lent0; rw [getD_of hlt]
      rw [hl0, getD_of hlt] at HS
      rw [getD_of hlt] at HNO
      have hwt := HW.out _ (List.getElem_mem hlt)
      clear hl0
      generalize ll[k] = s at *
      have hx1 : Ext wr (wr.alloc (.cells #[.string s.name, .int .i64 s.weight] 49)) := (Ext.refl _).alloc _
      have hnb : (wr.alloc (.cells #[.string s.name, .int .i64 s.weight] 49)).heap[wr.heap.size]? = some (.cells #[.string s.name, .int .i64 s.weight] 49 (0, 0)) := Ext.new (Ext.refl _)
      gi_upto_region 5 with fail
      clear c0 c1
      have HX := hid (HI.out.1.trans hx1)
      have HBX := hid (hx1.block HI.out.2.1)
      have HMP := hid (HI.out.2.2.mono hx1)
      clear HI hx1
      generalize wr.alloc (.cells #[.string s.name, .int .i64 s.weight] 49) = W2 at *
      generalize wr.heap.size = nb at *
      have cs := cell_of hnb
      obtain ⟨o, hup, hma⟩ := gupdate_new HMP.out (show MapKept.IsKey .string (.string s.name) from trivial) HNO.out (lenV (s.weight, 8 * s.weight)) Tryz.underlying81 Tryz.underlying9
      unfold lenV at hup
      have hwm : wrap64 (8 * s.weight) = 8 * s.weight := by unfold wrap64; omega
      have HMA := hid hma
      have HBP := hid (below_put (o := o) HX.out (Nat.le_of_lt HBM.out))
      have HBB : Hid ((W2.putObj bm o).heap[w.heap.size]? = _) := hid ((World.putObj_heap_other (by have := HBM.out; omega)).trans HBX.out)
      clear hma HX HBX HMP hnb HNO
      gi_wp2_with fail
      go_roundw
      case rel => exact ⟨k + 1, by omega, by go_num, hid ⟨HBP.out, HBB.out, by rw [HS.out]; exact HMA.out⟩⟩
      case measure => simp [intOf]; omega
    · obtain rfl : k = ll.length := by omega
      clear HBN
      have HBN := hid (fun k hk hg i => lentTo_bound (xs := xs) HW.out k hk hg i)
      clear HW HLC
      have HMP0 : Hid (GMapAt .string wr bm (entM ll (lentTo ll xs 0) ll.length)) := hid HI.out.2.2
      have cb := cell_of HI.out.2.1
      by_cases h12 : xs.length ≤ 12
      · have h12i : (xs.length : Int) ≤ 12 := by omega
        gi_wp2_with fail
        clear h12i
        have HJ : Hid (Ext w wr ∧ GMapAt .string wr bm (entM ll (lentTo ll xs 0) ll.length)) := hid ⟨HI.out.1, HMP0.out⟩
        clear HI HMP0 cb
        obtain ⟨wo, rfl⟩ : ∃ wo, wo = wr := ⟨wr, rfl⟩
        gi_loopw [8, 9, 10, 11, 12, 13, 44] (fun u8 u9 u10 u11 u12 u13 i wr => ∃ k : Nat, k ≤ xs.length ∧ i = .int .i64 k ∧ Hid (∀ j, j < k → lnGood ll (xs.getD j noLn) = true) ∧ Hid (Ext w wr ∧ GMapAt .string wr bm (entM ll (lentTo ll xs k) ll.length))) (fun _ _ _ _ _ _ i _ => xs.length - (intOf i).toNat)
        case atStart => exact ⟨0, Nat.zero_le _, rfl, hid fun j h => absurd h (by omega), HJ⟩
        case round =>
          obtain ⟨k, hk, rfl, HG, HI⟩ := hrel
          clear HJ
          by_cases hlt : k < xs.length
          · have hki : (k : Int) < (xs.length : Int) := by omega
            obtain ⟨b, off, rfl, hbb, c0, c1, c2, c3⟩ := HXC.out k hlt
            rw [← HI.out.1.cell (p := ⟨b, _, none⟩) hbb] at c0 c1 c2 c3
            have HLS := hid (lentTo_succ ll hlt)
            have HBD := hid (HBN.out k (by omega) HG.out)
            have HQ : Hid (lnGood ll (xs.getD k noLn) = (decide (0 ≤ placeN (nmsOf ll) xs[k].f) && (decide (0 ≤ placeN (nmsOf ll) xs[k].g) && loanB xs[k].f xs[k].g xs[k].n xs[k].r))) := hid (by rw [getD_of hlt]; rfl)
            have HF : Hid (lnGood ll (xs.getD k noLn) = false → lendB ll xs = false) := hid fun h => by unfold lendB; rw [allTo_no hlt h]; simp
            have HU : Hid (lnGood ll (xs.getD k noLn) = true → ∀ j, j < k + 1 → lnGood ll (xs.getD j noLn) = true) := hid fun h => upTo_succ HG.out h
            generalize xs[k] = x at *
            have hx1 : Ext wr (wr.alloc (.cells #[.string x.f, .string x.g, .int .i64 x.n, .int .i64 x.r] 59)) := (Ext.refl _).alloc _
            have hnb : (wr.alloc (.cells #[.string x.f, .string x.g, .int .i64 x.n, .int .i64 x.r] 59)).heap[wr.heap.size]? = some (.cells #[.string x.f, .string x.g, .int .i64 x.n, .int .i64 x.r] 59 (0, 0)) := Ext.new (Ext.refl _)
            gi_upto_region 12 with fail
            clear c0 c1 c2 c3
            have HX := hid (HI.out.1.trans hx1)
            have HMP := hid (HI.out.2.mono hx1)
            clear HI hx1 HG
            generalize wr.alloc (.cells #[.string x.f, .string x.g, .int .i64 x.n, .int .i64 x.r] 59) = W2 at *
            generalize wr.heap.size = nb at *
            have cs := cell_of hnb
            obtain ⟨p, k1, hlk1, hp1, hs1⟩ := look_len HD.out HMP.out x.f
            have hxa : Ext W2 (W2.alloc (.cells #[.int .i64 p.1, .int .i64 p.2] 115)) := (Ext.refl _).alloc _
            have hna : (W2.alloc (.cells #[.int .i64 p.1, .int .i64 p.2] 115)).heap[W2.heap.size]? = some (.cells #[.int .i64 p.1, .int .i64 p.2] 115 (0, 0)) := Ext.new (Ext.refl _)
            gi_upto_region 13 with fail
            clear hlk1 cs
            have hMPa := HMP.out.mono hxa
            have HXa := hid (HX.out.trans hxa)
            have hnba := hxa.block hnb
            clear HX HMP hnb hxa
            generalize W2.alloc (.cells #[.int .i64 p.1, .int .i64 p.2] 115) = W3 at *
            generalize W2.heap.size = na at *
            have cs := cell_of hnba
            obtain ⟨q, k2, hlk2, hp2, hs2⟩ := look_len HD.out hMPa x.g
            have hxb : Ext W3 (W3.alloc (.cells #[.int .i64 q.1, .int .i64 q.2] 115)) := (Ext.refl _).alloc _
            have hnc : (W3.alloc (.cells #[.int .i64 q.1, .int .i64 q.2] 115)).heap[W3.heap.size]? = some (.cells #[.int .i64 q.1, .int .i64 q.2] 115 (0, 0)) := Ext.new (Ext.refl _)
            gi_upto_region 14 with fail
            clear hlk2 cs
            have HMPb := hid (hMPa.mono hxb)
            have HXb := hid (HXa.out.trans hxb)
            have HNB := hid (hxb.block hnba)
            have HNA := hid (hxb.block hna)
            have HNC := hid hnc
            clear hMPa HXa hnba hna hnc hxb
            generalize W3.alloc (.cells #[.int .i64 q.1, .int .i64 q.2] 115) = W4 at *
            generalize W3.heap.size = nc at *
            clear W2 W3
            have cs := cell_of HNB.out
            have HP1 := hid hp1
            have HP2 := hid hp2
            have HS1 := hid hs1
            have HS2 := hid hs2
            clear hp1 hp2 hs1 hs2
            have HIL := hid (fun (u : World) => isLoan_any x.f x.g x.n x.r u)
            cases k1 with
            | false =>
              have HR := hid (HF.out (by rw [HQ.out, HP1.out]; rfl))
              clear HF HU HQ HP1 HP2 HS1 HS2 HBD
              gi_wp2_with fail
              exact bodyPost_ret (v := .tuple #[.map none, .bool false]) (by simp [results, Tryz.results75, go_sem]) rfl ⟨HXb.out, .inl ⟨HR.out, rfl⟩⟩
            | true =>
            cases k2 with
            | false =>
              have HR := hid (HF.out (by rw [HQ.out, HP1.out, HP2.out]; rfl))
              clear HF HU HQ HP1 HP2 HS1 HS2 HBD
              gi_wp2_with fail
              exact bodyPost_ret (v := .tuple #[.map none, .bool false]) (by simp [results, Tryz.results75, go_sem]) rfl ⟨HXb.out, .inl ⟨HR.out, rfl⟩⟩
            | true =>
            cases hlo : loanB x.f x.g x.n x.r with
            | false =>
              have HR := hid (HF.out (by rw [HQ.out, HP1.out, HP2.out, hlo]; rfl))
              rw [hlo] at HIL
              clear HF HU HQ HP1 HP2 HS1 HS2 HBD hlo
              gi_wp2_with (gi_at_call 95; ((with_reducible refine (HIL.out _).mono ?_); rintro e w5 ⟨rfl, hx5⟩))
              exact bodyPost_ret (v := .tuple #[.map none, .bool false]) (by simp [results, Tryz.results75, go_sem]) rfl ⟨HXb.out.trans hx5, .inl ⟨HR.out, rfl⟩⟩
            | true =>
              have HUU := hid (HU.out (by rw [HQ.out, HP1.out, HP2.out, hlo]; rfl))
              have hsm := loan_small hlo
              have hne : x.f ≠ x.g := by
                rintro he
                unfold loanB at hlo
                rw [he] at hlo; simp at hlo
              rw [hlo] at HIL
              obtain ⟨i1, hi1, hp1, hn1, hpe⟩ := HS1.out rfl
              obtain ⟨i2, hi2, hp2, hn2, hqe⟩ := HS2.out rfl
              have hi12 : i1 ≠ i2 := by rintro rfl; exact hne (hn1.symm.trans hn2)
              have hb1 := HBD.out i1
              have hb2 := HBD.out i2
              rw [← hpe] at hb1
              rw [← hqe] at hb2
              have hk12 : (k : Int) ≤ 12 := by omega
              obtain ⟨cl, hcl⟩ : ∃ cl, (8 - x.r) * x.n = cl := ⟨_, rfl⟩
              rw [hcl] at hsm
              have hm1 : wrap64 (8 - x.r) = 8 - x.r := by unfold wrap64; omega
              have hm2 : wrap64 ((8 - x.r) * x.n) = cl := by rw [hcl]; unfold wrap64; omega
              have hm3 : wrap64 (p.1 - x.n) = p.1 - x.n := by unfold wrap64; omega
              have hm4 : wrap64 (p.2 - cl) = p.2 - cl := by unfold wrap64; omega
              have hm5 : wrap64 (q.1 + x.n) = q.1 + x.n := by unfold wrap64; omega
              have hm6 : wrap64 (q.2 + cl) = q.2 + cl := by unfold wrap64; omega
              have HST : Hid (lnStep ll (lentTo ll xs k) x = setS (setS (lentTo ll xs k) i1 (p.1 - x.n, p.2 - cl)) i2 (q.1 + x.n, q.2 + cl)) := hid (by
                funext j
                unfold lnStep setS
                rw [hp1, hp2, hcl, hpe, hqe]
                by_cases hj2 : j = i2
                · subst hj2; simp
                · rw [if_neg (by omega), if_neg hj2]
                  by_cases hj1 : j = i1
                  · subst hj1; simp
                  · rw [if_neg (by omega), if_neg hj1])
              have HN1 := hid hn1
              have HN2 := hid hn2
              have HI1 := hid hi1
              have HI2 := hid hi2
              clear HF HU HQ HP1 HP2 HS1 HS2 HBD hlo hb1 hb2 hn1 hn2 hpe hqe hp1 hp2 hcl hsm hi12 hi1 hi2 hk12
              gi_wp2_with (gi_at_call 95; ((with_reducible refine (HIL.out _).mono ?_); rintro e w5 ⟨rfl, hx5⟩; have hNB := hx5.block HNB.out; have hNA := hx5.block HNA.out; have hNC := hx5.block HNC.out; have hMP := HMPb.out.mono hx5; obtain ⟨o1, hup1, hma1⟩ := store_len hMP HI1.out x.f HN1.out (p.1 - x.n, p.2 - cl); obtain ⟨o2, hup2, hma2⟩ := store_len hma1 HI2.out x.g HN2.out (q.1 + x.n, q.2 + cl); have csb := cell_of hNB; have csa := cell_of hNA; have csb' := cell_of ((World.putObj_heap_other (hMP.notCells hNB)).trans hNB : (w5.putObj bm o1).heap[nb]? = _); have csc' := cell_of ((World.putObj_heap_other (hMP.notCells hNC)).trans hNC : (w5.putObj bm o1).heap[nc]? = _); have HMA2 := hid hma2; have HX5 := hid (HXb.out.trans hx5); clear hMP hma1 hma2 hNB hNA hNC hx5))
              go_roundw
              case rel => exact ⟨k + 1, by omega, by go_num, HUU, hid ⟨below_put (below_put HX5.out (Nat.le_of_lt HBM.out) _) (Nat.le_of_lt HBM.out) _, by rw [HLS.out, HST.out]; exact HMA2.out⟩⟩
              case measure => simp [intOf]; omega
          · obtain rfl : k = xs.length := by omega
            have HAL : Hid (allTo (fun j => lnGood ll (xs.getD j noLn)) xs.length = true) := hid (allTo_yes HG.out)
            have HLB : Hid (lendB ll xs = allTo (fun i => notLess (lentTo ll xs xs.length i)) ll.length) := hid (by unfold lendB; rw [HAL.out]; simp [h12])
            clear HG HBN HAL HXC
            obtain ⟨S, hS⟩ : ∃ S, lentTo ll xs xs.length = S := ⟨_, rfl⟩
            rw [hS] at HI HLB
            have HS := hid hS
            clear hS
            obtain ⟨wi, hri, hxi, hit⟩ := iter_made HI.out.2 Tryz.underlying81
            have HXI := hid (HI.out.1.trans hxi)
            have HI0 := hid HI.out.1
            have HIT := hid hit
            clear hit hxi HI
            gi_wp2_with fail
            clear hri
            have HTL : Hid (w.heap.size ≤ wr.heap.size) := hid HI0.out.size
            generalize wr.heap.size = it at *
            have HJ : Hid (∃ left, IterAt .string wi bm it (entM ll S ll.length) left ∧ (∀ p ∈ entM ll S ll.length, p ∈ left ∨ ∃ z, p.2 = lenV z ∧ notLess z = true) ∧ Ext w wi) := hid ⟨_, HIT.out, fun p hp => .inl hp, HXI.out⟩
            clear HIT HXI
            gi_loopw [15] (fun u15 wr => Hid (∃ left, IterAt .string wr bm it (entM ll S ll.length) left ∧ (∀ p ∈ entM ll S ll.length, p ∈ left ∨ ∃ z, p.2 = lenV z ∧ notLess z = true) ∧ Ext w wr)) (fun _ wr => iterLeft wr bm it)
            case atStart => exact HJ
            case round =>
              clear HJ
              obtain ⟨left, hit, hall, hx⟩ := hrel.out
              clear hrel
              have HCT := hid hit.count
              have HALL := hid hall
              have HX := hid hx
              clear hall hx
              rcases iter_next hit 0 with ⟨hl0, hnx⟩ | ⟨kk, vv, w', o, la', lb', hle, hmem, hnx, hw1, hit', hen⟩
              · have HR : Hid (lendB ll xs = true) := hid (by
                  rw [HLB.out]
                  refine allTo_yes fun i hi => ?_
                  have hm : ((.string (ll.getD i noStk).name, lenV (S i)) : Value × Value) ∈ entM ll S ll.length := List.mem_map.2 ⟨i, List.mem_range.2 hi, rfl⟩
                  rcases HALL.out _ hm with h | ⟨z, hz, hg⟩
                  · rw [hl0] at h; cases h
                  · have : S i = z := by
                      unfold lenV at hz
                      simp at hz
                      exact Prod.ext hz.1 hz.2
                    rw [this]; exact hg)
                have HMM := hid hit.map
                clear hit HALL HCT
                gi_wp2_with fail
                exact bodyPost_ret (v := .tuple #[.map (some bm), .bool true]) (by simp [results, Tryz.results75, go_sem]) rfl ⟨HX.out, .inr ⟨HR.out, bm, rfl, Nat.le_of_lt HBM.out, by rw [HS.out]; exact hid HMM.out⟩⟩
              · have hxw : Ext w w' := by
                  obtain ⟨w1, h1, rfl⟩ := hw1
                  refine below_put ?_ HTL.out o
                  rcases h1 with rfl | rfl
                  · exact HX.out
                  · exact HX.out.trans (Ext.drawn _)
                have hen1 := hen w' (Ext.refl _)
                have HIT := hid hit'
                have HXW := hid hxw
                have HLE := hid hle
                obtain ⟨i, hi, hie⟩ := List.mem_map.1 hmem
                have hi := List.mem_range.1 hi
                obtain ⟨rfl, rfl⟩ : kk = .string (ll.getD i noStk).name ∧ vv = lenV (S i) := ⟨(congrArg Prod.fst hie).symm, (congrArg Prod.snd hie).symm⟩
                have HII := hid hi
                obtain ⟨nm, hnm⟩ : ∃ nm, (ll.getD i noStk).name = nm := ⟨_, rfl⟩
                rw [hnm] at hnx hen1 HLE
                obtain ⟨z, hz⟩ : ∃ z, S i = z := ⟨_, rfl⟩
                rw [hz] at hnx hen1 HLE
                unfold lenV at hnx hen1
                have HZ := hid hz
                clear hit hle hmem hw1 hen hie hi hxw hit' hnm hz
                have hxa : Ext w' (w'.alloc (.cells #[.int .i64 z.1, .int .i64 z.2] 115)) := (Ext.refl _).alloc _
                have HXA := hid hxa
                clear hxa
                by_cases h1 : z.1 < 0
                · have HR : Hid (lendB ll xs = false) := hid (by rw [HLB.out]; exact allTo_no HII.out (by rw [HZ.out]; simp [notLess, h1]))
                  gi_wp2_with fail
                  exact bodyPost_ret (v := .tuple #[.map none, .bool false]) (by simp [results, Tryz.results75, go_sem]) rfl ⟨HXW.out.trans HXA.out, .inl ⟨HR.out, rfl⟩⟩
                · by_cases h2 : z.2 < 0
                  · have HR : Hid (lendB ll xs = false) := hid (by rw [HLB.out]; exact allTo_no HII.out (by rw [HZ.out]; simp [notLess, h2]))
                    gi_wp2_with fail
                    exact bodyPost_ret (v := .tuple #[.map none, .bool false]) (by simp [results, Tryz.results75, go_sem]) rfl ⟨HXW.out.trans HXA.out, .inl ⟨HR.out, rfl⟩⟩
                  · have HG2 : Hid (notLess z = true) := hid (by simp [notLess]; omega)
                    gi_wp2_with fail
                    go_roundw
                    case rel =>
                      refine hid ⟨la' ++ lb', HIT.out.mono HXA.out, fun p hp => ?_, HXW.out.trans HXA.out⟩
                      rcases HALL.out p hp with h | h
                      · rw [HLE.out] at h
                        rcases List.mem_append.1 h with h | h
                        · exact .inl (List.mem_append_left _ h)
                        · rcases List.mem_cons.1 h with rfl | h
                          · exact .inr ⟨z, rfl, HG2.out⟩
                          · exact .inl (List.mem_append_right _ h)
                      · exact .inr h
                    case measure =>
                      rw [HCT.out, (HIT.out.mono HXA.out).count, HLE.out]; simp
      · have HR : Hid (lendB ll xs = false) := hid (by unfold lendB; simp [h12])
        have HX := hid HI.out.1
        have h12i : (12 : Int) < (xs.length : Int) := by omega
        clear HI HBN HMP0
        gi_wp2_with fail
        exact bodyPost_ret (v := .tuple #[.map none, .bool false]) (by simp [results, Tryz.results75, go_sem]) rfl ⟨HX.out, .inl ⟨HR.out, rfl⟩⟩
end
section
open Go Go.RowKit Go.Shelf

/-- A voyage. -/
structure Voy where
  gr : Int
  bo : Int
  ne : Int
  cr : Int
  cs : List Int
  ow : List Stk
  le : List Stk
  ha : List Stk
  lo : List Ln
/-- Where its lists lie. -/
structure VS where
  ca : Option Addr
  oa : Option Addr
  la : Option Addr
  ha : Option Addr
  xa : Option Addr
  cc : Nat
  oc : Nat
  lc : Nat
  hc : Nat
  xc : Nat
def voyA (V : Voy) (s : VS) : Array Value := #[.int .i64 V.gr, .slice s.ca V.cs.length s.cc, .int .i64 V.bo, .int .i64 V.ne, .int .i64 V.cr, .slice s.oa V.ow.length s.oc, .slice s.la V.le.length s.lc, .slice s.ha V.ha.length s.hc, .slice s.xa V.lo.length s.xc]
def voyB (V : Voy) (s : VS) (m : Value) : Array Value := #[.int .i64 V.gr, .slice s.ca V.cs.length s.cc, .int .i64 V.bo, .int .i64 V.ne, .int .i64 V.cr, .slice s.oa V.ow.length s.oc, .slice s.la V.le.length s.lc, .slice s.ha V.ha.length s.hc, .slice s.xa V.lo.length s.xc, m]
structure VoyAt (w : World) (V : Voy) (s : VS) : Prop where
  cs : IntsAt w (.slice s.ca V.cs.length s.cc) V.cs
  ow : StakesAt w (.slice s.oa V.ow.length s.oc) V.ow
  le : StakesAt w (.slice s.la V.le.length s.lc) V.le
  ha : StakesAt w (.slice s.ha V.ha.length s.hc) V.ha
  lo : LoansAt w (.slice s.xa V.lo.length s.xc) V.lo
  no : nmOk V.ow
  nl : nmOk V.le
  nh : nmOk V.ha
theorem VoyAt.mono {w w' : World} {V : Voy} {s : VS} (h : VoyAt w V s) (hx : Ext w w') : VoyAt w' V s := ⟨h.cs.mono hx, h.ow.mono hx, h.le.mono hx, h.ha.mono hx, h.lo.mono hx, h.no, h.nl, h.nh⟩
def validV (V : Voy) : Bool := validB V.gr V.bo V.ne V.cr V.cs V.ow V.le V.ha
/-- The error of a voyage. -/
def voyE (V : Voy) : Int := if validV V then (if lendB V.le V.lo then 0 else 31) else 30
def zeroVoy : Array Value := #[.int .i64 0, .slice none 0 0, .int .i64 0, .int .i64 0, .int .i64 0, .slice none 0 0, .slice none 0 0, .slice none 0 0, .slice none 0 0, .map none]
structure ValidV (V : Voy) : Prop where
  gr : 0 ≤ V.gr ∧ V.gr ≤ 10000000
  csl : V.cs.length ≤ 10
  cs : ∀ x ∈ V.cs, 0 ≤ x ∧ x ≤ V.gr
  net : 0 ≤ V.gr - V.cs.sum
  bo : 0 ≤ V.bo ∧ V.bo ≤ 8
  ne : 0 ≤ V.ne ∧ V.ne ≤ 8
  cr : 0 ≤ V.cr ∧ V.cr ≤ 8
  all : V.bo + V.ne + V.cr = 8
  ow : stakesB V.ow = true
  le : stakesB V.le = true
  ha : stakesB V.ha = true
  bbo : V.bo = back V.bo V.ow
  bne : V.ne = back V.ne V.le
  bcr : V.cr = back V.cr V.ha
theorem valid_iff {V : Voy} : validV V = true ↔ ValidV V := by
  unfold validV validB
  simp only [Bool.and_eq_true, decide_eq_true_eq, beq_iff_eq]
  constructor
  · rintro ⟨h1, h2, h3, h4, h5, h6, h7, h8, h9, h10, h11, h12⟩
    have a := areB_iff.1 h5
    exact ⟨inB_spec h1, h2, areB_iff.1 h3, h4, a _ (by simp), a _ (by simp), a _ (by simp), h6, h7, h8, h9, h10, h11, h12⟩
  · intro h
    refine ⟨by have := h.gr; simp [inB]; omega, h.csl, areB_iff.2 h.cs, h.net, areB_iff.2 fun x hx => ?_, h.all, h.ow, h.le, h.ha, h.bbo, h.bne, h.bcr⟩
    simp at hx
    rcases hx with rfl | rfl | rfl
    · exact h.bo
    · exact h.ne
    · exact h.cr
theorem size83 : (Tryz.prog.info? 83).map (·.size) = some 10 := by kernel_rfl
set_option maxRecDepth 100000 in
set_option maxHeartbeats 16000000 in
theorem newVoyage_any (V : Voy) (s : VS) (w : World) (h : VoyAt w V s) :
    Cal 54 #[.agg (voyA V s)] w fun e w' => Ext w w' ∧ ((voyE V ≠ 0 ∧ e = .returned (.tuple #[.agg zeroVoy, .int .i64 (voyE V)])) ∨ (voyE V = 0 ∧ ∃ bm, e = .returned (.tuple #[.agg (voyB V s (.map (some bm))), .int .i64 0]) ∧ w.heap.size ≤ bm ∧ Hid (GMapAt .string w' bm (entM V.le (lentTo V.le V.lo V.lo.length) V.le.length)))) := by
  have HV := hid (fun (u : World) (hu : Ext w u) => isValid_any V.gr V.bo V.ne V.cr (.slice s.ca V.cs.length s.cc) (.slice s.xa V.lo.length s.xc) (.map none) s.oa s.la s.ha V.ow.length s.oc V.le.length s.lc V.ha.length s.hc V.cs V.ow V.le V.ha u (h.cs.mono hu) (h.ow.mono hu) (h.le.mono hu) (h.ha.mono hu) h.no h.nl h.nh)
  have HLN := hid (fun (hv : ValidV V) (u : World) (hu : Ext w u) => lend_any V.gr V.bo V.ne V.cr (.slice s.ca V.cs.length s.cc) (.map none) s.oa s.la s.ha s.xa V.ow.length s.oc s.lc V.ha.length s.hc s.xc V.le V.lo u (h.le.mono hu) (h.lo.mono hu) (fun x hx => ((stakes_ok hv.le).2.1 x hx).2) (stakes_ok hv.le).2.2 (stakes_ok hv.le).1)
  have HE : Hid (voyE V = if validV V then (if lendB V.le V.lo then 0 else 31) else 30) := hid rfl
  have HVV : Hid (validV V = true → ValidV V) := hid valid_iff.1
  have hval : validB V.gr V.bo V.ne V.cr V.cs V.ow V.le V.ha = validV V := rfl
  rw [hval] at HV
  clear h hval
  generalize validV V = b at *
  unfold voyA voyB zeroVoy
  obtain ⟨gr, bo, ne, cr, cs, ol, ll, hl, xs⟩ := V
  obtain ⟨ca, oa, la, ha, xa, cc, oc, lc, hc, xc⟩ := s
  simp only at *
  gi_enter Tryz.func54, Tryz.ntmps54
  gi_upto_region 2 with fail
  have hx0 : Ext w (((w.alloc (.cells #[.int .i64 gr, .slice ca cs.length cc, .int .i64 bo, .int .i64 ne, .int .i64 cr, .slice oa ol.length oc, .slice la ll.length lc, .slice ha hl.length hc, .slice xa xs.length xc] 32)).alloc (.cells #[.int .i64 0, .slice none 0 0, .int .i64 0, .int .i64 0, .int .i64 0, .slice none 0 0, .slice none 0 0, .slice none 0 0, .slice none 0 0, .map none] 83)).alloc (.cells #[.int .i64 gr, .slice ca cs.length cc, .int .i64 bo, .int .i64 ne, .int .i64 cr, .slice oa ol.length oc, .slice la ll.length lc, .slice ha hl.length hc, .slice xa xs.length xc, .map none] 83)) := (((Ext.refl _).alloc _).alloc _).alloc _
  have hr0 := three_mid (w := w) (o1 := .cells #[.int .i64 gr, .slice ca cs.length cc, .int .i64 bo, .int .i64 ne, .int .i64 cr, .slice oa ol.length oc, .slice la ll.length lc, .slice ha hl.length hc, .slice xa xs.length xc] 32) (o2 := .cells #[.int .i64 0, .slice none 0 0, .int .i64 0, .int .i64 0, .int .i64 0, .slice none 0 0, .slice none 0 0, .slice none 0 0, .slice none 0 0, .map none] 83) (o3 := .cells #[.int .i64 gr, .slice ca cs.length cc, .int .i64 bo, .int .i64 ne, .int .i64 cr, .slice oa ol.length oc, .slice la ll.length lc, .slice ha hl.length hc, .slice xa xs.length xc, .map none] 83)
  have hw0 := three_top (w := w) (o1 := .cells #[.int .i64 gr, .slice ca cs.length cc, .int .i64 bo, .int .i64 ne, .int .i64 cr, .slice oa ol.length oc, .slice la ll.length lc, .slice ha hl.length hc, .slice xa xs.length xc] 32) (o2 := .cells #[.int .i64 0, .slice none 0 0, .int .i64 0, .int .i64 0, .int .i64 0, .slice none 0 0, .slice none 0 0, .slice none 0 0, .slice none 0 0, .map none] 83) (o3 := .cells #[.int .i64 gr, .slice ca cs.length cc, .int .i64 bo, .int .i64 ne, .int .i64 cr, .slice oa ol.length oc, .slice la ll.length lc, .slice ha hl.length hc, .slice xa xs.length xc, .map none] 83)
  generalize ((w.alloc (.cells #[.int .i64 gr, .slice ca cs.length cc, .int .i64 bo, .int .i64 ne, .int .i64 cr, .slice oa ol.length oc, .slice la ll.length lc, .slice ha hl.length hc, .slice xa xs.length xc] 32)).alloc (.cells #[.int .i64 0, .slice none 0 0, .int .i64 0, .int .i64 0, .int .i64 0, .slice none 0 0, .slice none 0 0, .slice none 0 0, .slice none 0 0, .map none] 83)).alloc (.cells #[.int .i64 gr, .slice ca cs.length cc, .int .i64 bo, .int .i64 ne, .int .i64 cr, .slice oa ol.length oc, .slice la ll.length lc, .slice ha hl.length hc, .slice xa xs.length xc, .map none] 83) = W at *
  have HX := hid hx0
  have HR := hid hr0
  have HW := hid hw0
  have cw := cell_of hw0
  clear hx0 hr0 hw0
  cases b with
  | false =>
    have HEE : Hid (voyE ⟨gr, bo, ne, cr, cs, ol, ll, hl, xs⟩ = 30) := hid (by rw [HE.out]; rfl)
    clear HE HLN HVV
    gi_wp2_with (first | (gi_at_call 74; ((with_reducible refine (HV.out _ HX.out).mono ?_); rintro e w1 ⟨rfl, hx1⟩; have hr1 := hx1.block HR.out; have hxx := HX.out.trans hx1)) | (refine wpIn_store_at 83 (.tmp 2) (.tmp 12) rfl (fun _ => trivial) (g := w.heap.size + 1) (off := 0) rfl rfl hr1 size83 (by simp) (by simp [Value.oneCell']) ?_; refine Hid.out ?_))
    refine hid ?_
    have hX2 := ext_setRow hxx (show w.heap.size ≤ w.heap.size + 1 by omega) #[.int .i64 0, .slice none 0 0, .int .i64 0, .int .i64 0, .int .i64 0, .slice none 0 0, .slice none 0 0, .slice none 0 0, .slice none 0 0, .map none]
    have hs := setRow_heap _ _ _ #[.int .i64 0, .slice none 0 0, .int .i64 0, .int .i64 0, .int .i64 0, .slice none 0 0, .slice none 0 0, .slice none 0 0, .slice none 0 0, .map none] _ _ hr1
    have e0 : (List.take 0 (#[.int .i64 0, .slice none 0 0, .int .i64 0, .int .i64 0, .int .i64 0, .slice none 0 0, .slice none 0 0, .slice none 0 0, .slice none 0 0, .map none] : Array Value).toList ++ (#[.int .i64 0, .slice none 0 0, .int .i64 0, .int .i64 0, .int .i64 0, .slice none 0 0, .slice none 0 0, .slice none 0 0, .slice none 0 0, .map none] : Array Value).toList ++ List.drop (0 + (#[.int .i64 0, .slice none 0 0, .int .i64 0, .int .i64 0, .int .i64 0, .slice none 0 0, .slice none 0 0, .slice none 0 0, .slice none 0 0, .map none] : Array Value).size) (#[.int .i64 0, .slice none 0 0, .int .i64 0, .int .i64 0, .int .i64 0, .slice none 0 0, .slice none 0 0, .slice none 0 0, .slice none 0 0, .map none] : Array Value).toList).toArray = #[.int .i64 0, .slice none 0 0, .int .i64 0, .int .i64 0, .int .i64 0, .slice none 0 0, .slice none 0 0, .slice none 0 0, .slice none 0 0, .map none] := rfl
    simp only [List.append_assoc] at e0 ⊢
    first | rw [e0] | skip
    generalize w1.setRow (w.heap.size + 1) #[.int .i64 0, .slice none 0 0, .int .i64 0, .int .i64 0, .int .i64 0, .slice none 0 0, .slice none 0 0, .slice none 0 0, .slice none 0 0, .map none] = W9 at *
    have hc9 := cell_of hs
    gi_wp2_with fail
    exact bodyPost_ret (v := .tuple #[.agg #[.int .i64 0, .slice none 0 0, .int .i64 0, .int .i64 0, .int .i64 0, .slice none 0 0, .slice none 0 0, .slice none 0 0, .slice none 0 0, .map none], .int .i64 30]) (by simp [results, Tryz.results54, go_sem, hc9]) rfl ⟨hX2, .inl ⟨by rw [HEE.out]; decide, by rw [HEE.out]⟩⟩
  | true =>
    have HLL := hid (HLN.out (HVV.out rfl))
    clear HLN HVV
    cases hlb : lendB ll xs with
    | false =>
      have HEE : Hid (voyE ⟨gr, bo, ne, cr, cs, ol, ll, hl, xs⟩ = 31) := hid (by rw [HE.out, hlb]; rfl)
      have HL0 : Hid (∀ u, Ext w u → Cal 75 #[.agg #[.int .i64 gr, .slice ca cs.length cc, .int .i64 bo, .int .i64 ne, .int .i64 cr, .slice oa ol.length oc, .slice la ll.length lc, .slice ha hl.length hc, .slice xa xs.length xc, .map none]] u fun e w' => e = .returned (.tuple #[.map none, .bool false]) ∧ Ext u w') := hid fun u hu => (HLL.out u hu).mono fun e w' hh => by
        rcases hh with ⟨hx, ⟨_, he⟩ | ⟨hb, _⟩⟩
        · exact ⟨he, hx⟩
        · rw [hlb] at hb; cases hb
      clear HE HLL hlb
      gi_wp2_with (first | (gi_at_call 74; ((with_reducible refine (HV.out _ HX.out).mono ?_); rintro e w1 ⟨rfl, hx1⟩; have hr1 := hx1.block HR.out; have hw1 := hx1.block HW.out; have cw1 := cell_of hw1; have hxx := HX.out.trans hx1)) | (gi_at_call 75; ((with_reducible refine (HL0.out _ hxx).mono ?_); rintro e w2 ⟨rfl, hx2⟩; have hr2 := hx2.block hr1; have hxy := hxx.trans hx2)) | (refine wpIn_store_at 83 (.tmp 2) (.tmp 20) rfl (fun _ => trivial) (g := w.heap.size + 1) (off := 0) rfl rfl hr2 size83 (by simp) (by simp [Value.oneCell']) ?_; refine Hid.out ?_))
      refine hid ?_
      have hX2 := ext_setRow hxy (show w.heap.size ≤ w.heap.size + 1 by omega) #[.int .i64 0, .slice none 0 0, .int .i64 0, .int .i64 0, .int .i64 0, .slice none 0 0, .slice none 0 0, .slice none 0 0, .slice none 0 0, .map none]
      have hs := setRow_heap _ _ _ #[.int .i64 0, .slice none 0 0, .int .i64 0, .int .i64 0, .int .i64 0, .slice none 0 0, .slice none 0 0, .slice none 0 0, .slice none 0 0, .map none] _ _ hr2
      have e0 : (List.take 0 (#[.int .i64 0, .slice none 0 0, .int .i64 0, .int .i64 0, .int .i64 0, .slice none 0 0, .slice none 0 0, .slice none 0 0, .slice none 0 0, .map none] : Array Value).toList ++ (#[.int .i64 0, .slice none 0 0, .int .i64 0, .int .i64 0, .int .i64 0, .slice none 0 0, .slice none 0 0, .slice none 0 0, .slice none 0 0, .map none] : Array Value).toList ++ List.drop (0 + (#[.int .i64 0, .slice none 0 0, .int .i64 0, .int .i64 0, .int .i64 0, .slice none 0 0, .slice none 0 0, .slice none 0 0, .slice none 0 0, .map none] : Array Value).size) (#[.int .i64 0, .slice none 0 0, .int .i64 0, .int .i64 0, .int .i64 0, .slice none 0 0, .slice none 0 0, .slice none 0 0, .slice none 0 0, .map none] : Array Value).toList).toArray = #[.int .i64 0, .slice none 0 0, .int .i64 0, .int .i64 0, .int .i64 0, .slice none 0 0, .slice none 0 0, .slice none 0 0, .slice none 0 0, .map none] := rfl
      simp only [List.append_assoc] at e0 ⊢
      first | rw [e0] | skip
      generalize w2.setRow (w.heap.size + 1) #[.int .i64 0, .slice none 0 0, .int .i64 0, .int .i64 0, .int .i64 0, .slice none 0 0, .slice none 0 0, .slice none 0 0, .slice none 0 0, .map none] = W9 at *
      have hc9 := cell_of hs
      gi_wp2_with fail
      exact bodyPost_ret (v := .tuple #[.agg #[.int .i64 0, .slice none 0 0, .int .i64 0, .int .i64 0, .int .i64 0, .slice none 0 0, .slice none 0 0, .slice none 0 0, .slice none 0 0, .map none], .int .i64 31]) (by simp [results, Tryz.results54, go_sem, hc9]) rfl ⟨hX2, .inl ⟨by rw [HEE.out]; decide, by rw [HEE.out]⟩⟩
    | true =>
      have HEE : Hid (voyE ⟨gr, bo, ne, cr, cs, ol, ll, hl, xs⟩ = 0) := hid (by rw [HE.out, hlb]; rfl)
      have HL0 : Hid (∀ u, Ext w u → Cal 75 #[.agg #[.int .i64 gr, .slice ca cs.length cc, .int .i64 bo, .int .i64 ne, .int .i64 cr, .slice oa ol.length oc, .slice la ll.length lc, .slice ha hl.length hc, .slice xa xs.length xc, .map none]] u fun e w' => ∃ bm, e = .returned (.tuple #[.map (some bm), .bool true]) ∧ u.heap.size ≤ bm ∧ Ext u w' ∧ Hid (GMapAt .string w' bm (entM ll (lentTo ll xs xs.length) ll.length))) := hid fun u hu => (HLL.out u hu).mono fun e w' hh => by
        rcases hh with ⟨hx, ⟨hb, _⟩ | ⟨_, bm, he, hle, hm⟩⟩
        · rw [hlb] at hb; cases hb
        · exact ⟨bm, he, hle, hx, hm⟩
      clear HE HLL hlb
      gi_wp2_with (first | (gi_at_call 74; ((with_reducible refine (HV.out _ HX.out).mono ?_); rintro e w1 ⟨rfl, hx1⟩; have hr1 := hx1.block HR.out; have hw1 := hx1.block HW.out; have cw1 := cell_of hw1; have hxx := HX.out.trans hx1)) | (gi_at_call 75; ((with_reducible refine (HL0.out _ hxx).mono ?_); rintro e w2 ⟨bm, rfl, hle, hx2, hmp⟩; have hr2 := hx2.block hr1; have hw2 := hx2.block hw1; have fw2 := free_of hw2; have lw2 := lt_of_block hw2; have cw2 := cell_of hw2; have hxy := hxx.trans hx2; have hbm := Nat.le_trans hxx.size hle; have hw3 := set_same hw2 9 (.map (some bm)); have cw3 := cell_of hw3; have hr3 : (w2.setCell ⟨w.heap.size + 2, 9, none⟩ (.map (some bm))).heap[w.heap.size + 1]? = _ := (set_other (by omega) 9 _).trans hr2)) | (refine wpIn_store_at 83 (.tmp 2) (.tmp 23) rfl (fun _ => trivial) (g := w.heap.size + 1) (off := 0) rfl rfl hr3 size83 (by simp) (by simp [Value.oneCell']) ?_; refine Hid.out ?_))
      refine hid ?_
      have hX2 := ext_setRow (hxy.set (b := w.heap.size + 1 + 1) (by omega) 9 (.map (some bm))) (show w.heap.size ≤ w.heap.size + 1 by omega) #[.int .i64 gr, .slice ca cs.length cc, .int .i64 bo, .int .i64 ne, .int .i64 cr, .slice oa ol.length oc, .slice la ll.length lc, .slice ha hl.length hc, .slice xa xs.length xc, .map (some bm)]
      have hs := setRow_heap _ _ _ #[.int .i64 gr, .slice ca cs.length cc, .int .i64 bo, .int .i64 ne, .int .i64 cr, .slice oa ol.length oc, .slice la ll.length lc, .slice ha hl.length hc, .slice xa xs.length xc, .map (some bm)] _ _ hr3
      have hn1 := hmp.out.notCells hw2
      have hn2 := hmp.out.notCells hr2
      have hmf : GMapAt .string ((w2.setCell ⟨w.heap.size + 1 + 1, 9, none⟩ (.map (some bm))).setRow (w.heap.size + 1) #[.int .i64 gr, .slice ca cs.length cc, .int .i64 bo, .int .i64 ne, .int .i64 cr, .slice oa ol.length oc, .slice la ll.length lc, .slice ha hl.length hc, .slice xa xs.length xc, .map (some bm)]) bm (entM ll (lentTo ll xs xs.length) ll.length) := hmp.out.kept fun o ho => by
        rw [setRow_other _ _ _ _ (Ne.symm hn2), set_other (Ne.symm hn1)]; exact ho
      generalize (w2.setCell ⟨w.heap.size + 1 + 1, 9, none⟩ (.map (some bm))).setRow (w.heap.size + 1) #[.int .i64 gr, .slice ca cs.length cc, .int .i64 bo, .int .i64 ne, .int .i64 cr, .slice oa ol.length oc, .slice la ll.length lc, .slice ha hl.length hc, .slice xa xs.length xc, .map (some bm)] = W9 at *
      have hc9 := cell_of hs
      clear cw3 cw2 cw1 cw hw3 hr3 fw2
      gi_wp2_with fail
      exact bodyPost_ret (v := .tuple #[.agg #[.int .i64 gr, .slice ca cs.length cc, .int .i64 bo, .int .i64 ne, .int .i64 cr, .slice oa ol.length oc, .slice la ll.length lc, .slice ha hl.length hc, .slice xa xs.length xc, .map (some bm)], .int .i64 0]) (by simp [results, Tryz.results54, go_sem, hc9]) rfl ⟨hX2, .inr ⟨HEE.out, bm, rfl, hbm, hid hmf⟩⟩
end
end Go.Proofs.YtjocoadhalimjaaGreat
