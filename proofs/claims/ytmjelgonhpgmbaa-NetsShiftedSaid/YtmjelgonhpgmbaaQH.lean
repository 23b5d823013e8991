/- fouls: whether a net that is shot farther can foul. -/
import Derived.Test.YtmjelgonhpgmbaaQB
set_option linter.unusedSimpArgs false
set_option linter.unusedVariables false
namespace Go.Proofs.Ytmjelgonhpgmbaa
open Go Go.RowKit Go.Shelf

def twoJ (w0 : World) (zs as_ bs : Array Value) : InvJ := fun L x u => Ext w0 u ∧
  (L 6 = true → ∃ g, x 6 = .pointer (some ⟨g, 0, none⟩) ∧ w0.heap.size ≤ g ∧ (L 8 = false → u.heap[g]? = some (.cells zs 58 (0, 0))) ∧ (L 8 = true → u.heap[g]? = some (.cells as_ 58 (0, 0)))) ∧
  (L 7 = true → ∃ g, x 7 = .pointer (some ⟨g, 0, none⟩) ∧ w0.heap.size ≤ g ∧ (L 9 = false → u.heap[g]? = some (.cells zs 58 (0, 0))) ∧ (L 9 = true → u.heap[g]? = some (.cells bs 58 (0, 0)))) ∧
  (L 6 = true → L 7 = true → x 6 ≠ x 7) ∧ (L 8 = true → L 6 = true) ∧ (L 9 = true → L 7 = true)
theorem twoJ_start (w0 : World) (zs as_ bs : Array Value) : twoJ w0 zs as_ bs (fun _ => false) (fun _ => undef) { w0 with drawn := w0.drawn + 1 } :=
  ⟨Ext.drawn _, (fun h => by cases h), (fun h => by cases h), (fun h => by cases h), (fun h => by cases h), fun h => by cases h⟩
section
variable {w0 u u' : World} {zs as_ bs : Array Value} {L : Nat → Bool} {x : Nat → Value}
theorem twoJ_lt1 (h : twoJ w0 zs as_ bs L x u) (hL : L 6 = true) : ∃ g, x 6 = .pointer (some ⟨g, 0, none⟩) ∧ g < u.heap.size := by
  obtain ⟨g, h1, h2, h3, h4⟩ := h.2.1 hL
  cases q : L 8 with
  | false => exact ⟨g, h1, lt_of_block (h3 q)⟩
  | true => exact ⟨g, h1, lt_of_block (h4 q)⟩
theorem twoJ_lt2 (h : twoJ w0 zs as_ bs L x u) (hL : L 7 = true) : ∃ g, x 7 = .pointer (some ⟨g, 0, none⟩) ∧ g < u.heap.size := by
  obtain ⟨g, h1, h2, h3, h4⟩ := h.2.2.1 hL
  cases q : L 9 with
  | false => exact ⟨g, h1, lt_of_block (h3 q)⟩
  | true => exact ⟨g, h1, lt_of_block (h4 q)⟩
theorem twoJ_make1 (h : twoJ w0 zs as_ bs L x u) (hL : L 6 = false) : twoJ w0 zs as_ bs (updL L 6) (updX x 6 (.pointer (some ⟨u.heap.size, 0, none⟩))) (u.alloc (.cells zs 58)) := by
  have hx : Ext u (u.alloc (.cells zs 58)) := (Ext.refl _).alloc _
  have h14 : L 8 = false := by
    cases q : L 8 with
    | false => rfl
    | true => rw [h.2.2.2.2.1 q] at hL; cases hL
  refine ⟨h.1.trans hx, fun _ => ⟨u.heap.size, rfl, h.1.size, fun _ => Ext.new (Ext.refl _), fun q => ?_⟩, fun q => ?_, fun _ q e => ?_, fun q => rfl, h.2.2.2.2.2⟩
  · rw [show (updL L 6) 8 = L 8 from rfl, h14] at q; cases q
  · obtain ⟨g, h1, h2, h3, h4⟩ := h.2.2.1 q
    exact ⟨g, h1, h2, fun q => hx.block (h3 q), fun q => hx.block (h4 q)⟩
  · obtain ⟨g, h1, h2⟩ := twoJ_lt2 h q
    have e2 : (Value.pointer (some ⟨u.heap.size, 0, none⟩)) = x 7 := e
    rw [h1] at e2
    cases e2
    omega
theorem twoJ_make2 (h : twoJ w0 zs as_ bs L x u) (hL : L 7 = false) : twoJ w0 zs as_ bs (updL L 7) (updX x 7 (.pointer (some ⟨u.heap.size, 0, none⟩))) (u.alloc (.cells zs 58)) := by
  have hx : Ext u (u.alloc (.cells zs 58)) := (Ext.refl _).alloc _
  have h15 : L 9 = false := by
    cases q : L 9 with
    | false => rfl
    | true => rw [h.2.2.2.2.2 q] at hL; cases hL
  refine ⟨h.1.trans hx, fun q => ?_, fun _ => ⟨u.heap.size, rfl, h.1.size, fun _ => Ext.new (Ext.refl _), fun q => ?_⟩, fun q _ e => ?_, h.2.2.2.2.1, fun q => rfl⟩
  · obtain ⟨g, h1, h2, h3, h4⟩ := h.2.1 q
    exact ⟨g, h1, h2, fun q => hx.block (h3 q), fun q => hx.block (h4 q)⟩
  · rw [show (updL L 7) 9 = L 9 from rfl, h15] at q; cases q
  · obtain ⟨g, h1, h2⟩ := twoJ_lt1 h q
    have e2 : x 6 = (Value.pointer (some ⟨u.heap.size, 0, none⟩)) := e
    rw [h1] at e2
    cases e2
    omega
theorem twoJ_fill1 (h : twoJ w0 zs as_ bs L x u) (hL : L 6 = true) {g : Nat} (hx : x 6 = .pointer (some ⟨g, 0, none⟩)) (hg : w0.heap.size ≤ g) (he : Ext w0 u') (hk : u'.heap[g]? = some (.cells as_ 58 (0, 0))) (ho : ∀ j, j ≠ g → u'.heap[j]? = u.heap[j]?) : twoJ w0 zs as_ bs (updL L 8) x u' := by
  refine ⟨he, fun _ => ⟨g, hx, hg, (fun q => by cases q), fun _ => hk⟩, fun q => ?_, h.2.2.2.1, fun _ => hL, h.2.2.2.2.2⟩
  obtain ⟨g', h1, h2, h3, h4⟩ := h.2.2.1 q
  have hne : g' ≠ g := fun e => h.2.2.2.1 hL q (by rw [hx, h1, e])
  exact ⟨g', h1, h2, fun q => by rw [ho g' hne]; exact h3 q, fun q => by rw [ho g' hne]; exact h4 q⟩
theorem twoJ_fill2 (h : twoJ w0 zs as_ bs L x u) (hL : L 7 = true) {g : Nat} (hx : x 7 = .pointer (some ⟨g, 0, none⟩)) (hg : w0.heap.size ≤ g) (he : Ext w0 u') (hk : u'.heap[g]? = some (.cells bs 58 (0, 0))) (ho : ∀ j, j ≠ g → u'.heap[j]? = u.heap[j]?) : twoJ w0 zs as_ bs (updL L 9) x u' := by
  refine ⟨he, fun q => ?_, fun _ => ⟨g, hx, hg, (fun q => by cases q), fun _ => hk⟩, h.2.2.2.1, h.2.2.2.2.1, fun _ => hL⟩
  obtain ⟨g', h1, h2, h3, h4⟩ := h.2.1 q
  have hne : g' ≠ g := fun e => h.2.2.2.1 q hL (by rw [hx, h1, e])
  exact ⟨g', h1, h2, fun q => by rw [ho g' hne]; exact h3 q, fun q => by rw [ho g' hne]; exact h4 q⟩
end
theorem foulsTo_stop {F : FleetD} {net : Nat} {m : Int} {k : Nat} {r : Bool × Bool} (h : foulsTo F net m k = some r) : ∀ n, k ≤ n → foulsTo F net m n = some r
  | 0, hn => by obtain rfl : k = 0 := by omega
                exact h
  | n + 1, hn => by
    rcases Nat.lt_or_ge n k with hl | hl
    · obtain rfl : k = n + 1 := by omega
      exact h
    · unfold foulsTo
      rw [foulsTo_stop h n hl]
theorem foulsR_of {F : FleetD} {net : Nat} {m : Int} {k : Nat} {r : Bool × Bool} (h : foulsTo F net m k = some r) (hk : k ≤ F.nets.length) : foulsR F net m = r := by
  unfold foulsR
  rw [foulsTo_stop h _ hk]
  rfl

set_option maxRecDepth 100000 in
set_option maxHeartbeats 16000000 in
theorem fouls_any (F : FleetD) (hFB : fleetB F = true) (fv : Value) (net : Nat) (hnet : net < F.nets.length) (m : Int) (hm : -1 ≤ m ∧ m ≤ 6000) (w : World) (hf : FlAt w fv F) :
    Cal 35 #[fv, .int .i64 net, .int .i64 m] w fun e w' => e = .returned (.tuple #[.bool (foulsR F net m).1, .bool (foulsR F net m).2]) ∧ Ext w w' := by
  obtain ⟨ev, nv, sv, rfl, he, hn, hs⟩ := hf
  have HF := hid (fun (u : World) (hu : Ext w u) => (⟨ev, nv, sv, rfl, he.mono hu, hn.mono hu, hs.mono hu⟩ : FlAt u (.agg #[ev, nv, .int .i64 F.gap, sv]) F))
  have HEN := hid (And.intro he (And.intro hn hs))
  obtain ⟨sa, sc, rfl, hsl, hsc⟩ := hs
  have HSC := hid hsc
  obtain ⟨ea, ec, rfl, _, _⟩ := he
  obtain ⟨na, nc, rfl, _, _⟩ := hn
  clear hsc
  have ok := fleetB_ok hFB
  obtain ⟨nb, off, rfl, hnb, dd⟩ := HSC.out net hnet
  have hni : (net : Int) < F.nets.length := by omega
  have ox := ok.nets _ (List.getElem_mem hnet)
  have hxe := ox.east
  have HXD : Hid (F.nets.getD net netZ = F.nets[net]) := getD_of hnet
  have HOX := hid ox
  have hcn := ok.count
  obtain ⟨d0, d1, d2, d3, d4, d5, d6, d7, d8, d9⟩ := dd
  clear ox
  generalize F.nets[net] = xn at *
  gi_enter Try.func35, Try.ntmps35
  gi_upto_region 1 with fail
  have hW : Ext w (w.alloc (.cells #[.slice ea F.east.length ec, .slice na F.north.length nc, .int .i64 F.gap, .slice (some ⟨nb, off, none⟩) F.nets.length sc] 40)) := ((Ext.refl _).alloc _)
  have hB0 : (w.alloc (.cells #[.slice ea F.east.length ec, .slice na F.north.length nc, .int .i64 F.gap, .slice (some ⟨nb, off, none⟩) F.nets.length sc] 40)).heap[w.heap.size]? = some (.cells #[.slice ea F.east.length ec, .slice na F.north.length nc, .int .i64 F.gap, .slice (some ⟨nb, off, none⟩) F.nets.length sc] 40 (0, 0)) := by simp only [alloc_at, World.size_alloc]; (repeat rw [if_neg (by omega)]); first | rfl | rw [if_pos (by omega)] | rw [if_pos trivial]
  generalize (w.alloc (.cells #[.slice ea F.east.length ec, .slice na F.north.length nc, .int .i64 F.gap, .slice (some ⟨nb, off, none⟩) F.nets.length sc] 40)) = W at *
  have HX := hid hW
  have HB0 := hid hB0
  have c0 := cell_of hB0
  clear hW hB0
  rw [← HX.out.cell (p := ⟨nb, _, none⟩) hnb] at d0 d1 d2 d3 d4 d5 d6 d7 d8 d9
  gi_upto_region 2 with fail
  have hx1 : Ext W (W.alloc (.cells #[.int .i64 xn.east, .int .i64 xn.north, .int .i64 xn.long, .int .i64 xn.along, .int .i64 xn.shot, .int .i64 xn.haul, .int .i64 xn.se.lo, .int .i64 xn.se.hi, .int .i64 xn.sn.lo, .int .i64 xn.sn.hi] 58)) := (Ext.refl _).alloc _
  have HI0 : Hid (Ext w (W.alloc (.cells #[.int .i64 xn.east, .int .i64 xn.north, .int .i64 xn.long, .int .i64 xn.along, .int .i64 xn.shot, .int .i64 xn.haul, .int .i64 xn.se.lo, .int .i64 xn.se.hi, .int .i64 xn.sn.lo, .int .i64 xn.sn.hi] 58)) ∧ (W.alloc (.cells #[.int .i64 xn.east, .int .i64 xn.north, .int .i64 xn.long, .int .i64 xn.along, .int .i64 xn.shot, .int .i64 xn.haul, .int .i64 xn.se.lo, .int .i64 xn.se.hi, .int .i64 xn.sn.lo, .int .i64 xn.sn.hi] 58)).heap[w.heap.size]? = some (.cells #[.slice ea F.east.length ec, .slice na F.north.length nc, .int .i64 F.gap, .slice (some ⟨nb, off, none⟩) F.nets.length sc] 40 (0, 0)) ∧ (W.alloc (.cells #[.int .i64 xn.east, .int .i64 xn.north, .int .i64 xn.long, .int .i64 xn.along, .int .i64 xn.shot, .int .i64 xn.haul, .int .i64 xn.se.lo, .int .i64 xn.se.hi, .int .i64 xn.sn.lo, .int .i64 xn.sn.hi] 58)).heap[W.heap.size]? = some (.cells #[.int .i64 xn.east, .int .i64 xn.north, .int .i64 xn.long, .int .i64 xn.along, .int .i64 xn.shot, .int .i64 xn.haul, .int .i64 xn.se.lo, .int .i64 xn.se.hi, .int .i64 xn.sn.lo, .int .i64 xn.sn.hi] 58 (0, 0))) := ⟨HX.out.trans hx1, hx1.block HB0.out, Ext.new (Ext.refl _)⟩
  have hlw := lt_of_block HB0.out
  clear d0 d1 d2 d3 d4 d5 d6 d7 d8 d9 c0 hx1 HX HB0
  obtain ⟨XB, hXB⟩ : ∃ n, n = W.heap.size := ⟨_, rfl⟩
  rw [← hXB] at HI0 hlw ⊢
  clear hXB
  generalize W.alloc (.cells #[.int .i64 xn.east, .int .i64 xn.north, .int .i64 xn.long, .int .i64 xn.along, .int .i64 xn.shot, .int .i64 xn.haul, .int .i64 xn.se.lo, .int .i64 xn.se.hi, .int .i64 xn.sn.lo, .int .i64 xn.sn.hi] 58) = w1 at *
  gi_wp2_with fail
  gi_loopw [9] (fun i wr => ∃ k : Nat, k ≤ F.nets.length ∧ i = .int .i64 k ∧ Hid (foulsTo F net m k = none ∧ Ext w wr ∧ wr.heap[w.heap.size]? = some (.cells #[.slice ea F.east.length ec, .slice na F.north.length nc, .int .i64 F.gap, .slice (some ⟨nb, off, none⟩) F.nets.length sc] 40 (0, 0)) ∧ wr.heap[XB]? = some (.cells #[.int .i64 xn.east, .int .i64 xn.north, .int .i64 xn.long, .int .i64 xn.along, .int .i64 xn.shot, .int .i64 xn.haul, .int .i64 xn.se.lo, .int .i64 xn.se.hi, .int .i64 xn.sn.lo, .int .i64 xn.sn.hi] 58 (0, 0)))) (fun i _ => F.nets.length - (intOf i).toNat)
  case atStart => exact ⟨0, Nat.zero_le _, rfl, rfl, HI0.out.1, HI0.out.2.1, HI0.out.2.2⟩
  case round =>
    obtain ⟨k, hk, rfl, hI⟩ := hrel
    clear HI0
    obtain ⟨hnone, hx, hb0, hbx⟩ := hI.out
    have HNO := hid hnone
    have HX := hid hx
    have HB := hid hb0
    have HBX := hid hbx
    have c0 := cell_of hb0
    clear hI hnone hx hb0 hbx
    by_cases hlt : k < F.nets.length
    case neg =>
      obtain rfl : k = F.nets.length := by omega
      have HR : Hid (foulsR F net m = (false, true)) := by show _ = _; unfold foulsR; rw [HNO.out]; rfl
      gi_wp2_with fail
      exact bodyPost_ret (v := .tuple #[.bool false, .bool true]) (by simp [results, Try.results35, go_sem]) rfl ⟨by rw [HR.out], HX.out⟩
    case pos =>
    have hki : (k : Int) < F.nets.length := by omega
    by_cases hkn : k = net
    case pos =>
      have hke : ((k : Int) == (net : Int)) = true := by rw [hkn]; simp
      have HNX : Hid (foulsTo F net m (k + 1) = none) := by show _ = _; unfold foulsTo; rw [HNO.out]; simp only [if_pos hkn]
      clear hkn
      gi_wp2_with fail
      go_roundw
      case rel => exact ⟨k + 1, by omega, by go_num, HNX.out, HX.out, HB.out, HBX.out⟩
      case measure => simp [intOf]; omega
    case neg =>
    have hke : ((k : Int) == (net : Int)) = false := by rw [beq_eq_false_iff_ne]; omega
    obtain ⟨nb2, off2, hre, hnb2, ee⟩ := HSC.out k hlt
    cases hre
    have oa := ok.nets _ (List.getElem_mem hlt)
    have hae := oa.east
    have HAD : Hid (F.nets.getD k netZ = F.nets[k]) := getD_of hlt
    have HOA := hid oa
    have HFT : Hid (foulsTo F net m (k + 1) = if inB (F.nets[k].east - xn.east - m) (-10000) 10000 then (if canE (shiftF F xn F.nets[k] m) = 0 then some (true, true) else none) else some (false, false)) := by
      show _ = _
      conv => lhs; unfold foulsTo
      rw [HNO.out]
      simp only [if_neg hkn]
      rw [HAD.out, HXD.out]
    have HAC : Hid (ShotC w nb (off + k * 10) F.nets[k]) := ⟨hnb, ee⟩
    clear hkn ee hnb2 oa HAD
    generalize F.nets[k] = a at *
    gi_wp2_with fail
    clear c0
    have HG := hid (fun (u : World) (hu : Ext wr u) => And.intro (hu.block HB.out) (And.intro (hu.block HBX.out) (HX.out.trans hu)))
    have hlx := lt_of_block HBX.out
    have hl0 := lt_of_block HB.out
    refine jj_own 10 [6, 7] (twoJ wr #[.int .i64 0, .int .i64 0, .int .i64 0, .int .i64 0, .int .i64 0, .int .i64 0, .int .i64 0, .int .i64 0, .int .i64 0, .int .i64 0] #[.int .i64 a.east, .int .i64 a.north, .int .i64 a.long, .int .i64 a.along, .int .i64 a.shot, .int .i64 a.haul, .int .i64 a.se.lo, .int .i64 a.se.hi, .int .i64 a.sn.lo, .int .i64 a.sn.hi] #[.int .i64 xn.east, .int .i64 xn.north, .int .i64 xn.long, .int .i64 xn.along, .int .i64 xn.shot, .int .i64 xn.haul, .int .i64 xn.se.lo, .int .i64 xn.se.hi, .int .i64 xn.sn.lo, .int .i64 xn.sn.hi]) (by kernel_rfl) (by kernel_rfl) (twoJ_start _ _ _ _) ?_
    simp only [List.take_succ_cons, List.take_zero, List.drop_succ_cons, List.drop_zero]
    apply jj_fun (by decide)
    · intro L x u hL hd hJ
      have HJ := hid hJ
      clear hJ hd hL
      go_simp
      exact ⟨rfl, HJ.out⟩
    simp only [Act.put, List.setIfInBounds_toArray, List.set_cons_succ, List.set_cons_zero]
    apply jj_fun (by decide)
    · intro L x u hL hd hJ
      have c1 := cell_of (HG.out u hJ.1).1
      have HJ := hid hJ
      clear hJ hd hL
      go_simp
      exact ⟨rfl, HJ.out⟩
    simp only [Act.put, List.setIfInBounds_toArray, List.set_cons_succ, List.set_cons_zero]
    apply jj_fun (by decide)
    · intro L x u hL hd hJ
      have HJ := hid hJ
      clear hJ hd hL
      go_simp
      exact ⟨rfl, HJ.out⟩
    simp only [Act.put, List.setIfInBounds_toArray, List.set_cons_succ, List.set_cons_zero]
    apply jj_fun (by decide)
    · intro L x u hL hd hJ
      have HJ := hid hJ
      clear hJ hd hL
      go_simp
      exact ⟨rfl, HJ.out⟩
    simp only [Act.put, List.setIfInBounds_toArray, List.set_cons_succ, List.set_cons_zero]
    apply jj_fun (by decide)
    · intro L x u hL hd hJ
      obtain ⟨c0, c1, c2, c3, c4, c5, c6, c7, c8, c9⟩ := HAC.out.mono (HG.out u hJ.1).2.2
      have HJ := hid hJ
      clear hJ hd hL
      go_simp
      exact ⟨rfl, HJ.out⟩
    simp only [Act.put, List.setIfInBounds_toArray, List.set_cons_succ, List.set_cons_zero]
    apply jj_fun (by decide)
    · intro L x u hL hd hJ
      have c1 := cell_of (HG.out u hJ.1).2.1
      have HJ := hid hJ
      clear hJ hd hL
      go_simp
      exact ⟨rfl, HJ.out⟩
    simp only [Act.put, List.setIfInBounds_toArray, List.set_cons_succ, List.set_cons_zero]
    refine jj_inv (by decide) ?_ ?_
    · intro L x u hL hd hJ
      have HJ := hid (twoJ_make1 hJ hL)
      clear hJ hd hL
      go_simp
      exact HJ.out
    simp only [Act.put, List.setIfInBounds_toArray, List.set_cons_succ, List.set_cons_zero]
    refine jj_inv (by decide) ?_ ?_
    · intro L x u hL hd hJ
      have HJ := hid (twoJ_make2 hJ hL)
      clear hJ hd hL
      go_simp
      exact HJ.out
    simp only [Act.put, List.setIfInBounds_toArray, List.set_cons_succ, List.set_cons_zero]
    refine jj_fun (v := undef) (by decide) ?_ ?_
    · intro L x u hL hd hJ
      have hl : L 6 = true := hd.1 rfl
      obtain ⟨g, hx8, hg, h3, _⟩ := hJ.2.1 hl
      have hb := h3 hL
      have hk := (set_same (set_same (set_same (set_same (set_same (set_same (set_same (set_same (set_same (set_same hb 0 (.int .i64 a.east)) 1 (.int .i64 a.north)) 2 (.int .i64 a.long)) 3 (.int .i64 a.along)) 4 (.int .i64 a.shot)) 5 (.int .i64 a.haul)) 6 (.int .i64 a.se.lo)) 7 (.int .i64 a.se.hi)) 8 (.int .i64 a.sn.lo)) 9 (.int .i64 a.sn.hi))
      simp only [List.setIfInBounds_toArray, List.set_cons_succ, List.set_cons_zero] at hk
      have HJ := hid (twoJ_fill1 hJ hl hx8 hg (u' := ((((((((((u.setCell ⟨g, 0, none⟩ (.int .i64 a.east)).setCell ⟨g, 1, none⟩ (.int .i64 a.north)).setCell ⟨g, 2, none⟩ (.int .i64 a.long)).setCell ⟨g, 3, none⟩ (.int .i64 a.along)).setCell ⟨g, 4, none⟩ (.int .i64 a.shot)).setCell ⟨g, 5, none⟩ (.int .i64 a.haul)).setCell ⟨g, 6, none⟩ (.int .i64 a.se.lo)).setCell ⟨g, 7, none⟩ (.int .i64 a.se.hi)).setCell ⟨g, 8, none⟩ (.int .i64 a.sn.lo)).setCell ⟨g, 9, none⟩ (.int .i64 a.sn.hi))) ((((((((((hJ.1.set hg 0 (.int .i64 a.east)).set hg 1 (.int .i64 a.north)).set hg 2 (.int .i64 a.long)).set hg 3 (.int .i64 a.along)).set hg 4 (.int .i64 a.shot)).set hg 5 (.int .i64 a.haul)).set hg 6 (.int .i64 a.se.lo)).set hg 7 (.int .i64 a.se.hi)).set hg 8 (.int .i64 a.sn.lo)).set hg 9 (.int .i64 a.sn.hi)) hk (fun j hj => by rw [set_other hj]; rw [set_other hj]; rw [set_other hj]; rw [set_other hj]; rw [set_other hj]; rw [set_other hj]; rw [set_other hj]; rw [set_other hj]; rw [set_other hj]; rw [set_other hj]))
      have cb := cell_of hb
      have fb := free_of hb
      rw [hx8]
      clear hJ hd hL hb h3 hl hx8 hk
      go_simp
      exact HJ.out
    simp only [Act.put, List.setIfInBounds_toArray, List.set_cons_succ, List.set_cons_zero]
    refine jj_fun (v := undef) (by decide) ?_ ?_
    · intro L x u hL hd hJ
      have hl : L 7 = true := hd.1 rfl
      obtain ⟨g, hx8, hg, h3, _⟩ := hJ.2.2.1 hl
      have hb := h3 hL
      have hk := (set_same (set_same (set_same (set_same (set_same (set_same (set_same (set_same (set_same (set_same hb 0 (.int .i64 xn.east)) 1 (.int .i64 xn.north)) 2 (.int .i64 xn.long)) 3 (.int .i64 xn.along)) 4 (.int .i64 xn.shot)) 5 (.int .i64 xn.haul)) 6 (.int .i64 xn.se.lo)) 7 (.int .i64 xn.se.hi)) 8 (.int .i64 xn.sn.lo)) 9 (.int .i64 xn.sn.hi))
      simp only [List.setIfInBounds_toArray, List.set_cons_succ, List.set_cons_zero] at hk
      have HJ := hid (twoJ_fill2 hJ hl hx8 hg (u' := ((((((((((u.setCell ⟨g, 0, none⟩ (.int .i64 xn.east)).setCell ⟨g, 1, none⟩ (.int .i64 xn.north)).setCell ⟨g, 2, none⟩ (.int .i64 xn.long)).setCell ⟨g, 3, none⟩ (.int .i64 xn.along)).setCell ⟨g, 4, none⟩ (.int .i64 xn.shot)).setCell ⟨g, 5, none⟩ (.int .i64 xn.haul)).setCell ⟨g, 6, none⟩ (.int .i64 xn.se.lo)).setCell ⟨g, 7, none⟩ (.int .i64 xn.se.hi)).setCell ⟨g, 8, none⟩ (.int .i64 xn.sn.lo)).setCell ⟨g, 9, none⟩ (.int .i64 xn.sn.hi))) ((((((((((hJ.1.set hg 0 (.int .i64 xn.east)).set hg 1 (.int .i64 xn.north)).set hg 2 (.int .i64 xn.long)).set hg 3 (.int .i64 xn.along)).set hg 4 (.int .i64 xn.shot)).set hg 5 (.int .i64 xn.haul)).set hg 6 (.int .i64 xn.se.lo)).set hg 7 (.int .i64 xn.se.hi)).set hg 8 (.int .i64 xn.sn.lo)).set hg 9 (.int .i64 xn.sn.hi)) hk (fun j hj => by rw [set_other hj]; rw [set_other hj]; rw [set_other hj]; rw [set_other hj]; rw [set_other hj]; rw [set_other hj]; rw [set_other hj]; rw [set_other hj]; rw [set_other hj]; rw [set_other hj]))
      have cb := cell_of hb
      have fb := free_of hb
      rw [hx8]
      clear hJ hd hL hb h3 hl hx8 hk
      go_simp
      exact HJ.out
    simp only [Act.put, List.setIfInBounds_toArray, List.set_cons_succ, List.set_cons_zero]
    refine jj_nil fun L x u hall hJ => ?_
    obtain ⟨ga, hg1, hgl1, _, hgb1⟩ := hJ.2.1 (hall 6 (by omega))
    obtain ⟨gb, hg2, hgl2, _, hgb2⟩ := hJ.2.2.1 (hall 7 (by omega))
    have hne : ga ≠ gb := fun e => hJ.2.2.2.1 (hall 6 (by omega)) (hall 7 (by omega)) (by rw [hg1, hg2, e])
    have hgb1 := hgb1 (hall 8 (by omega))
    have hgb2 := hgb2 (hall 9 (by omega))
    have hE := hJ.1
    clear hJ hall
    generalize x 6 = x6 at *
    generalize x 7 = x7 at *
    clear x
    subst hg1
    subst hg2
    have HXu := hid (HX.out.trans hE)
    have HBu := hid (hE.block HB.out)
    have HBXu := hid (hE.block HBX.out)
    have HGA := hid hgb1
    have HGB := hid hgb2
    have cx := cell_of HBXu.out
    have ca := cell_of hgb1
    have cb := cell_of hgb2
    have fa := free_of hgb1
    have fb := free_of hgb2
    clear hE hgb1 hgb2 HG HB
    have hwr : wr.heap.size ≤ u.heap.size := Nat.le_of_lt (by have := lt_of_block HGA.out; omega)
    gi_upto_region 8 with fail

    have ha2 : ((u.setCell ⟨ga, 0, none⟩ (.int .i64 (a.east - xn.east - m))).setCell ⟨gb, 0, none⟩ (.int .i64 0)).heap[ga]? = some (.cells #[.int .i64 (a.east - xn.east - m), .int .i64 a.north, .int .i64 a.long, .int .i64 a.along, .int .i64 a.shot, .int .i64 a.haul, .int .i64 a.se.lo, .int .i64 a.se.hi, .int .i64 a.sn.lo, .int .i64 a.sn.hi] 58 (0, 0)) := by
      rw [set_other hne]
      have := set_same HGA.out 0 (.int .i64 (a.east - xn.east - m))
      simpa only [List.setIfInBounds_toArray, List.set_cons_succ, List.set_cons_zero] using this
    have hb2 : ((u.setCell ⟨ga, 0, none⟩ (.int .i64 (a.east - xn.east - m))).setCell ⟨gb, 0, none⟩ (.int .i64 0)).heap[gb]? = some (.cells #[.int .i64 0, .int .i64 xn.north, .int .i64 xn.long, .int .i64 xn.along, .int .i64 xn.shot, .int .i64 xn.haul, .int .i64 xn.se.lo, .int .i64 xn.se.hi, .int .i64 xn.sn.lo, .int .i64 xn.sn.hi] 58 (0, 0)) := by
      have := set_same ((set_other (w := u) (k := gb) (g := ga) (Ne.symm hne) 0 (.int .i64 (a.east - xn.east - m))).trans HGB.out) 0 (.int .i64 0)
      simpa only [List.setIfInBounds_toArray, List.set_cons_succ, List.set_cons_zero] using this
    have hsw := HXu.out.size
    have hsx := HX.out.size
    have HX2 := hid ((HXu.out.set (b := ga) (by omega) 0 (.int .i64 (a.east - xn.east - m))).set (b := gb) (by omega) 0 (.int .i64 0))
    have HB2 : Hid (((u.setCell ⟨ga, 0, none⟩ (.int .i64 (a.east - xn.east - m))).setCell ⟨gb, 0, none⟩ (.int .i64 0)).heap[w.heap.size]? = some (.cells #[.slice ea F.east.length ec, .slice na F.north.length nc, .int .i64 F.gap, .slice (some ⟨nb, off, none⟩) F.nets.length sc] 40 (0, 0))) := by show _ = _; rw [set_other (by omega), set_other (by omega)]; exact HBu.out
    have HBX2 : Hid (((u.setCell ⟨ga, 0, none⟩ (.int .i64 (a.east - xn.east - m))).setCell ⟨gb, 0, none⟩ (.int .i64 0)).heap[XB]? = some (.cells #[.int .i64 xn.east, .int .i64 xn.north, .int .i64 xn.long, .int .i64 xn.along, .int .i64 xn.shot, .int .i64 xn.haul, .int .i64 xn.se.lo, .int .i64 xn.se.hi, .int .i64 xn.sn.lo, .int .i64 xn.sn.hi] 58 (0, 0))) := by show _ = _; rw [set_other (by omega), set_other (by omega)]; exact HBXu.out
    have HGA2 := hid ha2
    have HGB2 := hid hb2
    clear cx ca cb fa fb ha2 hb2 HXu HBu HBXu HGA HGB HX
    generalize ((u.setCell ⟨ga, 0, none⟩ (.int .i64 (a.east - xn.east - m))).setCell ⟨gb, 0, none⟩ (.int .i64 0)) = w5 at *
    have c0 := cell_of HB2.out
    have ca := cell_of HGA2.out
    have cb := cell_of HGB2.out
    cases hin : inB (a.east - xn.east - m) (-10000) 10000
    case false =>
      have HI1 := hid (fun (v : World) => in_b (a.east - xn.east - m) (-10000) 10000 false v hin)
      have HR : Hid (foulsR F net m = (false, false)) := foulsR_of (k := k + 1) (by rw [HFT.out, hin]; rfl) (by omega)
      clear hin
      gi_wp2_with (gi_at_call 26; ((with_reducible refine (HI1.out _).mono ?_); rintro e w9 ⟨rfl, rfl⟩))
      exact bodyPost_ret (v := .tuple #[.bool false, .bool false]) (by simp [results, Try.results35, go_sem]) rfl ⟨by rw [HR.out], HX2.out⟩
    case true =>
    have HI1 := hid (fun (v : World) => in_b (a.east - xn.east - m) (-10000) 10000 true v hin)
    have hinb := inB_spec hin
    have HIN := hid hin
    have HFL : Hid ((∃ q0 q1 q2, canV (shiftF F xn a m) = #[.int .i64 q0, .int .i64 q1, .int .i64 q2]) ∧ (canE (shiftF F xn a m) = 0 ∨ canE (shiftF F xn a m) = 4)) := by
      show _ ∧ _
      have hFX := fleetB_of (shift_ok ok HOX.out HOA.out hinb)
      unfold canV canE
      rw [hFX]
      obtain ⟨q0, q1, q2, hq⟩ := foulV_three ((trips (shiftF F xn a m)).find? (foulCt (shiftF F xn a m)))
      refine ⟨⟨q0, q1, q2, hq⟩, ?_⟩
      cases (trips (shiftF F xn a m)).find? (foulCt (shiftF F xn a m)) <;> simp [foulE]
    gi_upto_region 11 with (gi_at_call 26; ((with_reducible refine (HI1.out _).mono ?_); rintro e w9 ⟨rfl, rfl⟩))
    have hx6 : Ext w5 (w5.alloc (.cells #[.slice ea F.east.length ec, .slice na F.north.length nc, .int .i64 F.gap, .slice (some ⟨nb, off, none⟩) F.nets.length sc] 40)) := (Ext.refl _).alloc _
    have HX6 := hid (HX2.out.trans hx6)
    have HB6 := hid (hx6.block HB2.out)
    have HBX6 := hid (hx6.block HBX2.out)
    have HGA6 := hid (hx6.block HGA2.out)
    have HGB6 := hid (hx6.block HGB2.out)
    have HK6 : Hid ((w5.alloc (.cells #[.slice ea F.east.length ec, .slice na F.north.length nc, .int .i64 F.gap, .slice (some ⟨nb, off, none⟩) F.nets.length sc] 40)).heap[w5.heap.size]? = some (.cells #[.slice ea F.east.length ec, .slice na F.north.length nc, .int .i64 F.gap, .slice (some ⟨nb, off, none⟩) F.nets.length sc] 40 (0, 0))) := Ext.new (Ext.refl _)
    have hl5 := lt_of_block HB2.out
    clear hx6 c0 ca cb HX2 HB2 HGA2 HGB2 HI1
    obtain ⟨KB, hKB⟩ : ∃ n, n = w5.heap.size := ⟨_, rfl⟩
    have hlx5 := lt_of_block HBX2.out
    rw [← hKB] at HK6 hl5 hlx5 ⊢
    clear hKB HBX2
    generalize w5.alloc (.cells #[.slice ea F.east.length ec, .slice na F.north.length nc, .int .i64 F.gap, .slice (some ⟨nb, off, none⟩) F.nets.length sc] 40) = w6 at *
    have ca := cell_of HGA6.out
    have cb := cell_of HGB6.out
    have ck := cell_of HK6.out
    have fk := free_of HK6.out
    have hlk := lt_of_block HK6.out
    gi_upto_region 12 with fail
    have hk7 := set_same HK6.out 3 (.slice (some ⟨w6.heap.size, 0, none⟩) 2 2)
    simp only [List.setIfInBounds_toArray, List.set_cons_succ, List.set_cons_zero] at hk7
    have hsz6 : (w6.setCell ⟨KB, 3, none⟩ (.slice (some ⟨w6.heap.size, 0, none⟩) 2 2)).heap.size = w6.heap.size := by simp
    have hxw : Ext (w6.setCell ⟨KB, 3, none⟩ (.slice (some ⟨w6.heap.size, 0, none⟩) 2 2)) ((w6.setCell ⟨KB, 3, none⟩ (.slice (some ⟨w6.heap.size, 0, none⟩) 2 2)).alloc (.cells #[.int .i64 (a.east - xn.east - m), .int .i64 a.north, .int .i64 a.long, .int .i64 a.along, .int .i64 a.shot, .int .i64 a.haul, .int .i64 a.se.lo, .int .i64 a.se.hi, .int .i64 a.sn.lo, .int .i64 a.sn.hi, .int .i64 0, .int .i64 xn.north, .int .i64 xn.long, .int .i64 xn.along, .int .i64 xn.shot, .int .i64 xn.haul, .int .i64 xn.se.lo, .int .i64 xn.se.hi, .int .i64 xn.sn.lo, .int .i64 xn.sn.hi] 58)) := (Ext.refl _).alloc _
    have hsw5 := HX6.out.size
    have HX7 := hid ((HX6.out.set (b := KB) (by omega) 3 (.slice (some ⟨w6.heap.size, 0, none⟩) 2 2)).trans hxw)
    have HB7 := hid (hxw.block ((set_other (w := w6) (k := w.heap.size) (g := KB) (by omega) 3 (.slice (some ⟨w6.heap.size, 0, none⟩) 2 2)).trans HB6.out))
    have HBX7 := hid (hxw.block ((set_other (w := w6) (k := XB) (g := KB) (by omega) 3 (.slice (some ⟨w6.heap.size, 0, none⟩) 2 2)).trans HBX6.out))
    have HK7 := hid (hxw.block hk7)
    have hgg : ((w6.setCell ⟨KB, 3, none⟩ (.slice (some ⟨w6.heap.size, 0, none⟩) 2 2)).alloc (.cells #[.int .i64 (a.east - xn.east - m), .int .i64 a.north, .int .i64 a.long, .int .i64 a.along, .int .i64 a.shot, .int .i64 a.haul, .int .i64 a.se.lo, .int .i64 a.se.hi, .int .i64 a.sn.lo, .int .i64 a.sn.hi, .int .i64 0, .int .i64 xn.north, .int .i64 xn.long, .int .i64 xn.along, .int .i64 xn.shot, .int .i64 xn.haul, .int .i64 xn.se.lo, .int .i64 xn.se.hi, .int .i64 xn.sn.lo, .int .i64 xn.sn.hi] 58)).heap[w6.heap.size]? = some (.cells #[.int .i64 (a.east - xn.east - m), .int .i64 a.north, .int .i64 a.long, .int .i64 a.along, .int .i64 a.shot, .int .i64 a.haul, .int .i64 a.se.lo, .int .i64 a.se.hi, .int .i64 a.sn.lo, .int .i64 a.sn.hi, .int .i64 0, .int .i64 xn.north, .int .i64 xn.long, .int .i64 xn.along, .int .i64 xn.shot, .int .i64 xn.haul, .int .i64 xn.se.lo, .int .i64 xn.se.hi, .int .i64 xn.sn.lo, .int .i64 xn.sn.hi] 58 (0, 0)) := by
      have := Ext.new (w := w6.setCell ⟨KB, 3, none⟩ (.slice (some ⟨w6.heap.size, 0, none⟩) 2 2)) (o := .cells #[.int .i64 (a.east - xn.east - m), .int .i64 a.north, .int .i64 a.long, .int .i64 a.along, .int .i64 a.shot, .int .i64 a.haul, .int .i64 a.se.lo, .int .i64 a.se.hi, .int .i64 a.sn.lo, .int .i64 a.sn.hi, .int .i64 0, .int .i64 xn.north, .int .i64 xn.long, .int .i64 xn.along, .int .i64 xn.shot, .int .i64 xn.haul, .int .i64 xn.se.lo, .int .i64 xn.se.hi, .int .i64 xn.sn.lo, .int .i64 xn.sn.hi] 58) (Ext.refl _)
      rwa [hsz6] at this
    clear hxw hk7 hsz6 ca cb ck fk HX6 HB6 HBX6 HGA6 HGB6 HK6
    generalize ((w6.setCell ⟨KB, 3, none⟩ (.slice (some ⟨w6.heap.size, 0, none⟩) 2 2)).alloc (.cells #[.int .i64 (a.east - xn.east - m), .int .i64 a.north, .int .i64 a.long, .int .i64 a.along, .int .i64 a.shot, .int .i64 a.haul, .int .i64 a.se.lo, .int .i64 a.se.hi, .int .i64 a.sn.lo, .int .i64 a.sn.hi, .int .i64 0, .int .i64 xn.north, .int .i64 xn.long, .int .i64 xn.along, .int .i64 xn.shot, .int .i64 xn.haul, .int .i64 xn.se.lo, .int .i64 xn.se.hi, .int .i64 xn.sn.lo, .int .i64 xn.sn.hi] 58)) = w7 at *
    have hsh : ShotsAt w7 (.slice (some ⟨w6.heap.size, 0, none⟩) 2 2) [farN xn a m, homeN xn] := shots_new 2 hgg rfl (by omega) (fun p hp j hj => by rcases two_c hp with rfl | rfl <;> rcases ten_c hj with rfl | rfl | rfl | rfl | rfl | rfl | rfl | rfl | rfl | rfl <;> rfl)
    have HC2 := hid (Can_c (shiftF F xn a m) (.agg #[.slice ea F.east.length ec, .slice na F.north.length nc, .int .i64 F.gap, .slice (some ⟨w6.heap.size, 0, none⟩) 2 2]) w7 ⟨_, _, _, rfl, HEN.out.1.mono HX7.out, HEN.out.2.1.mono HX7.out, hsh⟩)
    obtain ⟨q0, q1, q2, hq⟩ := HFL.out.1
    have HCE := hid HFL.out.2
    rw [hq] at HC2
    have ck := cell_of HK7.out
    clear hsh hgg hq HFL hin hinb
    generalize hce : canE (shiftF F xn a m) = ce at HC2 HCE HFT
    obtain ⟨S6, hS6⟩ : ∃ n, n = w6.heap.size := ⟨_, rfl⟩
    rw [← hS6] at HC2 HK7 ck ⊢
    clear hS6
    rcases HCE.out with rfl | rfl
    · have HR : Hid (foulsR F net m = (true, true)) := foulsR_of (k := k + 1) (by rw [HFT.out, HIN.out]; rfl) (by omega)
      clear hce
      gi_wp2_with (gi_at_call 21; ((with_reducible refine (HC2.out).mono ?_); rintro e w8 ⟨rfl, hx8⟩))
      have HXF := hid ((HX7.out.trans hx8).alloc (.cells #[.int .i64 q0, .int .i64 q1, .int .i64 q2] 43))
      exact bodyPost_ret (v := .tuple #[.bool true, .bool true]) (by simp [results, Try.results35, go_sem]) rfl ⟨by rw [HR.out], HXF.out⟩
    · have HNX : Hid (foulsTo F net m (k + 1) = none) := by show _ = _; rw [HFT.out, HIN.out]; rfl
      clear hce
      gi_wp2_with (gi_at_call 21; ((with_reducible refine (HC2.out).mono ?_); rintro e w8 ⟨rfl, hx8⟩))
      have hxe := (hx8.alloc (.cells #[.int .i64 q0, .int .i64 q1, .int .i64 q2] 43))
      have HXF := hid (HX7.out.trans hxe)
      have HBF := hid (hxe.block HB7.out)
      have HBXF := hid (hxe.block HBX7.out)
      clear hxe hx8 ck
      go_roundw
      case rel => exact ⟨k + 1, by omega, by go_num, HNX.out, HXF.out, HBF.out, HBXF.out⟩
      case measure => simp [intOf]; omega

end Go.Proofs.Ytmjelgonhpgmbaa
