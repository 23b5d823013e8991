/- NetsSafe: the walk. -/
import Derived.Test.YtmjelgonhpgmbaaMX
import Derived.Test.YtmjelgonhpgmbaaInv
set_option linter.unusedSimpArgs false
set_option linter.unusedVariables false
namespace Go.Proofs.Ytmjelgonhpgmbaa
open Go Go.RowKit Go.Shelf

def safeJ (w2 : World) (n : Nat) (T : TruthD) (lv : Array Value) : InvJ := fun L x u => Ext w2 u ∧ (L 3 = true → L 4 = false → TrAt u (x 3) T) ∧ (L 8 = true → ∃ g, x 8 = .pointer (some ⟨g, 0, none⟩) ∧ n ≤ g ∧ (L 9 = false → u.heap[g]? = some (.cells #[.int .i64 0, .int .i64 0, .int .i64 0] 43 (0, 0))) ∧ (L 9 = true → u.heap[g]? = some (.cells lv 43 (0, 0)))) ∧ (L 9 = true → L 8 = true)

/-- A net's ten cells. -/
def ShotC (w : World) (b o : Nat) (n : NetD) : Prop := b < w.heap.size ∧ w.cell? ⟨b, o, none⟩ = some (.int .i64 n.east) ∧ w.cell? ⟨b, o + 1, none⟩ = some (.int .i64 n.north) ∧ w.cell? ⟨b, o + 2, none⟩ = some (.int .i64 n.long) ∧ w.cell? ⟨b, o + 3, none⟩ = some (.int .i64 n.along) ∧ w.cell? ⟨b, o + 4, none⟩ = some (.int .i64 n.shot) ∧ w.cell? ⟨b, o + 5, none⟩ = some (.int .i64 n.haul) ∧ w.cell? ⟨b, o + 6, none⟩ = some (.int .i64 n.se.lo) ∧ w.cell? ⟨b, o + 7, none⟩ = some (.int .i64 n.se.hi) ∧ w.cell? ⟨b, o + 8, none⟩ = some (.int .i64 n.sn.lo) ∧ w.cell? ⟨b, o + 9, none⟩ = some (.int .i64 n.sn.hi)
theorem ShotC.mono {w u : World} {b o : Nat} {n : NetD} (h : ShotC w b o n) (hx : Ext w u) : u.cell? ⟨b, o, none⟩ = some (.int .i64 n.east) ∧ u.cell? ⟨b, o + 1, none⟩ = some (.int .i64 n.north) ∧ u.cell? ⟨b, o + 2, none⟩ = some (.int .i64 n.long) ∧ u.cell? ⟨b, o + 3, none⟩ = some (.int .i64 n.along) ∧ u.cell? ⟨b, o + 4, none⟩ = some (.int .i64 n.shot) ∧ u.cell? ⟨b, o + 5, none⟩ = some (.int .i64 n.haul) ∧ u.cell? ⟨b, o + 6, none⟩ = some (.int .i64 n.se.lo) ∧ u.cell? ⟨b, o + 7, none⟩ = some (.int .i64 n.se.hi) ∧ u.cell? ⟨b, o + 8, none⟩ = some (.int .i64 n.sn.lo) ∧ u.cell? ⟨b, o + 9, none⟩ = some (.int .i64 n.sn.hi) := by
  obtain ⟨hb, h⟩ := h
  simp only [hx.cell (p := ⟨b, _, none⟩) hb]
  exact h

set_option maxRecDepth 100000 in
set_option maxHeartbeats 8000000 in
theorem NetsSafe_any (F : FleetD) (bits : List Int) (fv bv : Value) (w : World) (hf : FlAt w fv F) (hb : IntsAt w bv bits) : Cal 4 #[fv, bv] w fun e w' => e = .returned (.bool true) ∧ Ext w w' := by
  obtain ⟨ev, nv, sv, rfl, he, hn, hs⟩ := hf
  have HF := hid (fun (u : World) (hu : Ext w u) => (⟨ev, nv, sv, rfl, he.mono hu, hn.mono hu, hs.mono hu⟩ : FlAt u (.agg #[ev, nv, .int .i64 F.gap, sv]) F))
  have HBI := hid (fun (u : World) (hu : Ext w u) => hb.mono hu)
  have HEN := hid (And.intro he hn)
  obtain ⟨sa, sc, rfl, hsl, hsc⟩ := hs
  have HSC := hid hsc
  obtain ⟨ea, ec, rfl, _, _⟩ := he
  obtain ⟨na, nc, rfl, _, _⟩ := hn
  clear hsc hb
  gi_enter Try.func4, Try.ntmps4
  gi_upto_region 1 with fail
  have hW : Ext w (w.alloc (.cells #[.slice ea F.east.length ec, .slice na F.north.length nc, .int .i64 F.gap, .slice sa F.nets.length sc] 40)) := (Ext.refl _).alloc _
  have hW0 : (w.alloc (.cells #[.slice ea F.east.length ec, .slice na F.north.length nc, .int .i64 F.gap, .slice sa F.nets.length sc] 40)).heap[w.heap.size]? = some (.cells #[.slice ea F.east.length ec, .slice na F.north.length nc, .int .i64 F.gap, .slice sa F.nets.length sc] 40 (0, 0)) := Ext.new (Ext.refl _)
  generalize w.alloc (.cells #[.slice ea F.east.length ec, .slice na F.north.length nc, .int .i64 F.gap, .slice sa F.nets.length sc] 40) = W at *
  have HX := hid hW
  have HB := hid hW0
  have c0 := cell_of hW0
  clear hW hW0
  have HCA := hid (Can_c F _ _ (HF.out _ HX.out))
  cases hF : fleetB F
  case false =>
    have HCV := hid (And.intro (can_bad hF).1 (can_bad hF).2.1)
    rw [HCV.out.1, HCV.out.2] at HCA
    gi_upto_region 2 with (gi_at_call 21; ((with_reducible refine (HCA.out).mono ?_); rintro e w1 ⟨rfl, hx1⟩; have c0 := cell_of (hx1.block HB.out)))
    have hxb : Ext w1 (w1.alloc (.cells #[.int .i64 0, .int .i64 0, .int .i64 0] 43)) := (Ext.refl _).alloc _
    have HX1 := hid ((HX.out.trans hx1).trans hxb)
    have HB1 := hid ((hx1.trans hxb).block HB.out)
    have HC1 : Hid ((w1.alloc (.cells #[.int .i64 0, .int .i64 0, .int .i64 0] 43)).heap[w1.heap.size]? = some (.cells #[.int .i64 0, .int .i64 0, .int .i64 0] 43 (0, 0))) := Ext.new (Ext.refl _)
    have HLT := hid (lt_of_block (hx1.block HB.out))
    clear hx1 hxb c0 HCA HCV HX HB
    generalize hB1 : w1.heap.size = B1 at *
    generalize w1.alloc (.cells #[.int .i64 0, .int .i64 0, .int .i64 0] 43) = W1 at *
    have c0 := cell_of HB1.out
    have c1 := cell_of HC1.out
    have HSO := hid (fun (u : World) (hu : Ext w u) => sound_b F false hF _ u (HF.out u hu))
    have HCK := hid (fun (u : World) (hu : Ext w u) => Check_c F _ u (HF.out u hu))
    rw [(can_bad hF).2.2] at HCK
    gi_wp2_with (first | (gi_at_call 22; ((with_reducible refine (HSO.out _ HX1.out).mono ?_); rintro e w2 ⟨rfl, hx2⟩; have c0 := cell_of (hx2.block HB1.out); have c1 := cell_of (hx2.block HC1.out))) | (gi_at_call 23; ((with_reducible refine (HCK.out _ (HX1.out.trans hx2)).mono ?_); rintro e w3 ⟨rfl, hx3⟩; have c0 := cell_of ((hx2.trans hx3).block HB1.out); have c1 := cell_of ((hx2.trans hx3).block HC1.out))) | (gi_at_call 19; ((with_reducible refine (works_any _).mono ?_); rintro e w99 ⟨rfl, hx99⟩)))
    go_ret
    exact ⟨rfl, ((HX1.out.trans hx2).trans hx3).trans hx99⟩
  case true =>
  have hT := chosenT_ok (fleetB_ok hF) bits
  cases hL : (trips F).find? (foulLt F (chosenT F bits))
  case none =>
    have HLV := hid (fouls_none hF hT hL)
    cases hC : (trips F).find? (foulCt F)
    case none =>
      have HCV := hid (can_none hF hC)
      rw [HCV.out.1, HCV.out.2] at HCA
      gi_upto_region 2 with (gi_at_call 21; ((with_reducible refine (HCA.out).mono ?_); rintro e w1 ⟨rfl, hx1⟩; have c0 := cell_of (hx1.block HB.out)))
      have hxb : Ext w1 (w1.alloc (.cells #[.int .i64 0, .int .i64 0, .int .i64 0] 43)) := (Ext.refl _).alloc _
      have HX1 := hid ((HX.out.trans hx1).trans hxb)
      have HB1 := hid ((hx1.trans hxb).block HB.out)
      have HC1 : Hid ((w1.alloc (.cells #[.int .i64 0, .int .i64 0, .int .i64 0] 43)).heap[w1.heap.size]? = some (.cells #[.int .i64 0, .int .i64 0, .int .i64 0] 43 (0, 0))) := Ext.new (Ext.refl _)
      have HLT := hid (lt_of_block (hx1.block HB.out))
      clear hx1 hxb c0 HCA HCV HX HB
      generalize hB1 : w1.heap.size = B1 at *
      generalize w1.alloc (.cells #[.int .i64 0, .int .i64 0, .int .i64 0] 43) = W1 at *
      have c0 := cell_of HB1.out
      have c1 := cell_of HC1.out
      have HSO := hid (fun (u : World) (hu : Ext w u) => sound_b F true hF _ u (HF.out u hu))
      gi_upto_region 4 with (gi_at_call 22; ((with_reducible refine (HSO.out _ HX1.out).mono ?_); rintro e w2 ⟨rfl, hx2⟩))
      have HX2 := hid (HX1.out.trans hx2)
      have HB2 := hid (hx2.block HB1.out)
      have HC2 := hid (hx2.block HC1.out)
      clear hx2 HSO c0 c1 HX1 HB1 HC1
      have HG := hid (fun (u : World) (hu : Ext w2 u) => And.intro (HX2.out.trans hu) (hu.block HB2.out))
      have HCH := hid (fun (u : World) (hu : Ext w u) => chosen_c F hF bits _ bv u (HF.out u hu) (HBI.out u hu))
      have HFO := hid (fun (tv : Value) (u : World) (hu : Ext w u) (ht : TrAt u tv (chosenT F bits)) => Fouls_c F (chosenT F bits) _ tv u (HF.out u hu) ht)
      rw [HLV.out.1, HLV.out.2] at HFO
      refine jj_own 11 [3, 8] (safeJ w2 w2.heap.size (chosenT F bits) #[.int .i64 0, .int .i64 0, .int .i64 0]) (by kernel_rfl) (by kernel_rfl) ⟨Ext.drawn _, (fun h => by cases h), (fun h => by cases h), fun h => by cases h⟩ ?_
      simp only [List.take_succ_cons, List.take_zero, List.drop_succ_cons, List.drop_zero]
      apply jj_fun (by decide)
      · intro L x u hL hd hJ
        have c1 := cell_of (HG.out u hJ.1).2
        have HJ := hid hJ
        clear hJ hd hL
        go_simp
        exact ⟨rfl, HJ.out⟩
      simp only [Act.put, List.setIfInBounds_toArray, List.set_cons_succ, List.set_cons_zero]
      apply jj_fun (by decide)
      · intro L x u hL hd hJ
        have c1 := cell_of (HG.out u hJ.1).2
        have HJ := hid hJ
        clear hJ hd hL
        go_simp
        exact ⟨rfl, HJ.out⟩
      simp only [Act.put, List.setIfInBounds_toArray, List.set_cons_succ, List.set_cons_zero]
      apply jj_fun (by decide)
      · intro L x u hL hd hJ
        have HJ := hid hJ
        clear hJ hd hL
        go_simp
        exact ⟨rfl, HJ.out⟩
      simp only [Act.put, List.setIfInBounds_toArray, List.set_cons_succ, List.set_cons_zero]
      refine jj_inv (by decide) ?_ ?_
      · intro L x u hL hd hJ
        have hcal := hid (HCH.out u (HG.out u hJ.1).1)
        have HJ := hid hJ
        clear hJ hd hL
        go_simp
        exact hcal.out.mono fun e w'' ⟨v, he, ht, hx'⟩ => ⟨v, he, HJ.out.1.trans hx', (fun _ _ => ht), (fun h => by obtain ⟨g, h1, h2, h3, h4⟩ := HJ.out.2.2.1 h; exact ⟨g, h1, h2, fun q => hx'.block (h3 q), fun q => hx'.block (h4 q)⟩), HJ.out.2.2.2⟩
      simp only [Act.put, List.setIfInBounds_toArray, List.set_cons_succ, List.set_cons_zero]
      refine jj_fun (v := .tuple #[.agg #[.int .i64 0, .int .i64 0, .int .i64 0], .int .i64 4]) (by decide) ?_ ?_
      · intro L x u hL hd hJ
        have hcal := hid (HFO.out (x 3) u (HG.out u hJ.1).1 (hJ.2.1 (hd.2.1 rfl) hL))
        have HJ := hid hJ
        clear hJ hd hL
        go_simp
        exact hcal.out.mono fun e w'' ⟨he, hx'⟩ => ⟨_, he, rfl, HJ.out.1.trans hx', (fun _ h => by cases h), (fun h => (by obtain ⟨g, h1, h2, h3, h4⟩ := HJ.out.2.2.1 h; exact ⟨g, h1, h2, fun q => hx'.block (h3 q), fun q => hx'.block (h4 q)⟩)), HJ.out.2.2.2⟩
      simp only [Act.put, List.setIfInBounds_toArray, List.set_cons_succ, List.set_cons_zero]
      apply jj_fun (by decide)
      · intro L x u hL hd hJ
        have HJ := hid hJ
        clear hJ hd hL
        go_simp
        exact ⟨rfl, HJ.out⟩
      simp only [Act.put, List.setIfInBounds_toArray, List.set_cons_succ, List.set_cons_zero]
      apply jj_fun (by decide)
      · intro L x u hL hd hJ
        have HJ := hid hJ
        clear hJ hd hL
        go_simp
        exact ⟨rfl, HJ.out⟩
      simp only [Act.put, List.setIfInBounds_toArray, List.set_cons_succ, List.set_cons_zero]
      apply jj_fun (by decide)
      · intro L x u hL hd hJ
        have HJ := hid hJ
        clear hJ hd hL
        go_simp
        exact ⟨rfl, HJ.out⟩
      simp only [Act.put, List.setIfInBounds_toArray, List.set_cons_succ, List.set_cons_zero]
      refine jj_inv (by decide) ?_ ?_
      · intro L x u hL hd hJ
        have hsz : w2.heap.size ≤ u.heap.size := hJ.1.size
        have HN := hid hL
        have HJ := hid hJ
        clear hJ hd hL
        go_simp
        exact ⟨HJ.out.1.alloc _, (fun h1 h2 => (HJ.out.2.1 h1 h2).mono ((Ext.refl _).alloc _)), fun _ => ⟨_, rfl, hsz, (fun _ => Ext.new (Ext.refl _)), (fun h => absurd (HJ.out.2.2.2 h) (by rw [HN.out]; decide))⟩, fun _ => rfl⟩
      simp only [Act.put, List.setIfInBounds_toArray, List.set_cons_succ, List.set_cons_zero]
      refine jj_fun (v := undef) (by decide) ?_ ?_
      · intro L x u hL hd hJ
        obtain ⟨g, hx8, hg, h3, h4⟩ := hJ.2.2.1 (hd.1 rfl)
        have hb := h3 hL
        have HD := hid (And.intro (hd.1 rfl) (hd.2.2.1 rfl))
        have HJ := hid hJ
        have HBB := hid hb
        have cb := cell_of hb
        have fb := free_of hb
        rw [hx8]
        clear hJ hd hL hb h3 h4
        have HX8 := hid hx8
        clear hx8
        go_simp
        have hk := set_same (set_same (set_same HBB.out 0 (.int .i64 0)) 1 (.int .i64 0)) 2 (.int .i64 0)
        simp only [List.setIfInBounds_toArray, List.set_cons_succ, List.set_cons_zero] at hk
        exact ⟨((HJ.out.1.set hg 0 (.int .i64 0)).set hg 1 (.int .i64 0)).set hg 2 (.int .i64 0), (fun _ h => by rw [show (updL L 9) 4 = L 4 from rfl, HD.out.2] at h; cases h), (fun _ => ⟨g, HX8.out, hg, (fun h => by cases h), fun _ => hk⟩), fun _ => HD.out.1⟩
      simp only [Act.put, List.setIfInBounds_toArray, List.set_cons_succ, List.set_cons_zero]
      apply jj_fun (by decide)
      · intro L x u hL hd hJ
        have HJ := hid hJ
        clear hJ hd hL
        go_simp
        exact ⟨rfl, HJ.out⟩
      simp only [Act.put, List.setIfInBounds_toArray, List.set_cons_succ, List.set_cons_zero]
      refine jj_nil fun L x W4 hall hJ => ?_
      obtain ⟨G, hgp, hgl, _, hgb⟩ := hJ.2.2.1 (hall 8 (by omega))
      have hgb := hgb (hall 9 (by omega))
      have hE := hJ.1
      clear hJ hall
      generalize x 3 = x3 at *
      generalize x 8 = x8 at *
      clear x
      subst hgp
      have hlt2 := lt_of_block HB2.out
      have hlc2 := lt_of_block HC2.out
      have HX4 := hid (HX2.out.trans hE)
      have HB4 := hid (hE.block HB2.out)
      have HC4 := hid (hE.block HC2.out)
      have HG4 := hid hgb
      clear hE hgb HG HCH HFO HX2 HB2 HC2
      gi_upto_region 5 with fail
      have c0 := cell_of HB4.out
      have c1 := cell_of HC4.out
      have cg := cell_of HG4.out
      gi_wp2_with (gi_at_call 19; ((with_reducible refine (works_any _).mono ?_); rintro e w99 ⟨rfl, hx99⟩))
      go_ret
      exact ⟨rfl, HX4.out.trans hx99⟩
    case some xx =>
      have HCV := hid (can_some hF hC)
      generalize ((xx.1 : Nat) : Int) = a at *
      generalize ((xx.2.1 : Nat) : Int) = b at *
      generalize ((xx.2.2 : Nat) : Int) = c at *
      rw [HCV.out.1, HCV.out.2] at HCA
      gi_upto_region 2 with (gi_at_call 21; ((with_reducible refine (HCA.out).mono ?_); rintro e w1 ⟨rfl, hx1⟩; have c0 := cell_of (hx1.block HB.out)))
      have hxb : Ext w1 (w1.alloc (.cells #[.int .i64 a, .int .i64 b, .int .i64 c] 43)) := (Ext.refl _).alloc _
      have HX1 := hid ((HX.out.trans hx1).trans hxb)
      have HB1 := hid ((hx1.trans hxb).block HB.out)
      have HC1 : Hid ((w1.alloc (.cells #[.int .i64 a, .int .i64 b, .int .i64 c] 43)).heap[w1.heap.size]? = some (.cells #[.int .i64 a, .int .i64 b, .int .i64 c] 43 (0, 0))) := Ext.new (Ext.refl _)
      have HLT := hid (lt_of_block (hx1.block HB.out))
      clear hx1 hxb c0 HCA HCV HX HB
      generalize hB1 : w1.heap.size = B1 at *
      generalize w1.alloc (.cells #[.int .i64 a, .int .i64 b, .int .i64 c] 43) = W1 at *
      have c0 := cell_of HB1.out
      have c1 := cell_of HC1.out
      have HSO := hid (fun (u : World) (hu : Ext w u) => sound_b F true hF _ u (HF.out u hu))
      gi_upto_region 4 with (gi_at_call 22; ((with_reducible refine (HSO.out _ HX1.out).mono ?_); rintro e w2 ⟨rfl, hx2⟩))
      have HX2 := hid (HX1.out.trans hx2)
      have HB2 := hid (hx2.block HB1.out)
      have HC2 := hid (hx2.block HC1.out)
      clear hx2 HSO c0 c1 HX1 HB1 HC1
      have HG := hid (fun (u : World) (hu : Ext w2 u) => And.intro (HX2.out.trans hu) (hu.block HB2.out))
      have HCH := hid (fun (u : World) (hu : Ext w u) => chosen_c F hF bits _ bv u (HF.out u hu) (HBI.out u hu))
      have HFO := hid (fun (tv : Value) (u : World) (hu : Ext w u) (ht : TrAt u tv (chosenT F bits)) => Fouls_c F (chosenT F bits) _ tv u (HF.out u hu) ht)
      rw [HLV.out.1, HLV.out.2] at HFO
      refine jj_own 11 [3, 8] (safeJ w2 w2.heap.size (chosenT F bits) #[.int .i64 0, .int .i64 0, .int .i64 0]) (by kernel_rfl) (by kernel_rfl) ⟨Ext.drawn _, (fun h => by cases h), (fun h => by cases h), fun h => by cases h⟩ ?_
      simp only [List.take_succ_cons, List.take_zero, List.drop_succ_cons, List.drop_zero]
      apply jj_fun (by decide)
      · intro L x u hL hd hJ
        have c1 := cell_of (HG.out u hJ.1).2
        have HJ := hid hJ
        clear hJ hd hL
        go_simp
        exact ⟨rfl, HJ.out⟩
      simp only [Act.put, List.setIfInBounds_toArray, List.set_cons_succ, List.set_cons_zero]
      apply jj_fun (by decide)
      · intro L x u hL hd hJ
        have c1 := cell_of (HG.out u hJ.1).2
        have HJ := hid hJ
        clear hJ hd hL
        go_simp
        exact ⟨rfl, HJ.out⟩
      simp only [Act.put, List.setIfInBounds_toArray, List.set_cons_succ, List.set_cons_zero]
      apply jj_fun (by decide)
      · intro L x u hL hd hJ
        have HJ := hid hJ
        clear hJ hd hL
        go_simp
        exact ⟨rfl, HJ.out⟩
      simp only [Act.put, List.setIfInBounds_toArray, List.set_cons_succ, List.set_cons_zero]
      refine jj_inv (by decide) ?_ ?_
      · intro L x u hL hd hJ
        have hcal := hid (HCH.out u (HG.out u hJ.1).1)
        have HJ := hid hJ
        clear hJ hd hL
        go_simp
        exact hcal.out.mono fun e w'' ⟨v, he, ht, hx'⟩ => ⟨v, he, HJ.out.1.trans hx', (fun _ _ => ht), (fun h => by obtain ⟨g, h1, h2, h3, h4⟩ := HJ.out.2.2.1 h; exact ⟨g, h1, h2, fun q => hx'.block (h3 q), fun q => hx'.block (h4 q)⟩), HJ.out.2.2.2⟩
      simp only [Act.put, List.setIfInBounds_toArray, List.set_cons_succ, List.set_cons_zero]
      refine jj_fun (v := .tuple #[.agg #[.int .i64 0, .int .i64 0, .int .i64 0], .int .i64 4]) (by decide) ?_ ?_
      · intro L x u hL hd hJ
        have hcal := hid (HFO.out (x 3) u (HG.out u hJ.1).1 (hJ.2.1 (hd.2.1 rfl) hL))
        have HJ := hid hJ
        clear hJ hd hL
        go_simp
        exact hcal.out.mono fun e w'' ⟨he, hx'⟩ => ⟨_, he, rfl, HJ.out.1.trans hx', (fun _ h => by cases h), (fun h => (by obtain ⟨g, h1, h2, h3, h4⟩ := HJ.out.2.2.1 h; exact ⟨g, h1, h2, fun q => hx'.block (h3 q), fun q => hx'.block (h4 q)⟩)), HJ.out.2.2.2⟩
      simp only [Act.put, List.setIfInBounds_toArray, List.set_cons_succ, List.set_cons_zero]
      apply jj_fun (by decide)
      · intro L x u hL hd hJ
        have HJ := hid hJ
        clear hJ hd hL
        go_simp
        exact ⟨rfl, HJ.out⟩
      simp only [Act.put, List.setIfInBounds_toArray, List.set_cons_succ, List.set_cons_zero]
      apply jj_fun (by decide)
      · intro L x u hL hd hJ
        have HJ := hid hJ
        clear hJ hd hL
        go_simp
        exact ⟨rfl, HJ.out⟩
      simp only [Act.put, List.setIfInBounds_toArray, List.set_cons_succ, List.set_cons_zero]
      apply jj_fun (by decide)
      · intro L x u hL hd hJ
        have HJ := hid hJ
        clear hJ hd hL
        go_simp
        exact ⟨rfl, HJ.out⟩
      simp only [Act.put, List.setIfInBounds_toArray, List.set_cons_succ, List.set_cons_zero]
      refine jj_inv (by decide) ?_ ?_
      · intro L x u hL hd hJ
        have hsz : w2.heap.size ≤ u.heap.size := hJ.1.size
        have HN := hid hL
        have HJ := hid hJ
        clear hJ hd hL
        go_simp
        exact ⟨HJ.out.1.alloc _, (fun h1 h2 => (HJ.out.2.1 h1 h2).mono ((Ext.refl _).alloc _)), fun _ => ⟨_, rfl, hsz, (fun _ => Ext.new (Ext.refl _)), (fun h => absurd (HJ.out.2.2.2 h) (by rw [HN.out]; decide))⟩, fun _ => rfl⟩
      simp only [Act.put, List.setIfInBounds_toArray, List.set_cons_succ, List.set_cons_zero]
      refine jj_fun (v := undef) (by decide) ?_ ?_
      · intro L x u hL hd hJ
        obtain ⟨g, hx8, hg, h3, h4⟩ := hJ.2.2.1 (hd.1 rfl)
        have hb := h3 hL
        have HD := hid (And.intro (hd.1 rfl) (hd.2.2.1 rfl))
        have HJ := hid hJ
        have HBB := hid hb
        have cb := cell_of hb
        have fb := free_of hb
        rw [hx8]
        clear hJ hd hL hb h3 h4
        have HX8 := hid hx8
        clear hx8
        go_simp
        have hk := set_same (set_same (set_same HBB.out 0 (.int .i64 0)) 1 (.int .i64 0)) 2 (.int .i64 0)
        simp only [List.setIfInBounds_toArray, List.set_cons_succ, List.set_cons_zero] at hk
        exact ⟨((HJ.out.1.set hg 0 (.int .i64 0)).set hg 1 (.int .i64 0)).set hg 2 (.int .i64 0), (fun _ h => by rw [show (updL L 9) 4 = L 4 from rfl, HD.out.2] at h; cases h), (fun _ => ⟨g, HX8.out, hg, (fun h => by cases h), fun _ => hk⟩), fun _ => HD.out.1⟩
      simp only [Act.put, List.setIfInBounds_toArray, List.set_cons_succ, List.set_cons_zero]
      apply jj_fun (by decide)
      · intro L x u hL hd hJ
        have HJ := hid hJ
        clear hJ hd hL
        go_simp
        exact ⟨rfl, HJ.out⟩
      simp only [Act.put, List.setIfInBounds_toArray, List.set_cons_succ, List.set_cons_zero]
      refine jj_nil fun L x W4 hall hJ => ?_
      obtain ⟨G, hgp, hgl, _, hgb⟩ := hJ.2.2.1 (hall 8 (by omega))
      have hgb := hgb (hall 9 (by omega))
      have hE := hJ.1
      clear hJ hall
      generalize x 3 = x3 at *
      generalize x 8 = x8 at *
      clear x
      subst hgp
      have hlt2 := lt_of_block HB2.out
      have hlc2 := lt_of_block HC2.out
      have HX4 := hid (HX2.out.trans hE)
      have HB4 := hid (hE.block HB2.out)
      have HC4 := hid (hE.block HC2.out)
      have HG4 := hid hgb
      clear hE hgb HG HCH HFO HX2 HB2 HC2
      gi_upto_region 5 with fail
      have c0 := cell_of HB4.out
      have c1 := cell_of HC4.out
      have cg := cell_of HG4.out
      gi_wp2_with (gi_at_call 19; ((with_reducible refine (works_any _).mono ?_); rintro e w99 ⟨rfl, hx99⟩))
      go_ret
      exact ⟨rfl, HX4.out.trans hx99⟩
  case some yy =>
    obtain ⟨hlt, hln, ⟨xx, hCx, hxy⟩, hF2, zz, hz, z1, z2, z3⟩ := safe_math hF hT hL
    have HCV := hid (can_some hF hCx)
    have HLV := hid (fouls_some hF hT hL)
    have HZV := hid (can_some hF2 hz)
    obtain ⟨ph, i, k⟩ := yy
    obtain ⟨za, zb, zc⟩ := zz
    simp only at hlt hln hxy z1 z2 z3 HLV HZV hF2
    subst z1; subst z2
    have hi : i < F.nets.length := by omega
    have HTW : Hid ((twoF F i k).nets = [F.nets[i], F.nets[k]]) := by show _ = _; unfold twoF; rw [getD_of hi, getD_of hln]
    obtain ⟨nb, off, rfl, hnb, dd⟩ := HSC.out i hi
    obtain ⟨nb2, off2, hre, hnb2, ee⟩ := HSC.out k hln
    obtain ⟨rfl, rfl⟩ : nb = nb2 ∧ off = off2 := by cases hre; exact ⟨rfl, rfl⟩
    have HN1 : Hid (ShotC w nb (off + i * 10) F.nets[i]) := ⟨hnb, dd⟩
    have HN2 : Hid (ShotC w nb (off + k * 10) F.nets[k]) := ⟨hnb, ee⟩
    clear dd ee hre hnb hnb2 HSC hz hF2 hL hCx
    generalize F.nets[i] = m1 at *
    generalize F.nets[k] = m2 at *
    have hii : (i : Int) < F.nets.length := by omega
    have hkk : (k : Int) < F.nets.length := by omega
    have hik : (i : Int) < k := by omega
    have hxy2 : ((xx.1 : Nat) : Int) ≤ ph := by omega
    have hzy : ((za : Nat) : Int) ≤ ph := by omega
    generalize ((xx.1 : Nat) : Int) = a at *
    generalize ((xx.2.1 : Nat) : Int) = b at *
    generalize ((xx.2.2 : Nat) : Int) = c at *
    generalize ((za : Nat) : Int) = z at *
    have HZ2 : Hid (canV (twoF F i k) = #[.int .i64 z, .int .i64 0, .int .i64 1] ∧ canE (twoF F i k) = 0) := HZV.out
    clear HZV
    rw [HCV.out.1, HCV.out.2] at HCA
    gi_upto_region 2 with (gi_at_call 21; ((with_reducible refine (HCA.out).mono ?_); rintro e w1 ⟨rfl, hx1⟩; have c0 := cell_of (hx1.block HB.out)))
    have hxb : Ext w1 (w1.alloc (.cells #[.int .i64 a, .int .i64 b, .int .i64 c] 43)) := (Ext.refl _).alloc _
    have HX1 := hid ((HX.out.trans hx1).trans hxb)
    have HB1 := hid ((hx1.trans hxb).block HB.out)
    have HC1 : Hid ((w1.alloc (.cells #[.int .i64 a, .int .i64 b, .int .i64 c] 43)).heap[w1.heap.size]? = some (.cells #[.int .i64 a, .int .i64 b, .int .i64 c] 43 (0, 0))) := Ext.new (Ext.refl _)
    have HLT := hid (lt_of_block (hx1.block HB.out))
    clear hx1 hxb c0 HCA HCV HX HB
    generalize hB1 : w1.heap.size = B1 at *
    generalize w1.alloc (.cells #[.int .i64 a, .int .i64 b, .int .i64 c] 43) = W1 at *
    have c0 := cell_of HB1.out
    have c1 := cell_of HC1.out
    have HSO := hid (fun (u : World) (hu : Ext w u) => sound_b F true hF _ u (HF.out u hu))
    gi_upto_region 4 with (gi_at_call 22; ((with_reducible refine (HSO.out _ HX1.out).mono ?_); rintro e w2 ⟨rfl, hx2⟩))
    have HX2 := hid (HX1.out.trans hx2)
    have HB2 := hid (hx2.block HB1.out)
    have HC2 := hid (hx2.block HC1.out)
    clear hx2 HSO c0 c1 HX1 HB1 HC1
    have HG := hid (fun (u : World) (hu : Ext w2 u) => And.intro (HX2.out.trans hu) (hu.block HB2.out))
    have HCH := hid (fun (u : World) (hu : Ext w u) => chosen_c F hF bits _ bv u (HF.out u hu) (HBI.out u hu))
    have HFO := hid (fun (tv : Value) (u : World) (hu : Ext w u) (ht : TrAt u tv (chosenT F bits)) => Fouls_c F (chosenT F bits) _ tv u (HF.out u hu) ht)
    rw [HLV.out.1, HLV.out.2] at HFO
    refine jj_own 11 [3, 8] (safeJ w2 w2.heap.size (chosenT F bits) #[.int .i64 (ph : Nat), .int .i64 (i : Nat), .int .i64 (k : Nat)]) (by kernel_rfl) (by kernel_rfl) ⟨Ext.drawn _, (fun h => by cases h), (fun h => by cases h), fun h => by cases h⟩ ?_
    simp only [List.take_succ_cons, List.take_zero, List.drop_succ_cons, List.drop_zero]
    apply jj_fun (by decide)
    · intro L x u hL hd hJ
      have c1 := cell_of (HG.out u hJ.1).2
      have HJ := hid hJ
      clear hJ hd hL
      go_simp
      exact ⟨rfl, HJ.out⟩
    simp only [Act.put, List.setIfInBounds_toArray, List.set_cons_succ, List.set_cons_zero]
    apply jj_fun (by decide)
    · intro L x u hL hd hJ
      have c1 := cell_of (HG.out u hJ.1).2
      have HJ := hid hJ
      clear hJ hd hL
      go_simp
      exact ⟨rfl, HJ.out⟩
    simp only [Act.put, List.setIfInBounds_toArray, List.set_cons_succ, List.set_cons_zero]
    apply jj_fun (by decide)
    · intro L x u hL hd hJ
      have HJ := hid hJ
      clear hJ hd hL
      go_simp
      exact ⟨rfl, HJ.out⟩
    simp only [Act.put, List.setIfInBounds_toArray, List.set_cons_succ, List.set_cons_zero]
    refine jj_inv (by decide) ?_ ?_
    · intro L x u hL hd hJ
      have hcal := hid (HCH.out u (HG.out u hJ.1).1)
      have HJ := hid hJ
      clear hJ hd hL
      go_simp
      exact hcal.out.mono fun e w'' ⟨v, he, ht, hx'⟩ => ⟨v, he, HJ.out.1.trans hx', (fun _ _ => ht), (fun h => by obtain ⟨g, h1, h2, h3, h4⟩ := HJ.out.2.2.1 h; exact ⟨g, h1, h2, fun q => hx'.block (h3 q), fun q => hx'.block (h4 q)⟩), HJ.out.2.2.2⟩
    simp only [Act.put, List.setIfInBounds_toArray, List.set_cons_succ, List.set_cons_zero]
    refine jj_fun (v := .tuple #[.agg #[.int .i64 (ph : Nat), .int .i64 (i : Nat), .int .i64 (k : Nat)], .int .i64 0]) (by decide) ?_ ?_
    · intro L x u hL hd hJ
      have hcal := hid (HFO.out (x 3) u (HG.out u hJ.1).1 (hJ.2.1 (hd.2.1 rfl) hL))
      have HJ := hid hJ
      clear hJ hd hL
      go_simp
      exact hcal.out.mono fun e w'' ⟨he, hx'⟩ => ⟨_, he, rfl, HJ.out.1.trans hx', (fun _ h => by cases h), (fun h => (by obtain ⟨g, h1, h2, h3, h4⟩ := HJ.out.2.2.1 h; exact ⟨g, h1, h2, fun q => hx'.block (h3 q), fun q => hx'.block (h4 q)⟩)), HJ.out.2.2.2⟩
    simp only [Act.put, List.setIfInBounds_toArray, List.set_cons_succ, List.set_cons_zero]
    apply jj_fun (by decide)
    · intro L x u hL hd hJ
      have HJ := hid hJ
      clear hJ hd hL
      go_simp
      exact ⟨rfl, HJ.out⟩
    simp only [Act.put, List.setIfInBounds_toArray, List.set_cons_succ, List.set_cons_zero]
    apply jj_fun (by decide)
    · intro L x u hL hd hJ
      have HJ := hid hJ
      clear hJ hd hL
      go_simp
      exact ⟨rfl, HJ.out⟩
    simp only [Act.put, List.setIfInBounds_toArray, List.set_cons_succ, List.set_cons_zero]
    apply jj_fun (by decide)
    · intro L x u hL hd hJ
      have HJ := hid hJ
      clear hJ hd hL
      go_simp
      exact ⟨rfl, HJ.out⟩
    simp only [Act.put, List.setIfInBounds_toArray, List.set_cons_succ, List.set_cons_zero]
    refine jj_inv (by decide) ?_ ?_
    · intro L x u hL hd hJ
      have hsz : w2.heap.size ≤ u.heap.size := hJ.1.size
      have HN := hid hL
      have HJ := hid hJ
      clear hJ hd hL
      go_simp
      exact ⟨HJ.out.1.alloc _, (fun h1 h2 => (HJ.out.2.1 h1 h2).mono ((Ext.refl _).alloc _)), fun _ => ⟨_, rfl, hsz, (fun _ => Ext.new (Ext.refl _)), (fun h => absurd (HJ.out.2.2.2 h) (by rw [HN.out]; decide))⟩, fun _ => rfl⟩
    simp only [Act.put, List.setIfInBounds_toArray, List.set_cons_succ, List.set_cons_zero]
    refine jj_fun (v := undef) (by decide) ?_ ?_
    · intro L x u hL hd hJ
      obtain ⟨g, hx8, hg, h3, h4⟩ := hJ.2.2.1 (hd.1 rfl)
      have hb := h3 hL
      have HD := hid (And.intro (hd.1 rfl) (hd.2.2.1 rfl))
      have HJ := hid hJ
      have HBB := hid hb
      have cb := cell_of hb
      have fb := free_of hb
      rw [hx8]
      clear hJ hd hL hb h3 h4
      have HX8 := hid hx8
      clear hx8
      go_simp
      have hk := set_same (set_same (set_same HBB.out 0 (.int .i64 (ph : Nat))) 1 (.int .i64 (i : Nat))) 2 (.int .i64 (k : Nat))
      simp only [List.setIfInBounds_toArray, List.set_cons_succ, List.set_cons_zero] at hk
      exact ⟨((HJ.out.1.set hg 0 (.int .i64 (ph : Nat))).set hg 1 (.int .i64 (i : Nat))).set hg 2 (.int .i64 (k : Nat)), (fun _ h => by rw [show (updL L 9) 4 = L 4 from rfl, HD.out.2] at h; cases h), (fun _ => ⟨g, HX8.out, hg, (fun h => by cases h), fun _ => hk⟩), fun _ => HD.out.1⟩
    simp only [Act.put, List.setIfInBounds_toArray, List.set_cons_succ, List.set_cons_zero]
    apply jj_fun (by decide)
    · intro L x u hL hd hJ
      have HJ := hid hJ
      clear hJ hd hL
      go_simp
      exact ⟨rfl, HJ.out⟩
    simp only [Act.put, List.setIfInBounds_toArray, List.set_cons_succ, List.set_cons_zero]
    refine jj_nil fun L x W4 hall hJ => ?_
    obtain ⟨G, hgp, hgl, _, hgb⟩ := hJ.2.2.1 (hall 8 (by omega))
    have hgb := hgb (hall 9 (by omega))
    have hE := hJ.1
    clear hJ hall
    generalize x 3 = x3 at *
    generalize x 8 = x8 at *
    clear x
    subst hgp
    have hlt2 := lt_of_block HB2.out
    have hlc2 := lt_of_block HC2.out
    have HX4 := hid (HX2.out.trans hE)
    have HB4 := hid (hE.block HB2.out)
    have HC4 := hid (hE.block HC2.out)
    have HG4 := hid hgb
    clear hE hgb HG HCH HFO HX2 HB2 HC2
    gi_upto_region 5 with fail
    have c0 := cell_of HB4.out
    have c1 := cell_of HC4.out
    have cg := cell_of HG4.out
    have HIN := hid (fun (u : World) => in_b (i : Int) 0 ((k : Int) - 1) true u (inB_of (by omega)))
    gi_upto_region 10 with (gi_at_call 26; ((with_reducible refine (HIN.out _).mono ?_); rintro e w9 ⟨rfl, rfl⟩))
    have hx5 : Ext W4 (W4.alloc (.cells #[.slice ea F.east.length ec, .slice na F.north.length nc, .int .i64 F.gap, .slice (some ⟨nb, off, none⟩) F.nets.length sc] 40)) := (Ext.refl _).alloc _
    have HX5 := hid (HX4.out.trans hx5)
    have HB5 := hid (hx5.block HB4.out)
    have HC5 := hid (hx5.block HC4.out)
    have HG5 := hid (hx5.block HG4.out)
    have HK5 : Hid ((W4.alloc (.cells #[.slice ea F.east.length ec, .slice na F.north.length nc, .int .i64 F.gap, .slice (some ⟨nb, off, none⟩) F.nets.length sc] 40)).heap[W4.heap.size]? = some (.cells #[.slice ea F.east.length ec, .slice na F.north.length nc, .int .i64 F.gap, .slice (some ⟨nb, off, none⟩) F.nets.length sc] 40 (0, 0))) := Ext.new (Ext.refl _)
    have hl0 := lt_of_block HB4.out
    have hl1 := lt_of_block HC4.out
    have hl2 := lt_of_block HG4.out
    clear c0 c1 cg hx5 HX4 HB4 HC4 HG4 HIN
    obtain ⟨KB, hKB⟩ : ∃ n, n = W4.heap.size := ⟨_, rfl⟩
    rw [← hKB] at HK5 hl0 hl1 hl2 ⊢
    clear hKB
    generalize W4.alloc (.cells #[.slice ea F.east.length ec, .slice na F.north.length nc, .int .i64 F.gap, .slice (some ⟨nb, off, none⟩) F.nets.length sc] 40) = W5 at *
    have HG := hid (fun (u : World) (hu : Ext W5 u) => And.intro (hu.block HB5.out) (And.intro (hu.block HG5.out) (HX5.out.trans hu)))
    refine lex_wide 13 [(12, qCells 58 #[.int .i64 m1.east, .int .i64 m1.north, .int .i64 m1.long, .int .i64 m1.along, .int .i64 m1.shot, .int .i64 m1.haul, .int .i64 m1.se.lo, .int .i64 m1.se.hi, .int .i64 m1.sn.lo, .int .i64 m1.sn.hi, .int .i64 m2.east, .int .i64 m2.north, .int .i64 m2.long, .int .i64 m2.along, .int .i64 m2.shot, .int .i64 m2.haul, .int .i64 m2.se.lo, .int .i64 m2.se.hi, .int .i64 m2.sn.lo, .int .i64 m2.sn.hi] W5.heap.size 2)] (by kernel_rfl) (by kernel_rfl) (nStab_cons (qCells_s _ _ _ _) nStab_nil) ?_
    simp only [List.take_succ_cons, List.take_zero, List.drop_succ_cons, List.drop_zero]
    apply lex_fun (rfl : psAt _ _ = none)
    · intro x u hR hf
      clear hR hf
      go_simp
      exact ⟨rfl, Ext.refl _⟩
    simp only [Act.put, List.setIfInBounds_toArray, List.set_cons_succ, List.set_cons_zero]
    apply lex_fun (rfl : psAt _ _ = none)
    · intro x u hR hf
      have c1 := cell_of (HG.out u hR).1
      clear hR hf
      go_simp
      exact ⟨rfl, Ext.refl _⟩
    simp only [Act.put, List.setIfInBounds_toArray, List.set_cons_succ, List.set_cons_zero]
    apply lex_fun (rfl : psAt _ _ = none)
    · intro x u hR hf
      clear hR hf
      go_simp
      exact ⟨rfl, Ext.refl _⟩
    simp only [Act.put, List.setIfInBounds_toArray, List.set_cons_succ, List.set_cons_zero]
    apply lex_fun (rfl : psAt _ _ = none)
    · intro x u hR hf
      have c1 := cell_of (HG.out u hR).2.1
      clear hR hf
      go_simp
      exact ⟨rfl, Ext.refl _⟩
    simp only [Act.put, List.setIfInBounds_toArray, List.set_cons_succ, List.set_cons_zero]
    apply lex_fun (rfl : psAt _ _ = none)
    · intro x u hR hf
      clear hR hf
      go_simp
      exact ⟨rfl, Ext.refl _⟩
    simp only [Act.put, List.setIfInBounds_toArray, List.set_cons_succ, List.set_cons_zero]
    apply lex_fun (rfl : psAt _ _ = none)
    · intro x u hR hf
      obtain ⟨c0, c1, c2, c3, c4, c5, c6, c7, c8, c9⟩ := HN1.out.mono (HG.out u hR).2.2
      clear hR hf
      go_simp
      exact ⟨rfl, Ext.refl _⟩
    simp only [Act.put, List.setIfInBounds_toArray, List.set_cons_succ, List.set_cons_zero]
    apply lex_fun (rfl : psAt _ _ = none)
    · intro x u hR hf
      clear hR hf
      go_simp
      exact ⟨rfl, Ext.refl _⟩
    simp only [Act.put, List.setIfInBounds_toArray, List.set_cons_succ, List.set_cons_zero]
    apply lex_fun (rfl : psAt _ _ = none)
    · intro x u hR hf
      have c1 := cell_of (HG.out u hR).1
      clear hR hf
      go_simp
      exact ⟨rfl, Ext.refl _⟩
    simp only [Act.put, List.setIfInBounds_toArray, List.set_cons_succ, List.set_cons_zero]
    apply lex_fun (rfl : psAt _ _ = none)
    · intro x u hR hf
      clear hR hf
      go_simp
      exact ⟨rfl, Ext.refl _⟩
    simp only [Act.put, List.setIfInBounds_toArray, List.set_cons_succ, List.set_cons_zero]
    apply lex_fun (rfl : psAt _ _ = none)
    · intro x u hR hf
      have c1 := cell_of (HG.out u hR).2.1
      clear hR hf
      go_simp
      exact ⟨rfl, Ext.refl _⟩
    simp only [Act.put, List.setIfInBounds_toArray, List.set_cons_succ, List.set_cons_zero]
    apply lex_fun (rfl : psAt _ _ = none)
    · intro x u hR hf
      clear hR hf
      go_simp
      exact ⟨rfl, Ext.refl _⟩
    simp only [Act.put, List.setIfInBounds_toArray, List.set_cons_succ, List.set_cons_zero]
    apply lex_fun (rfl : psAt _ _ = none)
    · intro x u hR hf
      obtain ⟨c0, c1, c2, c3, c4, c5, c6, c7, c8, c9⟩ := HN2.out.mono (HG.out u hR).2.2
      clear hR hf
      go_simp
      exact ⟨rfl, Ext.refl _⟩
    simp only [Act.put, List.setIfInBounds_toArray, List.set_cons_succ, List.set_cons_zero]
    refine lex_pred (p := qCells 58 #[.int .i64 m1.east, .int .i64 m1.north, .int .i64 m1.long, .int .i64 m1.along, .int .i64 m1.shot, .int .i64 m1.haul, .int .i64 m1.se.lo, .int .i64 m1.se.hi, .int .i64 m1.sn.lo, .int .i64 m1.sn.hi, .int .i64 m2.east, .int .i64 m2.north, .int .i64 m2.long, .int .i64 m2.along, .int .i64 m2.shot, .int .i64 m2.haul, .int .i64 m2.se.lo, .int .i64 m2.se.hi, .int .i64 m2.sn.lo, .int .i64 m2.sn.hi] W5.heap.size 2) rfl ?_ ?_
    · intro x u hR hf
      have hn := hR.size
      clear hR hf
      go_simp
      exact ⟨⟨_, rfl, Ext.new (Ext.refl _), hn⟩, (Ext.refl _).alloc _⟩
    simp only [Act.put, List.setIfInBounds_toArray, List.set_cons_succ, List.set_cons_zero]
    refine lex_nil fun x u hE hfacts => ?_
    obtain ⟨g, hg1, hg2, hg3⟩ := (hfacts 12 _ (by omega) rfl : qCells 58 #[.int .i64 m1.east, .int .i64 m1.north, .int .i64 m1.long, .int .i64 m1.along, .int .i64 m1.shot, .int .i64 m1.haul, .int .i64 m1.se.lo, .int .i64 m1.se.hi, .int .i64 m1.sn.lo, .int .i64 m1.sn.hi, .int .i64 m2.east, .int .i64 m2.north, .int .i64 m2.long, .int .i64 m2.along, .int .i64 m2.shot, .int .i64 m2.haul, .int .i64 m2.se.lo, .int .i64 m2.se.hi, .int .i64 m2.sn.lo, .int .i64 m2.sn.hi] W5.heap.size 2 (x 12) u)
    clear hfacts
    generalize x 12 = x12 at *
    clear x
    subst hg1
    have hks := lt_of_block HK5.out
    have HX6 := hid (HX5.out.trans hE)
    have HB6 := hid (hE.block HB5.out)
    have HC6 := hid (hE.block HC5.out)
    have HG6 := hid (hE.block HG5.out)
    have hk6 := hE.block HK5.out
    have ck := cell_of hk6
    have fk := free_of hk6
    have HK6 := hid hk6
    have HGG := hid hg2
    clear hE hk6 hg2 HG HX5 HB5 HC5 HG5 HK5
    gi_upto_region 11 with fail
    have hk7 := set_same HK6.out 3 (.slice (some ⟨g, 0, none⟩) 2 2)
    simp only [List.setIfInBounds_toArray, List.set_cons_succ, List.set_cons_zero] at hk7
    have tw : ∀ {j : Nat} {o : Obj}, j ≠ KB → u.heap[j]? = some o → (u.setCell ⟨KB, 3, none⟩ (.slice (some ⟨g, 0, none⟩) 2 2)).heap[j]? = some o := fun hj ho => by rw [set_other hj]; exact ho
    have hw0 := HX6.out.size
    have HX7 := hid (HX6.out.set (b := KB) (by omega) 3 (.slice (some ⟨g, 0, none⟩) 2 2))
    have HG7 := hid (tw (by omega) HG6.out)
    have hgg := tw (j := g) (by omega) HGG.out
    have HK7 := hid hk7
    clear ck fk tw hk7 HX6 HB6 HC6 HG6 HK6 HGG
    generalize u.setCell ⟨KB, 3, none⟩ (.slice (some ⟨g, 0, none⟩) 2 2) = W7 at *
    have hsh : ShotsAt W7 (.slice (some ⟨g, 0, none⟩) 2 2) [m1, m2] := shots_new 2 hgg rfl (by omega) (fun a ha j hj => by rcases two_c ha with rfl | rfl <;> rcases ten_c hj with rfl | rfl | rfl | rfl | rfl | rfl | rfl | rfl | rfl | rfl <;> rfl)
    have HC2 := hid (Can_c (twoF F i k) (.agg #[.slice ea F.east.length ec, .slice na F.north.length nc, .int .i64 F.gap, .slice (some ⟨g, 0, none⟩) 2 2]) W7 ⟨_, _, _, rfl, HEN.out.1.mono HX7.out, HEN.out.2.mono HX7.out, by rw [HTW.out]; exact hsh⟩)
    rw [HZ2.out.1, HZ2.out.2] at HC2
    clear hsh hgg
    have ck := cell_of HK7.out
    have cg := cell_of HG7.out
    gi_wp2_with (first | (gi_at_call 21; ((with_reducible refine (HC2.out).mono ?_); rintro e w8 ⟨rfl, hx8⟩; have cg := cell_of (hx8.block HG7.out); have hlg := lt_of_block (hx8.block HG7.out))) | (gi_at_call 19; ((with_reducible refine (works_any _).mono ?_); rintro e w99 ⟨rfl, hx99⟩)))
    go_ret
    exact ⟨rfl, ((HX7.out.trans hx8).alloc _).trans hx99⟩

end Go.Proofs.Ytmjelgonhpgmbaa
