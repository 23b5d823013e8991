/- end: the walk. -/
import Derived.Test.YtmjelgonhpgmbaaQD
set_option linter.unusedSimpArgs false
set_option linter.unusedVariables false
namespace Go.Proofs.Ytmjelgonhpgmbaa
open Go Go.RowKit Go.Shelf

/-- The two numbers of a row are written, in an order of the region's own. -/
def putJ (w w0 : World) (g : Nat) (cur : Array Value) (i k : Nat) (A B : Value) : InvJ := fun L x u => Ext w u ∧ (L 13 = true → L 11 = true) ∧ (∀ j, j ≠ g → u.heap[j]? = w0.heap[j]?) ∧ (L 11 = false → u.heap[g]? = some (.cells cur 3 (0, 0))) ∧ (L 11 = true → L 13 = false → u.heap[g]? = some (.cells (cur.setIfInBounds i A) 3 (0, 0))) ∧ (L 13 = true → u.heap[g]? = some (.cells ((cur.setIfInBounds i A).setIfInBounds k B) 3 (0, 0)))
theorem Row.put2 {w u : World} {g cap n : Nat} {l : List Int} (h : Row w 3 1 (.slice (some ⟨g, 0, none⟩) n cap) l.length (intsV l)) {cur : Array Value} (hc : w.heap[g]? = some (.cells cur 3 (0, 0))) {i k : Nat} (hi : i < l.length) (hk : k < l.length) (x y : Int) (hu : u.heap[g]? = some (.cells ((cur.setIfInBounds i (.int .i64 x)).setIfInBounds k (.int .i64 y)) 3 (0, 0))) : Row u 3 1 (.slice (some ⟨g, 0, none⟩) n cap) ((l.set i x).set k y).length (intsV ((l.set i x).set k y)) := by
  have h2 := (h.put hi x).put (j := k) (by simpa using hk) y
  refine h2.kept fun j o hj ho => ?_
  cases hj
  have := set_same (set_same hc i (.int .i64 x)) k (.int .i64 y)
  rw [this] at ho
  rw [hu, ← ho]

theorem Four.put2 {n0 : Nat} {w u : World} {g cap n : Nat} {v1 v2 v4 : Value} {r1 r2 r3 r4 : List Int} (h : Four n0 w v1 v2 (.slice (some ⟨g, 0, none⟩) n cap) v4 r1 r2 r3 r4) (ho : ∀ j, j ≠ g → u.heap[j]? = w.heap[j]?) {cur : Array Value} (hc : w.heap[g]? = some (.cells cur 3 (0, 0))) {i k : Nat} (hi : i < r3.length) (hk : k < r3.length) (x y : Int) (hu : u.heap[g]? = some (.cells ((cur.setIfInBounds i (.int .i64 x)).setIfInBounds k (.int .i64 y)) 3 (0, 0))) : Four n0 u v1 v2 (.slice (some ⟨g, 0, none⟩) n cap) v4 r1 r2 ((r3.set i x).set k y) r4 where
  row1 := h.row1.kept fun j o hj hb => by rw [ho j (fun e => h.d31 g rfl (by rw [← e]; exact hj))]; exact hb
  row2 := h.row2.kept fun j o hj hb => by rw [ho j (fun e => h.d32 g rfl (by rw [← e]; exact hj))]; exact hb
  row3 := h.row3.put2 hc hi hk x y hu
  row4 := h.row4.kept fun j o hj hb => by rw [ho j (fun e => h.d34 g rfl (by rw [← e]; exact hj))]; exact hb
  own1 := h.own1
  own2 := h.own2
  own3 := h.own3
  own4 := h.own4
  d12 := h.d12
  d13 := h.d13
  d14 := h.d14
  d21 := h.d21
  d23 := h.d23
  d24 := h.d24
  d31 := h.d31
  d32 := h.d32
  d34 := h.d34
  d41 := h.d41
  d42 := h.d42
  d43 := h.d43
theorem Four.sets {n0 : Nat} {w : World} {g : Nat} {v1 v2 v3 v4 : Value} {r1 r2 r3 r4 : List Int} (h : Four n0 w v1 v2 v3 v4 r1 r2 r3 r4) (hg : g < n0) (a b c d : Value) : Four n0 ((((w.setCell ⟨g, 0, none⟩ a).setCell ⟨g, 1, none⟩ b).setCell ⟨g, 2, none⟩ c).setCell ⟨g, 3, none⟩ d) v1 v2 v3 v4 r1 r2 r3 r4 := by
  have k1 : v1.ownBlock ≠ some g := fun e => by have := h.own1 _ e; omega
  have k2 : v2.ownBlock ≠ some g := fun e => by have := h.own2 _ e; omega
  have k3 : v3.ownBlock ≠ some g := fun e => by have := h.own3 _ e; omega
  have k4 : v4.ownBlock ≠ some g := fun e => by have := h.own4 _ e; omega
  exact {
    row1 := (((h.row1.set k1 0 a).set k1 1 b).set k1 2 c).set k1 3 d
    row2 := (((h.row2.set k2 0 a).set k2 1 b).set k2 2 c).set k2 3 d
    row3 := (((h.row3.set k3 0 a).set k3 1 b).set k3 2 c).set k3 3 d
    row4 := (((h.row4.set k4 0 a).set k4 1 b).set k4 2 c).set k4 3 d
    own1 := h.own1
    own2 := h.own2
    own3 := h.own3
    own4 := h.own4
    d12 := h.d12
    d13 := h.d13
    d14 := h.d14
    d21 := h.d21
    d23 := h.d23
    d24 := h.d24
    d31 := h.d31
    d32 := h.d32
    d34 := h.d34
    d41 := h.d41
    d42 := h.d42
    d43 := h.d43
  }

def EI (w : World) (FB TBX : Array Value) (TT n0 : Nat) (r1 r2 r3 r4 : List Int) (v1 v2 v3 v4 : Value) (u : World) : Prop := Ext w u ∧ u.heap[w.heap.size]? = some (.cells FB 40 (0, 0)) ∧ u.heap[w.heap.size + 1]? = some (.cells #[.slice none 0 0, .slice none 0 0, .slice none 0 0, .slice none 0 0] 50 (0, 0)) ∧ u.heap[TT]? = some (.cells TBX 50 (0, 0)) ∧ Four n0 u v1 v2 v3 v4 r1 r2 r3 r4

set_option maxRecDepth 100000 in
set_option maxHeartbeats 16000000 in
theorem end_any (F : FleetD) (hFB : fleetB F = true) (fv : Value) (i k : Nat) (a b : NetD) (ha : F.nets[i]? = some a) (hb : F.nets[k]? = some b) (h : Nat) (hh : h ≤ F.east.length) (least : Bool) (w : World) (hf : FlAt w fv F) :
    Cal 32 #[fv, .int .i64 i, .int .i64 k, .int .i64 h, .bool least] w fun e w' => ∃ v, e = .returned v ∧ TrAt w' v (endTr F a b i k h least) ∧ Ext w w' := by
  obtain ⟨ev, nv, sv, rfl, he, hn, hs⟩ := hf
  have HF := hid (fun (u : World) (hu : Ext w u) => (⟨ev, nv, sv, rfl, he.mono hu, hn.mono hu, hs.mono hu⟩ : FlAt u (.agg #[ev, nv, .int .i64 F.gap, sv]) F))
  have HEN := hid (And.intro he (And.intro hn hs))
  obtain ⟨sa, sc, rfl, hsl, hsc⟩ := hs
  have HSC := hid hsc
  obtain ⟨ea, ec, rfl, _, _⟩ := he
  obtain ⟨na, nc, rfl, _, _⟩ := hn
  clear hsc
  have ok := fleetB_ok hFB
  obtain ⟨hi, ea'⟩ := List.getElem?_eq_some_iff.1 ha
  obtain ⟨hk, eb'⟩ := List.getElem?_eq_some_iff.1 hb
  obtain ⟨nb, off, rfl, hnb, dd⟩ := HSC.out i hi
  obtain ⟨nb2, off2, hre, hnb2, ee⟩ := HSC.out k hk
  obtain ⟨rfl, rfl⟩ : nb = nb2 ∧ off = off2 := by cases hre; exact ⟨rfl, rfl⟩
  rw [ea'] at dd
  rw [eb'] at ee
  have HND := hid (And.intro hnb (And.intro dd ee))
  obtain ⟨ea2, ec2, he2, _, hec⟩ := HEN.out.1
  cases he2
  have HEC := hid hec
  have hhr := ok.hours
  have hcn := ok.count
  have HCL := hid (chosenT_len ok [])
  have HCF := hid (fun (u : World) (hu : Ext w u) => chosen_four F hFB [] _ (.slice none 0 0) u (HF.out u hu) (ints_nil u))
  have hii : (i : Int) < F.nets.length := by omega
  have hkk : (k : Int) < F.nets.length := by omega
  clear dd ee hre hnb2 ha hb hec ok HSC
  gi_enter Try.func32, Try.ntmps32
  gi_upto_region 1 with fail
  have hW : Ext w ((w.alloc (.cells #[.slice ea F.east.length ec, .slice na F.north.length nc, .int .i64 F.gap, .slice (some ⟨nb, off, none⟩) F.nets.length sc] 40)).alloc (.cells #[.slice none 0 0, .slice none 0 0, .slice none 0 0, .slice none 0 0] 50)) := (((Ext.refl _).alloc _).alloc _)
  have hB0 : ((w.alloc (.cells #[.slice ea F.east.length ec, .slice na F.north.length nc, .int .i64 F.gap, .slice (some ⟨nb, off, none⟩) F.nets.length sc] 40)).alloc (.cells #[.slice none 0 0, .slice none 0 0, .slice none 0 0, .slice none 0 0] 50)).heap[w.heap.size]? = some (.cells #[.slice ea F.east.length ec, .slice na F.north.length nc, .int .i64 F.gap, .slice (some ⟨nb, off, none⟩) F.nets.length sc] 40 (0, 0)) := by simp only [alloc_at, World.size_alloc]; (repeat rw [if_neg (by omega)]); first | rfl | rw [if_pos (by omega)] | rw [if_pos trivial]
  have hB1 : ((w.alloc (.cells #[.slice ea F.east.length ec, .slice na F.north.length nc, .int .i64 F.gap, .slice (some ⟨nb, off, none⟩) F.nets.length sc] 40)).alloc (.cells #[.slice none 0 0, .slice none 0 0, .slice none 0 0, .slice none 0 0] 50)).heap[w.heap.size + 1]? = some (.cells #[.slice none 0 0, .slice none 0 0, .slice none 0 0, .slice none 0 0] 50 (0, 0)) := by simp only [alloc_at, World.size_alloc]; (repeat rw [if_neg (by omega)]); first | rfl | rw [if_pos (by omega)] | rw [if_pos trivial]
  generalize ((w.alloc (.cells #[.slice ea F.east.length ec, .slice na F.north.length nc, .int .i64 F.gap, .slice (some ⟨nb, off, none⟩) F.nets.length sc] 40)).alloc (.cells #[.slice none 0 0, .slice none 0 0, .slice none 0 0, .slice none 0 0] 50)) = W at *
  have HX := hid hW
  have HB0 := hid hB0
  have c0 := cell_of hB0
  have HB1 := hid hB1
  have c1 := cell_of hB1
  clear hW hB0 hB1
  have hWW : w.heap.size + 2 ≤ W.heap.size := by have := lt_of_block HB1.out; omega
  gi_upto_region 2 with (gi_at_call 25; ((with_reducible refine (HCF.out _ HX.out).mono ?_); rintro e w5 ⟨v1, v2, v3, v4, rfl, hx5, hfo⟩; obtain ⟨x1, y1, rfl⟩ := hfo.row1.isSliceN; obtain ⟨x2, y2, rfl⟩ := hfo.row2.isSliceN; obtain ⟨x3, y3, rfl⟩ := hfo.row3.isSliceN; obtain ⟨x4, y4, rfl⟩ := hfo.row4.isSliceN))
  obtain ⟨g1, rfl⟩ : ∃ g, x1 = some ⟨g, 0, none⟩ := row_some hfo.row1 (by have := HCL.out; omega)
  obtain ⟨g3, rfl⟩ : ∃ g, x3 = some ⟨g, 0, none⟩ := row_some hfo.row3 (by have := HCL.out; omega)
  have hlq := HCL.out
  have HE0 := hid (endT_zero F.east (chosenT F []).east a.shot b.shot least).symm
  have HET := hid (fun (j : Nat) (hj : j < (chosenT F []).east.length) => endT_succ F.east (chosenT F []).east a.shot b.shot least hj)
  obtain ⟨q1, hq1⟩ : ∃ q, q = (chosenT F []).east.length := ⟨_, rfl⟩
  obtain ⟨q2, hq2⟩ : ∃ q, q = (chosenT F []).north.length := ⟨_, rfl⟩
  obtain ⟨q3, hq3⟩ : ∃ q, q = (chosenT F []).se.length := ⟨_, rfl⟩
  obtain ⟨q4, hq4⟩ : ∃ q, q = (chosenT F []).sn.length := ⟨_, rfl⟩
  rw [← hq1, ← hq2, ← hq3, ← hq4] at hfo ⊢
  rw [← hq1, ← hq2, ← hq3, ← hq4] at hlq
  have HLQ := hid hlq
  clear hq1 hq2 hq3 hq4 hlq
  have hxa : Ext w5 (w5.alloc (.cells #[.slice (some ⟨g1, 0, none⟩) q1 y1, .slice x2 q2 y2, .slice (some ⟨g3, 0, none⟩) q3 y3, .slice x4 q4 y4] 50)) := (Ext.refl _).alloc _
  have HX6 := hid ((HX.out.trans hx5).trans hxa)
  have HB6 := hid ((hx5.trans hxa).block HB0.out)
  have HR6 := hid ((hx5.trans hxa).block HB1.out)
  have HT6 : Hid ((w5.alloc (.cells #[.slice (some ⟨g1, 0, none⟩) q1 y1, .slice x2 q2 y2, .slice (some ⟨g3, 0, none⟩) q3 y3, .slice x4 q4 y4] 50)).heap[w5.heap.size]? = some (.cells #[.slice (some ⟨g1, 0, none⟩) q1 y1, .slice x2 q2 y2, .slice (some ⟨g3, 0, none⟩) q3 y3, .slice x4 q4 y4] 50 (0, 0))) := Ext.new (Ext.refl _)
  have hg1l := hfo.own1 g1 rfl
  have hg3l := hfo.own3 g3 rfl
  have hg1u := hfo.row1.lt (g := g1) rfl
  have hg3u := hfo.row3.lt (g := g3) rfl
  have HFO := hid (hfo.ext hxa)
  clear hx5 hxa hfo HX HB0 HB1 c0 c1 HCF
  have hWw : w.heap.size + 2 ≤ W.heap.size := hWW
  obtain ⟨TT, hTT⟩ : ∃ n, n = w5.heap.size := ⟨_, rfl⟩
  rw [← hTT] at HT6 hg1u hg3u ⊢
  clear hTT
  generalize w5.alloc (.cells #[.slice (some ⟨g1, 0, none⟩) q1 y1, .slice x2 q2 y2, .slice (some ⟨g3, 0, none⟩) q3 y3, .slice x4 q4 y4] 50) = w6 at *
  have HI0 : Hid (EI w #[.slice ea F.east.length ec, .slice na F.north.length nc, .int .i64 F.gap, .slice (some ⟨nb, off, none⟩) F.nets.length sc] #[.slice (some ⟨g1, 0, none⟩) q1 y1, .slice x2 q2 y2, .slice (some ⟨g3, 0, none⟩) q3 y3, .slice x4 q4 y4] TT W.heap.size (endT F.east (chosenT F []).east a.shot b.shot 0 least) (chosenT F []).north (chosenT F []).se (chosenT F []).sn (.slice (some ⟨g1, 0, none⟩) q1 y1) (.slice x2 q2 y2) (.slice (some ⟨g3, 0, none⟩) q3 y3) (.slice x4 q4 y4) w6) := ⟨HX6.out, HB6.out, HR6.out, HT6.out, by rw [← HE0.out]; exact HFO.out⟩
  obtain ⟨eb, eo, rfl, heb, _⟩ := HEC.out 0 (by omega)
  clear HX6 HB6 HR6 HT6 HFO HE0
  cases least
  case false =>
    gi_wp2_with fail
    gi_loopw [12] (fun i wr => ∃ j : Nat, j ≤ h ∧ i = .int .i64 j ∧ Hid (EI w #[.slice (some ⟨eb, eo, none⟩) F.east.length ec, .slice na F.north.length nc, .int .i64 F.gap, .slice (some ⟨nb, off, none⟩) F.nets.length sc] #[.slice (some ⟨g1, 0, none⟩) q1 y1, .slice x2 q2 y2, .slice (some ⟨g3, 0, none⟩) q3 y3, .slice x4 q4 y4] TT W.heap.size (endT F.east (chosenT F []).east a.shot b.shot j false) (chosenT F []).north (chosenT F []).se (chosenT F []).sn (.slice (some ⟨g1, 0, none⟩) q1 y1) (.slice x2 q2 y2) (.slice (some ⟨g3, 0, none⟩) q3 y3) (.slice x4 q4 y4) wr)) (fun i _ => h - (intOf i).toNat)
    case atStart => exact ⟨0, Nat.zero_le _, rfl, HI0⟩
    case round =>
      obtain ⟨j, hj, rfl, hI⟩ := hrel
      clear HI0
      obtain ⟨hx, hb0, hb1, hbt, hfo⟩ := hI.out
      have HX := hid hx
      have HB0 := hid hb0
      have HB1 := hid hb1
      have HBT := hid hbt
      have HFO := hid hfo
      have c0 := cell_of hb0
      have d0 := ((HX.out.cell (p := ⟨nb, _, none⟩) HND.out.1).trans HND.out.2.1.2.2.2.2.1)
      have d1 := ((HX.out.cell (p := ⟨nb, _, none⟩) HND.out.1).trans HND.out.2.2.2.2.2.2.1)
      clear hI hx hb0 hb1 hbt hfo
      by_cases hlt : j < h
      · have hjl : j < F.east.length := by omega
        have hji : (j : Int) < F.east.length := by omega
        have hjh : (j : Int) < h := by omega
        have hjq : (j : Int) < q1 := by have := HLQ.out; omega
        obtain ⟨eb', eo', he', _, hlo, hhi⟩ := HEC.out j hjl
        cases he'
        have HSP := hid (And.intro hlo hhi)
        have HGD : Hid (F.east.getD j ⟨0, 0⟩ = F.east[j]) := getD_of hjl
        have HST := hid (HET.out j (by have := HCL.out; omega))
        obtain ⟨cur, hcur, hcj⟩ := HFO.out.row1.atCell (j := j) (by rw [endT_len]; have := HCL.out; omega)
        have HCU := hid (And.intro hcur hcj)
        clear hlo hhi hcur hcj
        generalize hold : (endT F.east (chosenT F []).east a.shot b.shot j false)[j]'(by rw [endT_len]; have := HCL.out; omega) = old at *
        clear hold
        generalize F.east[j] = es at *
        by_cases p1 : a.shot ≤ (j : Int)
        case neg =>
          have HV : Hid (endAt F.east a.shot b.shot false j = es.lo) := by show _ = _; unfold endAt; rw [decide_eq_false p1, HGD.out]; rfl
          gi_wp2_with fail
          clear c0 d0 d1
          have HQ := hid fun e : Later wr => And.intro (cell_of (Ext.block e.grown HBT.out)) (And.intro (cell_of (Ext.block e.grown HB0.out)) (And.intro (((HX.out.trans e.grown).cell (p := ⟨eb, _, none⟩) heb).trans HSP.out.1) (((HX.out.trans e.grown).cell (p := ⟨eb, _, none⟩) heb).trans HSP.out.2)))
          have q0 := HQ.out
          refine quiet_wide 9 (by kernel_rfl) (by kernel_rfl) ?_
          simp only [List.take_succ_cons, List.take_zero, List.drop_succ_cons, List.drop_zero]
          repeat (any_goals (first | go_big_quiet_step (fail) | quiet_step (fail)))
          refine wpQuiet_nil ?_
          rintro w7 ⟨⟨w7q, hx7⟩, hew⟩
          obtain rfl : w7 = w7q := hew
          have hx7 : Ext wr w7 := hx7
          clear q0 HQ
          have hcb := hx7.block HCU.out.1
          have ccell := (cell_of hcb j).trans HCU.out.2
          have ffree := free_of hcb
          have HX8 := hid ((HX.out.trans hx7).set (b := g1) (by omega) j (.int .i64 es.lo))
          have HB8 : Hid ((w7.setCell ⟨g1, j, none⟩ (.int .i64 es.lo)).heap[w.heap.size]? = some (.cells #[.slice (some ⟨eb, eo, none⟩) F.east.length ec, .slice na F.north.length nc, .int .i64 F.gap, .slice (some ⟨nb, off, none⟩) F.nets.length sc] 40 (0, 0))) := by show _ = _; rw [set_other (by omega)]; exact hx7.block HB0.out
          have HR8 : Hid ((w7.setCell ⟨g1, j, none⟩ (.int .i64 es.lo)).heap[w.heap.size + 1]? = some (.cells #[.slice none 0 0, .slice none 0 0, .slice none 0 0, .slice none 0 0] 50 (0, 0))) := by show _ = _; rw [set_other (by omega)]; exact hx7.block HB1.out
          have HT8 : Hid ((w7.setCell ⟨g1, j, none⟩ (.int .i64 es.lo)).heap[TT]? = some (.cells #[.slice (some ⟨g1, 0, none⟩) q1 y1, .slice x2 q2 y2, .slice (some ⟨g3, 0, none⟩) q3 y3, .slice x4 q4 y4] 50 (0, 0))) := by show _ = _; rw [set_other (by omega)]; exact hx7.block HBT.out
          have HF8 := hid ((HFO.out.ext hx7).put1 (j := j) (by rw [endT_len]; have := HCL.out; omega) es.lo)
          clear hcb hx7
          gi_wp2_with fail
          go_roundw
          case rel => exact ⟨j + 1, by omega, by go_num, HX8.out, HB8.out, HR8.out, HT8.out, by rw [HST.out, HV.out]; exact HF8.out⟩
          case measure => simp [intOf]; omega
        case pos =>
        by_cases p2 : (j : Int) < b.shot
        case neg =>
          have HV : Hid (endAt F.east a.shot b.shot false j = es.lo) := by show _ = _; unfold endAt; rw [decide_eq_true p1, decide_eq_false p2, HGD.out]; rfl
          gi_wp2_with fail
          clear c0 d0 d1
          have HQ := hid fun e : Later wr => And.intro (cell_of (Ext.block e.grown HBT.out)) (And.intro (cell_of (Ext.block e.grown HB0.out)) (And.intro (((HX.out.trans e.grown).cell (p := ⟨eb, _, none⟩) heb).trans HSP.out.1) (((HX.out.trans e.grown).cell (p := ⟨eb, _, none⟩) heb).trans HSP.out.2)))
          have q0 := HQ.out
          refine quiet_wide 9 (by kernel_rfl) (by kernel_rfl) ?_
          simp only [List.take_succ_cons, List.take_zero, List.drop_succ_cons, List.drop_zero]
          repeat (any_goals (first | go_big_quiet_step (fail) | quiet_step (fail)))
          refine wpQuiet_nil ?_
          rintro w7 ⟨⟨w7q, hx7⟩, hew⟩
          obtain rfl : w7 = w7q := hew
          have hx7 : Ext wr w7 := hx7
          clear q0 HQ
          have hcb := hx7.block HCU.out.1
          have ccell := (cell_of hcb j).trans HCU.out.2
          have ffree := free_of hcb
          have HX8 := hid ((HX.out.trans hx7).set (b := g1) (by omega) j (.int .i64 es.lo))
          have HB8 : Hid ((w7.setCell ⟨g1, j, none⟩ (.int .i64 es.lo)).heap[w.heap.size]? = some (.cells #[.slice (some ⟨eb, eo, none⟩) F.east.length ec, .slice na F.north.length nc, .int .i64 F.gap, .slice (some ⟨nb, off, none⟩) F.nets.length sc] 40 (0, 0))) := by show _ = _; rw [set_other (by omega)]; exact hx7.block HB0.out
          have HR8 : Hid ((w7.setCell ⟨g1, j, none⟩ (.int .i64 es.lo)).heap[w.heap.size + 1]? = some (.cells #[.slice none 0 0, .slice none 0 0, .slice none 0 0, .slice none 0 0] 50 (0, 0))) := by show _ = _; rw [set_other (by omega)]; exact hx7.block HB1.out
          have HT8 : Hid ((w7.setCell ⟨g1, j, none⟩ (.int .i64 es.lo)).heap[TT]? = some (.cells #[.slice (some ⟨g1, 0, none⟩) q1 y1, .slice x2 q2 y2, .slice (some ⟨g3, 0, none⟩) q3 y3, .slice x4 q4 y4] 50 (0, 0))) := by show _ = _; rw [set_other (by omega)]; exact hx7.block HBT.out
          have HF8 := hid ((HFO.out.ext hx7).put1 (j := j) (by rw [endT_len]; have := HCL.out; omega) es.lo)
          clear hcb hx7
          gi_wp2_with fail
          go_roundw
          case rel => exact ⟨j + 1, by omega, by go_num, HX8.out, HB8.out, HR8.out, HT8.out, by rw [HST.out, HV.out]; exact HF8.out⟩
          case measure => simp [intOf]; omega
        case pos =>
          have HV : Hid (endAt F.east a.shot b.shot false j = es.hi) := by show _ = _; unfold endAt; rw [decide_eq_true p1, decide_eq_true p2, HGD.out]; rfl
          gi_wp2_with fail
          clear c0 d0 d1
          have HQ := hid fun e : Later wr => And.intro (cell_of (Ext.block e.grown HBT.out)) (And.intro (cell_of (Ext.block e.grown HB0.out)) (And.intro (((HX.out.trans e.grown).cell (p := ⟨eb, _, none⟩) heb).trans HSP.out.1) (((HX.out.trans e.grown).cell (p := ⟨eb, _, none⟩) heb).trans HSP.out.2)))
          have q0 := HQ.out
          refine quiet_wide 9 (by kernel_rfl) (by kernel_rfl) ?_
          simp only [List.take_succ_cons, List.take_zero, List.drop_succ_cons, List.drop_zero]
          repeat (any_goals (first | go_big_quiet_step (fail) | quiet_step (fail)))
          refine wpQuiet_nil ?_
          rintro w7 ⟨⟨w7q, hx7⟩, hew⟩
          obtain rfl : w7 = w7q := hew
          have hx7 : Ext wr w7 := hx7
          clear q0 HQ
          have hcb := hx7.block HCU.out.1
          have ccell := (cell_of hcb j).trans HCU.out.2
          have ffree := free_of hcb
          have HX8 := hid ((HX.out.trans hx7).set (b := g1) (by omega) j (.int .i64 es.hi))
          have HB8 : Hid ((w7.setCell ⟨g1, j, none⟩ (.int .i64 es.hi)).heap[w.heap.size]? = some (.cells #[.slice (some ⟨eb, eo, none⟩) F.east.length ec, .slice na F.north.length nc, .int .i64 F.gap, .slice (some ⟨nb, off, none⟩) F.nets.length sc] 40 (0, 0))) := by show _ = _; rw [set_other (by omega)]; exact hx7.block HB0.out
          have HR8 : Hid ((w7.setCell ⟨g1, j, none⟩ (.int .i64 es.hi)).heap[w.heap.size + 1]? = some (.cells #[.slice none 0 0, .slice none 0 0, .slice none 0 0, .slice none 0 0] 50 (0, 0))) := by show _ = _; rw [set_other (by omega)]; exact hx7.block HB1.out
          have HT8 : Hid ((w7.setCell ⟨g1, j, none⟩ (.int .i64 es.hi)).heap[TT]? = some (.cells #[.slice (some ⟨g1, 0, none⟩) q1 y1, .slice x2 q2 y2, .slice (some ⟨g3, 0, none⟩) q3 y3, .slice x4 q4 y4] 50 (0, 0))) := by show _ = _; rw [set_other (by omega)]; exact hx7.block HBT.out
          have HF8 := hid ((HFO.out.ext hx7).put1 (j := j) (by rw [endT_len]; have := HCL.out; omega) es.hi)
          clear hcb hx7
          gi_wp2_with fail
          go_roundw
          case rel => exact ⟨j + 1, by omega, by go_num, HX8.out, HB8.out, HR8.out, HT8.out, by rw [HST.out, HV.out]; exact HF8.out⟩
          case measure => simp [intOf]; omega
      · obtain rfl : j = h := by omega
        have hhh : ¬ (j : Int) < j := by omega
        by_cases hlen : (j : Int) < F.east.length
        case pos =>
          have HG := hid (fun (u : World) (hu : Ext wr u) => And.intro (hu.block HB0.out) (HX.out.trans hu))
          gi_upto_region 9 with fail
          clear c0 d0 d1
          refine jj_own 16 [12, 13] (pairJ wr 56 (.int .i64 0) (.int .i64 0) (.int .i64 a.se.lo) (.int .i64 a.se.hi) (.int .i64 b.se.lo) (.int .i64 b.se.hi)) (by kernel_rfl) (by kernel_rfl) (pairJ_start _ _ _ _ _ _ _ _) ?_
          simp only [List.take_succ_cons, List.take_zero, List.drop_succ_cons, List.drop_zero]
          apply jj_fun (by decide)
          · intro L x u hL hd hJ
            have HJ := hid hJ
            clear hJ hd hL
            go_simp
            exact ⟨rfl, HJ.out⟩
          simp only [Act.put, List.setIfInBounds_toArray, List.set_cons_succ, List.set_cons_zero]
          apply jj_fun (by decide)
          · intro L x u hL hd hJ
            have c1 := cell_of (HG.out u hJ.1).1
            have HJ := hid hJ
            clear hJ hd hL
            go_simp
            exact ⟨rfl, HJ.out⟩
          simp only [Act.put, List.setIfInBounds_toArray, List.set_cons_succ, List.set_cons_zero]
          apply jj_fun (by decide)
          · intro L x u hL hd hJ
            have HJ := hid hJ
            clear hJ hd hL
            go_simp
            exact ⟨rfl, HJ.out⟩
          simp only [Act.put, List.setIfInBounds_toArray, List.set_cons_succ, List.set_cons_zero]
          apply jj_fun (by decide)
          · intro L x u hL hd hJ
            have HJ := hid hJ
            clear hJ hd hL
            go_simp
            exact ⟨rfl, HJ.out⟩
          simp only [Act.put, List.setIfInBounds_toArray, List.set_cons_succ, List.set_cons_zero]
          apply jj_fun (by decide)
          · intro L x u hL hd hJ
            have HJ := hid hJ
            clear hJ hd hL
            go_simp
            exact ⟨rfl, HJ.out⟩
          simp only [Act.put, List.setIfInBounds_toArray, List.set_cons_succ, List.set_cons_zero]
          apply jj_fun (by decide)
          · intro L x u hL hd hJ
            have c1 := ((HG.out u hJ.1).2.cell (p := ⟨nb, _, none⟩) HND.out.1).trans HND.out.2.1.2.2.2.2.2.2.1
            have c2 := ((HG.out u hJ.1).2.cell (p := ⟨nb, _, none⟩) HND.out.1).trans HND.out.2.1.2.2.2.2.2.2.2.1
            have HJ := hid hJ
            clear hJ hd hL
            go_simp
            exact ⟨rfl, HJ.out⟩
          simp only [Act.put, List.setIfInBounds_toArray, List.set_cons_succ, List.set_cons_zero]
          apply jj_fun (by decide)
          · intro L x u hL hd hJ
            have HJ := hid hJ
            clear hJ hd hL
            go_simp
            exact ⟨rfl, HJ.out⟩
          simp only [Act.put, List.setIfInBounds_toArray, List.set_cons_succ, List.set_cons_zero]
          apply jj_fun (by decide)
          · intro L x u hL hd hJ
            have c1 := cell_of (HG.out u hJ.1).1
            have HJ := hid hJ
            clear hJ hd hL
            go_simp
            exact ⟨rfl, HJ.out⟩
          simp only [Act.put, List.setIfInBounds_toArray, List.set_cons_succ, List.set_cons_zero]
          apply jj_fun (by decide)
          · intro L x u hL hd hJ
            have HJ := hid hJ
            clear hJ hd hL
            go_simp
            exact ⟨rfl, HJ.out⟩
          simp only [Act.put, List.setIfInBounds_toArray, List.set_cons_succ, List.set_cons_zero]
          apply jj_fun (by decide)
          · intro L x u hL hd hJ
            have HJ := hid hJ
            clear hJ hd hL
            go_simp
            exact ⟨rfl, HJ.out⟩
          simp only [Act.put, List.setIfInBounds_toArray, List.set_cons_succ, List.set_cons_zero]
          apply jj_fun (by decide)
          · intro L x u hL hd hJ
            have HJ := hid hJ
            clear hJ hd hL
            go_simp
            exact ⟨rfl, HJ.out⟩
          simp only [Act.put, List.setIfInBounds_toArray, List.set_cons_succ, List.set_cons_zero]
          apply jj_fun (by decide)
          · intro L x u hL hd hJ
            have c1 := ((HG.out u hJ.1).2.cell (p := ⟨nb, _, none⟩) HND.out.1).trans HND.out.2.2.2.2.2.2.2.2.1
            have c2 := ((HG.out u hJ.1).2.cell (p := ⟨nb, _, none⟩) HND.out.1).trans HND.out.2.2.2.2.2.2.2.2.2.1
            have HJ := hid hJ
            clear hJ hd hL
            go_simp
            exact ⟨rfl, HJ.out⟩
          simp only [Act.put, List.setIfInBounds_toArray, List.set_cons_succ, List.set_cons_zero]
          refine jj_inv (by decide) ?_ ?_
          · intro L x u hL hd hJ
            have HJ := hid (pairJ_make1 hJ hL)
            clear hJ hd hL
            go_simp
            exact HJ.out
          simp only [Act.put, List.setIfInBounds_toArray, List.set_cons_succ, List.set_cons_zero]
          refine jj_inv (by decide) ?_ ?_
          · intro L x u hL hd hJ
            have HJ := hid (pairJ_make2 hJ hL)
            clear hJ hd hL
            go_simp
            exact HJ.out
          simp only [Act.put, List.setIfInBounds_toArray, List.set_cons_succ, List.set_cons_zero]
          refine jj_fun (v := undef) (by decide) ?_ ?_
          · intro L x u hL hd hJ
            have hl : L 12 = true := hd.1 rfl
            obtain ⟨g, hx8, hg, h3, _⟩ := hJ.2.1 hl
            have hb := h3 hL
            have HJ := hid (pairJ_fill1 hJ hl hx8 hb hg)
            have cb := cell_of hb
            have fb := free_of hb
            rw [hx8]
            clear hJ hd hL hb h3 hl hx8
            go_simp
            exact HJ.out
          simp only [Act.put, List.setIfInBounds_toArray, List.set_cons_succ, List.set_cons_zero]
          refine jj_fun (v := undef) (by decide) ?_ ?_
          · intro L x u hL hd hJ
            have hl : L 13 = true := hd.1 rfl
            obtain ⟨g, hx8, hg, h3, _⟩ := hJ.2.2.1 hl
            have hb := h3 hL
            have HJ := hid (pairJ_fill2 hJ hl hx8 hb hg)
            have cb := cell_of hb
            have fb := free_of hb
            rw [hx8]
            clear hJ hd hL hb h3 hl hx8
            go_simp
            exact HJ.out
          simp only [Act.put, List.setIfInBounds_toArray, List.set_cons_succ, List.set_cons_zero]
          refine jj_nil fun L x u hall hJ => ?_
          obtain ⟨ga, hg1, hgl1, _, hgb1⟩ := hJ.2.1 (hall 12 (by omega))
          obtain ⟨gb, hg2, hgl2, _, hgb2⟩ := hJ.2.2.1 (hall 13 (by omega))
          have hgb1 := hgb1 (hall 14 (by omega))
          have hgb2 := hgb2 (hall 15 (by omega))
          have hE := hJ.1
          clear hJ hall
          generalize x 12 = x12 at *
          generalize x 13 = x13 at *
          clear x
          subst hg1
          subst hg2
          have HXu := hid (HX.out.trans hE)
          have HRu := hid (hE.block HB1.out)
          have HTu := hid (hE.block HBT.out)
          have HFu := hid (HFO.out.ext hE)
          have HGA := hid hgb1
          have HGB := hid hgb2
          have hltT := lt_of_block HBT.out
          clear hE hgb1 hgb2 HG HB0 HB1 HBT HFO HX HND HEC
          gi_upto_region 12 with fail
          have hiq : (i : Int) < q3 := by have := HLQ.out; omega
          have hkq : (k : Int) < q3 := by have := HLQ.out; omega
          obtain ⟨cur, hcur, hci⟩ := HFu.out.row3.atCell (j := i) (by have := HCL.out; omega)
          obtain ⟨cur', hcur', hck⟩ := HFu.out.row3.atCell (j := k) (by have := HCL.out; omega)
          obtain rfl : cur = cur' := by have := hcur.symm.trans hcur'; cases this; rfl
          generalize (chosenT F []).se[i]'(by have := HCL.out; omega) = oi at hci
          generalize (chosenT F []).se[k]'(by have := HCL.out; omega) = ok at hck
          have hck2 : ∃ z, (cur.setIfInBounds i (.int .i64 a.se.hi))[k]? = some z := by
            rw [Array.getElem?_setIfInBounds]
            by_cases e : i = k
            · subst e; rw [if_pos rfl, if_pos (by have := (Array.getElem?_eq_some_iff.1 hci).1; exact this)]; exact ⟨_, rfl⟩
            · rw [if_neg e]; exact ⟨_, hck⟩
          obtain ⟨ok2, hck2⟩ := hck2
          have HCU := hid (And.intro hcur (And.intro hci hck2))
          have hn1 : TT ≠ g3 := by omega
          have hn2 : ga ≠ g3 := by omega
          have hn3 : gb ≠ g3 := by omega
          clear hcur hcur' hci hck hck2
          refine jj_own 14 [] (putJ w u g3 cur i k (.int .i64 a.se.hi) (.int .i64 b.se.lo)) (by kernel_rfl) (by kernel_rfl) ⟨HXu.out.trans (Ext.drawn _), (fun h => by cases h), (fun _ _ => rfl), (fun _ => HCU.out.1), (fun h => by cases h), fun h => by cases h⟩ ?_
          simp only [List.take_succ_cons, List.take_zero, List.drop_succ_cons, List.drop_zero]
          apply jj_fun (by decide)
          · intro L x u hL hd hJ
            have HJ := hid hJ
            clear hJ hd hL
            go_simp
            exact ⟨rfl, HJ.out⟩
          simp only [Act.put, List.setIfInBounds_toArray, List.set_cons_succ, List.set_cons_zero]
          apply jj_fun (by decide)
          · intro L x u hL hd hJ
            have c1 := cell_of ((hJ.2.2.1 TT hn1).trans HTu.out)
            have HJ := hid hJ
            clear hJ hd hL
            go_simp
            exact ⟨rfl, HJ.out⟩
          simp only [Act.put, List.setIfInBounds_toArray, List.set_cons_succ, List.set_cons_zero]
          apply jj_fun (by decide)
          · intro L x u hL hd hJ
            have HJ := hid hJ
            clear hJ hd hL
            go_simp
            exact ⟨rfl, HJ.out⟩
          simp only [Act.put, List.setIfInBounds_toArray, List.set_cons_succ, List.set_cons_zero]
          apply jj_fun (by decide)
          · intro L x u hL hd hJ
            have HJ := hid hJ
            clear hJ hd hL
            go_simp
            exact ⟨rfl, HJ.out⟩
          simp only [Act.put, List.setIfInBounds_toArray, List.set_cons_succ, List.set_cons_zero]
          apply jj_fun (by decide)
          · intro L x u hL hd hJ
            have c1 := cell_of ((hJ.2.2.1 TT hn1).trans HTu.out)
            have HJ := hid hJ
            clear hJ hd hL
            go_simp
            exact ⟨rfl, HJ.out⟩
          simp only [Act.put, List.setIfInBounds_toArray, List.set_cons_succ, List.set_cons_zero]
          apply jj_fun (by decide)
          · intro L x u hL hd hJ
            have HJ := hid hJ
            clear hJ hd hL
            go_simp
            exact ⟨rfl, HJ.out⟩
          simp only [Act.put, List.setIfInBounds_toArray, List.set_cons_succ, List.set_cons_zero]
          apply jj_fun (by decide)
          · intro L x u hL hd hJ
            have HJ := hid hJ
            clear hJ hd hL
            go_simp
            exact ⟨rfl, HJ.out⟩
          simp only [Act.put, List.setIfInBounds_toArray, List.set_cons_succ, List.set_cons_zero]
          apply jj_fun (by decide)
          · intro L x u hL hd hJ
            have c1 := cell_of ((hJ.2.2.1 ga hn2).trans HGA.out)
            have HJ := hid hJ
            clear hJ hd hL
            go_simp
            exact ⟨rfl, HJ.out⟩
          simp only [Act.put, List.setIfInBounds_toArray, List.set_cons_succ, List.set_cons_zero]
          apply jj_fun (by decide)
          · intro L x u hL hd hJ
            have HJ := hid hJ
            clear hJ hd hL
            go_simp
            exact ⟨rfl, HJ.out⟩
          simp only [Act.put, List.setIfInBounds_toArray, List.set_cons_succ, List.set_cons_zero]
          apply jj_fun (by decide)
          · intro L x u hL hd hJ
            have c1 := cell_of ((hJ.2.2.1 gb hn3).trans HGB.out)
            have HJ := hid hJ
            clear hJ hd hL
            go_simp
            exact ⟨rfl, HJ.out⟩
          simp only [Act.put, List.setIfInBounds_toArray, List.set_cons_succ, List.set_cons_zero]
          apply jj_fun (by decide)
          · intro L x u hL hd hJ
            have HJ := hid hJ
            clear hJ hd hL
            go_simp
            exact ⟨rfl, HJ.out⟩
          simp only [Act.put, List.setIfInBounds_toArray, List.set_cons_succ, List.set_cons_zero]
          refine jj_fun (v := undef) (by decide) ?_ ?_
          · intro L x u2 hL hd hJ
            have hb := hJ.2.2.2.1 hL
            have cb := (cell_of hb i).trans HCU.out.2.1
            have fb := free_of hb
            have h13 : L 13 = false := by
              cases q : L 13 with
              | false => rfl
              | true => rw [hJ.2.1 q] at hL; cases hL
            have HN : Hid (putJ w u g3 cur i k (.int .i64 a.se.hi) (.int .i64 b.se.lo) (updL L 11) x (u2.setCell ⟨g3, i, none⟩ (.int .i64 a.se.hi))) := ⟨hJ.1.set (by omega) _ _, fun _ => rfl, fun j hj => by rw [set_other hj]; exact hJ.2.2.1 j hj, (fun q => by cases q), (fun _ _ => set_same hb i _), fun q => by rw [show (updL L 11) 13 = L 13 from rfl, h13] at q; cases q⟩
            clear hJ hd hL hb h13
            go_simp
            exact HN.out
          simp only [Act.put, List.setIfInBounds_toArray, List.set_cons_succ, List.set_cons_zero]
          apply jj_fun (by decide)
          · intro L x u hL hd hJ
            have HJ := hid hJ
            clear hJ hd hL
            go_simp
            exact ⟨rfl, HJ.out⟩
          simp only [Act.put, List.setIfInBounds_toArray, List.set_cons_succ, List.set_cons_zero]
          refine jj_fun (v := undef) (by decide) ?_ ?_
          · intro L x u2 hL hd hJ
            have h11 : L 11 = true := hd.2.2.1 rfl
            have hb := hJ.2.2.2.2.1 h11 hL
            have cb := (cell_of hb k).trans HCU.out.2.2
            have fb := free_of hb
            have HN : Hid (putJ w u g3 cur i k (.int .i64 a.se.hi) (.int .i64 b.se.lo) (updL L 13) x (u2.setCell ⟨g3, k, none⟩ (.int .i64 b.se.lo))) := ⟨hJ.1.set (by omega) _ _, fun _ => h11, fun j hj => by rw [set_other hj]; exact hJ.2.2.1 j hj, (fun q => by rw [show (updL L 13) 11 = L 11 from rfl, h11] at q; cases q), (fun _ q => by cases q), fun _ => set_same hb k _⟩
            clear hJ hd hL hb h11
            go_simp
            exact HN.out
          simp only [Act.put, List.setIfInBounds_toArray, List.set_cons_succ, List.set_cons_zero]
          refine jj_nil fun L x u3 hall hJ => ?_
          have HX3 := hid hJ.1
          have hoth := hJ.2.2.1
          have hg3v := hJ.2.2.2.2.2 (hall 13 (by omega))
          have HF3 := hid (HFu.out.put2 hoth HCU.out.1 (by have := HCL.out; omega) (by have := HCL.out; omega) a.se.hi b.se.lo hg3v)
          have HR3 := hid ((hoth (w.heap.size + 1) (by omega)).trans HRu.out)
          have HT3 := hid ((hoth TT hn1).trans HTu.out)
          clear hJ hall hoth hg3v HFu HRu HTu HGA HGB HCU HXu
          have ct := cell_of HT3.out
          have cr := cell_of HR3.out
          have fr := free_of HR3.out
          have hbk := (set_same (set_same (set_same (set_same HR3.out 0 (.slice (some ⟨g1, 0, none⟩) q1 y1)) 1 (.slice x2 q2 y2)) 2 (.slice (some ⟨g3, 0, none⟩) q3 y3)) 3 (.slice x4 q4 y4))
          simp only [List.setIfInBounds_toArray, List.set_cons_succ, List.set_cons_zero] at hbk
          have HEX := hid ((((HX3.out.set (b := w.heap.size + 1) (by omega) 0 (.slice (some ⟨g1, 0, none⟩) q1 y1)).set (b := w.heap.size + 1) (by omega) 1 (.slice x2 q2 y2)).set (b := w.heap.size + 1) (by omega) 2 (.slice (some ⟨g3, 0, none⟩) q3 y3)).set (b := w.heap.size + 1) (by omega) 3 (.slice x4 q4 y4))
          have HFF := hid (HF3.out.sets (g := w.heap.size + 1) (by omega) (.slice (some ⟨g1, 0, none⟩) q1 y1) (.slice x2 q2 y2) (.slice (some ⟨g3, 0, none⟩) q3 y3) (.slice x4 q4 y4))
          have HBK := hid hbk
          clear hbk
          gi_wp2_with fail
          clear ct cr fr
          generalize ((((u3.setCell ⟨w.heap.size + 1, 0, none⟩ (.slice (some ⟨g1, 0, none⟩) q1 y1)).setCell ⟨w.heap.size + 1, 1, none⟩ (.slice x2 q2 y2)).setCell ⟨w.heap.size + 1, 2, none⟩ (.slice (some ⟨g3, 0, none⟩) q3 y3)).setCell ⟨w.heap.size + 1, 3, none⟩ (.slice x4 q4 y4)) = WF at *
          have hc := cell_of HBK.out
          have hlc := HCL.out
          exact bodyPost_ret (v := .agg #[.slice (some ⟨g1, 0, none⟩) q1 y1, .slice x2 q2 y2, .slice (some ⟨g3, 0, none⟩) q3 y3, .slice x4 q4 y4]) (by simp [results, Try.results32, go_sem, hc]) rfl ⟨_, rfl, four_tr (T := endTr F a b i k j false) HFF.out (by show (endT _ _ _ _ _ _).length ≤ 1000; rw [endT_len]; omega) (by show (chosenT F []).north.length ≤ 1000; omega) (by show (((chosenT F []).se.set _ _).set _ _).length ≤ 1000; simp; omega) (by show (chosenT F []).sn.length ≤ 1000; omega), HEX.out⟩
        case neg =>
          have HG := hid (fun (u : World) (hu : Ext wr u) => And.intro (hu.block HB0.out) (HX.out.trans hu))
          gi_upto_region 9 with fail
          clear c0 d0 d1
          refine jj_own 16 [12, 13] (pairJ wr 56 (.int .i64 0) (.int .i64 0) (.int .i64 a.se.lo) (.int .i64 a.se.hi) (.int .i64 b.se.lo) (.int .i64 b.se.hi)) (by kernel_rfl) (by kernel_rfl) (pairJ_start _ _ _ _ _ _ _ _) ?_
          simp only [List.take_succ_cons, List.take_zero, List.drop_succ_cons, List.drop_zero]
          apply jj_fun (by decide)
          · intro L x u hL hd hJ
            have HJ := hid hJ
            clear hJ hd hL
            go_simp
            exact ⟨rfl, HJ.out⟩
          simp only [Act.put, List.setIfInBounds_toArray, List.set_cons_succ, List.set_cons_zero]
          apply jj_fun (by decide)
          · intro L x u hL hd hJ
            have c1 := cell_of (HG.out u hJ.1).1
            have HJ := hid hJ
            clear hJ hd hL
            go_simp
            exact ⟨rfl, HJ.out⟩
          simp only [Act.put, List.setIfInBounds_toArray, List.set_cons_succ, List.set_cons_zero]
          apply jj_fun (by decide)
          · intro L x u hL hd hJ
            have HJ := hid hJ
            clear hJ hd hL
            go_simp
            exact ⟨rfl, HJ.out⟩
          simp only [Act.put, List.setIfInBounds_toArray, List.set_cons_succ, List.set_cons_zero]
          apply jj_fun (by decide)
          · intro L x u hL hd hJ
            have HJ := hid hJ
            clear hJ hd hL
            go_simp
            exact ⟨rfl, HJ.out⟩
          simp only [Act.put, List.setIfInBounds_toArray, List.set_cons_succ, List.set_cons_zero]
          apply jj_fun (by decide)
          · intro L x u hL hd hJ
            have HJ := hid hJ
            clear hJ hd hL
            go_simp
            exact ⟨rfl, HJ.out⟩
          simp only [Act.put, List.setIfInBounds_toArray, List.set_cons_succ, List.set_cons_zero]
          apply jj_fun (by decide)
          · intro L x u hL hd hJ
            have c1 := ((HG.out u hJ.1).2.cell (p := ⟨nb, _, none⟩) HND.out.1).trans HND.out.2.1.2.2.2.2.2.2.1
            have c2 := ((HG.out u hJ.1).2.cell (p := ⟨nb, _, none⟩) HND.out.1).trans HND.out.2.1.2.2.2.2.2.2.2.1
            have HJ := hid hJ
            clear hJ hd hL
            go_simp
            exact ⟨rfl, HJ.out⟩
          simp only [Act.put, List.setIfInBounds_toArray, List.set_cons_succ, List.set_cons_zero]
          apply jj_fun (by decide)
          · intro L x u hL hd hJ
            have HJ := hid hJ
            clear hJ hd hL
            go_simp
            exact ⟨rfl, HJ.out⟩
          simp only [Act.put, List.setIfInBounds_toArray, List.set_cons_succ, List.set_cons_zero]
          apply jj_fun (by decide)
          · intro L x u hL hd hJ
            have c1 := cell_of (HG.out u hJ.1).1
            have HJ := hid hJ
            clear hJ hd hL
            go_simp
            exact ⟨rfl, HJ.out⟩
          simp only [Act.put, List.setIfInBounds_toArray, List.set_cons_succ, List.set_cons_zero]
          apply jj_fun (by decide)
          · intro L x u hL hd hJ
            have HJ := hid hJ
            clear hJ hd hL
            go_simp
            exact ⟨rfl, HJ.out⟩
          simp only [Act.put, List.setIfInBounds_toArray, List.set_cons_succ, List.set_cons_zero]
          apply jj_fun (by decide)
          · intro L x u hL hd hJ
            have HJ := hid hJ
            clear hJ hd hL
            go_simp
            exact ⟨rfl, HJ.out⟩
          simp only [Act.put, List.setIfInBounds_toArray, List.set_cons_succ, List.set_cons_zero]
          apply jj_fun (by decide)
          · intro L x u hL hd hJ
            have HJ := hid hJ
            clear hJ hd hL
            go_simp
            exact ⟨rfl, HJ.out⟩
          simp only [Act.put, List.setIfInBounds_toArray, List.set_cons_succ, List.set_cons_zero]
          apply jj_fun (by decide)
          · intro L x u hL hd hJ
            have c1 := ((HG.out u hJ.1).2.cell (p := ⟨nb, _, none⟩) HND.out.1).trans HND.out.2.2.2.2.2.2.2.2.1
            have c2 := ((HG.out u hJ.1).2.cell (p := ⟨nb, _, none⟩) HND.out.1).trans HND.out.2.2.2.2.2.2.2.2.2.1
            have HJ := hid hJ
            clear hJ hd hL
            go_simp
            exact ⟨rfl, HJ.out⟩
          simp only [Act.put, List.setIfInBounds_toArray, List.set_cons_succ, List.set_cons_zero]
          refine jj_inv (by decide) ?_ ?_
          · intro L x u hL hd hJ
            have HJ := hid (pairJ_make1 hJ hL)
            clear hJ hd hL
            go_simp
            exact HJ.out
          simp only [Act.put, List.setIfInBounds_toArray, List.set_cons_succ, List.set_cons_zero]
          refine jj_inv (by decide) ?_ ?_
          · intro L x u hL hd hJ
            have HJ := hid (pairJ_make2 hJ hL)
            clear hJ hd hL
            go_simp
            exact HJ.out
          simp only [Act.put, List.setIfInBounds_toArray, List.set_cons_succ, List.set_cons_zero]
          refine jj_fun (v := undef) (by decide) ?_ ?_
          · intro L x u hL hd hJ
            have hl : L 12 = true := hd.1 rfl
            obtain ⟨g, hx8, hg, h3, _⟩ := hJ.2.1 hl
            have hb := h3 hL
            have HJ := hid (pairJ_fill1 hJ hl hx8 hb hg)
            have cb := cell_of hb
            have fb := free_of hb
            rw [hx8]
            clear hJ hd hL hb h3 hl hx8
            go_simp
            exact HJ.out
          simp only [Act.put, List.setIfInBounds_toArray, List.set_cons_succ, List.set_cons_zero]
          refine jj_fun (v := undef) (by decide) ?_ ?_
          · intro L x u hL hd hJ
            have hl : L 13 = true := hd.1 rfl
            obtain ⟨g, hx8, hg, h3, _⟩ := hJ.2.2.1 hl
            have hb := h3 hL
            have HJ := hid (pairJ_fill2 hJ hl hx8 hb hg)
            have cb := cell_of hb
            have fb := free_of hb
            rw [hx8]
            clear hJ hd hL hb h3 hl hx8
            go_simp
            exact HJ.out
          simp only [Act.put, List.setIfInBounds_toArray, List.set_cons_succ, List.set_cons_zero]
          refine jj_nil fun L x u hall hJ => ?_
          obtain ⟨ga, hg1, hgl1, _, hgb1⟩ := hJ.2.1 (hall 12 (by omega))
          obtain ⟨gb, hg2, hgl2, _, hgb2⟩ := hJ.2.2.1 (hall 13 (by omega))
          have hgb1 := hgb1 (hall 14 (by omega))
          have hgb2 := hgb2 (hall 15 (by omega))
          have hE := hJ.1
          clear hJ hall
          generalize x 12 = x12 at *
          generalize x 13 = x13 at *
          clear x
          subst hg1
          subst hg2
          have HXu := hid (HX.out.trans hE)
          have HRu := hid (hE.block HB1.out)
          have HTu := hid (hE.block HBT.out)
          have HFu := hid (HFO.out.ext hE)
          have HGA := hid hgb1
          have HGB := hid hgb2
          have hltT := lt_of_block HBT.out
          clear hE hgb1 hgb2 HG HB0 HB1 HBT HFO HX HND HEC
          gi_upto_region 12 with fail
          have hiq : (i : Int) < q3 := by have := HLQ.out; omega
          have hkq : (k : Int) < q3 := by have := HLQ.out; omega
          obtain ⟨cur, hcur, hci⟩ := HFu.out.row3.atCell (j := i) (by have := HCL.out; omega)
          obtain ⟨cur', hcur', hck⟩ := HFu.out.row3.atCell (j := k) (by have := HCL.out; omega)
          obtain rfl : cur = cur' := by have := hcur.symm.trans hcur'; cases this; rfl
          generalize (chosenT F []).se[i]'(by have := HCL.out; omega) = oi at hci
          generalize (chosenT F []).se[k]'(by have := HCL.out; omega) = ok at hck
          have hck2 : ∃ z, (cur.setIfInBounds i (.int .i64 a.se.hi))[k]? = some z := by
            rw [Array.getElem?_setIfInBounds]
            by_cases e : i = k
            · subst e; rw [if_pos rfl, if_pos (by have := (Array.getElem?_eq_some_iff.1 hci).1; exact this)]; exact ⟨_, rfl⟩
            · rw [if_neg e]; exact ⟨_, hck⟩
          obtain ⟨ok2, hck2⟩ := hck2
          have HCU := hid (And.intro hcur (And.intro hci hck2))
          have hn1 : TT ≠ g3 := by omega
          have hn2 : ga ≠ g3 := by omega
          have hn3 : gb ≠ g3 := by omega
          clear hcur hcur' hci hck hck2
          refine jj_own 14 [] (putJ w u g3 cur i k (.int .i64 a.se.hi) (.int .i64 b.se.lo)) (by kernel_rfl) (by kernel_rfl) ⟨HXu.out.trans (Ext.drawn _), (fun h => by cases h), (fun _ _ => rfl), (fun _ => HCU.out.1), (fun h => by cases h), fun h => by cases h⟩ ?_
          simp only [List.take_succ_cons, List.take_zero, List.drop_succ_cons, List.drop_zero]
          apply jj_fun (by decide)
          · intro L x u hL hd hJ
            have HJ := hid hJ
            clear hJ hd hL
            go_simp
            exact ⟨rfl, HJ.out⟩
          simp only [Act.put, List.setIfInBounds_toArray, List.set_cons_succ, List.set_cons_zero]
          apply jj_fun (by decide)
          · intro L x u hL hd hJ
            have c1 := cell_of ((hJ.2.2.1 TT hn1).trans HTu.out)
            have HJ := hid hJ
            clear hJ hd hL
            go_simp
            exact ⟨rfl, HJ.out⟩
          simp only [Act.put, List.setIfInBounds_toArray, List.set_cons_succ, List.set_cons_zero]
          apply jj_fun (by decide)
          · intro L x u hL hd hJ
            have HJ := hid hJ
            clear hJ hd hL
            go_simp
            exact ⟨rfl, HJ.out⟩
          simp only [Act.put, List.setIfInBounds_toArray, List.set_cons_succ, List.set_cons_zero]
          apply jj_fun (by decide)
          · intro L x u hL hd hJ
            have HJ := hid hJ
            clear hJ hd hL
            go_simp
            exact ⟨rfl, HJ.out⟩
          simp only [Act.put, List.setIfInBounds_toArray, List.set_cons_succ, List.set_cons_zero]
          apply jj_fun (by decide)
          · intro L x u hL hd hJ
            have c1 := cell_of ((hJ.2.2.1 TT hn1).trans HTu.out)
            have HJ := hid hJ
            clear hJ hd hL
            go_simp
            exact ⟨rfl, HJ.out⟩
          simp only [Act.put, List.setIfInBounds_toArray, List.set_cons_succ, List.set_cons_zero]
          apply jj_fun (by decide)
          · intro L x u hL hd hJ
            have HJ := hid hJ
            clear hJ hd hL
            go_simp
            exact ⟨rfl, HJ.out⟩
          simp only [Act.put, List.setIfInBounds_toArray, List.set_cons_succ, List.set_cons_zero]
          apply jj_fun (by decide)
          · intro L x u hL hd hJ
            have HJ := hid hJ
            clear hJ hd hL
            go_simp
            exact ⟨rfl, HJ.out⟩
          simp only [Act.put, List.setIfInBounds_toArray, List.set_cons_succ, List.set_cons_zero]
          apply jj_fun (by decide)
          · intro L x u hL hd hJ
            have c1 := cell_of ((hJ.2.2.1 ga hn2).trans HGA.out)
            have HJ := hid hJ
            clear hJ hd hL
            go_simp
            exact ⟨rfl, HJ.out⟩
          simp only [Act.put, List.setIfInBounds_toArray, List.set_cons_succ, List.set_cons_zero]
          apply jj_fun (by decide)
          · intro L x u hL hd hJ
            have HJ := hid hJ
            clear hJ hd hL
            go_simp
            exact ⟨rfl, HJ.out⟩
          simp only [Act.put, List.setIfInBounds_toArray, List.set_cons_succ, List.set_cons_zero]
          apply jj_fun (by decide)
          · intro L x u hL hd hJ
            have c1 := cell_of ((hJ.2.2.1 gb hn3).trans HGB.out)
            have HJ := hid hJ
            clear hJ hd hL
            go_simp
            exact ⟨rfl, HJ.out⟩
          simp only [Act.put, List.setIfInBounds_toArray, List.set_cons_succ, List.set_cons_zero]
          apply jj_fun (by decide)
          · intro L x u hL hd hJ
            have HJ := hid hJ
            clear hJ hd hL
            go_simp
            exact ⟨rfl, HJ.out⟩
          simp only [Act.put, List.setIfInBounds_toArray, List.set_cons_succ, List.set_cons_zero]
          refine jj_fun (v := undef) (by decide) ?_ ?_
          · intro L x u2 hL hd hJ
            have hb := hJ.2.2.2.1 hL
            have cb := (cell_of hb i).trans HCU.out.2.1
            have fb := free_of hb
            have h13 : L 13 = false := by
              cases q : L 13 with
              | false => rfl
              | true => rw [hJ.2.1 q] at hL; cases hL
            have HN : Hid (putJ w u g3 cur i k (.int .i64 a.se.hi) (.int .i64 b.se.lo) (updL L 11) x (u2.setCell ⟨g3, i, none⟩ (.int .i64 a.se.hi))) := ⟨hJ.1.set (by omega) _ _, fun _ => rfl, fun j hj => by rw [set_other hj]; exact hJ.2.2.1 j hj, (fun q => by cases q), (fun _ _ => set_same hb i _), fun q => by rw [show (updL L 11) 13 = L 13 from rfl, h13] at q; cases q⟩
            clear hJ hd hL hb h13
            go_simp
            exact HN.out
          simp only [Act.put, List.setIfInBounds_toArray, List.set_cons_succ, List.set_cons_zero]
          apply jj_fun (by decide)
          · intro L x u hL hd hJ
            have HJ := hid hJ
            clear hJ hd hL
            go_simp
            exact ⟨rfl, HJ.out⟩
          simp only [Act.put, List.setIfInBounds_toArray, List.set_cons_succ, List.set_cons_zero]
          refine jj_fun (v := undef) (by decide) ?_ ?_
          · intro L x u2 hL hd hJ
            have h11 : L 11 = true := hd.2.2.1 rfl
            have hb := hJ.2.2.2.2.1 h11 hL
            have cb := (cell_of hb k).trans HCU.out.2.2
            have fb := free_of hb
            have HN : Hid (putJ w u g3 cur i k (.int .i64 a.se.hi) (.int .i64 b.se.lo) (updL L 13) x (u2.setCell ⟨g3, k, none⟩ (.int .i64 b.se.lo))) := ⟨hJ.1.set (by omega) _ _, fun _ => h11, fun j hj => by rw [set_other hj]; exact hJ.2.2.1 j hj, (fun q => by rw [show (updL L 13) 11 = L 11 from rfl, h11] at q; cases q), (fun _ q => by cases q), fun _ => set_same hb k _⟩
            clear hJ hd hL hb h11
            go_simp
            exact HN.out
          simp only [Act.put, List.setIfInBounds_toArray, List.set_cons_succ, List.set_cons_zero]
          refine jj_nil fun L x u3 hall hJ => ?_
          have HX3 := hid hJ.1
          have hoth := hJ.2.2.1
          have hg3v := hJ.2.2.2.2.2 (hall 13 (by omega))
          have HF3 := hid (HFu.out.put2 hoth HCU.out.1 (by have := HCL.out; omega) (by have := HCL.out; omega) a.se.hi b.se.lo hg3v)
          have HR3 := hid ((hoth (w.heap.size + 1) (by omega)).trans HRu.out)
          have HT3 := hid ((hoth TT hn1).trans HTu.out)
          clear hJ hall hoth hg3v HFu HRu HTu HGA HGB HCU HXu
          have ct := cell_of HT3.out
          have cr := cell_of HR3.out
          have fr := free_of HR3.out
          have hbk := (set_same (set_same (set_same (set_same HR3.out 0 (.slice (some ⟨g1, 0, none⟩) q1 y1)) 1 (.slice x2 q2 y2)) 2 (.slice (some ⟨g3, 0, none⟩) q3 y3)) 3 (.slice x4 q4 y4))
          simp only [List.setIfInBounds_toArray, List.set_cons_succ, List.set_cons_zero] at hbk
          have HEX := hid ((((HX3.out.set (b := w.heap.size + 1) (by omega) 0 (.slice (some ⟨g1, 0, none⟩) q1 y1)).set (b := w.heap.size + 1) (by omega) 1 (.slice x2 q2 y2)).set (b := w.heap.size + 1) (by omega) 2 (.slice (some ⟨g3, 0, none⟩) q3 y3)).set (b := w.heap.size + 1) (by omega) 3 (.slice x4 q4 y4))
          have HFF := hid (HF3.out.sets (g := w.heap.size + 1) (by omega) (.slice (some ⟨g1, 0, none⟩) q1 y1) (.slice x2 q2 y2) (.slice (some ⟨g3, 0, none⟩) q3 y3) (.slice x4 q4 y4))
          have HBK := hid hbk
          clear hbk
          gi_wp2_with fail
          clear ct cr fr
          generalize ((((u3.setCell ⟨w.heap.size + 1, 0, none⟩ (.slice (some ⟨g1, 0, none⟩) q1 y1)).setCell ⟨w.heap.size + 1, 1, none⟩ (.slice x2 q2 y2)).setCell ⟨w.heap.size + 1, 2, none⟩ (.slice (some ⟨g3, 0, none⟩) q3 y3)).setCell ⟨w.heap.size + 1, 3, none⟩ (.slice x4 q4 y4)) = WF at *
          have hc := cell_of HBK.out
          have hlc := HCL.out
          exact bodyPost_ret (v := .agg #[.slice (some ⟨g1, 0, none⟩) q1 y1, .slice x2 q2 y2, .slice (some ⟨g3, 0, none⟩) q3 y3, .slice x4 q4 y4]) (by simp [results, Try.results32, go_sem, hc]) rfl ⟨_, rfl, four_tr (T := endTr F a b i k j false) HFF.out (by show (endT _ _ _ _ _ _).length ≤ 1000; rw [endT_len]; omega) (by show (chosenT F []).north.length ≤ 1000; omega) (by show (((chosenT F []).se.set _ _).set _ _).length ≤ 1000; simp; omega) (by show (chosenT F []).sn.length ≤ 1000; omega), HEX.out⟩
  case true =>
    gi_wp2_with fail
    gi_loopw [12] (fun i wr => ∃ j : Nat, j ≤ h ∧ i = .int .i64 j ∧ Hid (EI w #[.slice (some ⟨eb, eo, none⟩) F.east.length ec, .slice na F.north.length nc, .int .i64 F.gap, .slice (some ⟨nb, off, none⟩) F.nets.length sc] #[.slice (some ⟨g1, 0, none⟩) q1 y1, .slice x2 q2 y2, .slice (some ⟨g3, 0, none⟩) q3 y3, .slice x4 q4 y4] TT W.heap.size (endT F.east (chosenT F []).east a.shot b.shot j true) (chosenT F []).north (chosenT F []).se (chosenT F []).sn (.slice (some ⟨g1, 0, none⟩) q1 y1) (.slice x2 q2 y2) (.slice (some ⟨g3, 0, none⟩) q3 y3) (.slice x4 q4 y4) wr)) (fun i _ => h - (intOf i).toNat)
    case atStart => exact ⟨0, Nat.zero_le _, rfl, HI0⟩
    case round =>
      obtain ⟨j, hj, rfl, hI⟩ := hrel
      clear HI0
      obtain ⟨hx, hb0, hb1, hbt, hfo⟩ := hI.out
      have HX := hid hx
      have HB0 := hid hb0
      have HB1 := hid hb1
      have HBT := hid hbt
      have HFO := hid hfo
      have c0 := cell_of hb0
      have d0 := ((HX.out.cell (p := ⟨nb, _, none⟩) HND.out.1).trans HND.out.2.1.2.2.2.2.1)
      have d1 := ((HX.out.cell (p := ⟨nb, _, none⟩) HND.out.1).trans HND.out.2.2.2.2.2.2.1)
      clear hI hx hb0 hb1 hbt hfo
      by_cases hlt : j < h
      · have hjl : j < F.east.length := by omega
        have hji : (j : Int) < F.east.length := by omega
        have hjh : (j : Int) < h := by omega
        have hjq : (j : Int) < q1 := by have := HLQ.out; omega
        obtain ⟨eb', eo', he', _, hlo, hhi⟩ := HEC.out j hjl
        cases he'
        have HSP := hid (And.intro hlo hhi)
        have HGD : Hid (F.east.getD j ⟨0, 0⟩ = F.east[j]) := getD_of hjl
        have HST := hid (HET.out j (by have := HCL.out; omega))
        obtain ⟨cur, hcur, hcj⟩ := HFO.out.row1.atCell (j := j) (by rw [endT_len]; have := HCL.out; omega)
        have HCU := hid (And.intro hcur hcj)
        clear hlo hhi hcur hcj
        generalize hold : (endT F.east (chosenT F []).east a.shot b.shot j true)[j]'(by rw [endT_len]; have := HCL.out; omega) = old at *
        clear hold
        generalize F.east[j] = es at *
        by_cases p1 : a.shot ≤ (j : Int)
        case neg =>
          have HV : Hid (endAt F.east a.shot b.shot true j = es.hi) := by show _ = _; unfold endAt; rw [decide_eq_false p1, HGD.out]; rfl
          gi_wp2_with fail
          clear c0 d0 d1
          have HQ := hid fun e : Later wr => And.intro (cell_of (Ext.block e.grown HBT.out)) (And.intro (cell_of (Ext.block e.grown HB0.out)) (And.intro (((HX.out.trans e.grown).cell (p := ⟨eb, _, none⟩) heb).trans HSP.out.1) (((HX.out.trans e.grown).cell (p := ⟨eb, _, none⟩) heb).trans HSP.out.2)))
          have q0 := HQ.out
          refine quiet_wide 9 (by kernel_rfl) (by kernel_rfl) ?_
          simp only [List.take_succ_cons, List.take_zero, List.drop_succ_cons, List.drop_zero]
          repeat (any_goals (first | go_big_quiet_step (fail) | quiet_step (fail)))
          refine wpQuiet_nil ?_
          rintro w7 ⟨⟨w7q, hx7⟩, hew⟩
          obtain rfl : w7 = w7q := hew
          have hx7 : Ext wr w7 := hx7
          clear q0 HQ
          have hcb := hx7.block HCU.out.1
          have ccell := (cell_of hcb j).trans HCU.out.2
          have ffree := free_of hcb
          have HX8 := hid ((HX.out.trans hx7).set (b := g1) (by omega) j (.int .i64 es.hi))
          have HB8 : Hid ((w7.setCell ⟨g1, j, none⟩ (.int .i64 es.hi)).heap[w.heap.size]? = some (.cells #[.slice (some ⟨eb, eo, none⟩) F.east.length ec, .slice na F.north.length nc, .int .i64 F.gap, .slice (some ⟨nb, off, none⟩) F.nets.length sc] 40 (0, 0))) := by show _ = _; rw [set_other (by omega)]; exact hx7.block HB0.out
          have HR8 : Hid ((w7.setCell ⟨g1, j, none⟩ (.int .i64 es.hi)).heap[w.heap.size + 1]? = some (.cells #[.slice none 0 0, .slice none 0 0, .slice none 0 0, .slice none 0 0] 50 (0, 0))) := by show _ = _; rw [set_other (by omega)]; exact hx7.block HB1.out
          have HT8 : Hid ((w7.setCell ⟨g1, j, none⟩ (.int .i64 es.hi)).heap[TT]? = some (.cells #[.slice (some ⟨g1, 0, none⟩) q1 y1, .slice x2 q2 y2, .slice (some ⟨g3, 0, none⟩) q3 y3, .slice x4 q4 y4] 50 (0, 0))) := by show _ = _; rw [set_other (by omega)]; exact hx7.block HBT.out
          have HF8 := hid ((HFO.out.ext hx7).put1 (j := j) (by rw [endT_len]; have := HCL.out; omega) es.hi)
          clear hcb hx7
          gi_wp2_with fail
          go_roundw
          case rel => exact ⟨j + 1, by omega, by go_num, HX8.out, HB8.out, HR8.out, HT8.out, by rw [HST.out, HV.out]; exact HF8.out⟩
          case measure => simp [intOf]; omega
        case pos =>
        by_cases p2 : (j : Int) < b.shot
        case neg =>
          have HV : Hid (endAt F.east a.shot b.shot true j = es.hi) := by show _ = _; unfold endAt; rw [decide_eq_true p1, decide_eq_false p2, HGD.out]; rfl
          gi_wp2_with fail
          clear c0 d0 d1
          have HQ := hid fun e : Later wr => And.intro (cell_of (Ext.block e.grown HBT.out)) (And.intro (cell_of (Ext.block e.grown HB0.out)) (And.intro (((HX.out.trans e.grown).cell (p := ⟨eb, _, none⟩) heb).trans HSP.out.1) (((HX.out.trans e.grown).cell (p := ⟨eb, _, none⟩) heb).trans HSP.out.2)))
          have q0 := HQ.out
          refine quiet_wide 9 (by kernel_rfl) (by kernel_rfl) ?_
          simp only [List.take_succ_cons, List.take_zero, List.drop_succ_cons, List.drop_zero]
          repeat (any_goals (first | go_big_quiet_step (fail) | quiet_step (fail)))
          refine wpQuiet_nil ?_
          rintro w7 ⟨⟨w7q, hx7⟩, hew⟩
          obtain rfl : w7 = w7q := hew
          have hx7 : Ext wr w7 := hx7
          clear q0 HQ
          have hcb := hx7.block HCU.out.1
          have ccell := (cell_of hcb j).trans HCU.out.2
          have ffree := free_of hcb
          have HX8 := hid ((HX.out.trans hx7).set (b := g1) (by omega) j (.int .i64 es.hi))
          have HB8 : Hid ((w7.setCell ⟨g1, j, none⟩ (.int .i64 es.hi)).heap[w.heap.size]? = some (.cells #[.slice (some ⟨eb, eo, none⟩) F.east.length ec, .slice na F.north.length nc, .int .i64 F.gap, .slice (some ⟨nb, off, none⟩) F.nets.length sc] 40 (0, 0))) := by show _ = _; rw [set_other (by omega)]; exact hx7.block HB0.out
          have HR8 : Hid ((w7.setCell ⟨g1, j, none⟩ (.int .i64 es.hi)).heap[w.heap.size + 1]? = some (.cells #[.slice none 0 0, .slice none 0 0, .slice none 0 0, .slice none 0 0] 50 (0, 0))) := by show _ = _; rw [set_other (by omega)]; exact hx7.block HB1.out
          have HT8 : Hid ((w7.setCell ⟨g1, j, none⟩ (.int .i64 es.hi)).heap[TT]? = some (.cells #[.slice (some ⟨g1, 0, none⟩) q1 y1, .slice x2 q2 y2, .slice (some ⟨g3, 0, none⟩) q3 y3, .slice x4 q4 y4] 50 (0, 0))) := by show _ = _; rw [set_other (by omega)]; exact hx7.block HBT.out
          have HF8 := hid ((HFO.out.ext hx7).put1 (j := j) (by rw [endT_len]; have := HCL.out; omega) es.hi)
          clear hcb hx7
          gi_wp2_with fail
          go_roundw
          case rel => exact ⟨j + 1, by omega, by go_num, HX8.out, HB8.out, HR8.out, HT8.out, by rw [HST.out, HV.out]; exact HF8.out⟩
          case measure => simp [intOf]; omega
        case pos =>
          have HV : Hid (endAt F.east a.shot b.shot true j = es.lo) := by show _ = _; unfold endAt; rw [decide_eq_true p1, decide_eq_true p2, HGD.out]; rfl
          gi_wp2_with fail
          clear c0 d0 d1
          have HQ := hid fun e : Later wr => And.intro (cell_of (Ext.block e.grown HBT.out)) (And.intro (cell_of (Ext.block e.grown HB0.out)) (And.intro (((HX.out.trans e.grown).cell (p := ⟨eb, _, none⟩) heb).trans HSP.out.1) (((HX.out.trans e.grown).cell (p := ⟨eb, _, none⟩) heb).trans HSP.out.2)))
          have q0 := HQ.out
          refine quiet_wide 9 (by kernel_rfl) (by kernel_rfl) ?_
          simp only [List.take_succ_cons, List.take_zero, List.drop_succ_cons, List.drop_zero]
          repeat (any_goals (first | go_big_quiet_step (fail) | quiet_step (fail)))
          refine wpQuiet_nil ?_
          rintro w7 ⟨⟨w7q, hx7⟩, hew⟩
          obtain rfl : w7 = w7q := hew
          have hx7 : Ext wr w7 := hx7
          clear q0 HQ
          have hcb := hx7.block HCU.out.1
          have ccell := (cell_of hcb j).trans HCU.out.2
          have ffree := free_of hcb
          have HX8 := hid ((HX.out.trans hx7).set (b := g1) (by omega) j (.int .i64 es.lo))
          have HB8 : Hid ((w7.setCell ⟨g1, j, none⟩ (.int .i64 es.lo)).heap[w.heap.size]? = some (.cells #[.slice (some ⟨eb, eo, none⟩) F.east.length ec, .slice na F.north.length nc, .int .i64 F.gap, .slice (some ⟨nb, off, none⟩) F.nets.length sc] 40 (0, 0))) := by show _ = _; rw [set_other (by omega)]; exact hx7.block HB0.out
          have HR8 : Hid ((w7.setCell ⟨g1, j, none⟩ (.int .i64 es.lo)).heap[w.heap.size + 1]? = some (.cells #[.slice none 0 0, .slice none 0 0, .slice none 0 0, .slice none 0 0] 50 (0, 0))) := by show _ = _; rw [set_other (by omega)]; exact hx7.block HB1.out
          have HT8 : Hid ((w7.setCell ⟨g1, j, none⟩ (.int .i64 es.lo)).heap[TT]? = some (.cells #[.slice (some ⟨g1, 0, none⟩) q1 y1, .slice x2 q2 y2, .slice (some ⟨g3, 0, none⟩) q3 y3, .slice x4 q4 y4] 50 (0, 0))) := by show _ = _; rw [set_other (by omega)]; exact hx7.block HBT.out
          have HF8 := hid ((HFO.out.ext hx7).put1 (j := j) (by rw [endT_len]; have := HCL.out; omega) es.lo)
          clear hcb hx7
          gi_wp2_with fail
          go_roundw
          case rel => exact ⟨j + 1, by omega, by go_num, HX8.out, HB8.out, HR8.out, HT8.out, by rw [HST.out, HV.out]; exact HF8.out⟩
          case measure => simp [intOf]; omega
      · obtain rfl : j = h := by omega
        have hhh : ¬ (j : Int) < j := by omega
        by_cases hlen : (j : Int) < F.east.length
        case pos =>
          have HG := hid (fun (u : World) (hu : Ext wr u) => And.intro (hu.block HB0.out) (HX.out.trans hu))
          gi_upto_region 9 with fail
          clear c0 d0 d1
          refine jj_own 16 [12, 13] (pairJ wr 56 (.int .i64 0) (.int .i64 0) (.int .i64 a.se.lo) (.int .i64 a.se.hi) (.int .i64 b.se.lo) (.int .i64 b.se.hi)) (by kernel_rfl) (by kernel_rfl) (pairJ_start _ _ _ _ _ _ _ _) ?_
          simp only [List.take_succ_cons, List.take_zero, List.drop_succ_cons, List.drop_zero]
          apply jj_fun (by decide)
          · intro L x u hL hd hJ
            have HJ := hid hJ
            clear hJ hd hL
            go_simp
            exact ⟨rfl, HJ.out⟩
          simp only [Act.put, List.setIfInBounds_toArray, List.set_cons_succ, List.set_cons_zero]
          apply jj_fun (by decide)
          · intro L x u hL hd hJ
            have c1 := cell_of (HG.out u hJ.1).1
            have HJ := hid hJ
            clear hJ hd hL
            go_simp
            exact ⟨rfl, HJ.out⟩
          simp only [Act.put, List.setIfInBounds_toArray, List.set_cons_succ, List.set_cons_zero]
          apply jj_fun (by decide)
          · intro L x u hL hd hJ
            have HJ := hid hJ
            clear hJ hd hL
            go_simp
            exact ⟨rfl, HJ.out⟩
          simp only [Act.put, List.setIfInBounds_toArray, List.set_cons_succ, List.set_cons_zero]
          apply jj_fun (by decide)
          · intro L x u hL hd hJ
            have HJ := hid hJ
            clear hJ hd hL
            go_simp
            exact ⟨rfl, HJ.out⟩
          simp only [Act.put, List.setIfInBounds_toArray, List.set_cons_succ, List.set_cons_zero]
          apply jj_fun (by decide)
          · intro L x u hL hd hJ
            have HJ := hid hJ
            clear hJ hd hL
            go_simp
            exact ⟨rfl, HJ.out⟩
          simp only [Act.put, List.setIfInBounds_toArray, List.set_cons_succ, List.set_cons_zero]
          apply jj_fun (by decide)
          · intro L x u hL hd hJ
            have c1 := ((HG.out u hJ.1).2.cell (p := ⟨nb, _, none⟩) HND.out.1).trans HND.out.2.1.2.2.2.2.2.2.1
            have c2 := ((HG.out u hJ.1).2.cell (p := ⟨nb, _, none⟩) HND.out.1).trans HND.out.2.1.2.2.2.2.2.2.2.1
            have HJ := hid hJ
            clear hJ hd hL
            go_simp
            exact ⟨rfl, HJ.out⟩
          simp only [Act.put, List.setIfInBounds_toArray, List.set_cons_succ, List.set_cons_zero]
          apply jj_fun (by decide)
          · intro L x u hL hd hJ
            have HJ := hid hJ
            clear hJ hd hL
            go_simp
            exact ⟨rfl, HJ.out⟩
          simp only [Act.put, List.setIfInBounds_toArray, List.set_cons_succ, List.set_cons_zero]
          apply jj_fun (by decide)
          · intro L x u hL hd hJ
            have c1 := cell_of (HG.out u hJ.1).1
            have HJ := hid hJ
            clear hJ hd hL
            go_simp
            exact ⟨rfl, HJ.out⟩
          simp only [Act.put, List.setIfInBounds_toArray, List.set_cons_succ, List.set_cons_zero]
          apply jj_fun (by decide)
          · intro L x u hL hd hJ
            have HJ := hid hJ
            clear hJ hd hL
            go_simp
            exact ⟨rfl, HJ.out⟩
          simp only [Act.put, List.setIfInBounds_toArray, List.set_cons_succ, List.set_cons_zero]
          apply jj_fun (by decide)
          · intro L x u hL hd hJ
            have HJ := hid hJ
            clear hJ hd hL
            go_simp
            exact ⟨rfl, HJ.out⟩
          simp only [Act.put, List.setIfInBounds_toArray, List.set_cons_succ, List.set_cons_zero]
          apply jj_fun (by decide)
          · intro L x u hL hd hJ
            have HJ := hid hJ
            clear hJ hd hL
            go_simp
            exact ⟨rfl, HJ.out⟩
          simp only [Act.put, List.setIfInBounds_toArray, List.set_cons_succ, List.set_cons_zero]
          apply jj_fun (by decide)
          · intro L x u hL hd hJ
            have c1 := ((HG.out u hJ.1).2.cell (p := ⟨nb, _, none⟩) HND.out.1).trans HND.out.2.2.2.2.2.2.2.2.1
            have c2 := ((HG.out u hJ.1).2.cell (p := ⟨nb, _, none⟩) HND.out.1).trans HND.out.2.2.2.2.2.2.2.2.2.1
            have HJ := hid hJ
            clear hJ hd hL
            go_simp
            exact ⟨rfl, HJ.out⟩
          simp only [Act.put, List.setIfInBounds_toArray, List.set_cons_succ, List.set_cons_zero]
          refine jj_inv (by decide) ?_ ?_
          · intro L x u hL hd hJ
            have HJ := hid (pairJ_make1 hJ hL)
            clear hJ hd hL
            go_simp
            exact HJ.out
          simp only [Act.put, List.setIfInBounds_toArray, List.set_cons_succ, List.set_cons_zero]
          refine jj_inv (by decide) ?_ ?_
          · intro L x u hL hd hJ
            have HJ := hid (pairJ_make2 hJ hL)
            clear hJ hd hL
            go_simp
            exact HJ.out
          simp only [Act.put, List.setIfInBounds_toArray, List.set_cons_succ, List.set_cons_zero]
          refine jj_fun (v := undef) (by decide) ?_ ?_
          · intro L x u hL hd hJ
            have hl : L 12 = true := hd.1 rfl
            obtain ⟨g, hx8, hg, h3, _⟩ := hJ.2.1 hl
            have hb := h3 hL
            have HJ := hid (pairJ_fill1 hJ hl hx8 hb hg)
            have cb := cell_of hb
            have fb := free_of hb
            rw [hx8]
            clear hJ hd hL hb h3 hl hx8
            go_simp
            exact HJ.out
          simp only [Act.put, List.setIfInBounds_toArray, List.set_cons_succ, List.set_cons_zero]
          refine jj_fun (v := undef) (by decide) ?_ ?_
          · intro L x u hL hd hJ
            have hl : L 13 = true := hd.1 rfl
            obtain ⟨g, hx8, hg, h3, _⟩ := hJ.2.2.1 hl
            have hb := h3 hL
            have HJ := hid (pairJ_fill2 hJ hl hx8 hb hg)
            have cb := cell_of hb
            have fb := free_of hb
            rw [hx8]
            clear hJ hd hL hb h3 hl hx8
            go_simp
            exact HJ.out
          simp only [Act.put, List.setIfInBounds_toArray, List.set_cons_succ, List.set_cons_zero]
          refine jj_nil fun L x u hall hJ => ?_
          obtain ⟨ga, hg1, hgl1, _, hgb1⟩ := hJ.2.1 (hall 12 (by omega))
          obtain ⟨gb, hg2, hgl2, _, hgb2⟩ := hJ.2.2.1 (hall 13 (by omega))
          have hgb1 := hgb1 (hall 14 (by omega))
          have hgb2 := hgb2 (hall 15 (by omega))
          have hE := hJ.1
          clear hJ hall
          generalize x 12 = x12 at *
          generalize x 13 = x13 at *
          clear x
          subst hg1
          subst hg2
          have HXu := hid (HX.out.trans hE)
          have HRu := hid (hE.block HB1.out)
          have HTu := hid (hE.block HBT.out)
          have HFu := hid (HFO.out.ext hE)
          have HGA := hid hgb1
          have HGB := hid hgb2
          have hltT := lt_of_block HBT.out
          clear hE hgb1 hgb2 HG HB0 HB1 HBT HFO HX HND HEC
          gi_upto_region 11 with fail
          have hiq : (i : Int) < q3 := by have := HLQ.out; omega
          have hkq : (k : Int) < q3 := by have := HLQ.out; omega
          obtain ⟨cur, hcur, hci⟩ := HFu.out.row3.atCell (j := i) (by have := HCL.out; omega)
          obtain ⟨cur', hcur', hck⟩ := HFu.out.row3.atCell (j := k) (by have := HCL.out; omega)
          obtain rfl : cur = cur' := by have := hcur.symm.trans hcur'; cases this; rfl
          generalize (chosenT F []).se[i]'(by have := HCL.out; omega) = oi at hci
          generalize (chosenT F []).se[k]'(by have := HCL.out; omega) = ok at hck
          have hck2 : ∃ z, (cur.setIfInBounds i (.int .i64 a.se.lo))[k]? = some z := by
            rw [Array.getElem?_setIfInBounds]
            by_cases e : i = k
            · subst e; rw [if_pos rfl, if_pos (by have := (Array.getElem?_eq_some_iff.1 hci).1; exact this)]; exact ⟨_, rfl⟩
            · rw [if_neg e]; exact ⟨_, hck⟩
          obtain ⟨ok2, hck2⟩ := hck2
          have HCU := hid (And.intro hcur (And.intro hci hck2))
          have hn1 : TT ≠ g3 := by omega
          have hn2 : ga ≠ g3 := by omega
          have hn3 : gb ≠ g3 := by omega
          clear hcur hcur' hci hck hck2
          refine jj_own 14 [] (putJ w u g3 cur i k (.int .i64 a.se.lo) (.int .i64 b.se.hi)) (by kernel_rfl) (by kernel_rfl) ⟨HXu.out.trans (Ext.drawn _), (fun h => by cases h), (fun _ _ => rfl), (fun _ => HCU.out.1), (fun h => by cases h), fun h => by cases h⟩ ?_
          simp only [List.take_succ_cons, List.take_zero, List.drop_succ_cons, List.drop_zero]
          apply jj_fun (by decide)
          · intro L x u hL hd hJ
            have HJ := hid hJ
            clear hJ hd hL
            go_simp
            exact ⟨rfl, HJ.out⟩
          simp only [Act.put, List.setIfInBounds_toArray, List.set_cons_succ, List.set_cons_zero]
          apply jj_fun (by decide)
          · intro L x u hL hd hJ
            have c1 := cell_of ((hJ.2.2.1 TT hn1).trans HTu.out)
            have HJ := hid hJ
            clear hJ hd hL
            go_simp
            exact ⟨rfl, HJ.out⟩
          simp only [Act.put, List.setIfInBounds_toArray, List.set_cons_succ, List.set_cons_zero]
          apply jj_fun (by decide)
          · intro L x u hL hd hJ
            have HJ := hid hJ
            clear hJ hd hL
            go_simp
            exact ⟨rfl, HJ.out⟩
          simp only [Act.put, List.setIfInBounds_toArray, List.set_cons_succ, List.set_cons_zero]
          apply jj_fun (by decide)
          · intro L x u hL hd hJ
            have HJ := hid hJ
            clear hJ hd hL
            go_simp
            exact ⟨rfl, HJ.out⟩
          simp only [Act.put, List.setIfInBounds_toArray, List.set_cons_succ, List.set_cons_zero]
          apply jj_fun (by decide)
          · intro L x u hL hd hJ
            have c1 := cell_of ((hJ.2.2.1 TT hn1).trans HTu.out)
            have HJ := hid hJ
            clear hJ hd hL
            go_simp
            exact ⟨rfl, HJ.out⟩
          simp only [Act.put, List.setIfInBounds_toArray, List.set_cons_succ, List.set_cons_zero]
          apply jj_fun (by decide)
          · intro L x u hL hd hJ
            have HJ := hid hJ
            clear hJ hd hL
            go_simp
            exact ⟨rfl, HJ.out⟩
          simp only [Act.put, List.setIfInBounds_toArray, List.set_cons_succ, List.set_cons_zero]
          apply jj_fun (by decide)
          · intro L x u hL hd hJ
            have HJ := hid hJ
            clear hJ hd hL
            go_simp
            exact ⟨rfl, HJ.out⟩
          simp only [Act.put, List.setIfInBounds_toArray, List.set_cons_succ, List.set_cons_zero]
          apply jj_fun (by decide)
          · intro L x u hL hd hJ
            have c1 := cell_of ((hJ.2.2.1 ga hn2).trans HGA.out)
            have HJ := hid hJ
            clear hJ hd hL
            go_simp
            exact ⟨rfl, HJ.out⟩
          simp only [Act.put, List.setIfInBounds_toArray, List.set_cons_succ, List.set_cons_zero]
          apply jj_fun (by decide)
          · intro L x u hL hd hJ
            have HJ := hid hJ
            clear hJ hd hL
            go_simp
            exact ⟨rfl, HJ.out⟩
          simp only [Act.put, List.setIfInBounds_toArray, List.set_cons_succ, List.set_cons_zero]
          apply jj_fun (by decide)
          · intro L x u hL hd hJ
            have c1 := cell_of ((hJ.2.2.1 gb hn3).trans HGB.out)
            have HJ := hid hJ
            clear hJ hd hL
            go_simp
            exact ⟨rfl, HJ.out⟩
          simp only [Act.put, List.setIfInBounds_toArray, List.set_cons_succ, List.set_cons_zero]
          apply jj_fun (by decide)
          · intro L x u hL hd hJ
            have HJ := hid hJ
            clear hJ hd hL
            go_simp
            exact ⟨rfl, HJ.out⟩
          simp only [Act.put, List.setIfInBounds_toArray, List.set_cons_succ, List.set_cons_zero]
          refine jj_fun (v := undef) (by decide) ?_ ?_
          · intro L x u2 hL hd hJ
            have hb := hJ.2.2.2.1 hL
            have cb := (cell_of hb i).trans HCU.out.2.1
            have fb := free_of hb
            have h13 : L 13 = false := by
              cases q : L 13 with
              | false => rfl
              | true => rw [hJ.2.1 q] at hL; cases hL
            have HN : Hid (putJ w u g3 cur i k (.int .i64 a.se.lo) (.int .i64 b.se.hi) (updL L 11) x (u2.setCell ⟨g3, i, none⟩ (.int .i64 a.se.lo))) := ⟨hJ.1.set (by omega) _ _, fun _ => rfl, fun j hj => by rw [set_other hj]; exact hJ.2.2.1 j hj, (fun q => by cases q), (fun _ _ => set_same hb i _), fun q => by rw [show (updL L 11) 13 = L 13 from rfl, h13] at q; cases q⟩
            clear hJ hd hL hb h13
            go_simp
            exact HN.out
          simp only [Act.put, List.setIfInBounds_toArray, List.set_cons_succ, List.set_cons_zero]
          apply jj_fun (by decide)
          · intro L x u hL hd hJ
            have HJ := hid hJ
            clear hJ hd hL
            go_simp
            exact ⟨rfl, HJ.out⟩
          simp only [Act.put, List.setIfInBounds_toArray, List.set_cons_succ, List.set_cons_zero]
          refine jj_fun (v := undef) (by decide) ?_ ?_
          · intro L x u2 hL hd hJ
            have h11 : L 11 = true := hd.2.2.1 rfl
            have hb := hJ.2.2.2.2.1 h11 hL
            have cb := (cell_of hb k).trans HCU.out.2.2
            have fb := free_of hb
            have HN : Hid (putJ w u g3 cur i k (.int .i64 a.se.lo) (.int .i64 b.se.hi) (updL L 13) x (u2.setCell ⟨g3, k, none⟩ (.int .i64 b.se.hi))) := ⟨hJ.1.set (by omega) _ _, fun _ => h11, fun j hj => by rw [set_other hj]; exact hJ.2.2.1 j hj, (fun q => by rw [show (updL L 13) 11 = L 11 from rfl, h11] at q; cases q), (fun _ q => by cases q), fun _ => set_same hb k _⟩
            clear hJ hd hL hb h11
            go_simp
            exact HN.out
          simp only [Act.put, List.setIfInBounds_toArray, List.set_cons_succ, List.set_cons_zero]
          refine jj_nil fun L x u3 hall hJ => ?_
          have HX3 := hid hJ.1
          have hoth := hJ.2.2.1
          have hg3v := hJ.2.2.2.2.2 (hall 13 (by omega))
          have HF3 := hid (HFu.out.put2 hoth HCU.out.1 (by have := HCL.out; omega) (by have := HCL.out; omega) a.se.lo b.se.hi hg3v)
          have HR3 := hid ((hoth (w.heap.size + 1) (by omega)).trans HRu.out)
          have HT3 := hid ((hoth TT hn1).trans HTu.out)
          clear hJ hall hoth hg3v HFu HRu HTu HGA HGB HCU HXu
          have ct := cell_of HT3.out
          have cr := cell_of HR3.out
          have fr := free_of HR3.out
          have hbk := (set_same (set_same (set_same (set_same HR3.out 0 (.slice (some ⟨g1, 0, none⟩) q1 y1)) 1 (.slice x2 q2 y2)) 2 (.slice (some ⟨g3, 0, none⟩) q3 y3)) 3 (.slice x4 q4 y4))
          simp only [List.setIfInBounds_toArray, List.set_cons_succ, List.set_cons_zero] at hbk
          have HEX := hid ((((HX3.out.set (b := w.heap.size + 1) (by omega) 0 (.slice (some ⟨g1, 0, none⟩) q1 y1)).set (b := w.heap.size + 1) (by omega) 1 (.slice x2 q2 y2)).set (b := w.heap.size + 1) (by omega) 2 (.slice (some ⟨g3, 0, none⟩) q3 y3)).set (b := w.heap.size + 1) (by omega) 3 (.slice x4 q4 y4))
          have HFF := hid (HF3.out.sets (g := w.heap.size + 1) (by omega) (.slice (some ⟨g1, 0, none⟩) q1 y1) (.slice x2 q2 y2) (.slice (some ⟨g3, 0, none⟩) q3 y3) (.slice x4 q4 y4))
          have HBK := hid hbk
          clear hbk
          gi_wp2_with fail
          clear ct cr fr
          generalize ((((u3.setCell ⟨w.heap.size + 1, 0, none⟩ (.slice (some ⟨g1, 0, none⟩) q1 y1)).setCell ⟨w.heap.size + 1, 1, none⟩ (.slice x2 q2 y2)).setCell ⟨w.heap.size + 1, 2, none⟩ (.slice (some ⟨g3, 0, none⟩) q3 y3)).setCell ⟨w.heap.size + 1, 3, none⟩ (.slice x4 q4 y4)) = WF at *
          have hc := cell_of HBK.out
          have hlc := HCL.out
          exact bodyPost_ret (v := .agg #[.slice (some ⟨g1, 0, none⟩) q1 y1, .slice x2 q2 y2, .slice (some ⟨g3, 0, none⟩) q3 y3, .slice x4 q4 y4]) (by simp [results, Try.results32, go_sem, hc]) rfl ⟨_, rfl, four_tr (T := endTr F a b i k j true) HFF.out (by show (endT _ _ _ _ _ _).length ≤ 1000; rw [endT_len]; omega) (by show (chosenT F []).north.length ≤ 1000; omega) (by show (((chosenT F []).se.set _ _).set _ _).length ≤ 1000; simp; omega) (by show (chosenT F []).sn.length ≤ 1000; omega), HEX.out⟩
        case neg =>
          have HG := hid (fun (u : World) (hu : Ext wr u) => And.intro (hu.block HB0.out) (HX.out.trans hu))
          gi_upto_region 9 with fail
          clear c0 d0 d1
          refine jj_own 16 [12, 13] (pairJ wr 56 (.int .i64 0) (.int .i64 0) (.int .i64 a.se.lo) (.int .i64 a.se.hi) (.int .i64 b.se.lo) (.int .i64 b.se.hi)) (by kernel_rfl) (by kernel_rfl) (pairJ_start _ _ _ _ _ _ _ _) ?_
          simp only [List.take_succ_cons, List.take_zero, List.drop_succ_cons, List.drop_zero]
          apply jj_fun (by decide)
          · intro L x u hL hd hJ
            have HJ := hid hJ
            clear hJ hd hL
            go_simp
            exact ⟨rfl, HJ.out⟩
          simp only [Act.put, List.setIfInBounds_toArray, List.set_cons_succ, List.set_cons_zero]
          apply jj_fun (by decide)
          · intro L x u hL hd hJ
            have c1 := cell_of (HG.out u hJ.1).1
            have HJ := hid hJ
            clear hJ hd hL
            go_simp
            exact ⟨rfl, HJ.out⟩
          simp only [Act.put, List.setIfInBounds_toArray, List.set_cons_succ, List.set_cons_zero]
          apply jj_fun (by decide)
          · intro L x u hL hd hJ
            have HJ := hid hJ
            clear hJ hd hL
            go_simp
            exact ⟨rfl, HJ.out⟩
          simp only [Act.put, List.setIfInBounds_toArray, List.set_cons_succ, List.set_cons_zero]
          apply jj_fun (by decide)
          · intro L x u hL hd hJ
            have HJ := hid hJ
            clear hJ hd hL
            go_simp
            exact ⟨rfl, HJ.out⟩
          simp only [Act.put, List.setIfInBounds_toArray, List.set_cons_succ, List.set_cons_zero]
          apply jj_fun (by decide)
          · intro L x u hL hd hJ
            have HJ := hid hJ
            clear hJ hd hL
            go_simp
            exact ⟨rfl, HJ.out⟩
          simp only [Act.put, List.setIfInBounds_toArray, List.set_cons_succ, List.set_cons_zero]
          apply jj_fun (by decide)
          · intro L x u hL hd hJ
            have c1 := ((HG.out u hJ.1).2.cell (p := ⟨nb, _, none⟩) HND.out.1).trans HND.out.2.1.2.2.2.2.2.2.1
            have c2 := ((HG.out u hJ.1).2.cell (p := ⟨nb, _, none⟩) HND.out.1).trans HND.out.2.1.2.2.2.2.2.2.2.1
            have HJ := hid hJ
            clear hJ hd hL
            go_simp
            exact ⟨rfl, HJ.out⟩
          simp only [Act.put, List.setIfInBounds_toArray, List.set_cons_succ, List.set_cons_zero]
          apply jj_fun (by decide)
          · intro L x u hL hd hJ
            have HJ := hid hJ
            clear hJ hd hL
            go_simp
            exact ⟨rfl, HJ.out⟩
          simp only [Act.put, List.setIfInBounds_toArray, List.set_cons_succ, List.set_cons_zero]
          apply jj_fun (by decide)
          · intro L x u hL hd hJ
            have c1 := cell_of (HG.out u hJ.1).1
            have HJ := hid hJ
            clear hJ hd hL
            go_simp
            exact ⟨rfl, HJ.out⟩
          simp only [Act.put, List.setIfInBounds_toArray, List.set_cons_succ, List.set_cons_zero]
          apply jj_fun (by decide)
          · intro L x u hL hd hJ
            have HJ := hid hJ
            clear hJ hd hL
            go_simp
            exact ⟨rfl, HJ.out⟩
          simp only [Act.put, List.setIfInBounds_toArray, List.set_cons_succ, List.set_cons_zero]
          apply jj_fun (by decide)
          · intro L x u hL hd hJ
            have HJ := hid hJ
            clear hJ hd hL
            go_simp
            exact ⟨rfl, HJ.out⟩
          simp only [Act.put, List.setIfInBounds_toArray, List.set_cons_succ, List.set_cons_zero]
          apply jj_fun (by decide)
          · intro L x u hL hd hJ
            have HJ := hid hJ
            clear hJ hd hL
            go_simp
            exact ⟨rfl, HJ.out⟩
          simp only [Act.put, List.setIfInBounds_toArray, List.set_cons_succ, List.set_cons_zero]
          apply jj_fun (by decide)
          · intro L x u hL hd hJ
            have c1 := ((HG.out u hJ.1).2.cell (p := ⟨nb, _, none⟩) HND.out.1).trans HND.out.2.2.2.2.2.2.2.2.1
            have c2 := ((HG.out u hJ.1).2.cell (p := ⟨nb, _, none⟩) HND.out.1).trans HND.out.2.2.2.2.2.2.2.2.2.1
            have HJ := hid hJ
            clear hJ hd hL
            go_simp
            exact ⟨rfl, HJ.out⟩
          simp only [Act.put, List.setIfInBounds_toArray, List.set_cons_succ, List.set_cons_zero]
          refine jj_inv (by decide) ?_ ?_
          · intro L x u hL hd hJ
            have HJ := hid (pairJ_make1 hJ hL)
            clear hJ hd hL
            go_simp
            exact HJ.out
          simp only [Act.put, List.setIfInBounds_toArray, List.set_cons_succ, List.set_cons_zero]
          refine jj_inv (by decide) ?_ ?_
          · intro L x u hL hd hJ
            have HJ := hid (pairJ_make2 hJ hL)
            clear hJ hd hL
            go_simp
            exact HJ.out
          simp only [Act.put, List.setIfInBounds_toArray, List.set_cons_succ, List.set_cons_zero]
          refine jj_fun (v := undef) (by decide) ?_ ?_
          · intro L x u hL hd hJ
            have hl : L 12 = true := hd.1 rfl
            obtain ⟨g, hx8, hg, h3, _⟩ := hJ.2.1 hl
            have hb := h3 hL
            have HJ := hid (pairJ_fill1 hJ hl hx8 hb hg)
            have cb := cell_of hb
            have fb := free_of hb
            rw [hx8]
            clear hJ hd hL hb h3 hl hx8
            go_simp
            exact HJ.out
          simp only [Act.put, List.setIfInBounds_toArray, List.set_cons_succ, List.set_cons_zero]
          refine jj_fun (v := undef) (by decide) ?_ ?_
          · intro L x u hL hd hJ
            have hl : L 13 = true := hd.1 rfl
            obtain ⟨g, hx8, hg, h3, _⟩ := hJ.2.2.1 hl
            have hb := h3 hL
            have HJ := hid (pairJ_fill2 hJ hl hx8 hb hg)
            have cb := cell_of hb
            have fb := free_of hb
            rw [hx8]
            clear hJ hd hL hb h3 hl hx8
            go_simp
            exact HJ.out
          simp only [Act.put, List.setIfInBounds_toArray, List.set_cons_succ, List.set_cons_zero]
          refine jj_nil fun L x u hall hJ => ?_
          obtain ⟨ga, hg1, hgl1, _, hgb1⟩ := hJ.2.1 (hall 12 (by omega))
          obtain ⟨gb, hg2, hgl2, _, hgb2⟩ := hJ.2.2.1 (hall 13 (by omega))
          have hgb1 := hgb1 (hall 14 (by omega))
          have hgb2 := hgb2 (hall 15 (by omega))
          have hE := hJ.1
          clear hJ hall
          generalize x 12 = x12 at *
          generalize x 13 = x13 at *
          clear x
          subst hg1
          subst hg2
          have HXu := hid (HX.out.trans hE)
          have HRu := hid (hE.block HB1.out)
          have HTu := hid (hE.block HBT.out)
          have HFu := hid (HFO.out.ext hE)
          have HGA := hid hgb1
          have HGB := hid hgb2
          have hltT := lt_of_block HBT.out
          clear hE hgb1 hgb2 HG HB0 HB1 HBT HFO HX HND HEC
          gi_upto_region 11 with fail
          have hiq : (i : Int) < q3 := by have := HLQ.out; omega
          have hkq : (k : Int) < q3 := by have := HLQ.out; omega
          obtain ⟨cur, hcur, hci⟩ := HFu.out.row3.atCell (j := i) (by have := HCL.out; omega)
          obtain ⟨cur', hcur', hck⟩ := HFu.out.row3.atCell (j := k) (by have := HCL.out; omega)
          obtain rfl : cur = cur' := by have := hcur.symm.trans hcur'; cases this; rfl
          generalize (chosenT F []).se[i]'(by have := HCL.out; omega) = oi at hci
          generalize (chosenT F []).se[k]'(by have := HCL.out; omega) = ok at hck
          have hck2 : ∃ z, (cur.setIfInBounds i (.int .i64 a.se.lo))[k]? = some z := by
            rw [Array.getElem?_setIfInBounds]
            by_cases e : i = k
            · subst e; rw [if_pos rfl, if_pos (by have := (Array.getElem?_eq_some_iff.1 hci).1; exact this)]; exact ⟨_, rfl⟩
            · rw [if_neg e]; exact ⟨_, hck⟩
          obtain ⟨ok2, hck2⟩ := hck2
          have HCU := hid (And.intro hcur (And.intro hci hck2))
          have hn1 : TT ≠ g3 := by omega
          have hn2 : ga ≠ g3 := by omega
          have hn3 : gb ≠ g3 := by omega
          clear hcur hcur' hci hck hck2
          refine jj_own 14 [] (putJ w u g3 cur i k (.int .i64 a.se.lo) (.int .i64 b.se.hi)) (by kernel_rfl) (by kernel_rfl) ⟨HXu.out.trans (Ext.drawn _), (fun h => by cases h), (fun _ _ => rfl), (fun _ => HCU.out.1), (fun h => by cases h), fun h => by cases h⟩ ?_
          simp only [List.take_succ_cons, List.take_zero, List.drop_succ_cons, List.drop_zero]
          apply jj_fun (by decide)
          · intro L x u hL hd hJ
            have HJ := hid hJ
            clear hJ hd hL
            go_simp
            exact ⟨rfl, HJ.out⟩
          simp only [Act.put, List.setIfInBounds_toArray, List.set_cons_succ, List.set_cons_zero]
          apply jj_fun (by decide)
          · intro L x u hL hd hJ
            have c1 := cell_of ((hJ.2.2.1 TT hn1).trans HTu.out)
            have HJ := hid hJ
            clear hJ hd hL
            go_simp
            exact ⟨rfl, HJ.out⟩
          simp only [Act.put, List.setIfInBounds_toArray, List.set_cons_succ, List.set_cons_zero]
          apply jj_fun (by decide)
          · intro L x u hL hd hJ
            have HJ := hid hJ
            clear hJ hd hL
            go_simp
            exact ⟨rfl, HJ.out⟩
          simp only [Act.put, List.setIfInBounds_toArray, List.set_cons_succ, List.set_cons_zero]
          apply jj_fun (by decide)
          · intro L x u hL hd hJ
            have HJ := hid hJ
            clear hJ hd hL
            go_simp
            exact ⟨rfl, HJ.out⟩
          simp only [Act.put, List.setIfInBounds_toArray, List.set_cons_succ, List.set_cons_zero]
          apply jj_fun (by decide)
          · intro L x u hL hd hJ
            have c1 := cell_of ((hJ.2.2.1 TT hn1).trans HTu.out)
            have HJ := hid hJ
            clear hJ hd hL
            go_simp
            exact ⟨rfl, HJ.out⟩
          simp only [Act.put, List.setIfInBounds_toArray, List.set_cons_succ, List.set_cons_zero]
          apply jj_fun (by decide)
          · intro L x u hL hd hJ
            have HJ := hid hJ
            clear hJ hd hL
            go_simp
            exact ⟨rfl, HJ.out⟩
          simp only [Act.put, List.setIfInBounds_toArray, List.set_cons_succ, List.set_cons_zero]
          apply jj_fun (by decide)
          · intro L x u hL hd hJ
            have HJ := hid hJ
            clear hJ hd hL
            go_simp
            exact ⟨rfl, HJ.out⟩
          simp only [Act.put, List.setIfInBounds_toArray, List.set_cons_succ, List.set_cons_zero]
          apply jj_fun (by decide)
          · intro L x u hL hd hJ
            have c1 := cell_of ((hJ.2.2.1 ga hn2).trans HGA.out)
            have HJ := hid hJ
            clear hJ hd hL
            go_simp
            exact ⟨rfl, HJ.out⟩
          simp only [Act.put, List.setIfInBounds_toArray, List.set_cons_succ, List.set_cons_zero]
          apply jj_fun (by decide)
          · intro L x u hL hd hJ
            have HJ := hid hJ
            clear hJ hd hL
            go_simp
            exact ⟨rfl, HJ.out⟩
          simp only [Act.put, List.setIfInBounds_toArray, List.set_cons_succ, List.set_cons_zero]
          apply jj_fun (by decide)
          · intro L x u hL hd hJ
            have c1 := cell_of ((hJ.2.2.1 gb hn3).trans HGB.out)
            have HJ := hid hJ
            clear hJ hd hL
            go_simp
            exact ⟨rfl, HJ.out⟩
          simp only [Act.put, List.setIfInBounds_toArray, List.set_cons_succ, List.set_cons_zero]
          apply jj_fun (by decide)
          · intro L x u hL hd hJ
            have HJ := hid hJ
            clear hJ hd hL
            go_simp
            exact ⟨rfl, HJ.out⟩
          simp only [Act.put, List.setIfInBounds_toArray, List.set_cons_succ, List.set_cons_zero]
          refine jj_fun (v := undef) (by decide) ?_ ?_
          · intro L x u2 hL hd hJ
            have hb := hJ.2.2.2.1 hL
            have cb := (cell_of hb i).trans HCU.out.2.1
            have fb := free_of hb
            have h13 : L 13 = false := by
              cases q : L 13 with
              | false => rfl
              | true => rw [hJ.2.1 q] at hL; cases hL
            have HN : Hid (putJ w u g3 cur i k (.int .i64 a.se.lo) (.int .i64 b.se.hi) (updL L 11) x (u2.setCell ⟨g3, i, none⟩ (.int .i64 a.se.lo))) := ⟨hJ.1.set (by omega) _ _, fun _ => rfl, fun j hj => by rw [set_other hj]; exact hJ.2.2.1 j hj, (fun q => by cases q), (fun _ _ => set_same hb i _), fun q => by rw [show (updL L 11) 13 = L 13 from rfl, h13] at q; cases q⟩
            clear hJ hd hL hb h13
            go_simp
            exact HN.out
          simp only [Act.put, List.setIfInBounds_toArray, List.set_cons_succ, List.set_cons_zero]
          apply jj_fun (by decide)
          · intro L x u hL hd hJ
            have HJ := hid hJ
            clear hJ hd hL
            go_simp
            exact ⟨rfl, HJ.out⟩
          simp only [Act.put, List.setIfInBounds_toArray, List.set_cons_succ, List.set_cons_zero]
          refine jj_fun (v := undef) (by decide) ?_ ?_
          · intro L x u2 hL hd hJ
            have h11 : L 11 = true := hd.2.2.1 rfl
            have hb := hJ.2.2.2.2.1 h11 hL
            have cb := (cell_of hb k).trans HCU.out.2.2
            have fb := free_of hb
            have HN : Hid (putJ w u g3 cur i k (.int .i64 a.se.lo) (.int .i64 b.se.hi) (updL L 13) x (u2.setCell ⟨g3, k, none⟩ (.int .i64 b.se.hi))) := ⟨hJ.1.set (by omega) _ _, fun _ => h11, fun j hj => by rw [set_other hj]; exact hJ.2.2.1 j hj, (fun q => by rw [show (updL L 13) 11 = L 11 from rfl, h11] at q; cases q), (fun _ q => by cases q), fun _ => set_same hb k _⟩
            clear hJ hd hL hb h11
            go_simp
            exact HN.out
          simp only [Act.put, List.setIfInBounds_toArray, List.set_cons_succ, List.set_cons_zero]
          refine jj_nil fun L x u3 hall hJ => ?_
          have HX3 := hid hJ.1
          have hoth := hJ.2.2.1
          have hg3v := hJ.2.2.2.2.2 (hall 13 (by omega))
          have HF3 := hid (HFu.out.put2 hoth HCU.out.1 (by have := HCL.out; omega) (by have := HCL.out; omega) a.se.lo b.se.hi hg3v)
          have HR3 := hid ((hoth (w.heap.size + 1) (by omega)).trans HRu.out)
          have HT3 := hid ((hoth TT hn1).trans HTu.out)
          clear hJ hall hoth hg3v HFu HRu HTu HGA HGB HCU HXu
          have ct := cell_of HT3.out
          have cr := cell_of HR3.out
          have fr := free_of HR3.out
          have hbk := (set_same (set_same (set_same (set_same HR3.out 0 (.slice (some ⟨g1, 0, none⟩) q1 y1)) 1 (.slice x2 q2 y2)) 2 (.slice (some ⟨g3, 0, none⟩) q3 y3)) 3 (.slice x4 q4 y4))
          simp only [List.setIfInBounds_toArray, List.set_cons_succ, List.set_cons_zero] at hbk
          have HEX := hid ((((HX3.out.set (b := w.heap.size + 1) (by omega) 0 (.slice (some ⟨g1, 0, none⟩) q1 y1)).set (b := w.heap.size + 1) (by omega) 1 (.slice x2 q2 y2)).set (b := w.heap.size + 1) (by omega) 2 (.slice (some ⟨g3, 0, none⟩) q3 y3)).set (b := w.heap.size + 1) (by omega) 3 (.slice x4 q4 y4))
          have HFF := hid (HF3.out.sets (g := w.heap.size + 1) (by omega) (.slice (some ⟨g1, 0, none⟩) q1 y1) (.slice x2 q2 y2) (.slice (some ⟨g3, 0, none⟩) q3 y3) (.slice x4 q4 y4))
          have HBK := hid hbk
          clear hbk
          gi_wp2_with fail
          clear ct cr fr
          generalize ((((u3.setCell ⟨w.heap.size + 1, 0, none⟩ (.slice (some ⟨g1, 0, none⟩) q1 y1)).setCell ⟨w.heap.size + 1, 1, none⟩ (.slice x2 q2 y2)).setCell ⟨w.heap.size + 1, 2, none⟩ (.slice (some ⟨g3, 0, none⟩) q3 y3)).setCell ⟨w.heap.size + 1, 3, none⟩ (.slice x4 q4 y4)) = WF at *
          have hc := cell_of HBK.out
          have hlc := HCL.out
          exact bodyPost_ret (v := .agg #[.slice (some ⟨g1, 0, none⟩) q1 y1, .slice x2 q2 y2, .slice (some ⟨g3, 0, none⟩) q3 y3, .slice x4 q4 y4]) (by simp [results, Try.results32, go_sem, hc]) rfl ⟨_, rfl, four_tr (T := endTr F a b i k j true) HFF.out (by show (endT _ _ _ _ _ _).length ≤ 1000; rw [endT_len]; omega) (by show (chosenT F []).north.length ≤ 1000; omega) (by show (((chosenT F []).se.set _ _).set _ _).length ≤ 1000; simp; omega) (by show (chosenT F []).sn.length ≤ 1000; omega), HEX.out⟩

end Go.Proofs.Ytmjelgonhpgmbaa
