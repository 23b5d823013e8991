/- The spans in which a net can foul, if it is shot so much farther. -/
import Derived.Test.YtmjelgonhpgmbaaMJ
set_option linter.unusedSimpArgs false
set_option linter.unusedVariables false
namespace Go.Proofs.Ytmjelgonhpgmbaa
open Go Go.RowKit Go.Shelf

set_option maxRecDepth 100000 in
set_option maxHeartbeats 16000000 in
theorem barred_any (F : FleetD) (hF : FleetOk F) (eb eo ec nb no nc mc : Nat) (ma : Option Addr) (sv : Value) (i : Int) (w : World) (hE : SpansAt w (.slice (some ⟨eb, eo, none⟩) F.east.length ec) F.east) (hN : SpansAt w (.slice (some ⟨nb, no, none⟩) F.north.length nc) F.north) (hM : NetsAt w (.slice ma F.nets.length mc) F.nets) :
    Cal 64 #[.agg #[.slice (some ⟨eb, eo, none⟩) F.east.length ec, .slice (some ⟨nb, no, none⟩) F.north.length nc, .int .i64 F.gap, sv, .slice ma F.nets.length mc], .int .i64 i] w fun e w' => ∃ v, e = .returned v ∧ Ext w w' ∧ Row w' 56 2 v (barAll F i).length (spFlat (barAll F i)) ∧ ∀ g, v.ownBlock = some g → w.heap.size ≤ g := by
  have HOK := hid hF
  have HMEM := hid (fun (W : World) (hx : Ext w W) => And.intro (hE.mono hx) (And.intro (hN.mono hx) (hM.mono hx)))
  have HTG := hid (together_iter F hF (some ⟨eb, eo, none⟩) ma ec mc (.slice (some ⟨nb, no, none⟩) F.north.length nc) sv)
  have HLEN : Hid (((trips F).map (tripElem F)).length = (trips F).length) := List.length_map _
  have HTL := hid (trips_len hF)
  clear hF hM hE hN
  refine callsIn_of_wp_marks Try.func64 rfl trivial ?_
  simp only [Try.ntmps64, List.size_toArray, List.length_cons, List.length_nil, Nat.reduceAdd, Nat.reduceSub, Array.replicate_succ, Array.replicate_zero, List.push_toArray, List.append_toArray, List.nil_append, List.cons_append]
  gi_wp2_with fail
  have hW : Ext w (((w.alloc (.cells #[.slice (some ⟨eb, eo, none⟩) F.east.length ec, .slice (some ⟨nb, no, none⟩) F.north.length nc, .int .i64 F.gap, sv, .slice ma F.nets.length mc] 108)).alloc (.cells #[.int .i64 i] 3)).alloc (.cells #[.slice none 0 0] 37)) := (((Ext.refl _).alloc _).alloc _).alloc _
  have hW0 : (((w.alloc (.cells #[.slice (some ⟨eb, eo, none⟩) F.east.length ec, .slice (some ⟨nb, no, none⟩) F.north.length nc, .int .i64 F.gap, sv, .slice ma F.nets.length mc] 108)).alloc (.cells #[.int .i64 i] 3)).alloc (.cells #[.slice none 0 0] 37)).heap[w.heap.size]? = some (.cells #[.slice (some ⟨eb, eo, none⟩) F.east.length ec, .slice (some ⟨nb, no, none⟩) F.north.length nc, .int .i64 F.gap, sv, .slice ma F.nets.length mc] 108 (0, 0)) := by simp only [alloc_at, World.size_alloc]; (repeat rw [if_neg (by omega)]); first | rfl | rw [if_pos (by omega)] | rw [if_pos trivial]
  have hW1 : (((w.alloc (.cells #[.slice (some ⟨eb, eo, none⟩) F.east.length ec, .slice (some ⟨nb, no, none⟩) F.north.length nc, .int .i64 F.gap, sv, .slice ma F.nets.length mc] 108)).alloc (.cells #[.int .i64 i] 3)).alloc (.cells #[.slice none 0 0] 37)).heap[w.heap.size + 1]? = some (.cells #[.int .i64 i] 3 (0, 0)) := by simp only [alloc_at, World.size_alloc]; (repeat rw [if_neg (by omega)]); first | rfl | rw [if_pos (by omega)] | rw [if_pos trivial]
  have hW2 : (((w.alloc (.cells #[.slice (some ⟨eb, eo, none⟩) F.east.length ec, .slice (some ⟨nb, no, none⟩) F.north.length nc, .int .i64 F.gap, sv, .slice ma F.nets.length mc] 108)).alloc (.cells #[.int .i64 i] 3)).alloc (.cells #[.slice none 0 0] 37)).heap[w.heap.size + 1 + 1]? = some (.cells #[.slice none 0 0] 37 (0, 0)) := by simp only [alloc_at, World.size_alloc]; (repeat rw [if_neg (by omega)]); first | rfl | rw [if_pos (by omega)] | rw [if_pos trivial]
  generalize ((w.alloc (.cells #[.slice (some ⟨eb, eo, none⟩) F.east.length ec, .slice (some ⟨nb, no, none⟩) F.north.length nc, .int .i64 F.gap, sv, .slice ma F.nets.length mc] 108)).alloc (.cells #[.int .i64 i] 3)).alloc (.cells #[.slice none 0 0] 37) = W at *
  have hbel : Below w.heap.size w W := hW
  have HWS := hid (show w.heap.size + 3 ≤ W.heap.size by have h := lt_of_block hW2; omega)
  clear hW
  refine range_boxedC rfl (enters_of Try.func73 (by kernel_rfl) rfl) HTG.out
    (fun r W' => Below w.heap.size w W' ∧ W'.heap[w.heap.size]? = some (.cells #[.slice (some ⟨eb, eo, none⟩) F.east.length ec, .slice (some ⟨nb, no, none⟩) F.north.length nc, .int .i64 F.gap, sv, .slice ma F.nets.length mc] 108 (0, 0)) ∧ W'.heap[w.heap.size + 1]? = some (.cells #[.int .i64 i] 3 (0, 0)) ∧ Hid (∃ v, W'.heap[w.heap.size + 1 + 1]? = some (.cells #[v] 37 (0, 0)) ∧ Row W' 56 2 v (barTo F i r).length (spFlat (barTo F i r)) ∧ (∀ g, v.ownBlock = some g → W.heap.size ≤ g)))
    (fun c r W' => False)
    (fun r W' W'' h hp => ⟨hp.past.below h.1 hbel.size (Nat.le_refl _), hp.cells h.2.1, hp.cells h.2.2.1, by obtain ⟨v, h1, h2, h3⟩ := h.2.2.2.out; exact ⟨v, hp.cells h1, h2.pastC hp, h3⟩⟩)
    (fun c r W' W'' h hp => h)
    (fun r W' h => (HMEM.out W' h.1).2.2) (fun r h => by simp [tripElem]) ⟨hbel, hW0, hW1, ⟨_, hW2, Row.nil _ _ _, fun g hg => by simp [Value.ownBlock] at hg⟩⟩
    (fun r Bx => { tmps := #[.agg #[.slice (some ⟨eb, eo, none⟩) F.east.length ec, .slice (some ⟨nb, no, none⟩) F.north.length nc, .int .i64 F.gap, sv, .slice ma F.nets.length mc], .int .i64 i, .pointer (some ⟨w.heap.size, 0, none⟩), .pointer (some ⟨w.heap.size + 1, 0, none⟩), .slice none 0 0, .pointer (some ⟨w.heap.size + 1 + 1, 0, none⟩), .int .i64 ((trips F).getD r (0, 0, 0)).1, .pointer (some ⟨Bx, 0, none⟩), .agg #[.slice (some ⟨eb, eo, none⟩) F.east.length ec, .slice (some ⟨nb, no, none⟩) F.north.length nc, .int .i64 F.gap, sv, .slice ma F.nets.length mc], .func (.func 73) #[.agg #[.slice (some ⟨eb, eo, none⟩) F.east.length ec, .slice (some ⟨nb, no, none⟩) F.north.length nc, .int .i64 F.gap, sv, .slice ma F.nets.length mc]] #[],
      .int .i64 ((trips F).getD r (0, 0, 0)).1, .agg (pairA (F.nets.getD ((trips F).getD r (0, 0, 0)).2.1 netZ) (F.nets.getD ((trips F).getD r (0, 0, 0)).2.2 netZ) ((trips F).getD r (0, 0, 0)).2.1 ((trips F).getD r (0, 0, 0)).2.2), undef, undef, undef, undef, undef, undef, undef, undef, undef, undef, undef, undef, undef, undef, undef, undef, undef, undef, undef, undef, undef, undef, undef, undef, undef, undef, undef, undef, undef, undef, undef, undef, undef, undef, undef, undef, undef, undef, undef, undef, undef, undef, undef, undef, undef, undef, undef, undef], defers := [] })
    (fun r => pairA (F.nets.getD ((trips F).getD r (0, 0, 0)).2.1 netZ) (F.nets.getD ((trips F).getD r (0, 0, 0)).2.2 netZ) ((trips F).getD r (0, 0, 0)).2.1 ((trips F).getD r (0, 0, 0)).2.2) 127 ?assign ?body ?done ?stop
  case assign =>
    intro l r h W K' hK
    have he : ((trips F).map (tripElem F))[r] = #[.int .i64 ((trips F).getD r (0, 0, 0)).1, .agg (pairA (F.nets.getD ((trips F).getD r (0, 0, 0)).2.1 netZ) (F.nets.getD ((trips F).getD r (0, 0, 0)).2.2 netZ) ((trips F).getD r (0, 0, 0)).2.1 ((trips F).getD r (0, 0, 0)).2.2)] := by
      rw [List.getElem_map, getD_of (by rw [← HLEN.out]; exact h)]; rfl
    rw [he]
    generalize (trips F).getD r (0, 0, 0) = t at *
    obtain ⟨hr, i1, i2⟩ := t
    simp only at *
    generalize F.nets.getD i1 netZ = a at *
    generalize F.nets.getD i2 netZ = b at *
    gi_wp2_with (refine wpIn_store_fresh (fun _ => trivial) 127 (.tmp 7) (.tmp 11) rfl (W := W) (c' := pairA a b i1 i2) rfl rfl rfl info127 rfl (by kernel_rfl) ?_)
    exact hK
  case stop =>
    rintro D r c W2 hD hi hf hK
    exact hf.elim
  case body =>
    rintro l r Bx W2 hi hl hrr ⟨hbelW, hb0, hb1, hb2⟩ hBx hbx
    have hil : r < (trips F).length := by rw [← HLEN.out]; exact hi
    have htm := trips_mem (List.getElem_mem hil)
    have hgd : ((trips F).getD r (0, 0, 0)) = (trips F)[r] := getD_of hil
    have HYES := hid (fun h => barTo_yes (F := F) (i := i) hil h)
    have HNO := hid (fun h => barTo_no (F := F) (i := i) hil h)
    rw [← hgd] at htm HYES HNO
    clear hgd hi
    have HTK := hid (And.intro (barTo_len F i r) hil)
    generalize (trips F).getD r (0, 0, 0) = t at *
    obtain ⟨hr, i1, i2⟩ := t
    simp only at *
    obtain ⟨t1, t2, t3, t4⟩ := htm
    have hl1 : i1 < F.nets.length := by omega
    have HAB : Hid (NetOk (F.nets.getD i1 netZ) F.east.length ∧ NetOk (F.nets.getD i2 netZ) F.east.length ∧ (mx (F.nets.getD i1 netZ).shot (F.nets.getD i2 netZ).shot ≤ (hr : Int) ∧ (hr : Int) ≤ 24) ∧ (mx (F.nets.getD i2 netZ).shot (F.nets.getD i1 netZ).shot ≤ (hr : Int) ∧ (hr : Int) ≤ 24)) := by
      have hh := HOK.out.hours
      have e1 : F.nets.getD i1 netZ = F.nets[i1] := getD_of hl1
      have e2 : F.nets.getD i2 netZ = F.nets[i2] := getD_of t3
      unfold lieG at t4
      rw [Bool.and_eq_true] at t4
      have g1 := inB_spec t4.1
      have g2 := inB_spec t4.2
      exact ⟨by rw [e1]; exact HOK.out.nets _ (List.getElem_mem _), by rw [e2]; exact HOK.out.nets _ (List.getElem_mem _), ⟨mx_le g1.1 g2.1, by omega⟩, ⟨mx_le g2.1 g1.1, by omega⟩⟩
    have hne12 : (i1 : Int) ≠ i2 := by omega
    clear t1 t2 t3 t4 hl1
    have HBW := hid (show Ext w W2 from hbelW)
    have HB := hid (And.intro hb0 (And.intro hb1 (And.intro hbx hb2.out)))
    have hc1 := cell_of hb1
    have hneB : Bx ≠ w.heap.size + 1 + 1 ∧ Bx ≠ w.heap.size ∧ Bx ≠ w.heap.size + 1 := by have := HWS.out; omega
    have HNE := hid hneB
    have HWS2 := hid (show W.heap.size ≤ W2.heap.size by have := lt_of_block hbx; omega)
    clear hb0 hb1 hbelW hb2 hneB
    have hc2 := cell_of hbx
    clear hbx
    by_cases hi2 : (i2 : Int) = i
    case pos =>
      subst hi2
      have HWF : Hid (withFirst (i2 : Int) (hr, i1, i2) = (hr, i2, i1)) := by show withFirst _ _ = _; unfold withFirst; rw [if_pos rfl]
      rw [HWF.out] at HYES HNO
      have HSW : Hid (barB F (i2 : Int) (hr, i2, i1) = meetS (apart_nF F (F.nets.getD i2 netZ) (F.nets.getD i1 netZ) hr) (near_nF (F.nets.getD i2 netZ) (F.nets.getD i1 netZ) F.gap) ∧ barOf F (hr, i2, i1) = spAdd (near_eF (F.nets.getD i2 netZ) (F.nets.getD i1 netZ) F.gap) (spNeg (apart_eF F (F.nets.getD i2 netZ) (F.nets.getD i1 netZ) hr))) := by
        refine ⟨?_, rfl⟩; unfold barB; simp
      have HPQ := hid (And.intro HAB.out.2.1 (And.intro HAB.out.1 HAB.out.2.2.2))
      clear HAB HWF
      generalize barB F (i2 : Int) (hr, i2, i1) = BB at *
      generalize barOf F (hr, i2, i1) = BO at *
      generalize F.nets.getD i1 netZ = q at *
      generalize F.nets.getD i2 netZ = p at *
      simp only [pairA] at hc2 ⊢ HB
      have hl1 := load_net_mid 11 [.int .i64 p.east, .int .i64 p.north, .int .i64 p.long, .int .i64 p.along, .int .i64 p.shot, .int .i64 p.haul, .int .i64 p.se.lo, .int .i64 p.se.hi, .int .i64 p.sn.lo, .int .i64 p.sn.hi, .int .i64 (i2 : Int)] HB.out.2.2.1 rfl (fun j v hj => by rcases (by have hj2 := (List.getElem?_eq_some_iff.1 hj).1; simp only [List.length_cons, List.length_nil] at hj2; omega : j = 0 ∨ j = 1 ∨ j = 2 ∨ j = 3 ∨ j = 4 ∨ j = 5 ∨ j = 6 ∨ j = 7 ∨ j = 8 ∨ j = 9 ∨ j = 10) with rfl | rfl | rfl | rfl | rfl | rfl | rfl | rfl | rfl | rfl | rfl <;> exact hj)
      have hl2 := load_net_mid 0 [.int .i64 q.east, .int .i64 q.north, .int .i64 q.long, .int .i64 q.along, .int .i64 q.shot, .int .i64 q.haul, .int .i64 q.se.lo, .int .i64 q.se.hi, .int .i64 q.sn.lo, .int .i64 q.sn.hi, .int .i64 (i1 : Int)] HB.out.2.2.1 rfl (fun j v hj => by rcases (by have hj2 := (List.getElem?_eq_some_iff.1 hj).1; simp only [List.length_cons, List.length_nil] at hj2; omega : j = 0 ∨ j = 1 ∨ j = 2 ∨ j = 3 ∨ j = 4 ∨ j = 5 ∨ j = 6 ∨ j = 7 ∨ j = 8 ∨ j = 9 ∨ j = 10) with rfl | rfl | rfl | rfl | rfl | rfl | rfl | rfl | rfl | rfl | rfl <;> exact hj)
      have HL1 := hid hl1
      have HL2 := hid hl2
      clear hl1 hl2
      gi_upto_region 6 with fail
      clear hc1 hc2
      gi_wp2_with (first | (refine wpIn_load_one (fun _ => trivial) 125 (.tmp 17) rfl rfl HL1.out ?_) | (refine wpIn_load_one (fun _ => trivial) 125 (.tmp 19) rfl rfl HL2.out ?_) | (refine wpIn_store_row 127 (.tmp 7) (.tmp 21) rfl (fun _ => trivial) (g := Bx) rfl (cells := #[.int .i64 p.east, .int .i64 p.north, .int .i64 p.long, .int .i64 p.along, .int .i64 p.shot, .int .i64 p.haul, .int .i64 p.se.lo, .int .i64 p.se.hi, .int .i64 p.sn.lo, .int .i64 p.sn.hi, .int .i64 (i2 : Int), .int .i64 q.east, .int .i64 q.north, .int .i64 q.long, .int .i64 q.along, .int .i64 q.shot, .int .i64 q.haul, .int .i64 q.se.lo, .int .i64 q.se.hi, .int .i64 q.sn.lo, .int .i64 q.sn.hi, .int .i64 (i1 : Int)]) rfl HB.out.2.2.1 info127 rfl (by kernel_rfl) ?_))
      have HKF := hid (keepsFrom_setRow HB.out.2.2.1 W.heap.size #[.int .i64 p.east, .int .i64 p.north, .int .i64 p.long, .int .i64 p.along, .int .i64 p.shot, .int .i64 p.haul, .int .i64 p.se.lo, .int .i64 p.se.hi, .int .i64 p.sn.lo, .int .i64 p.sn.hi, .int .i64 (i2 : Int), .int .i64 q.east, .int .i64 q.north, .int .i64 q.long, .int .i64 q.along, .int .i64 q.shot, .int .i64 q.haul, .int .i64 q.se.lo, .int .i64 q.se.hi, .int .i64 q.sn.lo, .int .i64 q.sn.hi, .int .i64 (i1 : Int)])
      have HKT := hid (KeepT.setRow HB.out.2.2.1 (by decide) (by decide) #[.int .i64 p.east, .int .i64 p.north, .int .i64 p.long, .int .i64 p.along, .int .i64 p.shot, .int .i64 p.haul, .int .i64 p.se.lo, .int .i64 p.se.hi, .int .i64 p.sn.lo, .int .i64 p.sn.hi, .int .i64 (i2 : Int), .int .i64 q.east, .int .i64 q.north, .int .i64 q.long, .int .i64 q.along, .int .i64 q.shot, .int .i64 q.haul, .int .i64 q.se.lo, .int .i64 q.se.hi, .int .i64 q.sn.lo, .int .i64 q.sn.hi, .int .i64 (i1 : Int)])
      have HBW := hid (show Ext w (W2.setRow Bx #[.int .i64 p.east, .int .i64 p.north, .int .i64 p.long, .int .i64 p.along, .int .i64 p.shot, .int .i64 p.haul, .int .i64 p.se.lo, .int .i64 p.se.hi, .int .i64 p.sn.lo, .int .i64 p.sn.hi, .int .i64 (i2 : Int), .int .i64 q.east, .int .i64 q.north, .int .i64 q.long, .int .i64 q.along, .int .i64 q.shot, .int .i64 q.haul, .int .i64 q.se.lo, .int .i64 q.se.hi, .int .i64 q.sn.lo, .int .i64 q.sn.hi, .int .i64 (i1 : Int)]) from below_setRow (g := Bx) HBW.out (by have := hbel.size; omega) #[.int .i64 p.east, .int .i64 p.north, .int .i64 p.long, .int .i64 p.along, .int .i64 p.shot, .int .i64 p.haul, .int .i64 p.se.lo, .int .i64 p.se.hi, .int .i64 p.sn.lo, .int .i64 p.sn.hi, .int .i64 (i2 : Int), .int .i64 q.east, .int .i64 q.north, .int .i64 q.long, .int .i64 q.along, .int .i64 q.shot, .int .i64 q.haul, .int .i64 q.se.lo, .int .i64 q.se.hi, .int .i64 q.sn.lo, .int .i64 q.sn.hi, .int .i64 (i1 : Int)])
      have hb2 := HB.out.2.2.2
      obtain ⟨v, e1, e2, e3⟩ := hb2
      have HB : Hid ((W2.setRow Bx #[.int .i64 p.east, .int .i64 p.north, .int .i64 p.long, .int .i64 p.along, .int .i64 p.shot, .int .i64 p.haul, .int .i64 p.se.lo, .int .i64 p.se.hi, .int .i64 p.sn.lo, .int .i64 p.sn.hi, .int .i64 (i2 : Int), .int .i64 q.east, .int .i64 q.north, .int .i64 q.long, .int .i64 q.along, .int .i64 q.shot, .int .i64 q.haul, .int .i64 q.se.lo, .int .i64 q.se.hi, .int .i64 q.sn.lo, .int .i64 q.sn.hi, .int .i64 (i1 : Int)]).heap[w.heap.size]? = some (.cells #[.slice (some ⟨eb, eo, none⟩) F.east.length ec, .slice (some ⟨nb, no, none⟩) F.north.length nc, .int .i64 F.gap, sv, .slice ma F.nets.length mc] 108 (0, 0)) ∧ (W2.setRow Bx #[.int .i64 p.east, .int .i64 p.north, .int .i64 p.long, .int .i64 p.along, .int .i64 p.shot, .int .i64 p.haul, .int .i64 p.se.lo, .int .i64 p.se.hi, .int .i64 p.sn.lo, .int .i64 p.sn.hi, .int .i64 (i2 : Int), .int .i64 q.east, .int .i64 q.north, .int .i64 q.long, .int .i64 q.along, .int .i64 q.shot, .int .i64 q.haul, .int .i64 q.se.lo, .int .i64 q.se.hi, .int .i64 q.sn.lo, .int .i64 q.sn.hi, .int .i64 (i1 : Int)]).heap[w.heap.size + 1]? = some (.cells #[.int .i64 (i2 : Int)] 3 (0, 0)) ∧ (W2.setRow Bx #[.int .i64 p.east, .int .i64 p.north, .int .i64 p.long, .int .i64 p.along, .int .i64 p.shot, .int .i64 p.haul, .int .i64 p.se.lo, .int .i64 p.se.hi, .int .i64 p.sn.lo, .int .i64 p.sn.hi, .int .i64 (i2 : Int), .int .i64 q.east, .int .i64 q.north, .int .i64 q.long, .int .i64 q.along, .int .i64 q.shot, .int .i64 q.haul, .int .i64 q.se.lo, .int .i64 q.se.hi, .int .i64 q.sn.lo, .int .i64 q.sn.hi, .int .i64 (i1 : Int)]).heap[Bx]? = some (.cells #[.int .i64 p.east, .int .i64 p.north, .int .i64 p.long, .int .i64 p.along, .int .i64 p.shot, .int .i64 p.haul, .int .i64 p.se.lo, .int .i64 p.se.hi, .int .i64 p.sn.lo, .int .i64 p.sn.hi, .int .i64 (i2 : Int), .int .i64 q.east, .int .i64 q.north, .int .i64 q.long, .int .i64 q.along, .int .i64 q.shot, .int .i64 q.haul, .int .i64 q.se.lo, .int .i64 q.se.hi, .int .i64 q.sn.lo, .int .i64 q.sn.hi, .int .i64 (i1 : Int)] 127 (0, 0)) ∧ ∃ v : Value, (W2.setRow Bx #[.int .i64 p.east, .int .i64 p.north, .int .i64 p.long, .int .i64 p.along, .int .i64 p.shot, .int .i64 p.haul, .int .i64 p.se.lo, .int .i64 p.se.hi, .int .i64 p.sn.lo, .int .i64 p.sn.hi, .int .i64 (i2 : Int), .int .i64 q.east, .int .i64 q.north, .int .i64 q.long, .int .i64 q.along, .int .i64 q.shot, .int .i64 q.haul, .int .i64 q.se.lo, .int .i64 q.se.hi, .int .i64 q.sn.lo, .int .i64 q.sn.hi, .int .i64 (i1 : Int)]).heap[w.heap.size + 1 + 1]? = some (.cells #[v] 37 (0, 0)) ∧ Row (W2.setRow Bx #[.int .i64 p.east, .int .i64 p.north, .int .i64 p.long, .int .i64 p.along, .int .i64 p.shot, .int .i64 p.haul, .int .i64 p.se.lo, .int .i64 p.se.hi, .int .i64 p.sn.lo, .int .i64 p.sn.hi, .int .i64 (i2 : Int), .int .i64 q.east, .int .i64 q.north, .int .i64 q.long, .int .i64 q.along, .int .i64 q.shot, .int .i64 q.haul, .int .i64 q.se.lo, .int .i64 q.se.hi, .int .i64 q.sn.lo, .int .i64 q.sn.hi, .int .i64 (i1 : Int)]) 56 2 v (barTo F i2 r).length (spFlat (barTo F i2 r)) ∧ ∀ g, v.ownBlock = some g → W.heap.size ≤ g) := ⟨(setRow_other W2 Bx _ _ (Ne.symm HNE.out.2.1)).trans HB.out.1, (setRow_other W2 Bx _ _ (Ne.symm HNE.out.2.2)).trans HB.out.2.1, setRow_heap W2 Bx _ #[.int .i64 p.east, .int .i64 p.north, .int .i64 p.long, .int .i64 p.along, .int .i64 p.shot, .int .i64 p.haul, .int .i64 p.se.lo, .int .i64 p.se.hi, .int .i64 p.sn.lo, .int .i64 p.sn.hi, .int .i64 (i2 : Int), .int .i64 q.east, .int .i64 q.north, .int .i64 q.long, .int .i64 q.along, .int .i64 q.shot, .int .i64 q.haul, .int .i64 q.se.lo, .int .i64 q.se.hi, .int .i64 q.sn.lo, .int .i64 q.sn.hi, .int .i64 (i1 : Int)] _ (0, 0) HB.out.2.2.1, v, (setRow_other W2 Bx _ _ (Ne.symm HNE.out.1)).trans e1, e2.setRow HB.out.2.2.1 (by decide) _, e3⟩
      generalize W2.setRow Bx #[.int .i64 p.east, .int .i64 p.north, .int .i64 p.long, .int .i64 p.along, .int .i64 p.shot, .int .i64 p.haul, .int .i64 p.se.lo, .int .i64 p.se.hi, .int .i64 p.sn.lo, .int .i64 p.sn.hi, .int .i64 (i2 : Int), .int .i64 q.east, .int .i64 q.north, .int .i64 q.long, .int .i64 q.along, .int .i64 q.shot, .int .i64 q.haul, .int .i64 q.se.lo, .int .i64 q.se.hi, .int .i64 q.sn.lo, .int .i64 q.sn.hi, .int .i64 (i1 : Int)] = W3 at *
      clear e1 e2 HL1 HL2
      have HBX := hid HB.out.2.2.1
      have HAP := hid (fun (u : World) (hu : Ext W3 u) => And.intro (apart_e F HOK.out eb eo ec nb no nc sv (.slice ma F.nets.length mc) p q HPQ.out.1 HPQ.out.2.1 i2 i1 hr HPQ.out.2.2 u (HMEM.out u (HBW.out.trans hu)).1) (apart_n F HOK.out eb eo ec nb no nc sv (.slice ma F.nets.length mc) p q HPQ.out.1 HPQ.out.2.1 i2 i1 hr HPQ.out.2.2 u (HMEM.out u (HBW.out.trans hu)).2.1))
      cases hbb : BB
      case false =>
        have HMT : Hid (meetS (apart_nF F p q hr) (near_nF p q F.gap) = false) := by show meetS _ _ = false; rw [← HSW.out.1]; exact hbb
        refine lex_wide_r 20 [] (by kernel_rfl) (by kernel_rfl) (nStab_nil) ?_
        simp only [List.take_succ_cons, List.take_zero, List.drop_succ_cons, List.drop_zero]
        apply lex_fun (rfl : psAt _ _ = none)
        · intro x u hR hf
          clear hR hf
          go_simp
          exact ⟨rfl, Ext.refl _⟩
        simp only [Act.put, List.setIfInBounds_toArray, List.set_cons_succ, List.set_cons_zero]
        apply lex_fun (rfl : psAt _ _ = none)
        · intro x u hR hf
          clear hR hf
          go_simp
          exact ⟨rfl, Ext.refl _⟩
        simp only [Act.put, List.setIfInBounds_toArray, List.set_cons_succ, List.set_cons_zero]
        apply lex_fun (rfl : psAt _ _ = none)
        · intro x u hR hf
          have c2 := cell_of (hR.block HB.out.2.2.1)
          clear hR hf
          go_simp
          exact ⟨rfl, Ext.refl _⟩
        simp only [Act.put, List.setIfInBounds_toArray, List.set_cons_succ, List.set_cons_zero]
        apply lex_fun (rfl : psAt _ _ = none)
        · intro x u hR hf
          have c1 := cell_of (hR.block HB.out.2.1)
          clear hR hf
          go_simp
          exact ⟨rfl, Ext.refl _⟩
        simp only [Act.put, List.setIfInBounds_toArray, List.set_cons_succ, List.set_cons_zero]
        refine lex_fun (v := .bool false) (rfl : psAt _ _ = none) ?_ ?_
        · intro x u hR hf
          clear hR hf
          go_simp
          first | exact ⟨rfl, Ext.refl _⟩ | exact Ext.refl _
        simp only [Act.put, List.setIfInBounds_toArray, List.set_cons_succ, List.set_cons_zero]
        apply lex_fun (rfl : psAt _ _ = none)
        · intro x u hR hf
          clear hR hf
          go_simp
          exact ⟨rfl, Ext.refl _⟩
        simp only [Act.put, List.setIfInBounds_toArray, List.set_cons_succ, List.set_cons_zero]
        apply lex_fun (rfl : psAt _ _ = none)
        · intro x u hR hf
          have c0 := cell_of (hR.block HB.out.1)
          clear hR hf
          go_simp
          exact ⟨rfl, Ext.refl _⟩
        simp only [Act.put, List.setIfInBounds_toArray, List.set_cons_succ, List.set_cons_zero]
        refine lex_fun (v := .agg #[.int .i64 1, .func (.func 88) #[] #[], .func (.func 89) #[] #[], .func (.func 90) #[] #[], .func (.func 91) #[] #[]]) (rfl : psAt _ _ = none) ?_ ?_
        · intro x u hR hf
          have hcal := hid (side_n u)
          clear hR hf
          go_simp
          exact (callsIn_round l hcal.out).mono fun e w'' ⟨he, hx'⟩ => ⟨_, he, rfl, hx'⟩
        simp only [Act.put, List.setIfInBounds_toArray, List.set_cons_succ, List.set_cons_zero]
        refine lex_fun (v := .agg #[.int .i64 p.east, .int .i64 p.north, .int .i64 p.long, .int .i64 p.along, .int .i64 p.shot, .int .i64 p.haul, .int .i64 p.se.lo, .int .i64 p.se.hi, .int .i64 p.sn.lo, .int .i64 p.sn.hi, .int .i64 (i2 : Int), .int .i64 q.east, .int .i64 q.north, .int .i64 q.long, .int .i64 q.along, .int .i64 q.shot, .int .i64 q.haul, .int .i64 q.se.lo, .int .i64 q.se.hi, .int .i64 q.sn.lo, .int .i64 q.sn.hi, .int .i64 (i1 : Int)]) (rfl : psAt _ _ = none) ?_ ?_
        · intro x u hR hf
          rw [if_pos (show Region.wanted _ _ = true from rfl)]
          exact gives_load 127 (.tmp 7) rfl rfl (load_pair (hR.block HBX.out) rfl) ⟨rfl, Ext.refl _⟩
        simp only [Act.put, List.setIfInBounds_toArray, List.set_cons_succ, List.set_cons_zero]
        apply lex_fun (rfl : psAt _ _ = none)
        · intro x u hR hf
          clear hR hf
          go_simp
          exact ⟨rfl, Ext.refl _⟩
        simp only [Act.put, List.setIfInBounds_toArray, List.set_cons_succ, List.set_cons_zero]
        refine lex_fun (v := spnV (apart_nF F p q hr)) (rfl : psAt _ _ = none) ?_ ?_
        · intro x u hR hf
          have hcal := hid ((HAP.out u hR).2)
          clear hR hf
          go_simp
          exact (callsIn_round l hcal.out).mono fun e w'' ⟨he, hx'⟩ => ⟨_, he, rfl, hx'⟩
        simp only [Act.put, List.setIfInBounds_toArray, List.set_cons_succ, List.set_cons_zero]
        refine lex_fun (v := .agg #[.int .i64 1, .func (.func 88) #[] #[], .func (.func 89) #[] #[], .func (.func 90) #[] #[], .func (.func 91) #[] #[]]) (rfl : psAt _ _ = none) ?_ ?_
        · intro x u hR hf
          have hcal := hid (side_n u)
          clear hR hf
          go_simp
          exact (callsIn_round l hcal.out).mono fun e w'' ⟨he, hx'⟩ => ⟨_, he, rfl, hx'⟩
        simp only [Act.put, List.setIfInBounds_toArray, List.set_cons_succ, List.set_cons_zero]
        refine lex_fun (v := .agg #[.int .i64 p.east, .int .i64 p.north, .int .i64 p.long, .int .i64 p.along, .int .i64 p.shot, .int .i64 p.haul, .int .i64 p.se.lo, .int .i64 p.se.hi, .int .i64 p.sn.lo, .int .i64 p.sn.hi, .int .i64 (i2 : Int), .int .i64 q.east, .int .i64 q.north, .int .i64 q.long, .int .i64 q.along, .int .i64 q.shot, .int .i64 q.haul, .int .i64 q.se.lo, .int .i64 q.se.hi, .int .i64 q.sn.lo, .int .i64 q.sn.hi, .int .i64 (i1 : Int)]) (rfl : psAt _ _ = none) ?_ ?_
        · intro x u hR hf
          rw [if_pos (show Region.wanted _ _ = true from rfl)]
          exact gives_load 127 (.tmp 7) rfl rfl (load_pair (hR.block HBX.out) rfl) ⟨rfl, Ext.refl _⟩
        simp only [Act.put, List.setIfInBounds_toArray, List.set_cons_succ, List.set_cons_zero]
        apply lex_fun (rfl : psAt _ _ = none)
        · intro x u hR hf
          clear hR hf
          go_simp
          exact ⟨rfl, Ext.refl _⟩
        simp only [Act.put, List.setIfInBounds_toArray, List.set_cons_succ, List.set_cons_zero]
        apply lex_fun (rfl : psAt _ _ = none)
        · intro x u hR hf
          clear hR hf
          go_simp
          exact ⟨rfl, Ext.refl _⟩
        simp only [Act.put, List.setIfInBounds_toArray, List.set_cons_succ, List.set_cons_zero]
        apply lex_fun (rfl : psAt _ _ = none)
        · intro x u hR hf
          have c0 := cell_of (hR.block HB.out.1)
          clear hR hf
          go_simp
          exact ⟨rfl, Ext.refl _⟩
        simp only [Act.put, List.setIfInBounds_toArray, List.set_cons_succ, List.set_cons_zero]
        refine lex_fun (v := spnV (near_nF p q F.gap)) (rfl : psAt _ _ = none) ?_ ?_
        · intro x u hR hf
          have hcal := hid (near_n p q i2 i1 F.gap HOK.out.gap HPQ.out.1.long HPQ.out.2.1.long u)
          clear hR hf
          go_simp
          exact (callsIn_round l hcal.out).mono fun e w'' ⟨he, hx'⟩ => ⟨_, he, rfl, hx'⟩
        simp only [Act.put, List.setIfInBounds_toArray, List.set_cons_succ, List.set_cons_zero]
        refine lex_fun (v := .bool false) (rfl : psAt _ _ = none) ?_ ?_
        · intro x u hR hf
          have hcal := hid ((by have h := meet_any (apart_nF F p q hr).lo (apart_nF F p q hr).hi (near_nF p q F.gap).lo (near_nF p q F.gap).hi u; rw [show meetB (apart_nF F p q hr).lo (apart_nF F p q hr).hi (near_nF p q F.gap).lo (near_nF p q F.gap).hi = false from HMT.out] at h; exact h))
          clear hR hf
          go_simp
          exact (callsIn_round l hcal.out).mono fun e w'' ⟨he, hx'⟩ => ⟨_, he, rfl, hx'⟩
        simp only [Act.put, List.setIfInBounds_toArray, List.set_cons_succ, List.set_cons_zero]
        apply lex_fun (rfl : psAt _ _ = none)
        · intro x u hR hf
          clear hR hf
          go_simp
          exact ⟨rfl, Ext.refl _⟩
        simp only [Act.put, List.setIfInBounds_toArray, List.set_cons_succ, List.set_cons_zero]
        apply lex_fun (rfl : psAt _ _ = none)
        · intro x u hR hf
          clear hR hf
          go_simp
          exact ⟨rfl, Ext.refl _⟩
        simp only [Act.put, List.setIfInBounds_toArray, List.set_cons_succ, List.set_cons_zero]
        refine lex_nil fun x w6 hE hfacts => ?_
        clear hfacts x
        gi_wp2
        exact ⟨⟨HKF.out.trans (keepsFrom_ext hE), HBW.out.trans hE, hE.block HB.out.1, hE.block HB.out.2.1, by rw [HNO.out hbb]; obtain ⟨v, e1, e2, e3⟩ := HB.out.2.2.2; exact ⟨v, hE.block e1, e2.mono hE, e3⟩⟩, HKT.out.trans (KeepT.of_ext hE)⟩
      case true =>
        have HMT : Hid (meetS (apart_nF F p q hr) (near_nF p q F.gap) = true) := by show meetS _ _ = true; rw [← HSW.out.1]; exact hbb
        refine lex_wide_r 20 [] (by kernel_rfl) (by kernel_rfl) (nStab_nil) ?_
        simp only [List.take_succ_cons, List.take_zero, List.drop_succ_cons, List.drop_zero]
        apply lex_fun (rfl : psAt _ _ = none)
        · intro x u hR hf
          clear hR hf
          go_simp
          exact ⟨rfl, Ext.refl _⟩
        simp only [Act.put, List.setIfInBounds_toArray, List.set_cons_succ, List.set_cons_zero]
        apply lex_fun (rfl : psAt _ _ = none)
        · intro x u hR hf
          clear hR hf
          go_simp
          exact ⟨rfl, Ext.refl _⟩
        simp only [Act.put, List.setIfInBounds_toArray, List.set_cons_succ, List.set_cons_zero]
        apply lex_fun (rfl : psAt _ _ = none)
        · intro x u hR hf
          have c2 := cell_of (hR.block HB.out.2.2.1)
          clear hR hf
          go_simp
          exact ⟨rfl, Ext.refl _⟩
        simp only [Act.put, List.setIfInBounds_toArray, List.set_cons_succ, List.set_cons_zero]
        apply lex_fun (rfl : psAt _ _ = none)
        · intro x u hR hf
          have c1 := cell_of (hR.block HB.out.2.1)
          clear hR hf
          go_simp
          exact ⟨rfl, Ext.refl _⟩
        simp only [Act.put, List.setIfInBounds_toArray, List.set_cons_succ, List.set_cons_zero]
        refine lex_fun (v := .bool false) (rfl : psAt _ _ = none) ?_ ?_
        · intro x u hR hf
          clear hR hf
          go_simp
          first | exact ⟨rfl, Ext.refl _⟩ | exact Ext.refl _
        simp only [Act.put, List.setIfInBounds_toArray, List.set_cons_succ, List.set_cons_zero]
        apply lex_fun (rfl : psAt _ _ = none)
        · intro x u hR hf
          clear hR hf
          go_simp
          exact ⟨rfl, Ext.refl _⟩
        simp only [Act.put, List.setIfInBounds_toArray, List.set_cons_succ, List.set_cons_zero]
        apply lex_fun (rfl : psAt _ _ = none)
        · intro x u hR hf
          have c0 := cell_of (hR.block HB.out.1)
          clear hR hf
          go_simp
          exact ⟨rfl, Ext.refl _⟩
        simp only [Act.put, List.setIfInBounds_toArray, List.set_cons_succ, List.set_cons_zero]
        refine lex_fun (v := .agg #[.int .i64 1, .func (.func 88) #[] #[], .func (.func 89) #[] #[], .func (.func 90) #[] #[], .func (.func 91) #[] #[]]) (rfl : psAt _ _ = none) ?_ ?_
        · intro x u hR hf
          have hcal := hid (side_n u)
          clear hR hf
          go_simp
          exact (callsIn_round l hcal.out).mono fun e w'' ⟨he, hx'⟩ => ⟨_, he, rfl, hx'⟩
        simp only [Act.put, List.setIfInBounds_toArray, List.set_cons_succ, List.set_cons_zero]
        refine lex_fun (v := .agg #[.int .i64 p.east, .int .i64 p.north, .int .i64 p.long, .int .i64 p.along, .int .i64 p.shot, .int .i64 p.haul, .int .i64 p.se.lo, .int .i64 p.se.hi, .int .i64 p.sn.lo, .int .i64 p.sn.hi, .int .i64 (i2 : Int), .int .i64 q.east, .int .i64 q.north, .int .i64 q.long, .int .i64 q.along, .int .i64 q.shot, .int .i64 q.haul, .int .i64 q.se.lo, .int .i64 q.se.hi, .int .i64 q.sn.lo, .int .i64 q.sn.hi, .int .i64 (i1 : Int)]) (rfl : psAt _ _ = none) ?_ ?_
        · intro x u hR hf
          rw [if_pos (show Region.wanted _ _ = true from rfl)]
          exact gives_load 127 (.tmp 7) rfl rfl (load_pair (hR.block HBX.out) rfl) ⟨rfl, Ext.refl _⟩
        simp only [Act.put, List.setIfInBounds_toArray, List.set_cons_succ, List.set_cons_zero]
        apply lex_fun (rfl : psAt _ _ = none)
        · intro x u hR hf
          clear hR hf
          go_simp
          exact ⟨rfl, Ext.refl _⟩
        simp only [Act.put, List.setIfInBounds_toArray, List.set_cons_succ, List.set_cons_zero]
        refine lex_fun (v := spnV (apart_nF F p q hr)) (rfl : psAt _ _ = none) ?_ ?_
        · intro x u hR hf
          have hcal := hid ((HAP.out u hR).2)
          clear hR hf
          go_simp
          exact (callsIn_round l hcal.out).mono fun e w'' ⟨he, hx'⟩ => ⟨_, he, rfl, hx'⟩
        simp only [Act.put, List.setIfInBounds_toArray, List.set_cons_succ, List.set_cons_zero]
        refine lex_fun (v := .agg #[.int .i64 1, .func (.func 88) #[] #[], .func (.func 89) #[] #[], .func (.func 90) #[] #[], .func (.func 91) #[] #[]]) (rfl : psAt _ _ = none) ?_ ?_
        · intro x u hR hf
          have hcal := hid (side_n u)
          clear hR hf
          go_simp
          exact (callsIn_round l hcal.out).mono fun e w'' ⟨he, hx'⟩ => ⟨_, he, rfl, hx'⟩
        simp only [Act.put, List.setIfInBounds_toArray, List.set_cons_succ, List.set_cons_zero]
        refine lex_fun (v := .agg #[.int .i64 p.east, .int .i64 p.north, .int .i64 p.long, .int .i64 p.along, .int .i64 p.shot, .int .i64 p.haul, .int .i64 p.se.lo, .int .i64 p.se.hi, .int .i64 p.sn.lo, .int .i64 p.sn.hi, .int .i64 (i2 : Int), .int .i64 q.east, .int .i64 q.north, .int .i64 q.long, .int .i64 q.along, .int .i64 q.shot, .int .i64 q.haul, .int .i64 q.se.lo, .int .i64 q.se.hi, .int .i64 q.sn.lo, .int .i64 q.sn.hi, .int .i64 (i1 : Int)]) (rfl : psAt _ _ = none) ?_ ?_
        · intro x u hR hf
          rw [if_pos (show Region.wanted _ _ = true from rfl)]
          exact gives_load 127 (.tmp 7) rfl rfl (load_pair (hR.block HBX.out) rfl) ⟨rfl, Ext.refl _⟩
        simp only [Act.put, List.setIfInBounds_toArray, List.set_cons_succ, List.set_cons_zero]
        apply lex_fun (rfl : psAt _ _ = none)
        · intro x u hR hf
          clear hR hf
          go_simp
          exact ⟨rfl, Ext.refl _⟩
        simp only [Act.put, List.setIfInBounds_toArray, List.set_cons_succ, List.set_cons_zero]
        apply lex_fun (rfl : psAt _ _ = none)
        · intro x u hR hf
          clear hR hf
          go_simp
          exact ⟨rfl, Ext.refl _⟩
        simp only [Act.put, List.setIfInBounds_toArray, List.set_cons_succ, List.set_cons_zero]
        apply lex_fun (rfl : psAt _ _ = none)
        · intro x u hR hf
          have c0 := cell_of (hR.block HB.out.1)
          clear hR hf
          go_simp
          exact ⟨rfl, Ext.refl _⟩
        simp only [Act.put, List.setIfInBounds_toArray, List.set_cons_succ, List.set_cons_zero]
        refine lex_fun (v := spnV (near_nF p q F.gap)) (rfl : psAt _ _ = none) ?_ ?_
        · intro x u hR hf
          have hcal := hid (near_n p q i2 i1 F.gap HOK.out.gap HPQ.out.1.long HPQ.out.2.1.long u)
          clear hR hf
          go_simp
          exact (callsIn_round l hcal.out).mono fun e w'' ⟨he, hx'⟩ => ⟨_, he, rfl, hx'⟩
        simp only [Act.put, List.setIfInBounds_toArray, List.set_cons_succ, List.set_cons_zero]
        refine lex_fun (v := .bool true) (rfl : psAt _ _ = none) ?_ ?_
        · intro x u hR hf
          have hcal := hid ((by have h := meet_any (apart_nF F p q hr).lo (apart_nF F p q hr).hi (near_nF p q F.gap).lo (near_nF p q F.gap).hi u; rw [show meetB (apart_nF F p q hr).lo (apart_nF F p q hr).hi (near_nF p q F.gap).lo (near_nF p q F.gap).hi = true from HMT.out] at h; exact h))
          clear hR hf
          go_simp
          exact (callsIn_round l hcal.out).mono fun e w'' ⟨he, hx'⟩ => ⟨_, he, rfl, hx'⟩
        simp only [Act.put, List.setIfInBounds_toArray, List.set_cons_succ, List.set_cons_zero]
        apply lex_fun (rfl : psAt _ _ = none)
        · intro x u hR hf
          clear hR hf
          go_simp
          exact ⟨rfl, Ext.refl _⟩
        simp only [Act.put, List.setIfInBounds_toArray, List.set_cons_succ, List.set_cons_zero]
        apply lex_fun (rfl : psAt _ _ = none)
        · intro x u hR hf
          clear hR hf
          go_simp
          exact ⟨rfl, Ext.refl _⟩
        simp only [Act.put, List.setIfInBounds_toArray, List.set_cons_succ, List.set_cons_zero]
        refine lex_nil fun x w6 hE hfacts => ?_
        clear hfacts x
        gi_upto_region 8 with fail
        have HBW6 := hid (HBW.out.trans hE)
        have HKF6 := hid (HKF.out.trans (keepsFrom_ext hE))
        have HKT6 := hid (HKT.out.trans (KeepT.of_ext hE))
        obtain ⟨v, e1, e2, e3⟩ := HB.out.2.2.2
        have HRW := hid (And.intro (hE.block HB.out.1) (And.intro (hE.block HB.out.2.1) (And.intro (hE.block HB.out.2.2.1) (And.intro (hE.block e1) (And.intro (e2.mono hE) e3)))))
        clear e1 e2 e3 HB HBX HKF HKT HMT hE
        have hobl : ∀ g, v.ownBlock = some g → g < w6.heap.size := fun g hg => HRW.out.2.2.2.2.1.lt hg
        have HOB := hid hobl
        have HG := hid (fun (u : World) (hu : w6.grownBy u v.ownBlock) => And.intro (grownBy_block hu HRW.out.1 (fun e => by have := HRW.out.2.2.2.2.2 _ e.symm; have := HWS.out; omega)) (And.intro (grownBy_block hu HRW.out.2.2.1 (fun e => absurd (HRW.out.2.2.2.2.1.typ e.symm HRW.out.2.2.1) (by decide))) (And.intro (grownBy_block hu HRW.out.2.2.2.1 (fun e => by have := HRW.out.2.2.2.2.2 _ e.symm; have := HWS.out; omega)) (show Ext w u from Below.trans HBW6.out ⟨hu.os, hu.tape, hu.output, hu.size, fun j hj => hu.block j (Nat.lt_of_lt_of_le hj HBW6.out.size) (fun e => by have := HRW.out.2.2.2.2.2 _ e.symm; have := HWS.out; omega)⟩))))
        have HAQ := hid (fun (u : World) (hu : Ext w u) => apart_e F HOK.out eb eo ec nb no nc sv (.slice ma F.nets.length mc) p q HPQ.out.1 HPQ.out.2.1 i2 i1 hr HPQ.out.2.2 u (HMEM.out u hu).1)
        have HNB := hid (near_apart_small HOK.out HPQ.out.1 HPQ.out.2.1 HPQ.out.2.2 : SmallSp (near_eF p q F.gap) ∧ SmallSp (spNeg (apart_eF F p q hr)) ∧ SmallSp (apart_eF F p q hr))
        have HNEC := hid (fun (u : World) => near_e p q i2 i1 F.gap HOK.out.gap HPQ.out.1.long HPQ.out.2.1.long u)
        have HSUM : Hid (spAdd (near_eF p q F.gap) (spNeg (apart_eF F p q hr)) = BO) := HSW.out.2.symm
        clear hobl HAP HSW
        generalize near_eF p q F.gap = ne at *
        generalize apart_eF F p q hr = ap at *
        refine lex_own_r 17 [(13, gTwo w6.heap.size ne (spNeg ap)), (15, gRow 56 w6.heap.size (spCells BO)), (16, gNew 56 2 w6.heap.size ((barTo F i2 r).length + 1) v.ownBlock (spFlat (barTo F i2 r) ++ spCells BO))] (gR v.ownBlock 16) (gC w6 v.ownBlock 16) (fun u => w6.grownBy u v.ownBlock) (by kernel_rfl) (by kernel_rfl)
          (fun i => ?_) ((Ext.drawn w6).grown _) gC_ok gE_ok (gStab_free (gTwo_free fun g hg => HOB.out g hg) (gStab_free (gRow_free fun g hg => HOB.out g hg) (gStab_last gNew_ext gStab_nil))) ?_
        · unfold gC
          split
          · exact Ext.drawn w6
          · exact (Ext.drawn w6).grown _
        simp only [List.take_succ_cons, List.take_zero, List.drop_succ_cons, List.drop_zero]
        apply gg_fun rfl (by omega)
        · intro x u hR
          have c1 := cell_of (HG.out u hR).2.2.1
          clear hR
          go_simp
          exact ⟨rfl, Ext.refl _⟩
        simp only [Act.put, List.setIfInBounds_toArray, List.set_cons_succ, List.set_cons_zero]
        refine gg_fun (v := .agg #[.int .i64 0, .func (.func 84) #[] #[], .func (.func 85) #[] #[], .func (.func 86) #[] #[], .func (.func 87) #[] #[]]) rfl (by omega) ?_ ?_
        · intro x u hR
          have hcal := hid (side_e u)
          clear hR
          go_simp
          exact (callsIn_round l hcal.out).mono fun e w'' ⟨he, hx'⟩ => ⟨_, he, rfl, hx'⟩
        simp only [Act.put, List.setIfInBounds_toArray, List.set_cons_succ, List.set_cons_zero]
        refine gg_fun (v := .agg #[.int .i64 p.east, .int .i64 p.north, .int .i64 p.long, .int .i64 p.along, .int .i64 p.shot, .int .i64 p.haul, .int .i64 p.se.lo, .int .i64 p.se.hi, .int .i64 p.sn.lo, .int .i64 p.sn.hi, .int .i64 (i2 : Int), .int .i64 q.east, .int .i64 q.north, .int .i64 q.long, .int .i64 q.along, .int .i64 q.shot, .int .i64 q.haul, .int .i64 q.se.lo, .int .i64 q.se.hi, .int .i64 q.sn.lo, .int .i64 q.sn.hi, .int .i64 (i1 : Int)]) rfl (by omega) ?_ ?_
        · intro x u hR
          rw [if_pos (show Region.wanted _ _ = true from rfl)]
          exact gives_load 127 (.tmp 7) rfl rfl (load_pair (HG.out u hR).2.1 rfl) ⟨rfl, Ext.refl _⟩
        simp only [Act.put, List.setIfInBounds_toArray, List.set_cons_succ, List.set_cons_zero]
        apply gg_fun rfl (by omega)
        · intro x u hR
          clear hR
          go_simp
          exact ⟨rfl, Ext.refl _⟩
        simp only [Act.put, List.setIfInBounds_toArray, List.set_cons_succ, List.set_cons_zero]
        apply gg_fun rfl (by omega)
        · intro x u hR
          clear hR
          go_simp
          exact ⟨rfl, Ext.refl _⟩
        simp only [Act.put, List.setIfInBounds_toArray, List.set_cons_succ, List.set_cons_zero]
        apply gg_fun rfl (by omega)
        · intro x u hR
          have c0 := cell_of (HG.out u hR).1
          clear hR
          go_simp
          exact ⟨rfl, Ext.refl _⟩
        simp only [Act.put, List.setIfInBounds_toArray, List.set_cons_succ, List.set_cons_zero]
        refine gg_fun (v := spnV ne) rfl (by omega) ?_ ?_
        · intro x u hR
          have hcal := hid (HNEC.out u)
          clear hR
          go_simp
          exact (callsIn_round l hcal.out).mono fun e w'' ⟨he, hx'⟩ => ⟨_, he, rfl, hx'⟩
        simp only [Act.put, List.setIfInBounds_toArray, List.set_cons_succ, List.set_cons_zero]
        apply gg_fun rfl (by omega)
        · intro x u hR
          have c0 := cell_of (HG.out u hR).1
          clear hR
          go_simp
          exact ⟨rfl, Ext.refl _⟩
        simp only [Act.put, List.setIfInBounds_toArray, List.set_cons_succ, List.set_cons_zero]
        refine gg_fun (v := .agg #[.int .i64 0, .func (.func 84) #[] #[], .func (.func 85) #[] #[], .func (.func 86) #[] #[], .func (.func 87) #[] #[]]) rfl (by omega) ?_ ?_
        · intro x u hR
          have hcal := hid (side_e u)
          clear hR
          go_simp
          exact (callsIn_round l hcal.out).mono fun e w'' ⟨he, hx'⟩ => ⟨_, he, rfl, hx'⟩
        simp only [Act.put, List.setIfInBounds_toArray, List.set_cons_succ, List.set_cons_zero]
        refine gg_fun (v := .agg #[.int .i64 p.east, .int .i64 p.north, .int .i64 p.long, .int .i64 p.along, .int .i64 p.shot, .int .i64 p.haul, .int .i64 p.se.lo, .int .i64 p.se.hi, .int .i64 p.sn.lo, .int .i64 p.sn.hi, .int .i64 (i2 : Int), .int .i64 q.east, .int .i64 q.north, .int .i64 q.long, .int .i64 q.along, .int .i64 q.shot, .int .i64 q.haul, .int .i64 q.se.lo, .int .i64 q.se.hi, .int .i64 q.sn.lo, .int .i64 q.sn.hi, .int .i64 (i1 : Int)]) rfl (by omega) ?_ ?_
        · intro x u hR
          rw [if_pos (show Region.wanted _ _ = true from rfl)]
          exact gives_load 127 (.tmp 7) rfl rfl (load_pair (HG.out u hR).2.1 rfl) ⟨rfl, Ext.refl _⟩
        simp only [Act.put, List.setIfInBounds_toArray, List.set_cons_succ, List.set_cons_zero]
        apply gg_fun rfl (by omega)
        · intro x u hR
          clear hR
          go_simp
          exact ⟨rfl, Ext.refl _⟩
        simp only [Act.put, List.setIfInBounds_toArray, List.set_cons_succ, List.set_cons_zero]
        refine gg_fun (v := spnV ap) rfl (by omega) ?_ ?_
        · intro x u hR
          have hcal := hid (HAQ.out u (HG.out u hR).2.2.2)
          clear hR
          go_simp
          exact (callsIn_round l hcal.out).mono fun e w'' ⟨he, hx'⟩ => ⟨_, he, rfl, hx'⟩
        simp only [Act.put, List.setIfInBounds_toArray, List.set_cons_succ, List.set_cons_zero]
        refine gg_fun (v := spnV (spNeg ap)) rfl (by omega) ?_ ?_
        · intro x u hR
          have hcal := hid (minus_any ap.lo ap.hi HNB.out.2.2.1 HNB.out.2.2.2 u)
          clear hR
          go_simp
          exact (callsIn_round l hcal.out).mono fun e w'' ⟨he, hx'⟩ => ⟨_, he, rfl, hx'⟩
        simp only [Act.put, List.setIfInBounds_toArray, List.set_cons_succ, List.set_cons_zero]
        refine gg_pred (p := gTwo w6.heap.size ne (spNeg ap)) rfl (by omega) ?_ ?_
        · intro x u hR hf
          have hn := hR.size
          clear hR hf
          simp only [spnV]
          go_simp
          exact ⟨⟨_, rfl, Ext.new (Ext.refl _), hn⟩, (Ext.refl _).alloc _⟩
        simp only [Act.put, List.setIfInBounds_toArray, List.set_cons_succ, List.set_cons_zero]
        refine gg_fun' (v := spnV BO) rfl (by omega) ?_ ?_
        · intro x u hR hf
          have h13 : gTwo w6.heap.size ne (spNeg ap) (x 13) u := by first | exact hf.1 rfl | exact hf.2.1 rfl
          obtain ⟨g, e13, hg, hgn⟩ := h13
          have hcal := hid (sum_any (x 13) [ne, spNeg ap] u (by rw [e13]; exact spans_pair hg) (fun s hs => by rcases List.mem_cons.1 hs with rfl | hs; exact HNB.out.1; rcases List.mem_cons.1 hs with rfl | hs; exact HNB.out.2.1; cases hs) (by simp))
          rw [show (⟨sumLo [ne, spNeg ap], sumHi [ne, spNeg ap]⟩ : Spn) = BO from (sumSp_two _ _).trans HSUM.out] at hcal
          clear hR hf hg e13 hgn
          go_simp
          exact (callsIn_round l hcal.out).mono fun e w'' ⟨he, hx'⟩ => ⟨_, he, rfl, hx'⟩
        simp only [Act.put, List.setIfInBounds_toArray, List.set_cons_succ, List.set_cons_zero]
        refine gg_pred (p := gRow 56 w6.heap.size (spCells BO)) rfl (by omega) ?_ ?_
        · intro x u hR hf
          have hn := hR.size
          clear hR hf
          simp only [spnV]
          go_simp
          exact ⟨⟨_, rfl, Ext.new (Ext.refl _), hn⟩, (Ext.refl _).alloc _⟩
        simp only [Act.put, List.setIfInBounds_toArray, List.set_cons_succ, List.set_cons_zero]
        refine gg_last (p := gNew 56 2 w6.heap.size ((barTo F i2 r).length + 1) v.ownBlock (spFlat (barTo F i2 r) ++ spCells BO)) rfl ?_ ?_
        · intro x u hR hf
          have h15 : gRow 56 w6.heap.size (spCells BO) (x 15) u := by first | exact hf.1 rfl | exact hf.2.1 rfl | exact hf.2.2.1 rfl
          clear hf
          obtain ⟨g, e15, hg, hgn⟩ := h15
          obtain ⟨i0, hi0, hz0, hz1, hz2⟩ := info_parts info56
          obtain ⟨v', w', hrun, hrow', hgr, how, hown⟩ := append_row (sz := 2) (bytes := 16) (t := 37) (ty := 37) Try.underlying37 hi0 hz0 hz1 hz2 (by simp [Value.cells]) (by omega) (HRW.out.2.2.2.2.1.mono hR) ⟨g, 0, none⟩ 1 (spCells BO) rfl
            (fun j z hj => by rw [Addr.add_mid, Nat.zero_add, cell_of hg]; simpa using hj) (fun z hz => by simp [spCells] at hz; rcases hz with rfl | rfl <;> rfl) (by have := HTK.out; have := HTL.out; omega) (by omega)
          have HRX := hid (And.intro hrow' (And.intro hgr how))
          have hun := hR.size
          clear hR hg hrow' hgr how hown hi0 hz0 hz1 hz2
          rw [if_pos (show Region.wanted _ _ = true from rfl)]
          exact gives_append (.tmp 42) (.tmp 57) 37 rfl rfl e15 hrun ⟨⟨HRX.out.1, HRX.out.2.2.imp id fun e => ⟨_, e, hun⟩⟩, HRX.out.2.1⟩
        simp only [Act.put, List.setIfInBounds_toArray, List.set_cons_succ, List.set_cons_zero]
        refine lex_nil fun x u hE hfacts => ?_
        have h16 : gNew 56 2 w6.heap.size ((barTo F i2 r).length + 1) v.ownBlock (spFlat (barTo F i2 r) ++ spCells BO) (x 16) u := hfacts 16 _ (by omega) rfl
        clear hfacts
        generalize x 13 = x13 at *
        generalize x 15 = x15 at *
        generalize x 16 = x16 at *
        clear x
        have hbs := (HG.out u hE).2.2.1
        have hcs := cell_of hbs
        have hfs := free_of hbs
        obtain ⟨xa, xn, xc, rfl⟩ := h16.1.isSlice
        gi_wp2_with fail
        have hne16 : (Value.slice xa xn xc).ownBlock ≠ some (w.heap.size + 1 + 1) := fun e => by
          rcases h16.2 with e' | ⟨k', e', hk'⟩
          · have := HRW.out.2.2.2.2.2 _ (by rw [← e']; exact e); have := HWS.out; omega
          · rw [e] at e'; cases e'; have := HBW6.out.size; have := lt_of_block HRW.out.2.2.2.1; omega
        have hkf : KeepsFrom W.heap.size w6 u := keepsFrom_grown HRW.out.2.2.2.2.1 hE
        have hkt : KeepT w6 u := KeepT.grown HRW.out.2.2.2.2.1 (by decide) (by decide) hE
        refine ⟨⟨(HKF6.out.trans hkf).trans ((KeepsOthers.setCell _ _ _).from _), (HG.out u hE).2.2.2.set (by omega) _ _, ?_, ?_, ⟨_, set_same hbs 0 _, ?_, ?_⟩⟩, (HKT6.out.trans hkt).trans (KeepT.set hbs (by decide) (by decide) _ _)⟩
        · rw [set_other (by omega)]; exact (HG.out u hE).1
        · rw [set_other (by omega)]; exact grownBy_block hE HRW.out.2.1 (fun e => by have := HRW.out.2.2.2.2.2 _ e.symm; have := HWS.out; omega)
        · rw [HYES.out hbb, List.length_append, List.length_singleton, spFlat, List.flatMap_append, ← spFlat, List.flatMap_cons, List.flatMap_nil, List.append_nil]
          exact h16.1.set hne16 _ _
        · intro g hg
          rcases h16.2 with e' | ⟨k', e', hk'⟩
          · exact HRW.out.2.2.2.2.2 g (by rw [← e']; exact hg)
          · rw [hg] at e'; cases e'; have := HWS2.out; have := HKF6.out.size; omega

    case neg =>
      have HWF : Hid (withFirst i (hr, i1, i2) = (hr, i1, i2)) := by show withFirst _ _ = _; unfold withFirst; rw [if_neg hi2]
      rw [HWF.out] at HYES HNO
      have HOT : Hid (¬ (i1 : Int) = i → barB F i (hr, i1, i2) = false) := fun h => by unfold barB; simp [h]
      have HSW0 : Hid ((i1 : Int) = i → barB F i (hr, i1, i2) = meetS (apart_nF F (F.nets.getD i1 netZ) (F.nets.getD i2 netZ) hr) (near_nF (F.nets.getD i1 netZ) (F.nets.getD i2 netZ) F.gap) ∧ barOf F (hr, i1, i2) = spAdd (near_eF (F.nets.getD i1 netZ) (F.nets.getD i2 netZ) F.gap) (spNeg (apart_eF F (F.nets.getD i1 netZ) (F.nets.getD i2 netZ) hr))) := fun h => by
        refine ⟨?_, rfl⟩; unfold barB; simp [h]
      have HPQ := hid (And.intro HAB.out.1 (And.intro HAB.out.2.1 HAB.out.2.2.1))
      clear HAB HWF
      generalize barB F i (hr, i1, i2) = BB at *
      generalize barOf F (hr, i1, i2) = BO at *
      generalize F.nets.getD i1 netZ = p at *
      generalize F.nets.getD i2 netZ = q at *
      simp only [pairA] at hc2 ⊢ HB
      have hbe : ((i2 : Int) == i) = false := by simpa using hi2
      gi_upto_region 7 with fail
      have HKF := hid (KeepsFrom.refl W.heap.size W2)
      have HKT := hid (KeepT.refl W2)
      obtain ⟨W3, hW3⟩ : ∃ W3, W3 = W2 := ⟨W2, rfl⟩
      rw [← hW3] at HBW HB ⊢
      have HKF : Hid (KeepsFrom W.heap.size W2 W3) := by rw [hW3]; exact HKF
      have HKT : Hid (KeepT W2 W3) := by rw [hW3]; exact HKT
      clear hW3 hc1 hc2 hbe
      obtain ⟨ip, hipe⟩ : ∃ ip, ip = i1 := ⟨i1, rfl⟩
      obtain ⟨iq, hiqe⟩ : ∃ iq, iq = i2 := ⟨i2, rfl⟩
      rw [← hipe, ← hiqe] at HB
      rw [← hipe] at HOT HSW0
      clear hipe hiqe hi2 hne12
      have HBX := hid HB.out.2.2.1
      have HAP := hid (fun (u : World) (hu : Ext W3 u) => And.intro (apart_e F HOK.out eb eo ec nb no nc sv (.slice ma F.nets.length mc) p q HPQ.out.1 HPQ.out.2.1 ip iq hr HPQ.out.2.2 u (HMEM.out u (HBW.out.trans hu)).1) (apart_n F HOK.out eb eo ec nb no nc sv (.slice ma F.nets.length mc) p q HPQ.out.1 HPQ.out.2.1 ip iq hr HPQ.out.2.2 u (HMEM.out u (HBW.out.trans hu)).2.1))
      by_cases hip : (ip : Int) = i
      case pos =>
        have HSW := hid (HSW0.out hip)
        subst hip
        cases hbb : BB
        case false =>
          have HMT : Hid (meetS (apart_nF F p q hr) (near_nF p q F.gap) = false) := by show meetS _ _ = false; rw [← HSW.out.1]; exact hbb
          refine lex_wide_r 20 [] (by kernel_rfl) (by kernel_rfl) (nStab_nil) ?_
          simp only [List.take_succ_cons, List.take_zero, List.drop_succ_cons, List.drop_zero]
          apply lex_fun (rfl : psAt _ _ = none)
          · intro x u hR hf
            clear hR hf
            go_simp
            exact ⟨rfl, Ext.refl _⟩
          simp only [Act.put, List.setIfInBounds_toArray, List.set_cons_succ, List.set_cons_zero]
          apply lex_fun (rfl : psAt _ _ = none)
          · intro x u hR hf
            clear hR hf
            go_simp
            exact ⟨rfl, Ext.refl _⟩
          simp only [Act.put, List.setIfInBounds_toArray, List.set_cons_succ, List.set_cons_zero]
          apply lex_fun (rfl : psAt _ _ = none)
          · intro x u hR hf
            have c2 := cell_of (hR.block HB.out.2.2.1)
            clear hR hf
            go_simp
            exact ⟨rfl, Ext.refl _⟩
          simp only [Act.put, List.setIfInBounds_toArray, List.set_cons_succ, List.set_cons_zero]
          apply lex_fun (rfl : psAt _ _ = none)
          · intro x u hR hf
            have c1 := cell_of (hR.block HB.out.2.1)
            clear hR hf
            go_simp
            exact ⟨rfl, Ext.refl _⟩
          simp only [Act.put, List.setIfInBounds_toArray, List.set_cons_succ, List.set_cons_zero]
          refine lex_fun (v := .bool false) (rfl : psAt _ _ = none) ?_ ?_
          · intro x u hR hf
            clear hR hf
            go_simp
            first | exact ⟨rfl, Ext.refl _⟩ | exact Ext.refl _
          simp only [Act.put, List.setIfInBounds_toArray, List.set_cons_succ, List.set_cons_zero]
          apply lex_fun (rfl : psAt _ _ = none)
          · intro x u hR hf
            clear hR hf
            go_simp
            exact ⟨rfl, Ext.refl _⟩
          simp only [Act.put, List.setIfInBounds_toArray, List.set_cons_succ, List.set_cons_zero]
          apply lex_fun (rfl : psAt _ _ = none)
          · intro x u hR hf
            have c0 := cell_of (hR.block HB.out.1)
            clear hR hf
            go_simp
            exact ⟨rfl, Ext.refl _⟩
          simp only [Act.put, List.setIfInBounds_toArray, List.set_cons_succ, List.set_cons_zero]
          refine lex_fun (v := .agg #[.int .i64 1, .func (.func 88) #[] #[], .func (.func 89) #[] #[], .func (.func 90) #[] #[], .func (.func 91) #[] #[]]) (rfl : psAt _ _ = none) ?_ ?_
          · intro x u hR hf
            have hcal := hid (side_n u)
            clear hR hf
            go_simp
            exact (callsIn_round l hcal.out).mono fun e w'' ⟨he, hx'⟩ => ⟨_, he, rfl, hx'⟩
          simp only [Act.put, List.setIfInBounds_toArray, List.set_cons_succ, List.set_cons_zero]
          refine lex_fun (v := .agg #[.int .i64 p.east, .int .i64 p.north, .int .i64 p.long, .int .i64 p.along, .int .i64 p.shot, .int .i64 p.haul, .int .i64 p.se.lo, .int .i64 p.se.hi, .int .i64 p.sn.lo, .int .i64 p.sn.hi, .int .i64 (ip : Int), .int .i64 q.east, .int .i64 q.north, .int .i64 q.long, .int .i64 q.along, .int .i64 q.shot, .int .i64 q.haul, .int .i64 q.se.lo, .int .i64 q.se.hi, .int .i64 q.sn.lo, .int .i64 q.sn.hi, .int .i64 (iq : Int)]) (rfl : psAt _ _ = none) ?_ ?_
          · intro x u hR hf
            rw [if_pos (show Region.wanted _ _ = true from rfl)]
            exact gives_load 127 (.tmp 7) rfl rfl (load_pair (hR.block HBX.out) rfl) ⟨rfl, Ext.refl _⟩
          simp only [Act.put, List.setIfInBounds_toArray, List.set_cons_succ, List.set_cons_zero]
          apply lex_fun (rfl : psAt _ _ = none)
          · intro x u hR hf
            clear hR hf
            go_simp
            exact ⟨rfl, Ext.refl _⟩
          simp only [Act.put, List.setIfInBounds_toArray, List.set_cons_succ, List.set_cons_zero]
          refine lex_fun (v := spnV (apart_nF F p q hr)) (rfl : psAt _ _ = none) ?_ ?_
          · intro x u hR hf
            have hcal := hid ((HAP.out u hR).2)
            clear hR hf
            go_simp
            exact (callsIn_round l hcal.out).mono fun e w'' ⟨he, hx'⟩ => ⟨_, he, rfl, hx'⟩
          simp only [Act.put, List.setIfInBounds_toArray, List.set_cons_succ, List.set_cons_zero]
          refine lex_fun (v := .agg #[.int .i64 1, .func (.func 88) #[] #[], .func (.func 89) #[] #[], .func (.func 90) #[] #[], .func (.func 91) #[] #[]]) (rfl : psAt _ _ = none) ?_ ?_
          · intro x u hR hf
            have hcal := hid (side_n u)
            clear hR hf
            go_simp
            exact (callsIn_round l hcal.out).mono fun e w'' ⟨he, hx'⟩ => ⟨_, he, rfl, hx'⟩
          simp only [Act.put, List.setIfInBounds_toArray, List.set_cons_succ, List.set_cons_zero]
          refine lex_fun (v := .agg #[.int .i64 p.east, .int .i64 p.north, .int .i64 p.long, .int .i64 p.along, .int .i64 p.shot, .int .i64 p.haul, .int .i64 p.se.lo, .int .i64 p.se.hi, .int .i64 p.sn.lo, .int .i64 p.sn.hi, .int .i64 (ip : Int), .int .i64 q.east, .int .i64 q.north, .int .i64 q.long, .int .i64 q.along, .int .i64 q.shot, .int .i64 q.haul, .int .i64 q.se.lo, .int .i64 q.se.hi, .int .i64 q.sn.lo, .int .i64 q.sn.hi, .int .i64 (iq : Int)]) (rfl : psAt _ _ = none) ?_ ?_
          · intro x u hR hf
            rw [if_pos (show Region.wanted _ _ = true from rfl)]
            exact gives_load 127 (.tmp 7) rfl rfl (load_pair (hR.block HBX.out) rfl) ⟨rfl, Ext.refl _⟩
          simp only [Act.put, List.setIfInBounds_toArray, List.set_cons_succ, List.set_cons_zero]
          apply lex_fun (rfl : psAt _ _ = none)
          · intro x u hR hf
            clear hR hf
            go_simp
            exact ⟨rfl, Ext.refl _⟩
          simp only [Act.put, List.setIfInBounds_toArray, List.set_cons_succ, List.set_cons_zero]
          apply lex_fun (rfl : psAt _ _ = none)
          · intro x u hR hf
            clear hR hf
            go_simp
            exact ⟨rfl, Ext.refl _⟩
          simp only [Act.put, List.setIfInBounds_toArray, List.set_cons_succ, List.set_cons_zero]
          apply lex_fun (rfl : psAt _ _ = none)
          · intro x u hR hf
            have c0 := cell_of (hR.block HB.out.1)
            clear hR hf
            go_simp
            exact ⟨rfl, Ext.refl _⟩
          simp only [Act.put, List.setIfInBounds_toArray, List.set_cons_succ, List.set_cons_zero]
          refine lex_fun (v := spnV (near_nF p q F.gap)) (rfl : psAt _ _ = none) ?_ ?_
          · intro x u hR hf
            have hcal := hid (near_n p q ip iq F.gap HOK.out.gap HPQ.out.1.long HPQ.out.2.1.long u)
            clear hR hf
            go_simp
            exact (callsIn_round l hcal.out).mono fun e w'' ⟨he, hx'⟩ => ⟨_, he, rfl, hx'⟩
          simp only [Act.put, List.setIfInBounds_toArray, List.set_cons_succ, List.set_cons_zero]
          refine lex_fun (v := .bool false) (rfl : psAt _ _ = none) ?_ ?_
          · intro x u hR hf
            have hcal := hid ((by have h := meet_any (apart_nF F p q hr).lo (apart_nF F p q hr).hi (near_nF p q F.gap).lo (near_nF p q F.gap).hi u; rw [show meetB (apart_nF F p q hr).lo (apart_nF F p q hr).hi (near_nF p q F.gap).lo (near_nF p q F.gap).hi = false from HMT.out] at h; exact h))
            clear hR hf
            go_simp
            exact (callsIn_round l hcal.out).mono fun e w'' ⟨he, hx'⟩ => ⟨_, he, rfl, hx'⟩
          simp only [Act.put, List.setIfInBounds_toArray, List.set_cons_succ, List.set_cons_zero]
          apply lex_fun (rfl : psAt _ _ = none)
          · intro x u hR hf
            clear hR hf
            go_simp
            exact ⟨rfl, Ext.refl _⟩
          simp only [Act.put, List.setIfInBounds_toArray, List.set_cons_succ, List.set_cons_zero]
          apply lex_fun (rfl : psAt _ _ = none)
          · intro x u hR hf
            clear hR hf
            go_simp
            exact ⟨rfl, Ext.refl _⟩
          simp only [Act.put, List.setIfInBounds_toArray, List.set_cons_succ, List.set_cons_zero]
          refine lex_nil fun x w6 hE hfacts => ?_
          clear hfacts x
          gi_wp2
          exact ⟨⟨HKF.out.trans (keepsFrom_ext hE), HBW.out.trans hE, hE.block HB.out.1, hE.block HB.out.2.1, by rw [HNO.out hbb]; obtain ⟨v, e1, e2, e3⟩ := HB.out.2.2.2; exact ⟨v, hE.block e1, e2.mono hE, e3⟩⟩, HKT.out.trans (KeepT.of_ext hE)⟩
        case true =>
          have HMT : Hid (meetS (apart_nF F p q hr) (near_nF p q F.gap) = true) := by show meetS _ _ = true; rw [← HSW.out.1]; exact hbb
          refine lex_wide_r 20 [] (by kernel_rfl) (by kernel_rfl) (nStab_nil) ?_
          simp only [List.take_succ_cons, List.take_zero, List.drop_succ_cons, List.drop_zero]
          apply lex_fun (rfl : psAt _ _ = none)
          · intro x u hR hf
            clear hR hf
            go_simp
            exact ⟨rfl, Ext.refl _⟩
          simp only [Act.put, List.setIfInBounds_toArray, List.set_cons_succ, List.set_cons_zero]
          apply lex_fun (rfl : psAt _ _ = none)
          · intro x u hR hf
            clear hR hf
            go_simp
            exact ⟨rfl, Ext.refl _⟩
          simp only [Act.put, List.setIfInBounds_toArray, List.set_cons_succ, List.set_cons_zero]
          apply lex_fun (rfl : psAt _ _ = none)
          · intro x u hR hf
            have c2 := cell_of (hR.block HB.out.2.2.1)
            clear hR hf
            go_simp
            exact ⟨rfl, Ext.refl _⟩
          simp only [Act.put, List.setIfInBounds_toArray, List.set_cons_succ, List.set_cons_zero]
          apply lex_fun (rfl : psAt _ _ = none)
          · intro x u hR hf
            have c1 := cell_of (hR.block HB.out.2.1)
            clear hR hf
            go_simp
            exact ⟨rfl, Ext.refl _⟩
          simp only [Act.put, List.setIfInBounds_toArray, List.set_cons_succ, List.set_cons_zero]
          refine lex_fun (v := .bool false) (rfl : psAt _ _ = none) ?_ ?_
          · intro x u hR hf
            clear hR hf
            go_simp
            first | exact ⟨rfl, Ext.refl _⟩ | exact Ext.refl _
          simp only [Act.put, List.setIfInBounds_toArray, List.set_cons_succ, List.set_cons_zero]
          apply lex_fun (rfl : psAt _ _ = none)
          · intro x u hR hf
            clear hR hf
            go_simp
            exact ⟨rfl, Ext.refl _⟩
          simp only [Act.put, List.setIfInBounds_toArray, List.set_cons_succ, List.set_cons_zero]
          apply lex_fun (rfl : psAt _ _ = none)
          · intro x u hR hf
            have c0 := cell_of (hR.block HB.out.1)
            clear hR hf
            go_simp
            exact ⟨rfl, Ext.refl _⟩
          simp only [Act.put, List.setIfInBounds_toArray, List.set_cons_succ, List.set_cons_zero]
          refine lex_fun (v := .agg #[.int .i64 1, .func (.func 88) #[] #[], .func (.func 89) #[] #[], .func (.func 90) #[] #[], .func (.func 91) #[] #[]]) (rfl : psAt _ _ = none) ?_ ?_
          · intro x u hR hf
            have hcal := hid (side_n u)
            clear hR hf
            go_simp
            exact (callsIn_round l hcal.out).mono fun e w'' ⟨he, hx'⟩ => ⟨_, he, rfl, hx'⟩
          simp only [Act.put, List.setIfInBounds_toArray, List.set_cons_succ, List.set_cons_zero]
          refine lex_fun (v := .agg #[.int .i64 p.east, .int .i64 p.north, .int .i64 p.long, .int .i64 p.along, .int .i64 p.shot, .int .i64 p.haul, .int .i64 p.se.lo, .int .i64 p.se.hi, .int .i64 p.sn.lo, .int .i64 p.sn.hi, .int .i64 (ip : Int), .int .i64 q.east, .int .i64 q.north, .int .i64 q.long, .int .i64 q.along, .int .i64 q.shot, .int .i64 q.haul, .int .i64 q.se.lo, .int .i64 q.se.hi, .int .i64 q.sn.lo, .int .i64 q.sn.hi, .int .i64 (iq : Int)]) (rfl : psAt _ _ = none) ?_ ?_
          · intro x u hR hf
            rw [if_pos (show Region.wanted _ _ = true from rfl)]
            exact gives_load 127 (.tmp 7) rfl rfl (load_pair (hR.block HBX.out) rfl) ⟨rfl, Ext.refl _⟩
          simp only [Act.put, List.setIfInBounds_toArray, List.set_cons_succ, List.set_cons_zero]
          apply lex_fun (rfl : psAt _ _ = none)
          · intro x u hR hf
            clear hR hf
            go_simp
            exact ⟨rfl, Ext.refl _⟩
          simp only [Act.put, List.setIfInBounds_toArray, List.set_cons_succ, List.set_cons_zero]
          refine lex_fun (v := spnV (apart_nF F p q hr)) (rfl : psAt _ _ = none) ?_ ?_
          · intro x u hR hf
            have hcal := hid ((HAP.out u hR).2)
            clear hR hf
            go_simp
            exact (callsIn_round l hcal.out).mono fun e w'' ⟨he, hx'⟩ => ⟨_, he, rfl, hx'⟩
          simp only [Act.put, List.setIfInBounds_toArray, List.set_cons_succ, List.set_cons_zero]
          refine lex_fun (v := .agg #[.int .i64 1, .func (.func 88) #[] #[], .func (.func 89) #[] #[], .func (.func 90) #[] #[], .func (.func 91) #[] #[]]) (rfl : psAt _ _ = none) ?_ ?_
          · intro x u hR hf
            have hcal := hid (side_n u)
            clear hR hf
            go_simp
            exact (callsIn_round l hcal.out).mono fun e w'' ⟨he, hx'⟩ => ⟨_, he, rfl, hx'⟩
          simp only [Act.put, List.setIfInBounds_toArray, List.set_cons_succ, List.set_cons_zero]
          refine lex_fun (v := .agg #[.int .i64 p.east, .int .i64 p.north, .int .i64 p.long, .int .i64 p.along, .int .i64 p.shot, .int .i64 p.haul, .int .i64 p.se.lo, .int .i64 p.se.hi, .int .i64 p.sn.lo, .int .i64 p.sn.hi, .int .i64 (ip : Int), .int .i64 q.east, .int .i64 q.north, .int .i64 q.long, .int .i64 q.along, .int .i64 q.shot, .int .i64 q.haul, .int .i64 q.se.lo, .int .i64 q.se.hi, .int .i64 q.sn.lo, .int .i64 q.sn.hi, .int .i64 (iq : Int)]) (rfl : psAt _ _ = none) ?_ ?_
          · intro x u hR hf
            rw [if_pos (show Region.wanted _ _ = true from rfl)]
            exact gives_load 127 (.tmp 7) rfl rfl (load_pair (hR.block HBX.out) rfl) ⟨rfl, Ext.refl _⟩
          simp only [Act.put, List.setIfInBounds_toArray, List.set_cons_succ, List.set_cons_zero]
          apply lex_fun (rfl : psAt _ _ = none)
          · intro x u hR hf
            clear hR hf
            go_simp
            exact ⟨rfl, Ext.refl _⟩
          simp only [Act.put, List.setIfInBounds_toArray, List.set_cons_succ, List.set_cons_zero]
          apply lex_fun (rfl : psAt _ _ = none)
          · intro x u hR hf
            clear hR hf
            go_simp
            exact ⟨rfl, Ext.refl _⟩
          simp only [Act.put, List.setIfInBounds_toArray, List.set_cons_succ, List.set_cons_zero]
          apply lex_fun (rfl : psAt _ _ = none)
          · intro x u hR hf
            have c0 := cell_of (hR.block HB.out.1)
            clear hR hf
            go_simp
            exact ⟨rfl, Ext.refl _⟩
          simp only [Act.put, List.setIfInBounds_toArray, List.set_cons_succ, List.set_cons_zero]
          refine lex_fun (v := spnV (near_nF p q F.gap)) (rfl : psAt _ _ = none) ?_ ?_
          · intro x u hR hf
            have hcal := hid (near_n p q ip iq F.gap HOK.out.gap HPQ.out.1.long HPQ.out.2.1.long u)
            clear hR hf
            go_simp
            exact (callsIn_round l hcal.out).mono fun e w'' ⟨he, hx'⟩ => ⟨_, he, rfl, hx'⟩
          simp only [Act.put, List.setIfInBounds_toArray, List.set_cons_succ, List.set_cons_zero]
          refine lex_fun (v := .bool true) (rfl : psAt _ _ = none) ?_ ?_
          · intro x u hR hf
            have hcal := hid ((by have h := meet_any (apart_nF F p q hr).lo (apart_nF F p q hr).hi (near_nF p q F.gap).lo (near_nF p q F.gap).hi u; rw [show meetB (apart_nF F p q hr).lo (apart_nF F p q hr).hi (near_nF p q F.gap).lo (near_nF p q F.gap).hi = true from HMT.out] at h; exact h))
            clear hR hf
            go_simp
            exact (callsIn_round l hcal.out).mono fun e w'' ⟨he, hx'⟩ => ⟨_, he, rfl, hx'⟩
          simp only [Act.put, List.setIfInBounds_toArray, List.set_cons_succ, List.set_cons_zero]
          apply lex_fun (rfl : psAt _ _ = none)
          · intro x u hR hf
            clear hR hf
            go_simp
            exact ⟨rfl, Ext.refl _⟩
          simp only [Act.put, List.setIfInBounds_toArray, List.set_cons_succ, List.set_cons_zero]
          apply lex_fun (rfl : psAt _ _ = none)
          · intro x u hR hf
            clear hR hf
            go_simp
            exact ⟨rfl, Ext.refl _⟩
          simp only [Act.put, List.setIfInBounds_toArray, List.set_cons_succ, List.set_cons_zero]
          refine lex_nil fun x w6 hE hfacts => ?_
          clear hfacts x
          gi_upto_region 8 with fail
          have HBW6 := hid (HBW.out.trans hE)
          have HKF6 := hid (HKF.out.trans (keepsFrom_ext hE))
          have HKT6 := hid (HKT.out.trans (KeepT.of_ext hE))
          obtain ⟨v, e1, e2, e3⟩ := HB.out.2.2.2
          have HRW := hid (And.intro (hE.block HB.out.1) (And.intro (hE.block HB.out.2.1) (And.intro (hE.block HB.out.2.2.1) (And.intro (hE.block e1) (And.intro (e2.mono hE) e3)))))
          clear e1 e2 e3 HB HBX HKF HKT HMT hE
          have hobl : ∀ g, v.ownBlock = some g → g < w6.heap.size := fun g hg => HRW.out.2.2.2.2.1.lt hg
          have HOB := hid hobl
          have HG := hid (fun (u : World) (hu : w6.grownBy u v.ownBlock) => And.intro (grownBy_block hu HRW.out.1 (fun e => by have := HRW.out.2.2.2.2.2 _ e.symm; have := HWS.out; omega)) (And.intro (grownBy_block hu HRW.out.2.2.1 (fun e => absurd (HRW.out.2.2.2.2.1.typ e.symm HRW.out.2.2.1) (by decide))) (And.intro (grownBy_block hu HRW.out.2.2.2.1 (fun e => by have := HRW.out.2.2.2.2.2 _ e.symm; have := HWS.out; omega)) (show Ext w u from Below.trans HBW6.out ⟨hu.os, hu.tape, hu.output, hu.size, fun j hj => hu.block j (Nat.lt_of_lt_of_le hj HBW6.out.size) (fun e => by have := HRW.out.2.2.2.2.2 _ e.symm; have := HWS.out; omega)⟩))))
          have HAQ := hid (fun (u : World) (hu : Ext w u) => apart_e F HOK.out eb eo ec nb no nc sv (.slice ma F.nets.length mc) p q HPQ.out.1 HPQ.out.2.1 ip iq hr HPQ.out.2.2 u (HMEM.out u hu).1)
          have HNB := hid (near_apart_small HOK.out HPQ.out.1 HPQ.out.2.1 HPQ.out.2.2 : SmallSp (near_eF p q F.gap) ∧ SmallSp (spNeg (apart_eF F p q hr)) ∧ SmallSp (apart_eF F p q hr))
          have HNEC := hid (fun (u : World) => near_e p q ip iq F.gap HOK.out.gap HPQ.out.1.long HPQ.out.2.1.long u)
          have HSUM : Hid (spAdd (near_eF p q F.gap) (spNeg (apart_eF F p q hr)) = BO) := HSW.out.2.symm
          clear hobl HAP HSW
          generalize near_eF p q F.gap = ne at *
          generalize apart_eF F p q hr = ap at *
          refine lex_own_r 17 [(13, gTwo w6.heap.size ne (spNeg ap)), (15, gRow 56 w6.heap.size (spCells BO)), (16, gNew 56 2 w6.heap.size ((barTo F ip r).length + 1) v.ownBlock (spFlat (barTo F ip r) ++ spCells BO))] (gR v.ownBlock 16) (gC w6 v.ownBlock 16) (fun u => w6.grownBy u v.ownBlock) (by kernel_rfl) (by kernel_rfl)
            (fun i => ?_) ((Ext.drawn w6).grown _) gC_ok gE_ok (gStab_free (gTwo_free fun g hg => HOB.out g hg) (gStab_free (gRow_free fun g hg => HOB.out g hg) (gStab_last gNew_ext gStab_nil))) ?_
          · unfold gC
            split
            · exact Ext.drawn w6
            · exact (Ext.drawn w6).grown _
          simp only [List.take_succ_cons, List.take_zero, List.drop_succ_cons, List.drop_zero]
          apply gg_fun rfl (by omega)
          · intro x u hR
            have c1 := cell_of (HG.out u hR).2.2.1
            clear hR
            go_simp
            exact ⟨rfl, Ext.refl _⟩
          simp only [Act.put, List.setIfInBounds_toArray, List.set_cons_succ, List.set_cons_zero]
          refine gg_fun (v := .agg #[.int .i64 0, .func (.func 84) #[] #[], .func (.func 85) #[] #[], .func (.func 86) #[] #[], .func (.func 87) #[] #[]]) rfl (by omega) ?_ ?_
          · intro x u hR
            have hcal := hid (side_e u)
            clear hR
            go_simp
            exact (callsIn_round l hcal.out).mono fun e w'' ⟨he, hx'⟩ => ⟨_, he, rfl, hx'⟩
          simp only [Act.put, List.setIfInBounds_toArray, List.set_cons_succ, List.set_cons_zero]
          refine gg_fun (v := .agg #[.int .i64 p.east, .int .i64 p.north, .int .i64 p.long, .int .i64 p.along, .int .i64 p.shot, .int .i64 p.haul, .int .i64 p.se.lo, .int .i64 p.se.hi, .int .i64 p.sn.lo, .int .i64 p.sn.hi, .int .i64 (ip : Int), .int .i64 q.east, .int .i64 q.north, .int .i64 q.long, .int .i64 q.along, .int .i64 q.shot, .int .i64 q.haul, .int .i64 q.se.lo, .int .i64 q.se.hi, .int .i64 q.sn.lo, .int .i64 q.sn.hi, .int .i64 (iq : Int)]) rfl (by omega) ?_ ?_
          · intro x u hR
            rw [if_pos (show Region.wanted _ _ = true from rfl)]
            exact gives_load 127 (.tmp 7) rfl rfl (load_pair (HG.out u hR).2.1 rfl) ⟨rfl, Ext.refl _⟩
          simp only [Act.put, List.setIfInBounds_toArray, List.set_cons_succ, List.set_cons_zero]
          apply gg_fun rfl (by omega)
          · intro x u hR
            clear hR
            go_simp
            exact ⟨rfl, Ext.refl _⟩
          simp only [Act.put, List.setIfInBounds_toArray, List.set_cons_succ, List.set_cons_zero]
          apply gg_fun rfl (by omega)
          · intro x u hR
            clear hR
            go_simp
            exact ⟨rfl, Ext.refl _⟩
          simp only [Act.put, List.setIfInBounds_toArray, List.set_cons_succ, List.set_cons_zero]
          apply gg_fun rfl (by omega)
          · intro x u hR
            have c0 := cell_of (HG.out u hR).1
            clear hR
            go_simp
            exact ⟨rfl, Ext.refl _⟩
          simp only [Act.put, List.setIfInBounds_toArray, List.set_cons_succ, List.set_cons_zero]
          refine gg_fun (v := spnV ne) rfl (by omega) ?_ ?_
          · intro x u hR
            have hcal := hid (HNEC.out u)
            clear hR
            go_simp
            exact (callsIn_round l hcal.out).mono fun e w'' ⟨he, hx'⟩ => ⟨_, he, rfl, hx'⟩
          simp only [Act.put, List.setIfInBounds_toArray, List.set_cons_succ, List.set_cons_zero]
          apply gg_fun rfl (by omega)
          · intro x u hR
            have c0 := cell_of (HG.out u hR).1
            clear hR
            go_simp
            exact ⟨rfl, Ext.refl _⟩
          simp only [Act.put, List.setIfInBounds_toArray, List.set_cons_succ, List.set_cons_zero]
          refine gg_fun (v := .agg #[.int .i64 0, .func (.func 84) #[] #[], .func (.func 85) #[] #[], .func (.func 86) #[] #[], .func (.func 87) #[] #[]]) rfl (by omega) ?_ ?_
          · intro x u hR
            have hcal := hid (side_e u)
            clear hR
            go_simp
            exact (callsIn_round l hcal.out).mono fun e w'' ⟨he, hx'⟩ => ⟨_, he, rfl, hx'⟩
          simp only [Act.put, List.setIfInBounds_toArray, List.set_cons_succ, List.set_cons_zero]
          refine gg_fun (v := .agg #[.int .i64 p.east, .int .i64 p.north, .int .i64 p.long, .int .i64 p.along, .int .i64 p.shot, .int .i64 p.haul, .int .i64 p.se.lo, .int .i64 p.se.hi, .int .i64 p.sn.lo, .int .i64 p.sn.hi, .int .i64 (ip : Int), .int .i64 q.east, .int .i64 q.north, .int .i64 q.long, .int .i64 q.along, .int .i64 q.shot, .int .i64 q.haul, .int .i64 q.se.lo, .int .i64 q.se.hi, .int .i64 q.sn.lo, .int .i64 q.sn.hi, .int .i64 (iq : Int)]) rfl (by omega) ?_ ?_
          · intro x u hR
            rw [if_pos (show Region.wanted _ _ = true from rfl)]
            exact gives_load 127 (.tmp 7) rfl rfl (load_pair (HG.out u hR).2.1 rfl) ⟨rfl, Ext.refl _⟩
          simp only [Act.put, List.setIfInBounds_toArray, List.set_cons_succ, List.set_cons_zero]
          apply gg_fun rfl (by omega)
          · intro x u hR
            clear hR
            go_simp
            exact ⟨rfl, Ext.refl _⟩
          simp only [Act.put, List.setIfInBounds_toArray, List.set_cons_succ, List.set_cons_zero]
          refine gg_fun (v := spnV ap) rfl (by omega) ?_ ?_
          · intro x u hR
            have hcal := hid (HAQ.out u (HG.out u hR).2.2.2)
            clear hR
            go_simp
            exact (callsIn_round l hcal.out).mono fun e w'' ⟨he, hx'⟩ => ⟨_, he, rfl, hx'⟩
          simp only [Act.put, List.setIfInBounds_toArray, List.set_cons_succ, List.set_cons_zero]
          refine gg_fun (v := spnV (spNeg ap)) rfl (by omega) ?_ ?_
          · intro x u hR
            have hcal := hid (minus_any ap.lo ap.hi HNB.out.2.2.1 HNB.out.2.2.2 u)
            clear hR
            go_simp
            exact (callsIn_round l hcal.out).mono fun e w'' ⟨he, hx'⟩ => ⟨_, he, rfl, hx'⟩
          simp only [Act.put, List.setIfInBounds_toArray, List.set_cons_succ, List.set_cons_zero]
          refine gg_pred (p := gTwo w6.heap.size ne (spNeg ap)) rfl (by omega) ?_ ?_
          · intro x u hR hf
            have hn := hR.size
            clear hR hf
            simp only [spnV]
            go_simp
            exact ⟨⟨_, rfl, Ext.new (Ext.refl _), hn⟩, (Ext.refl _).alloc _⟩
          simp only [Act.put, List.setIfInBounds_toArray, List.set_cons_succ, List.set_cons_zero]
          refine gg_fun' (v := spnV BO) rfl (by omega) ?_ ?_
          · intro x u hR hf
            have h13 : gTwo w6.heap.size ne (spNeg ap) (x 13) u := by first | exact hf.1 rfl | exact hf.2.1 rfl
            obtain ⟨g, e13, hg, hgn⟩ := h13
            have hcal := hid (sum_any (x 13) [ne, spNeg ap] u (by rw [e13]; exact spans_pair hg) (fun s hs => by rcases List.mem_cons.1 hs with rfl | hs; exact HNB.out.1; rcases List.mem_cons.1 hs with rfl | hs; exact HNB.out.2.1; cases hs) (by simp))
            rw [show (⟨sumLo [ne, spNeg ap], sumHi [ne, spNeg ap]⟩ : Spn) = BO from (sumSp_two _ _).trans HSUM.out] at hcal
            clear hR hf hg e13 hgn
            go_simp
            exact (callsIn_round l hcal.out).mono fun e w'' ⟨he, hx'⟩ => ⟨_, he, rfl, hx'⟩
          simp only [Act.put, List.setIfInBounds_toArray, List.set_cons_succ, List.set_cons_zero]
          refine gg_pred (p := gRow 56 w6.heap.size (spCells BO)) rfl (by omega) ?_ ?_
          · intro x u hR hf
            have hn := hR.size
            clear hR hf
            simp only [spnV]
            go_simp
            exact ⟨⟨_, rfl, Ext.new (Ext.refl _), hn⟩, (Ext.refl _).alloc _⟩
          simp only [Act.put, List.setIfInBounds_toArray, List.set_cons_succ, List.set_cons_zero]
          refine gg_last (p := gNew 56 2 w6.heap.size ((barTo F ip r).length + 1) v.ownBlock (spFlat (barTo F ip r) ++ spCells BO)) rfl ?_ ?_
          · intro x u hR hf
            have h15 : gRow 56 w6.heap.size (spCells BO) (x 15) u := by first | exact hf.1 rfl | exact hf.2.1 rfl | exact hf.2.2.1 rfl
            clear hf
            obtain ⟨g, e15, hg, hgn⟩ := h15
            obtain ⟨i0, hi0, hz0, hz1, hz2⟩ := info_parts info56
            obtain ⟨v', w', hrun, hrow', hgr, how, hown⟩ := append_row (sz := 2) (bytes := 16) (t := 37) (ty := 37) Try.underlying37 hi0 hz0 hz1 hz2 (by simp [Value.cells]) (by omega) (HRW.out.2.2.2.2.1.mono hR) ⟨g, 0, none⟩ 1 (spCells BO) rfl
              (fun j z hj => by rw [Addr.add_mid, Nat.zero_add, cell_of hg]; simpa using hj) (fun z hz => by simp [spCells] at hz; rcases hz with rfl | rfl <;> rfl) (by have := HTK.out; have := HTL.out; omega) (by omega)
            have HRX := hid (And.intro hrow' (And.intro hgr how))
            have hun := hR.size
            clear hR hg hrow' hgr how hown hi0 hz0 hz1 hz2
            rw [if_pos (show Region.wanted _ _ = true from rfl)]
            exact gives_append (.tmp 42) (.tmp 57) 37 rfl rfl e15 hrun ⟨⟨HRX.out.1, HRX.out.2.2.imp id fun e => ⟨_, e, hun⟩⟩, HRX.out.2.1⟩
          simp only [Act.put, List.setIfInBounds_toArray, List.set_cons_succ, List.set_cons_zero]
          refine lex_nil fun x u hE hfacts => ?_
          have h16 : gNew 56 2 w6.heap.size ((barTo F ip r).length + 1) v.ownBlock (spFlat (barTo F ip r) ++ spCells BO) (x 16) u := hfacts 16 _ (by omega) rfl
          clear hfacts
          generalize x 13 = x13 at *
          generalize x 15 = x15 at *
          generalize x 16 = x16 at *
          clear x
          have hbs := (HG.out u hE).2.2.1
          have hcs := cell_of hbs
          have hfs := free_of hbs
          obtain ⟨xa, xn, xc, rfl⟩ := h16.1.isSlice
          gi_wp2_with fail
          have hne16 : (Value.slice xa xn xc).ownBlock ≠ some (w.heap.size + 1 + 1) := fun e => by
            rcases h16.2 with e' | ⟨k', e', hk'⟩
            · have := HRW.out.2.2.2.2.2 _ (by rw [← e']; exact e); have := HWS.out; omega
            · rw [e] at e'; cases e'; have := HBW6.out.size; have := lt_of_block HRW.out.2.2.2.1; omega
          have hkf : KeepsFrom W.heap.size w6 u := keepsFrom_grown HRW.out.2.2.2.2.1 hE
          have hkt : KeepT w6 u := KeepT.grown HRW.out.2.2.2.2.1 (by decide) (by decide) hE
          refine ⟨⟨(HKF6.out.trans hkf).trans ((KeepsOthers.setCell _ _ _).from _), (HG.out u hE).2.2.2.set (by omega) _ _, ?_, ?_, ⟨_, set_same hbs 0 _, ?_, ?_⟩⟩, (HKT6.out.trans hkt).trans (KeepT.set hbs (by decide) (by decide) _ _)⟩
          · rw [set_other (by omega)]; exact (HG.out u hE).1
          · rw [set_other (by omega)]; exact grownBy_block hE HRW.out.2.1 (fun e => by have := HRW.out.2.2.2.2.2 _ e.symm; have := HWS.out; omega)
          · rw [HYES.out hbb, List.length_append, List.length_singleton, spFlat, List.flatMap_append, ← spFlat, List.flatMap_cons, List.flatMap_nil, List.append_nil]
            exact h16.1.set hne16 _ _
          · intro g hg
            rcases h16.2 with e' | ⟨k', e', hk'⟩
            · exact HRW.out.2.2.2.2.2 g (by rw [← e']; exact hg)
            · rw [hg] at e'; cases e'; have := HWS2.out; have := HKF6.out.size; omega

      case neg =>
        have hbb : BB = false := HOT.out hip
        refine lex_wide_r 20 [] (by kernel_rfl) (by kernel_rfl) (nStab_nil) ?_
        simp only [List.take_succ_cons, List.take_zero, List.drop_succ_cons, List.drop_zero]
        apply lex_fun (rfl : psAt _ _ = none)
        · intro x u hR hf
          clear hR hf
          go_simp
          exact ⟨rfl, Ext.refl _⟩
        simp only [Act.put, List.setIfInBounds_toArray, List.set_cons_succ, List.set_cons_zero]
        apply lex_fun (rfl : psAt _ _ = none)
        · intro x u hR hf
          clear hR hf
          go_simp
          exact ⟨rfl, Ext.refl _⟩
        simp only [Act.put, List.setIfInBounds_toArray, List.set_cons_succ, List.set_cons_zero]
        apply lex_fun (rfl : psAt _ _ = none)
        · intro x u hR hf
          have c2 := cell_of (hR.block HB.out.2.2.1)
          clear hR hf
          go_simp
          exact ⟨rfl, Ext.refl _⟩
        simp only [Act.put, List.setIfInBounds_toArray, List.set_cons_succ, List.set_cons_zero]
        apply lex_fun (rfl : psAt _ _ = none)
        · intro x u hR hf
          have c1 := cell_of (hR.block HB.out.2.1)
          clear hR hf
          go_simp
          exact ⟨rfl, Ext.refl _⟩
        simp only [Act.put, List.setIfInBounds_toArray, List.set_cons_succ, List.set_cons_zero]
        refine lex_fun (v := .bool true) (rfl : psAt _ _ = none) ?_ ?_
        · intro x u hR hf
          have hne : ((ip : Int) == i) = false := by simpa using hip
          clear hR hf
          go_simp
          first | exact ⟨rfl, Ext.refl _⟩ | exact Ext.refl _
        simp only [Act.put, List.setIfInBounds_toArray, List.set_cons_succ, List.set_cons_zero]
        apply lex_fun (rfl : psAt _ _ = none)
        · intro x u hR hf
          clear hR hf
          go_simp
          exact ⟨rfl, Ext.refl _⟩
        simp only [Act.put, List.setIfInBounds_toArray, List.set_cons_succ, List.set_cons_zero]
        refine lex_fun (v := undef) (rfl : psAt _ _ = none) ?_ ?_
        · intro x u hR hf
          clear hR hf
          first | (go_simp; done) | (go_simp; rfl)
        simp only [Act.put, List.setIfInBounds_toArray, List.set_cons_succ, List.set_cons_zero]
        refine lex_fun (v := undef) (rfl : psAt _ _ = none) ?_ ?_
        · intro x u hR hf
          clear hR hf
          first | (go_simp; done) | (go_simp; rfl)
        simp only [Act.put, List.setIfInBounds_toArray, List.set_cons_succ, List.set_cons_zero]
        refine lex_fun (v := undef) (rfl : psAt _ _ = none) ?_ ?_
        · intro x u hR hf
          clear hR hf
          first | (go_simp; done) | (go_simp; rfl)
        simp only [Act.put, List.setIfInBounds_toArray, List.set_cons_succ, List.set_cons_zero]
        refine lex_fun (v := undef) (rfl : psAt _ _ = none) ?_ ?_
        · intro x u hR hf
          clear hR hf
          first | (go_simp; done) | (go_simp; rfl)
        simp only [Act.put, List.setIfInBounds_toArray, List.set_cons_succ, List.set_cons_zero]
        refine lex_fun (v := undef) (rfl : psAt _ _ = none) ?_ ?_
        · intro x u hR hf
          clear hR hf
          first | (go_simp; done) | (go_simp; rfl)
        simp only [Act.put, List.setIfInBounds_toArray, List.set_cons_succ, List.set_cons_zero]
        refine lex_fun (v := undef) (rfl : psAt _ _ = none) ?_ ?_
        · intro x u hR hf
          clear hR hf
          first | (go_simp; done) | (go_simp; rfl)
        simp only [Act.put, List.setIfInBounds_toArray, List.set_cons_succ, List.set_cons_zero]
        refine lex_fun (v := undef) (rfl : psAt _ _ = none) ?_ ?_
        · intro x u hR hf
          clear hR hf
          first | (go_simp; done) | (go_simp; rfl)
        simp only [Act.put, List.setIfInBounds_toArray, List.set_cons_succ, List.set_cons_zero]
        refine lex_fun (v := undef) (rfl : psAt _ _ = none) ?_ ?_
        · intro x u hR hf
          clear hR hf
          first | (go_simp; done) | (go_simp; rfl)
        simp only [Act.put, List.setIfInBounds_toArray, List.set_cons_succ, List.set_cons_zero]
        refine lex_fun (v := undef) (rfl : psAt _ _ = none) ?_ ?_
        · intro x u hR hf
          clear hR hf
          first | (go_simp; done) | (go_simp; rfl)
        simp only [Act.put, List.setIfInBounds_toArray, List.set_cons_succ, List.set_cons_zero]
        refine lex_fun (v := undef) (rfl : psAt _ _ = none) ?_ ?_
        · intro x u hR hf
          clear hR hf
          first | (go_simp; done) | (go_simp; rfl)
        simp only [Act.put, List.setIfInBounds_toArray, List.set_cons_succ, List.set_cons_zero]
        refine lex_fun (v := undef) (rfl : psAt _ _ = none) ?_ ?_
        · intro x u hR hf
          clear hR hf
          first | (go_simp; done) | (go_simp; rfl)
        simp only [Act.put, List.setIfInBounds_toArray, List.set_cons_succ, List.set_cons_zero]
        refine lex_fun (v := undef) (rfl : psAt _ _ = none) ?_ ?_
        · intro x u hR hf
          clear hR hf
          first | (go_simp; done) | (go_simp; rfl)
        simp only [Act.put, List.setIfInBounds_toArray, List.set_cons_succ, List.set_cons_zero]
        refine lex_fun (v := undef) (rfl : psAt _ _ = none) ?_ ?_
        · intro x u hR hf
          clear hR hf
          first | (go_simp; done) | (go_simp; rfl)
        simp only [Act.put, List.setIfInBounds_toArray, List.set_cons_succ, List.set_cons_zero]
        apply lex_fun (rfl : psAt _ _ = none)
        · intro x u hR hf
          clear hR hf
          go_simp
          exact ⟨rfl, Ext.refl _⟩
        simp only [Act.put, List.setIfInBounds_toArray, List.set_cons_succ, List.set_cons_zero]
        refine lex_nil fun x w6 hE hfacts => ?_
        clear hfacts x
        gi_wp2
        exact ⟨⟨HKF.out.trans (keepsFrom_ext hE), HBW.out.trans hE, hE.block HB.out.1, hE.block HB.out.2.1, by rw [HNO.out hbb]; obtain ⟨v, e1, e2, e3⟩ := HB.out.2.2.2; exact ⟨v, hE.block e1, e2.mono hE, e3⟩⟩, HKT.out.trans (KeepT.of_ext hE)⟩

  case done =>
    rintro D W2 hD ⟨hbelW, hb0, hb1, hb2⟩ hK
    obtain ⟨v, e1, e2, e3⟩ := hb2.out
    have hcy := cell_of e1
    have HRW := hid (And.intro e1 (And.intro e2 e3))
    have HBW := hid (show Ext w W2 from hbelW)
    clear e1 e2 e3 hb0 hb1 hb2 hbelW
    rw [HLEN.out, barTo_all] at HRW
    gi_wp2_with fail
    have hD2 : D ≠ w.heap.size + 1 + 1 := by have := HWS.out; omega
    refine leave_mark hK (v := v) (by simp [results, Try.results64, go_sem]) ⟨v, rfl, ?_, ?_, ?_⟩
    · exact (put_past (B := w.heap.size) _ _ (by have := HWS.out; omega)).below HBW.out (Nat.le_refl _) (Nat.le_refl _)
    · exact HRW.out.2.1.kept fun k o hk ho => by
        rw [World.putObj_heap_other (by rintro rfl; have h := HRW.out.2.1.isCells hk ho; rw [hK] at ho; cases ho; cases h)]; exact ho
    · intro g hg
      have := HRW.out.2.2 g hg; have := HWS.out; omega

end Go.Proofs.Ytmjelgonhpgmbaa
