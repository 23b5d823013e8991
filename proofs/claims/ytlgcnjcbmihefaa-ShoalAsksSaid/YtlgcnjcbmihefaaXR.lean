/- Whether chosen casts cover every cell, by the program and by the search. -/
import Derived.Test.YtlgcnjcbmihefaaXQ
set_option linter.unusedSimpArgs false
set_option linter.unusedVariables false
namespace Go.Proofs.Ytlgcnjcbmihefaa
open Go Go.RowKit Go.Shelf

def meetsB (D : SeaD) (cs : List Cst) (sm cells : List Nat) : Bool := cells.all fun c => sm.any fun i => covB D (cs.getD i ⟨0, 0⟩) c
def covG (D : SeaD) (cs : List Cst) (i : Nat) (p : Int × Int) : Bool := decide (dist (col (seaOf D) (cs.getD i ⟨0, 0⟩).cell) (row (seaOf D) (cs.getD i ⟨0, 0⟩).cell) p.1 p.2 ≤ (cs.getD i ⟨0, 0⟩).far)
theorem seekF_G (D : SeaD) (cs : List Cst) : ∀ (m : Nat) (ch : List Nat) (ps : List (Int × Int)), seekF D cs m ch ps = seekG (covG D cs) cs.length m ch ps
  | 0, _, _ => rfl
  | m + 1, ch, ps => by
    unfold seekF seekG
    congr 1
    funext i
    exact seekF_G D cs m _ _
theorem fcF_G (D : SeaD) (cs : List Cst) (ps : List (Int × Int)) : fcF D cs ps = fcG (covG D cs) cs.length ps := by
  unfold fcF fcG
  congr 1
  funext k
  exact seekF_G D cs _ _ _
theorem meetsB_cover {D : SeaD} {cs : List Cst} {sm cells : List Nat} : meetsB D cs sm cells = true ↔ coverB (covG D cs) sm (placesOf D cells) := by
  unfold meetsB coverB placesOf
  rw [List.all_eq_true]
  constructor
  · intro h p hp
    obtain ⟨c, hc, rfl⟩ := List.mem_map.mp hp
    obtain ⟨i, hi, hci⟩ := List.any_eq_true.mp (h c hc)
    exact ⟨i, hi, hci⟩
  · intro h c hc
    obtain ⟨i, hi, hci⟩ := h _ (List.mem_map.mpr ⟨c, hc, rfl⟩)
    exact List.any_eq_true.mpr ⟨i, hi, hci⟩
theorem any_take {α : Type} (f : α → Bool) (l : List α) (k : Nat) (h : k < l.length) : (l.take (k + 1)).any f = ((l.take k).any f || f l[k]) := by
  rw [List.take_succ_eq_append_getElem h, List.any_append]; simp
theorem all_take {α : Type} (f : α → Bool) (l : List α) (k : Nat) (h : k < l.length) : (l.take (k + 1)).all f = ((l.take k).all f && f l[k]) := by
  rw [List.take_succ_eq_append_getElem h, List.all_append]; simp

set_option maxRecDepth 100000 in
set_option maxHeartbeats 2000000 in
theorem meets_any (D : SeaD) (cs : List Cst) (lv dv cv v2 v3 : Value) (sm cells : List Nat) (w : World) (hcv : CastsAt w cv cs) (h2 : NatsAt w v2 sm) (h3 : NatsAt w v3 cells) (hw : 1 ≤ D.wide ∧ D.wide ≤ 10)
    (hcs : ∀ c ∈ cs, 0 ≤ c.cell ∧ c.cell ≤ 1000) (hsm : ∀ i ∈ sm, i < cs.length) (hce : ∀ c ∈ cells, c < 1000) (hl2 : sm.length ≤ 1000) (hl3 : cells.length ≤ 1000) :
    Cal 42 #[seaVal D lv dv, cv, v2, v3] w fun e w' => e = .returned (.bool (meetsB D cs sm cells)) ∧ Ext w w' := by
  unfold seaVal
  obtain ⟨ca, ccap, rfl, hcl, hcc⟩ := hcv
  obtain ⟨sa, scap, rfl, hsc⟩ := h2
  obtain ⟨la, lcap, rfl, hlc⟩ := h3
  have HCC := hid hcc
  have HSC := hid hsc
  have HLC := hid hlc
  have HCS := hid hcs
  have HSM := hid hsm
  have HCE := hid hce
  have HW := hid hw
  clear hcc hsc hlc hcs hsm hce hw
  gi_enter Try.func42, Try.ntmps42
  have HBX : Hid ((w.alloc (.cells #[.int .i64 D.wide, .int .i64 D.high, lv, .int .i64 D.hours, dv, .int .i64 D.speed] 25)).heap[w.heap.size]? = some (.cells #[.int .i64 D.wide, .int .i64 D.high, lv, .int .i64 D.hours, dv, .int .i64 D.speed] 25 (0, 0))) := Ext.new (Ext.refl _)
  have HX0 : Hid (Ext w (w.alloc (.cells #[.int .i64 D.wide, .int .i64 D.high, lv, .int .i64 D.hours, dv, .int .i64 D.speed] 25))) := (Ext.refl w).alloc _
  gi_wp2_with fail
  generalize w.alloc (.cells #[.int .i64 D.wide, .int .i64 D.high, lv, .int .i64 D.hours, dv, .int .i64 D.speed] 25) = w1 at *
  gi_loopw [9] (fun i wr => ∃ k : Nat, k ≤ cells.length ∧ i = .int .i64 k ∧ Hid ((cells.take k).all (fun c => sm.any fun i => covB D (cs.getD i ⟨0, 0⟩) c) = true) ∧ Ext w1 wr) (fun i _ => cells.length - (intOf i).toNat)
  case atStart => exact ⟨0, Nat.zero_le _, rfl, rfl, Ext.refl _⟩
  case round =>
    obtain ⟨k, hk, rfl, hall, hx⟩ := hrel
    by_cases hlt : k < cells.length
    · obtain ⟨lg, rfl, hlg, hlcell⟩ := HLC.out k hlt
      have hc1 := HCE.out cells[k] (List.getElem_mem _)
      have HAT := hid (all_take (fun c => sm.any fun i => covB D (cs.getD i ⟨0, 0⟩) c) cells k hlt)
      have HIN : Hid (meetsB D cs sm cells = true → sm.any (fun i => covB D (cs.getD i ⟨0, 0⟩) cells[k]) = true) := fun h => List.all_eq_true.mp h _ (List.getElem_mem _)
      have HALL := hid hall.out
      have HX := hid hx
      have HLG := hid (And.intro hlg hlcell)
      clear hall hx hlg hlcell
      have HCK := hid hc1
      generalize cells[k] = ce at *
      gi_wp2_with fail
      gi_loopw [10, 11] (fun b j u => ∃ j' : Nat, j' ≤ sm.length ∧ b = .bool ((sm.take j').any fun i => covB D (cs.getD i ⟨0, 0⟩) ce) ∧ j = .int .i64 j' ∧ Ext w1 u) (fun _ j _ => sm.length - (intOf j).toNat)
      case atStart => exact ⟨0, Nat.zero_le _, rfl, rfl, HX.out⟩
      case round =>
        obtain ⟨j, hj, rfl, rfl, hxu⟩ := hrel
        by_cases hlj : j < sm.length
        · obtain ⟨sg, rfl, hsg, hscell⟩ := HSC.out j hlj
          have hsj := HSM.out sm[j] (List.getElem_mem _)
          obtain ⟨cb, coff, rfl, hcbl, hcc0, hcc1⟩ := HCC.out sm[j] hsj
          have hci := HCS.out cs[sm[j]] (List.getElem_mem _)
          have HTK := hid (any_take (fun i => covB D (cs.getD i ⟨0, 0⟩) ce) sm j hlj)
          have hcov : covB D (cs.getD sm[j] ⟨0, 0⟩) ce = decide (dist (col (seaOf D) cs[sm[j]].cell) (row (seaOf D) cs[sm[j]].cell) (col (seaOf D) (ce : Nat)) (row (seaOf D) (ce : Nat)) ≤ cs[sm[j]].far) := by rw [getD_of hsj]; rfl
          have hxa := fun e : Later wr => (HX0.out.trans (Ext.trans hxu e.grown))
          have HC := hid fun e : Later wr => And.intro (cell_of ((Ext.trans hxu e.grown).block HBX.out)) (And.intro (((hxa e).cell (p := ⟨sg, _, none⟩) hsg).trans hscell) (And.intro (((hxa e).cell (p := ⟨cb, _, none⟩) hcbl).trans hcc0) (And.intro (((hxa e).cell (p := ⟨cb, _, none⟩) hcbl).trans hcc1) (((hxa e).cell (p := ⟨lg, _, none⟩) HLG.out.1).trans HLG.out.2))))
          have HAP := hid fun e : Later wr => apart_any D lv dv cs[sm[j]].cell ce e.val HW.out hci (by have := HCK.out; omega)
          rw [seaVal] at HAP
          rw [hcov] at HTK
          have HXU := hid hxu
          clear hcov hxa hsg hscell hcbl hcc0 hcc1 hxu
          generalize (sm.take j).any (fun i => covB D (cs.getD i ⟨0, 0⟩) ce) = acc at *
          generalize dist (col (seaOf D) cs[sm[j]].cell) (row (seaOf D) cs[sm[j]].cell) (col (seaOf D) (ce : Nat)) (row (seaOf D) (ce : Nat)) = dd at *
          generalize cs[sm[j]].cell = cc at *
          generalize cs[sm[j]].far = cf at *
          generalize sm[j] = sj at *
          cases acc with
          | true =>
            gi_wp2_with fail
            refine quiet_wide 26 (by kernel_rfl) (by kernel_rfl) ?_
            simp only [List.take_succ_cons, List.take_zero, List.drop_succ_cons, List.drop_zero]
            have q1 := HC.out
            repeat (any_goals (first | go_big_quiet_step ((go_at_call 40; with_reducible exact Cal.quiet (HAP.out _))) | quiet_step ((go_at_call 40; with_reducible exact Cal.quiet (HAP.out _)))))
            refine wpQuiet_nil ?_
            rintro w5 ⟨⟨_, hx5⟩, rfl⟩
            clear q1 HC HAP
            gi_wp2
            go_roundw
            case rel => exact ⟨j + 1, by omega, by rw [HTK.out]; rfl, by go_num, HXU.out.trans hx5⟩
            case measure => simp [intOf]; omega
          | false =>
            cases hdc : decide (dd ≤ cf) with
            | true =>
              rw [hdc] at HTK
              gi_wp2_with fail
              refine quiet_wide 26 (by kernel_rfl) (by kernel_rfl) ?_
              simp only [List.take_succ_cons, List.take_zero, List.drop_succ_cons, List.drop_zero]
              have q1 := HC.out
              repeat (any_goals (first | go_big_quiet_step ((go_at_call 40; with_reducible exact Cal.quiet (HAP.out _))) | quiet_step ((go_at_call 40; with_reducible exact Cal.quiet (HAP.out _)))))
              refine wpQuiet_nil ?_
              rintro w5 ⟨⟨_, hx5⟩, rfl⟩
              clear q1 HC HAP
              gi_wp2
              go_roundw
              case rel => exact ⟨j + 1, by omega, by rw [HTK.out]; rfl, by go_num, HXU.out.trans hx5⟩
              case measure => simp [intOf]; omega
            | false =>
              rw [hdc] at HTK
              gi_wp2_with fail
              refine quiet_wide 26 (by kernel_rfl) (by kernel_rfl) ?_
              simp only [List.take_succ_cons, List.take_zero, List.drop_succ_cons, List.drop_zero]
              have q1 := HC.out
              repeat (any_goals (first | go_big_quiet_step ((go_at_call 40; with_reducible exact Cal.quiet (HAP.out _))) | quiet_step ((go_at_call 40; with_reducible exact Cal.quiet (HAP.out _)))))
              refine wpQuiet_nil ?_
              rintro w5 ⟨⟨_, hx5⟩, rfl⟩
              clear q1 HC HAP
              gi_wp2
              go_roundw
              case rel => exact ⟨j + 1, by omega, by rw [HTK.out]; rfl, by go_num, HXU.out.trans hx5⟩
              case measure => simp [intOf]; omega
        · obtain rfl : j = sm.length := by omega
          rw [List.take_length]
          have HXU := hid hxu
          clear hxu
          cases hm : sm.any (fun i => covB D (cs.getD i ⟨0, 0⟩) ce) with
          | true =>
            have HAT2 : Hid ((cells.take (k + 1)).all (fun c => sm.any fun i => covB D (cs.getD i ⟨0, 0⟩) c) = true) := by
              show _ = _
              rw [HAT.out, HALL.out, hm]; rfl
            gi_wp2
            go_roundw
            case rel => exact ⟨k + 1, by omega, by go_num, HAT2.out, HXU.out⟩
            case measure => simp [intOf]; omega
          | false =>
            have HF : Hid (meetsB D cs sm cells = false) := by
              show _ = _
              cases h : meetsB D cs sm cells with
              | false => rfl
              | true => have := HIN.out h; rw [hm] at this; cases this
            gi_wp2
            go_ret
            exact ⟨by rw [HF.out]; rfl, HX0.out.trans HXU.out⟩
    · obtain rfl : k = cells.length := by omega
      have HT : Hid (meetsB D cs sm cells = true) := by
        show _ = _
        have := hall.out
        rw [List.take_length] at this
        exact this
      clear hall
      gi_wp2
      go_ret
      exact ⟨by rw [HT.out]; rfl, HX0.out.trans hx⟩
end Go.Proofs.Ytlgcnjcbmihefaa
