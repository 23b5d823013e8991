/- Whether a list of cells is a track. -/
import Derived.Test.YtiklblbjnblkfaaWA
set_option linter.unusedSimpArgs false
set_option linter.unusedVariables false
namespace Go.Proofs.Ytiklblbjnblkfaa
open Go Go.RowKit Go.Shelf

theorem seaMap_find {S : SeaV} {land : List Int} {c : Int} (h0 : 0 ≤ c) (h1 : c < S.wide * S.high) : PMap.find (seaMap S land) (col S c, row S c) = if isOpen land c.toNat then some c else none := by
  unfold PMap.find
  cases hf : List.find? (fun e : (Int × Int) × Int => (col S c, row S c).1 == e.1.1 && (col S c, row S c).2 == e.1.2) (seaMap S land) with
  | none =>
    rw [List.find?_eq_none] at hf
    cases ho : isOpen land c.toNat with
    | false => rfl
    | true =>
      exfalso
      have hm : c.toNat ∈ opens land (S.wide * S.high).toNat := List.mem_filter.2 ⟨List.mem_range.2 (by omega), ho⟩
      have := hf _ (List.mem_map.2 ⟨c.toNat, hm, rfl⟩)
      simp [Int.toNat_of_nonneg h0] at this
  | some e =>
    have hp := List.find?_some hf
    have hm := List.mem_of_find?_eq_some hf
    obtain ⟨c', hc', rfl⟩ := List.mem_map.1 hm
    simp only [Bool.and_eq_true, beq_iff_eq] at hp
    have hcc := place_inj hp.1 hp.2
    have ho := (List.mem_filter.1 hc').2
    have : c.toNat = c' := by omega
    rw [this, ho]
    simp [hcc]

def trackGood (S : SeaV) (land : List Int) (s : Nat) (steps : List Step) (tr : List Int) (k : Nat) : Bool :=
  inB (tr.getD k 0) 0 (S.wide * S.high - 1) && isOpen land (tr.getD k 0).toNat && (k == 0 || swimsB s (col S (tr.getD (k - 1) 0)) (row S (tr.getD (k - 1) 0)) (steps.getD (k - 1) ⟨0, 0⟩).east (steps.getD (k - 1) ⟨0, 0⟩).north (col S (tr.getD k 0)) (row S (tr.getD k 0)))
def trackB (S : SeaV) (land : List Int) (s : Nat) (steps : List Step) (tr : List Int) : Bool := decide ((tr.length : Int) = S.hours) && allTo (trackGood S land s steps tr) tr.length
theorem trackGood_zero {S : SeaV} {land : List Int} {s : Nat} {steps : List Step} {tr : List Int} (h : 0 < tr.length) : trackGood S land s steps tr 0 = (inB tr[0] 0 (S.wide * S.high - 1) && isOpen land tr[0].toNat) := by
  unfold trackGood; rw [getD_of h]; simp
theorem trackGood_pos {S : SeaV} {land : List Int} {s : Nat} {steps : List Step} {tr : List Int} {k : Nat} (h : k < tr.length) (hk : k ≠ 0) (hs : k - 1 < steps.length) :
    trackGood S land s steps tr k = (inB tr[k] 0 (S.wide * S.high - 1) && isOpen land tr[k].toNat && swimsB s (col S tr[k - 1]) (row S tr[k - 1]) steps[k - 1].east steps[k - 1].north (col S tr[k]) (row S tr[k])) := by
  have hk' : (k == 0) = false := by simpa using hk
  unfold trackGood; rw [getD_of h, getD_of (show k - 1 < tr.length by omega), getD_of hs, hk', Bool.false_or]
theorem trackGood_in {S : SeaV} {land : List Int} {s : Nat} {steps : List Step} {tr : List Int} {k : Nat} (h : k < tr.length) (hin : inB tr[k] 0 (S.wide * S.high - 1) = false) : trackGood S land s steps tr k = false := by
  unfold trackGood; rw [getD_of h, hin]; rfl
theorem trackGood_open {S : SeaV} {land : List Int} {s : Nat} {steps : List Step} {tr : List Int} {k : Nat} (h : k < tr.length) (ho : isOpen land tr[k].toNat = false) : trackGood S land s steps tr k = false := by
  unfold trackGood; rw [getD_of h, ho, Bool.and_false]; rfl

set_option maxHeartbeats 2000000 in
set_option maxRecDepth 100000 in
theorem isTrack_any (b : Nat) (S : SeaV) (hS : S.Ok) (s : Nat) (hsp : S.speed = s) (land : List Int) (steps : List Step) (tr : List Int) (tv : Value) (bm : Nat) (w : World) (hs : SeaAt w b S) (hcm : S.cm = .map (some bm)) (hm : MapBlk w bm (seaMap S land))
    (hd : StepsAt w S.drift steps) (hdl : (steps.length : Int) = S.hours - 1) (hdb : ∀ k (h : k < steps.length), (-2 ≤ steps[k].east ∧ steps[k].east ≤ 2) ∧ (-2 ≤ steps[k].north ∧ steps[k].north ≤ 2)) (ht : IntsAt w tv tr) :
    Cal 48 #[.pointer (some ⟨b, 0, none⟩), tv] w fun e w' => e = .returned (.bool (trackB S land s steps tr)) ∧ Ext w w' := by
  obtain ⟨a, cap, rfl, hlen, hc⟩ := ht
  obtain ⟨da, dcap, hdv, hdlen, hdc⟩ := hd
  have hcells := hs.cells
  gi_enter Try.func48, Try.ntmps48
  by_cases hl : (tr.length : Int) = S.hours
  rotate_left
  · have hb : ((tr.length : Int) == S.hours) = false := by simpa using hl
    have HG : Hid (trackB S land s steps tr = false) := by show trackB S land s steps tr = false; unfold trackB; rw [decide_eq_false hl]; rfl
    clear hc hdc hdb hm hs hdl
    gi_wp2
    go_ret
    exact ⟨by rw [HG.out]; rfl, Ext.refl _⟩
  have hb : ((tr.length : Int) != S.hours) = false := by simpa using hl
  have HS0 := hid hs
  have HM0 := hid hm
  have HC := hid hc
  have HDC := hid hdc
  have HDB := hid hdb
  have HL := hid (And.intro hl hdl)
  have HDV := hid hdv
  clear hc hdc hdb hm hs hdl hl hdv
  gi_wp2_with fail
  clear hcells hb
  gi_loopw [20] (fun i wr => ∃ k : Nat, k ≤ tr.length ∧ i = .int .i64 k ∧ Hid (∀ j, j < k → trackGood S land s steps tr j = true) ∧ Ext w wr) (fun i _ => tr.length - (intOf i).toNat)
  case atStart => exact ⟨0, Nat.zero_le _, rfl, fun _ h => absurd h (by omega), Ext.refl _⟩
  case round =>
    obtain ⟨k, hk, rfl, hgood, hx⟩ := hrel
    by_cases hlt : k < tr.length
    · obtain ⟨b', off, rfl, hb, hck⟩ := HC.out k hlt
      rw [← hx.cell (p := ⟨b', _, none⟩) hb] at hck
      by_cases hin : inB tr[k] 0 (S.wide * S.high - 1) = true
      rotate_left
      · have hin' : inB tr[k] 0 (S.wide * S.high - 1) = false := by simpa using hin
        have HG : Hid (trackB S land s steps tr = false) := by show trackB _ _ _ _ _ = false; unfold trackB; rw [allTo_no hlt (trackGood_in hlt hin'), Bool.and_false]
        have hsw := HS0.out.mono hx
        clear hgood hin HC
        gi_wp2_with (gi_at_call 78; ((with_reducible refine (isCell_b b S hS tr[k] false _ hsw hin').mono ?_); rintro e w1 ⟨rfl, hx1⟩))
        go_ret
        exact ⟨by rw [HG.out]; rfl, hx.trans hx1⟩
      have hcb := inB_spec hin
      have hmb := mul_bounds hS.wide hS.high
      have hsw := HS0.out.mono hx
      have hcok := col_ok hS hcb.1 (by omega)
      have hrok := row_ok hS hcb.1 (by omega)
      have hfind := seaMap_find (S := S) (land := land) hcb.1 (by omega)
      have HIN := hid (And.intro hin (And.intro hcok (And.intro hrok hfind)))
      clear hin hcok hrok hfind
      have h1000 : tr[k] ≤ 1000 := by omega
      have HB := hid hb
      have HH := hid hgood
      clear hgood hb
      gi_wp2_with (first | (gi_at_call 78; ((with_reducible refine (isCell_b b S hS tr[k] true _ hsw HIN.out.1).mono ?_); rintro e w1 ⟨rfl, hx1⟩)) | (gi_at_call 50; ((with_reducible refine (place_b b S hS tr[k] hcb.1 h1000 _ (hsw.mono hx1)).mono ?_); rintro e w2 ⟨rfl, hx2⟩)))
      have hx3 : Ext wr (w2.alloc (.cells #[.int .i64 (col S tr[k]), .int .i64 (row S tr[k])] 81)) := (hx1.trans hx2).alloc _
      have hnew : (w2.alloc (.cells #[.int .i64 (col S tr[k]), .int .i64 (row S tr[k])] 81)).heap[w2.heap.size]? = some (.cells #[.int .i64 (col S tr[k]), .int .i64 (row S tr[k])] 81 (0, 0)) := Ext.new (Ext.refl _)
      generalize hw3 : w2.alloc (.cells #[.int .i64 (col S tr[k]), .int .i64 (row S tr[k])] 81) = w3 at hx3 hnew ⊢
      generalize w2.heap.size = nb at hnew ⊢
      clear hw3 hx1 hx2
      have HX := hid (hx.trans hx3)
      have HB2 := hid fun e : Later w3 => cell_of (Ext.block e.grown hnew)
      have HS := hid fun e : Later w3 => hsw.mono (hx3.trans e.grown)
      have HSC := hid fun e : Later w3 => (hsw.mono (hx3.trans e.grown)).cells
      have HLK := hid fun e : Later w3 => run_lookup_place (HM0.out.kept fun o ho => Ext.block (hx.trans (hx3.trans e.grown)) ho) (col S tr[k], row S tr[k])
      rw [HIN.out.2.2.2] at HLK
      unfold plcV at HLK
      rw [hcm] at HSC
      have HNEW := hid hnew
      have HHX := hid hx3
      clear hx hx3 hnew hsw hck
      cases hopen : isOpen land tr[k].toNat with
      | false =>
        have HG : Hid (trackB S land s steps tr = false) := by show trackB _ _ _ _ _ = false; unfold trackB; rw [allTo_no hlt (trackGood_open hlt hopen), Bool.and_false]
        rw [hopen] at HLK
        simp only [Bool.false_eq_true, if_false, Option.getD_none, Option.isSome_none] at HLK
        clear hopen HH HC HDC HDB
        refine quiet_wide 11 (by kernel_rfl) (by kernel_rfl) ?_
        simp only [List.take_succ_cons, List.take_zero, List.drop_succ_cons, List.drop_zero]
        have h1 := HB2.out
        have h2 := HSC.out
        have h3 := HLK.out
        repeat (any_goals (first | go_big_quiet_step (fail) | quiet_step (fail)))
        refine wpQuiet_nil ?_
        rintro w4 ⟨⟨_, hx4⟩, rfl⟩
        clear h1 h2 h3 HB2 HSC HLK HS
        gi_wp2
        go_ret
        exact ⟨by rw [HG.out]; rfl, HX.out.trans hx4⟩
      | true =>
        rw [hopen] at HLK
        simp only [if_true, Option.getD_some, Option.isSome_some] at HLK
        have HO := hid hopen
        clear hopen
        refine quiet_wide 11 (by kernel_rfl) (by kernel_rfl) ?_
        simp only [List.take_succ_cons, List.take_zero, List.drop_succ_cons, List.drop_zero]
        have h1 := HB2.out
        have h2 := HSC.out
        have h3 := HLK.out
        repeat (any_goals (first | go_big_quiet_step (fail) | quiet_step (fail)))
        refine wpQuiet_nil ?_
        rintro w4 ⟨⟨_, hx4⟩, rfl⟩
        clear h1 h2 h3 HLK
        gi_wp2_with fail
        have HS4 : Hid (∀ e : Later w4, SeaAt e.val b S) := fun e => HS.out ⟨e.val, Ext.trans hx4 e.grown⟩
        have HB4 : Hid (∀ (e : Later w4) (o : Nat), e.val.cell? ⟨nb, o, none⟩ = #[.int .i64 (col S tr[k]), .int .i64 (row S tr[k])][o]?) := fun e => HB2.out ⟨e.val, Ext.trans hx4 e.grown⟩
        have HSC4 : Hid (∀ e : Later w4, e.val.cell? ⟨b, 4, none⟩ = some S.drift) := fun e => (HSC.out ⟨e.val, Ext.trans hx4 e.grown⟩).2.2.2.2.1
        have HX4 := hid (HX.out.trans hx4)
        clear HS HB2 HSC HHX HNEW
        by_cases hk0 : k = 0
        · subst hk0
          have HU := hid (upTo_succ HH.out.out (show trackGood S land s steps tr 0 = true by rw [trackGood_zero hlt, HIN.out.1, HO.out]; rfl))
          clear HH HC HDC HDB HB4 HSC4 HS4
          refine quiet_wide 24 (by kernel_rfl) (by kernel_rfl) ?_
          simp only [List.take_succ_cons, List.take_zero, List.drop_succ_cons, List.drop_zero]
          repeat (any_goals (first | go_big_quiet_step (fail) | quiet_step (fail)))
          refine wpQuiet_nil ?_
          rintro w5 ⟨⟨_, hx5⟩, rfl⟩
          gi_wp2
          go_roundw
          case rel => exact ⟨1, by omega, by go_num, HU, HX4.out.trans hx5⟩
          case measure => simp [intOf]; omega
        · obtain ⟨b2, off2, hab, hb2, hc2⟩ := HC.out (k - 1) (by omega)
          cases hab
          have hks : k - 1 < steps.length := by have := HL.out; omega
          obtain ⟨db, doff, rfl, hdb, hd0, hd1⟩ := HDC.out (k - 1) hks
          have hdbb := HDB.out (k - 1) hks
          have hgp := HH.out.out (k - 1) (by omega)
          have hgin : inB tr[k - 1] 0 (S.wide * S.high - 1) = true := by
            cases hi : inB tr[k - 1] 0 (S.wide * S.high - 1) with
            | true => rfl
            | false => rw [trackGood_in (show k - 1 < tr.length by omega) hi] at hgp; cases hgp
          have hpb := inB_spec hgin
          have hp1000 : tr[k - 1] ≤ 1000 := by omega
          have HGP := hid (trackGood_pos (S := S) (land := land) (s := s) hlt hk0 hks)
          rw [HIN.out.1, HO.out] at HGP
          have HMEM := hid fun e : Later w4 => And.intro ((Ext.trans HX4.out e.grown).cell (p := ⟨b', off + (k - 1), none⟩) hb2 |>.trans hc2) (And.intro ((Ext.trans HX4.out e.grown).cell (p := ⟨db, doff + (k - 1) * 2, none⟩) hdb |>.trans hd0) ((Ext.trans HX4.out e.grown).cell (p := ⟨db, doff + (k - 1) * 2 + 1, none⟩) hdb |>.trans hd1))
          rw [HDV.out] at HSC4
          have hpc := col_ok hS hpb.1 hp1000
          have hpr := row_ok hS hpb.1 hp1000
          have HCALL := hid fun e : Later w4 => swims_any b S hS s hsp (col S tr[k - 1]) (row S tr[k - 1]) steps[k - 1].east steps[k - 1].north (col S tr[k]) (row S tr[k]) (by omega) (by omega) (by omega) (by omega) e.val (HS4.out e)
          have HHU := hid HH.out.out
          have HPB := hid (And.intro hpb.1 hp1000)
          clear HH HC HDC HDB hc2 hd0 hd1 hdbb hgp hgin hpb hpc hpr hb2 hdb hcb hp1000
          generalize swimsB s (col S tr[k - 1]) (row S tr[k - 1]) steps[k - 1].east steps[k - 1].north (col S tr[k]) (row S tr[k]) = bb at HCALL HGP
          generalize steps[k - 1].east = se at *
          generalize steps[k - 1].north = sn at *
          have hkk : 0 < k := by omega
          refine quiet_wide 24 (by kernel_rfl) (by kernel_rfl) ?_
          simp only [List.take_succ_cons, List.take_zero, List.drop_succ_cons, List.drop_zero]
          have h1 := HB4.out
          have h2 := HSC4.out
          have h3 := HMEM.out
          repeat (any_goals (first | go_big_quiet_step ((first | (go_at_call 50; with_reducible exact Cal.quiet (place_b b S hS tr[k - 1] HPB.out.1 HPB.out.2 _ (HS4.out _))) | (go_at_call 79; with_reducible exact Cal.quiet (HCALL.out _)))) | quiet_step ((first | (go_at_call 50; with_reducible exact Cal.quiet (place_b b S hS tr[k - 1] HPB.out.1 HPB.out.2 _ (HS4.out _))) | (go_at_call 79; with_reducible exact Cal.quiet (HCALL.out _))))))
          refine wpQuiet_nil ?_
          rintro w5 ⟨⟨_, hx5⟩, rfl⟩
          clear h1 h2 h3 HMEM HCALL HB4 HSC4 HS4
          cases bb with
          | true =>
            have HU := hid (upTo_succ HHU.out HGP.out)
            clear HGP HHU
            gi_wp2
            go_roundw
            case rel => exact ⟨k + 1, by omega, by go_num, HU, HX4.out.trans hx5⟩
            case measure => simp [intOf]; omega
          | false =>
            have HG : Hid (trackB S land s steps tr = false) := by show trackB _ _ _ _ _ = false; unfold trackB; rw [allTo_no hlt HGP.out, Bool.and_false]
            clear HGP HHU
            gi_wp2
            go_ret
            exact ⟨by rw [HG.out]; rfl, HX4.out.trans hx5⟩
    · obtain rfl : k = tr.length := by omega
      have HG : Hid (trackB S land s steps tr = true) := by show trackB _ _ _ _ _ = true; unfold trackB; rw [allTo_yes hgood.out, decide_eq_true HL.out.1]; rfl
      clear hgood
      gi_wp2
      go_ret
      exact ⟨by rw [HG.out]; rfl, hx⟩
end Go.Proofs.Ytiklblbjnblkfaa
