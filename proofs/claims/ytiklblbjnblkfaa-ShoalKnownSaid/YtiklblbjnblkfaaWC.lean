/- IsTrack and newAsked. -/
import Derived.Test.YtiklblbjnblkfaaWB
set_option linter.unusedSimpArgs false
set_option linter.unusedVariables false
namespace Go.Proofs.Ytiklblbjnblkfaa
open Go Go.RowKit Go.Shelf

/-- The sea as a value of the proof's own, of which only the numbers count. -/
def seaOf (D : SeaD) : SeaV := ⟨D.wide, D.high, undef, D.hours, undef, D.speed, undef, undef⟩
theorem SeaFull.mono {w w' : World} {b : Nat} {S : SeaV} {D : SeaD} {rs : List Rep} (h : SeaFull w b S D rs) (hx : Ext w w') : SeaFull w' b S D rs := by
  refine ⟨h.at_.mono hx, h.ok, h.wide, h.high, h.hours, h.speed, h.land.mono hx, h.drift.mono hx, ?_, ?_⟩
  · obtain ⟨bm, h1, h2⟩ := h.map
    exact ⟨bm, h1, h2.kept fun o ho => Ext.block hx ho⟩
  · obtain ⟨ba, vs, h1, h2, h3, h4⟩ := h.asked
    exact ⟨ba, vs, h1, h2, Ext.block hx h3, fun h hh => (h4 h hh).mono hx⟩
theorem col_of {S : SeaV} {D : SeaD} (h : S.wide = D.wide) (c : Int) : col S c = col (seaOf D) c := by unfold col; rw [h]; rfl
theorem row_of {S : SeaV} {D : SeaD} (h : S.wide = D.wide) (c : Int) : row S c = row (seaOf D) c := by unfold row; rw [h]; rfl
theorem untrueN_of {S : SeaV} {D : SeaD} (h : S.wide = D.wide) (rs : List Rep) (k : Nat) (x y : Int) : untrueN S rs k x y = untrueN (seaOf D) rs k x y := by
  unfold untrueN; congr 1; funext r; rw [col_of h, row_of h]
theorem trackB_of {S : SeaV} {D : SeaD} (h1 : S.wide = D.wide) (h2 : S.high = D.high) (h3 : S.hours = D.hours) (land : List Int) (s : Nat) (steps : List Step) (tr : List Int) : trackB S land s steps tr = trackB (seaOf D) land s steps tr := by
  unfold trackB
  have : trackGood S land s steps tr = trackGood (seaOf D) land s steps tr := by
    funext k; unfold trackGood; rw [col_of h1, row_of h1, col_of h1, row_of h1, h1, h2]; rfl
  rw [this, h3]; rfl
/-- How many reports are false of the first k hours of a track. -/
def untrueTo (D : SeaD) (rs : List Rep) (tr : List Int) (k : Nat) : Nat := ((List.range k).map fun h => untrueN (seaOf D) rs h (col (seaOf D) (tr.getD h 0)) (row (seaOf D) (tr.getD h 0))).sum
theorem untrueTo_succ (D : SeaD) (rs : List Rep) (tr : List Int) (k : Nat) : untrueTo D rs tr (k + 1) = untrueTo D rs tr k + untrueN (seaOf D) rs k (col (seaOf D) (tr.getD k 0)) (row (seaOf D) (tr.getD k 0)) := by
  unfold untrueTo; rw [List.range_succ, List.map_append, List.sum_append]; simp
theorem untrueN_le {S : SeaV} {rs : List Rep} {h : Nat} {x y : Int} (h24 : rs.length ≤ 24) : untrueN S rs h x y ≤ 24 :=
  Nat.le_trans List.countP_le_length (Nat.le_trans (List.length_filter_le _ _) h24)
theorem untrueTo_le {D : SeaD} {rs : List Rep} {tr : List Int} (h24 : rs.length ≤ 24) : ∀ k, untrueTo D rs tr k ≤ 24 * k
  | 0 => Nat.le_refl _
  | k + 1 => by rw [untrueTo_succ]; have := untrueTo_le (D := D) (tr := tr) h24 k; have := untrueN_le (S := seaOf D) (h := k) (x := col (seaOf D) (tr.getD k 0)) (y := row (seaOf D) (tr.getD k 0)) h24; omega
theorem NewSea.split {D : SeaD} {lv dv : Value} {rs : List Rep} {e : Ending} {w : World} (h : NewSea D lv dv rs e w) :
    (repsB D.hours (D.wide * D.high) rs = false ∧ e = .returned (.tuple #[.pointer none, .int .i64 11])) ∨
    (repsB D.hours (D.wide * D.high) rs = true ∧ ∃ b S, e = .returned (.tuple #[.pointer (some ⟨b, 0, none⟩), .int .i64 0]) ∧ Hid (SeaFull w b S D rs)) := by
  cases h with
  | reps h => exact .inl ⟨h, rfl⟩
  | ok h hs => exact .inr ⟨h, _, _, rfl, hs⟩
def isTrackRes (D : SeaD) (rs : List Rep) (tr : List Int) : Value :=
  if seaB D = false then .tuple #[.int .i64 0, .bool false, .int .i64 10]
  else if repsB D.hours (D.wide * D.high) rs = false then .tuple #[.int .i64 0, .bool false, .int .i64 11]
  else if trackB (seaOf D) D.land D.speed.toNat D.drift tr = false then .tuple #[.int .i64 0, .bool false, .int .i64 0]
  else .tuple #[.int .i64 (untrueTo D rs tr tr.length), .bool true, .int .i64 0]

theorem steps_ok {D : SeaD} (h : seaB D = true) : (D.drift.length : Int) = D.hours - 1 ∧ ∀ k (h : k < D.drift.length), (-2 ≤ D.drift[k].east ∧ D.drift[k].east ≤ 2) ∧ (-2 ≤ D.drift[k].north ∧ D.drift[k].north ≤ 2) := by
  unfold seaB at h
  simp only [Bool.and_eq_true] at h
  have h1 := h.2
  unfold driftB at h1
  rw [Bool.and_eq_true] at h1
  refine ⟨of_decide_eq_true h1.1, fun k hk => ?_⟩
  have := List.all_eq_true.1 h1.2 k (List.mem_range.2 hk)
  rw [driftGood_eq hk, Bool.and_eq_true] at this
  exact ⟨inB_spec this.1, inB_spec this.2⟩
theorem reps_ok {D : SeaD} {rs : List Rep} (hb : seaB D = true) (h : repsB D.hours (D.wide * D.high) rs = true) : rs.length ≤ 24 ∧ ∀ r ∈ rs, (0 ≤ r.cell ∧ r.cell ≤ 1000) ∧ 0 ≤ r.hour ∧ r.hour < D.hours := by
  unfold seaB at hb
  simp only [Bool.and_eq_true] at hb
  have hmb := mul_bounds (inB_spec hb.1.1.1.1.1) (inB_spec hb.1.1.1.1.2)
  unfold repsB at h
  rw [Bool.and_eq_true] at h
  refine ⟨of_decide_eq_true h.1, fun r hr => ?_⟩
  obtain ⟨k, hk, rfl⟩ := List.getElem_of_mem hr
  have := List.all_eq_true.1 h.2 k (List.mem_range.2 hk)
  rw [repGood_eq hk, Bool.and_eq_true, Bool.and_eq_true] at this
  have h1 := inB_spec this.1.1
  have h2 := inB_spec this.1.2
  omega

set_option maxRecDepth 100000 in
set_option maxHeartbeats 1000000 in
theorem IsTrack_any (D : SeaD) (lv dv rv tv : Value) (rs : List Rep) (tr : List Int) (w : World) (hl : IntsAt w lv D.land) (hd : StepsAt w dv D.drift) (hr : RepsAt w rv rs) (ht : IntsAt w tv tr) :
    Cal 16 #[seaVal D lv dv, rv, tv] w fun e w' => e = .returned (isTrackRes D rs tr) ∧ Ext w w' := by
  unfold seaVal
  gi_enter Try.func16, Try.ntmps16
  have hx := (Ext.refl w).alloc (.cells #[.int .i64 D.wide, .int .i64 D.high, lv, .int .i64 D.hours, dv, .int .i64 D.speed] 25)
  cases hb : seaB D with
  | false =>
    have HN := hid (newSea_bad D lv dv rv _ (hl.mono hx) (hd.mono hx) hb)
    rw [seaVal] at HN
    have HG : Hid (isTrackRes D rs tr = .tuple #[.int .i64 0, .bool false, .int .i64 10]) := if_pos hb
    clear hl hd hr ht hx hb
    gi_wp2_with (gi_at_call 47; ((with_reducible refine HN.out.mono ?_); rintro e w1 ⟨rfl, hx1⟩))
    exact bodyPost_ret (v := .tuple #[.int .i64 0, .bool false, .int .i64 10]) (results_tmp3 (fn := Try.f16) (t := 6) (u := 7) (v := 8) rfl _ _ _) rfl ⟨by rw [HG.out], Ext.after hx1⟩
  | true =>
    have HN := hid (newSea_any D lv dv rv rs _ (hl.mono hx) (hd.mono hx) (hr.mono hx) hb)
    rw [seaVal] at HN
    have HB := hid hb
    have HL := hid hl
    have HD := hid hd
    have HT := hid ht
    clear hl hd hr ht hx hb
    gi_wp2_with (gi_at_call 47; ((with_reducible refine HN.out.mono ?_); rintro e w1 ⟨hx1, hN⟩; clear HN; rcases hN.split with ⟨hrb, rfl⟩ | ⟨hrb, b, S, rfl, HF⟩))
    · have HG : Hid (isTrackRes D rs tr = .tuple #[.int .i64 0, .bool false, .int .i64 11]) := (if_neg (by rw [HB.out]; simp)).trans (if_pos hrb)
      exact bodyPost_ret (v := .tuple #[.int .i64 0, .bool false, .int .i64 11]) (results_tmp3 (fn := Try.f16) (t := 6) (u := 7) (v := 8) rfl _ _ _) rfl ⟨by rw [HG.out], Ext.after hx1⟩
    · obtain ⟨bm, hcm, hm⟩ := HF.out.map
      have hst := steps_ok HB.out
      have hro := reps_ok HB.out hrb
      have hspd : S.speed = (D.speed.toNat : Int) := by have := HF.out.ok.speed; rw [HF.out.speed] at this ⊢; omega
      have HT1 : Hid (IntsAt w1 tv tr) := HT.out.mono (Ext.after hx1)
      have HI := hid (isTrack_any b S HF.out.ok D.speed.toNat hspd D.land D.drift tr tv bm w1 HF.out.at_ hcm hm HF.out.drift (by rw [HF.out.hours]; exact hst.1) hst.2 HT1.out)
      rw [trackB_of HF.out.wide HF.out.high HF.out.hours] at HI
      have HE := hid (Ext.after hx1)
      have HRO := hid hro
      have HRB := hid hrb
      clear hst hro hspd hcm hm hx1 hrb HL HD
      cases htb : trackB (seaOf D) D.land D.speed.toNat D.drift tr with
      | false =>
        rw [htb] at HI
        have HG : Hid (isTrackRes D rs tr = .tuple #[.int .i64 0, .bool false, .int .i64 0]) := (if_neg (by rw [HB.out]; simp)).trans ((if_neg (by rw [HRB.out]; simp)).trans (if_pos htb))
        clear htb
        gi_wp2_with (gi_at_call 48; ((with_reducible refine HI.out.mono ?_); rintro e w2 ⟨rfl, hx2⟩))
        exact bodyPost_ret (v := .tuple #[.int .i64 0, .bool false, .int .i64 0]) (results_tmp3 (fn := Try.f16) (t := 6) (u := 7) (v := 8) rfl _ _ _) rfl ⟨by rw [HG.out], HE.out.trans hx2⟩
      | true =>
        rw [htb] at HI
        have HG : Hid (isTrackRes D rs tr = .tuple #[.int .i64 (untrueTo D rs tr tr.length), .bool true, .int .i64 0]) := (if_neg (by rw [HB.out]; simp)).trans ((if_neg (by rw [HRB.out]; simp)).trans (if_neg (by rw [htb]; simp)))
        have HTB := hid htb
        clear htb
        obtain ⟨ta, tcap, rfl, htl, htc⟩ := HT1.out
        have HTC := hid htc
        clear htc HT HT1
        gi_wp2_with (gi_at_call 48; ((with_reducible refine HI.out.mono ?_); rintro e w2 ⟨rfl, hx2⟩))
        have hh12 := HF.out.ok.hours
        have htlen : (tr.length : Int) = D.hours := by
          have := HTB.out; unfold trackB at this; rw [Bool.and_eq_true] at this; exact of_decide_eq_true this.1
        have htg : ∀ k, k < tr.length → 0 ≤ tr.getD k 0 ∧ tr.getD k 0 ≤ 1000 := fun k hk => by
          have := HTB.out
          unfold trackB at this
          rw [Bool.and_eq_true] at this
          have := List.all_eq_true.1 this.2 k (List.mem_range.2 hk)
          unfold trackGood at this
          rw [Bool.and_eq_true, Bool.and_eq_true] at this
          have h1 := inB_spec this.1.1
          have hm := mul_bounds HF.out.ok.wide HF.out.ok.high
          rw [HF.out.wide, HF.out.high] at hm
          simp only [seaOf] at h1
          omega
        have HTG := hid htg
        have HLEN : Hid (D.hours = tr.length) := htlen.symm
        have hl12 : tr.length ≤ 12 := by have := HF.out.hours; omega
        clear htg htlen hh12 HI HTB
        gi_loopw [6, 27] (fun m i wr => ∃ k : Nat, k ≤ tr.length ∧ i = .int .i64 k ∧ m = .int .i64 (untrueTo D rs tr k) ∧ Ext w2 wr) (fun _ i _ => tr.length - (intOf i).toNat)
        case atStart => exact ⟨0, Nat.zero_le _, rfl, rfl, Ext.refl _⟩
        case round =>
          obtain ⟨k, hk, rfl, rfl, hE⟩ := hrel
          have hle := untrueTo_le (D := D) (tr := tr) HRO.out.1 k
          by_cases hlt : k < tr.length
          · obtain ⟨b', off, rfl, hb', hck⟩ := HTC.out k hlt
            rw [← (Ext.trans hx2 hE).cell (p := ⟨b', _, none⟩) hb'] at hck
            have hb0 := HTG.out k hlt
            rw [getD_of hlt] at hb0
            have HFr : Hid (SeaFull wr b S D rs) := HF.out.mono (hx2.trans hE)
            have HP := hid (place_b b S HF.out.ok tr[k] hb0.1 hb0.2 wr HFr.out.at_)
            have hkk : k < D.hours.toNat := by rw [HLEN.out]; omega
            have hcc := col_ok HF.out.ok hb0.1 hb0.2
            have hrr := row_ok HF.out.ok hb0.1 hb0.2
            have h12 : D.hours.toNat ≤ 12 := by rw [HLEN.out]; omega
            have HU : Hid (∀ w3, Ext wr w3 → Cal 49 #[.pointer (some ⟨b, 0, none⟩), .int .i64 k, .agg #[.int .i64 (col S tr[k]), .int .i64 (row S tr[k])]] w3 fun e w' => e = .returned (.int .i64 (untrueN S rs k (col S tr[k]) (row S tr[k]))) ∧ Ext w3 w') := fun w3 hx3 =>
              untrue_any b S HF.out.ok D.hours.toNat rs k hkk (col S tr[k]) (row S tr[k]) (by omega) (by omega) w3 (HFr.out.mono hx3).at_ (HFr.out.mono hx3).asked (fun r hr => (HRO.out.2 r hr).1) HRO.out.1 h12
            have HSUM : Hid (untrueTo D rs tr (k + 1) = untrueTo D rs tr k + untrueN S rs k (col S tr[k]) (row S tr[k])) := by
              show _ = _
              rw [untrueTo_succ, getD_of hlt, untrueN_of HF.out.wide, col_of HF.out.wide, row_of HF.out.wide]
            have hn := untrueN_le (S := S) (rs := rs) (h := k) (x := col S tr[k]) (y := row S tr[k]) HRO.out.1
            have HE2 := hid (hx2.trans hE)
            have HE3 := hid hE
            clear HFr hb0 hkk hcc hrr h12 HTC hb' hE hN
            generalize untrueN S rs k (col S tr[k]) (row S tr[k]) = nn at HU HSUM hn
            generalize untrueTo D rs tr k = mm at hle HSUM ⊢
            generalize col S tr[k] = cc at *
            generalize row S tr[k] = cr at *
            gi_wp2_with (first | (gi_at_call 50; ((with_reducible refine HP.out.mono ?_); rintro e w3 ⟨rfl, hx3⟩)) | (gi_at_call 49; ((with_reducible refine (HU.out _ hx3).mono ?_); rintro e w4 ⟨rfl, hx4⟩)))
            go_roundw
            case rel => exact ⟨k + 1, by omega, by go_num, by rw [HSUM.out]; go_num, HE3.out.trans (hx3.trans hx4)⟩
            case measure => simp [intOf]; omega
          · obtain rfl : k = tr.length := by omega
            have HE2 := hid (HE.out.trans (hx2.trans hE))
            clear hE hN
            gi_wp2
            exact bodyPost_ret (v := .tuple #[.int .i64 (untrueTo D rs tr tr.length), .bool true, .int .i64 0]) (results_tmp3 (fn := Try.f16) (t := 6) (u := 7) (v := 8) rfl _ _ _) rfl ⟨by rw [HG.out], HE2.out⟩
end Go.Proofs.Ytiklblbjnblkfaa
