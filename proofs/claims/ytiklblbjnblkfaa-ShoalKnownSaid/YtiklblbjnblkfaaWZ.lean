/- newSearch. -/
import Derived.Test.YtiklblbjnblkfaaWY
set_option linter.unusedSimpArgs false
set_option linter.unusedVariables false
namespace Go.Proofs.Ytiklblbjnblkfaa
open Go Go.RowKit Go.Shelf

def searchErr (D : SeaD) (rs : List Rep) (wrong hour : Int) (cs : List Cst) : Int :=
  if askErr D rs wrong hour ≠ 0 then askErr D rs wrong hour else if castsB (D.wide * D.high) cs = false then 13 else if (canF D rs wrong hour.toNat).length = 0 then 12 else 0
def plcOf (D : SeaD) (c : Nat) : Int × Int := (col (seaOf D) c, row (seaOf D) c)
def placesOf (D : SeaD) (l : List Nat) : List (Int × Int) := l.map (plcOf D)
theorem flatC_of {S : SeaV} {D : SeaD} (h : S.wide = D.wide) (cs : List Cst) : flatC S cs = flatC (seaOf D) cs := by
  unfold flatC; congr 1; funext c; rw [col_of h, row_of h]
theorem casts_ok {D : SeaD} {cs : List Cst} (hb : seaB D = true) (h : castsB (D.wide * D.high) cs = true) : cs.length ≤ 8 ∧ 1 ≤ cs.length ∧ ∀ c ∈ cs, (0 ≤ c.cell ∧ c.cell ≤ 1000) ∧ (0 ≤ c.far ∧ c.far ≤ 9) := by
  have h80 := seaB_80 hb
  unfold castsB allTo at h
  rw [Bool.and_eq_true] at h
  have h1 := inB_spec h.1
  refine ⟨by omega, by omega, fun c hc => ?_⟩
  obtain ⟨k, hk, rfl⟩ := List.getElem_of_mem hc
  have := List.all_eq_true.1 h.2 k (List.mem_range.2 hk)
  rw [castGood_eq hk, Bool.and_eq_true] at this
  have h2 := inB_spec this.1
  have h3 := inB_spec this.2
  omega
theorem canF_lt {D : SeaD} {rs : List Rep} {wrong : Int} {h c : Nat} (hc : c ∈ canF D rs wrong h) : c < (D.wide * D.high).toNat := opens_lt (List.mem_filter.1 hc).1
theorem canF_len (D : SeaD) (hb : seaB D = true) (rs : List Rep) (wrong : Int) (h : Nat) : (canF D rs wrong h).length ≤ 80 := by
  have h80 := seaB_80 hb
  have h1 : (canF D rs wrong h).length ≤ (opens D.land (D.wide * D.high).toNat).length := List.length_filter_le _ _
  have h2 : (opens D.land (D.wide * D.high).toNat).length ≤ (D.wide * D.high).toNat := by
    unfold opens; exact Nat.le_trans (List.length_filter_le _ _) (by simp)
  omega

theorem Row.isSliceN {w : World} {T : TypeId} {sz : Nat} {v : Value} {n : Nat} {xs : List Value} (h : Row w T sz v n xs) : ∃ a c, v = .slice a n c := by
  rcases h.2 with ⟨rfl, rfl⟩ | ⟨g, cap, cur, rfl, _⟩
  · exact ⟨_, _, rfl⟩
  · exact ⟨_, _, rfl⟩
def NewSearch (D : SeaD) (rs : List Rep) (wrong hour : Int) (cs : List Cst) (e : Ending) (w : World) : Prop :=
  (searchErr D rs wrong hour cs ≠ 0 ∧ e = .returned (.tuple #[.slice none 0 0, .slice none 0 0, .int .i64 (searchErr D rs wrong hour cs)])) ∨
  (searchErr D rs wrong hour cs = 0 ∧ askErr D rs wrong hour = 0 ∧ seaB D = true ∧ castsB (D.wide * D.high) cs = true ∧ canF D rs wrong hour.toNat ≠ [] ∧
    ∃ v1 v2, e = .returned (.tuple #[v1, v2, .int .i64 0]) ∧ Hid (Row w 81 2 v1 (canF D rs wrong hour.toNat).length (flatP (placesOf D (canF D rs wrong hour.toNat))) ∧ Row w 104 4 v2 cs.length (flatC (seaOf D) cs)))

set_option maxRecDepth 100000 in
set_option maxHeartbeats 1000000 in
theorem newSearch_any (D : SeaD) (lv dv rv cv : Value) (rs : List Rep) (wrong hour : Int) (cs : List Cst) (w : World) (hl : IntsAt w lv D.land) (hd : StepsAt w dv D.drift) (hr : RepsAt w rv rs) (hc : CastsAt w cv cs) :
    Cal 66 #[seaVal D lv dv, rv, .int .i64 wrong, .int .i64 hour, cv] w fun e w' => Ext w w' ∧ NewSearch D rs wrong hour cs e w' := by
  unfold seaVal
  gi_enter Try.func66, Try.ntmps66
  have hx := (Ext.refl w).alloc (.cells #[.int .i64 D.wide, .int .i64 D.high, lv, .int .i64 D.hours, dv, .int .i64 D.speed] 25)
  have HN := hid (newAsked_any D lv dv rv rs wrong hour _ (hl.mono hx) (hd.mono hx) (hr.mono hx))
  rw [seaVal] at HN
  have HCS := hid (hc.mono hx)
  clear hl hd hr hx hc
  by_cases h0 : askErr D rs wrong hour = 0
  rotate_left
  · have HE : Hid (searchErr D rs wrong hour cs = askErr D rs wrong hour) := if_pos h0
    have HA : Hid (∀ e w', NewAsked D rs wrong hour e w' → e = .returned (.tuple #[.pointer none, .int .i64 (askErr D rs wrong hour)])) := fun e w' h => by
      rcases h with h | h
      · exact h.2
      · exact absurd h.1 h0
    have HN0 := hid h0
    have hne : (askErr D rs wrong hour != 0) = true := by simpa using h0
    clear h0
    generalize askErr D rs wrong hour = ae at *
    gi_wp2_with (gi_at_call 61; ((with_reducible refine HN.out.mono ?_); rintro e w1 ⟨hx1, hN⟩; have he := HA.out _ _ hN; subst he; clear hN HN))
    exact bodyPost_ret (v := .tuple #[.slice none 0 0, .slice none 0 0, .int .i64 ae]) (results_tmp3 (fn := Try.f66) (t := 10) (u := 11) (v := 12) rfl _ _ _) rfl ⟨Ext.after hx1, .inl ⟨by rw [HE.out]; exact HN0.out, by rw [HE.out]⟩⟩
  have HA : Hid (∀ e w', NewAsked D rs wrong hour e w' → seaB D = true ∧ repsB D.hours (D.wide * D.high) rs = true ∧ inB hour 0 (D.hours - 1) = true ∧ ∃ b S, e = .returned (.tuple #[.pointer (some ⟨b, 0, none⟩), .int .i64 0]) ∧ Hid (SeaFull w' b S D rs)) := fun e w' h => by
    rcases h with h | h
    · exact absurd h0 h.1
    · exact ⟨h.2.1, h.2.2.1, h.2.2.2.2.1, h.2.2.2.2.2⟩
  have HE : Hid (searchErr D rs wrong hour cs = if castsB (D.wide * D.high) cs = false then 13 else if (canF D rs wrong hour.toNat).length = 0 then 12 else 0) := if_neg (fun h => h h0)
  have H0 := hid h0
  clear h0
  cases hcb : castsB (D.wide * D.high) cs with
  | false =>
    have HCB := hid hcb
    clear hcb
    gi_wp2_with (first | (gi_at_call 61; ((with_reducible refine HN.out.mono ?_); rintro e w1 ⟨hx1, hN⟩; obtain ⟨hb, hrb, hh, b, S, rfl, hF⟩ := HA.out _ _ hN; have HAC := hid (areCasts_any b S hF.out.ok cv cs w1 hF.out.at_ (HCS.out.mono hx1)); rw [hF.out.wide, hF.out.high, HCB.out] at HAC; clear hN HN HA)) | (gi_at_call 91; ((with_reducible refine HAC.out.mono ?_); rintro e w2 ⟨rfl, hx2⟩)))
    exact bodyPost_ret (v := .tuple #[.slice none 0 0, .slice none 0 0, .int .i64 13]) (results_tmp3 (fn := Try.f66) (t := 10) (u := 11) (v := 12) rfl _ _ _) rfl ⟨(Ext.after hx1).trans hx2, .inl ⟨by rw [HE.out, if_pos HCB.out]; decide, by rw [HE.out, if_pos HCB.out]⟩⟩
  | true =>
    have HCB := hid hcb
    clear hcb
    gi_wp2_with (first | (gi_at_call 61; ((with_reducible refine HN.out.mono ?_); rintro e w1 ⟨hx1, hN⟩; obtain ⟨hb, hrb, hh, b, S, rfl, hF⟩ := HA.out _ _ hN; have HAC := hid (areCasts_any b S hF.out.ok cv cs w1 hF.out.at_ (HCS.out.mono hx1)); rw [hF.out.wide, hF.out.high, HCB.out] at HAC; clear hN HN HA)) | (gi_at_call 91; ((with_reducible refine HAC.out.mono ?_); rintro e w2 ⟨rfl, hx2⟩; have HCA := hid (can_any b D.hours.toNat hour.toNat D S rs wrong w2 (hF.out.mono hx2) hb (hours_nat hb) (fun r hr => ((reps_ok hb hrb).2 r hr).1) (reps_ok hb hrb).1 (by have h1 := inB_spec hh; have h2 := hours_nat hb; omega)); rw [show ((hour.toNat : Nat) : Int) = hour by have h1 := inB_spec hh; omega] at HCA)) | (gi_at_call 62; ((with_reducible refine HCA.out.mono ?_); rintro e w3 ⟨v, rfl, hx3, hrow, _⟩; obtain ⟨a, cap, rfl, hcells⟩ := hrow.out.shape)))
    have HHC := hid hcells
    have HF3 := hid (hF.out.mono (hx2.trans hx3))
    have HX := hid ((Ext.after hx1).trans (hx2.trans hx3))
    have HX13 := hid (hx2.trans hx3)
    have HCN := hid (canF_len D hb rs wrong hour.toNat)
    have HCO := hid (casts_ok hb HCB.out)
    have HB := hid hb
    have HC1 := hid (HCS.out.mono hx1)
    have h80 := seaB_80 hb
    have HLT := hid (fun c (h : c ∈ canF D rs wrong hour.toNat) => canF_lt h)
    clear hcells hrow hF hx2 hx3 hx1 HCS HAC HCA hrb hb hh
    generalize hcl : canF D rs wrong hour.toNat = l at *
    have HCL := hid hcl
    clear hcl
    gi_loopw [15, 38] (fun v i wr => ∃ k : Nat, k ≤ l.length ∧ i = .int .i64 k ∧ Hid (Ext w3 wr ∧ Row wr 81 2 v k (flatP (placesOf D (l.take k))) ∧ ∀ g, v.ownBlock = some g → w3.heap.size ≤ g)) (fun _ i _ => l.length - (intOf i).toNat)
    case atStart => exact ⟨0, Nat.zero_le _, rfl, Ext.refl _, Row.nil _ _ _, fun g hg => by simp [Value.ownBlock] at hg⟩
    case round =>
      obtain ⟨k, hk, rfl, hI⟩ := hrel
      by_cases hlt : k < l.length
      · obtain ⟨g, rfl, hgl, hgc⟩ := HHC.out k (by unfold natVals; rw [List.length_map]; exact hlt)
        rw [show (natVals l)[k]'(by unfold natVals; rw [List.length_map]; exact hlt) = .int .i64 (l[k] : Nat) by simp [natVals], ← hI.out.1.cell (p := ⟨g, _, none⟩) hgl] at hgc
        have hck := HLT.out l[k] (List.getElem_mem _)
        have hck2 : (0 : Int) ≤ (l[k] : Nat) ∧ ((l[k] : Nat) : Int) ≤ 1000 := by omega
        have hPL := place_b b S HF3.out.ok (l[k] : Nat) hck2.1 hck2.2 wr (HF3.out.at_.mono hI.out.1)
        rw [col_of HF3.out.wide, row_of HF3.out.wide] at hPL
        have htk : placesOf D (l.take (k + 1)) = placesOf D (l.take k) ++ [(col (seaOf D) (l[k] : Nat), row (seaOf D) (l[k] : Nat))] := by
          unfold placesOf; rw [List.take_succ_eq_append_getElem hlt, List.map_append]; rfl
        have HT := hid htk
        have HPL := hid hPL
        have HI := hid hI.out
        have hn80 := HCN.out
        clear hI htk hPL hck hck2
        generalize col (seaOf D) (l[k] : Nat) = cc at *
        generalize row (seaOf D) (l[k] : Nat) = cr at *
        generalize l[k] = c at *
        obtain ⟨i0, hi0, hz0, hz1, hz2⟩ := info_parts info81
        have HZ := hid (And.intro hi0 (And.intro hz0 (And.intro hz1 hz2)))
        clear hi0 hz0 hz1 hz2
        have hmax : k + 1 ≤ 1000000000 := by omega
        gi_wp2_with (first | (gi_at_call 50; ((with_reducible refine HPL.out.mono ?_); rintro e w5 ⟨rfl, hx5⟩; have HRWW := hid ((HI.out.2.1.mono hx5).mono ((Ext.refl w5).alloc (.cells #[.int .i64 cc, .int .i64 cr] 81))); have HNW : Hid (∀ j u, [Value.int .i64 cc, Value.int .i64 cr][j]? = some u → (w5.alloc (.cells #[.int .i64 cc, .int .i64 cr] 81)).cell? ((⟨w5.heap.size, 0, none⟩ : Addr).add j) = some u) := (fun j u hj => by rw [Addr.add_mid, Nat.zero_add, new_cell _ _ rfl]; simpa using hj))) | (refine wpIn_append_row (fun _ => trivial) rfl (.tmp 42) (.tmp 46) rfl Try.underlying99 HZ.out.1 HZ.out.2.1 HZ.out.2.2.1 HZ.out.2.2.2 (by simp [Value.cells]) (by omega) (v := u15) rfl HRWW.out ⟨w5.heap.size, 0, none⟩ 1 rfl [.int .i64 cc, .int .i64 cr] rfl HNW.out (fun u hu => by simp at hu; rcases hu with rfl | rfl <;> rfl) hmax (by omega) ?_; intro v' w' hrow' hgr' how'))
        have hxb : Ext wr (w5.alloc (.cells #[.int .i64 cc, .int .i64 cr] 81)) := Ext.alloc hx5 _
        have hbel : Ext w3 w' := Below.trans (Ext.trans HI.out.1 hxb) ⟨hgr'.os, hgr'.tape, hgr'.output, hgr'.size, fun j hj => hgr'.block j (by have := (Ext.trans HI.out.1 hxb).size; omega) (fun e => by have := HI.out.2.2 j e.symm; omega)⟩
        have hsz := (Ext.trans HI.out.1 hxb).size
        go_roundw
        case rel =>
          refine ⟨k + 1, by omega, by go_num, hbel, ?_, fun g hg => ?_⟩
          · rw [HT.out, flatP_append]
            exact hrow'
          · rcases how' with e | e
            · exact HI.out.2.2 g (by rw [← e]; exact hg)
            · rw [hg] at e; cases e; exact hsz
        case measure => simp [intOf]; omega
      · obtain rfl : k = l.length := by omega
        have HI := hid hI.out
        clear hI
        rw [List.take_length] at HI
        obtain ⟨sa, sc, rfl⟩ := HI.out.2.1.isSliceN
        cases hz : decide (l.length = 0) with
        | true =>
          have hn0 : ((l.length : Int) == 0) = true := by simpa using hz
          have HZ := hid (of_decide_eq_true hz)
          clear hz
          gi_wp2
          exact bodyPost_ret (v := .tuple #[.slice none 0 0, .slice none 0 0, .int .i64 12]) (results_tmp3 (fn := Try.f66) (t := 10) (u := 11) (v := 12) rfl _ _ _) rfl ⟨HX.out.trans HI.out.1, .inl ⟨by rw [HE.out, if_neg (by rw [HCB.out]; simp), if_pos HZ.out]; decide, by rw [HE.out, if_neg (by rw [HCB.out]; simp), if_pos HZ.out]⟩⟩
        | false =>
          have hn0 : ((l.length : Int) == 0) = false := by simpa using hz
          have HZ := hid (of_decide_eq_false hz)
          clear hz
          have HCO2 := hid (castsOf_any b S HF3.out.ok cv cs wr (HF3.out.at_.mono HI.out.1) (HC1.out.mono (HX13.out.trans HI.out.1)) (fun c hc => (HCO.out.2.2 c hc).1) HCO.out.1)
          rw [flatC_of HF3.out.wide] at HCO2
          gi_wp2_with (gi_at_call 92; ((with_reducible refine HCO2.out.mono ?_); rintro e w5 ⟨v5, rfl, hx5, hr5⟩))
          exact bodyPost_ret (v := .tuple #[.slice sa l.length sc, v5, .int .i64 0]) (results_tmp3 (fn := Try.f66) (t := 10) (u := 11) (v := 12) rfl _ _ _) rfl ⟨HX.out.trans (HI.out.1.trans hx5), .inr ⟨by rw [HE.out, if_neg (by rw [HCB.out]; simp), if_neg HZ.out], H0.out, HB.out, HCB.out, by rw [HCL.out]; exact fun h => HZ.out (by rw [h]; rfl), _, _, rfl, by rw [HCL.out]; exact HI.out.2.1.mono hx5, hr5.out⟩⟩
end Go.Proofs.Ytiklblbjnblkfaa
