/- ShoalMirror: its walk. -/
import Derived.Test.YtlgcnjcbmihefaaYT
set_option linter.unusedSimpArgs false
set_option linter.unusedVariables false
namespace Go.Proofs.Ytlgcnjcbmihefaa
open Go Go.RowKit Go.Shelf

def mBox (W : World) (B : Nat) (D : SeaD) (lyv dyv : Value) : Prop := W.heap[B]? = some (.cells #[.int .i64 D.wide, .int .i64 D.high, lyv, .int .i64 D.hours, dyv, .int .i64 D.speed] 25 (0, 0))

theorem grown_cell {w u : World} {ob : Option Nat} (h : w.grownBy u ob) {b : Nat} (hb : b < w.heap.size) (hne : ob ≠ some b) (o : Nat) : u.cell? ⟨b, o, none⟩ = w.cell? ⟨b, o, none⟩ := by
  simp [World.cell?, h.block b hb (fun e => hne e.symm)]
theorem mBox.set_drift {W : World} {B : Nat} {D : SeaD} {lyv dyv : Value} (h : mBox W B D lyv dyv) (v : Value) : mBox (W.setCell ⟨B, 4, none⟩ v) B D lyv v := by
  have := set_same h 4 v
  unfold mBox
  simpa using this
theorem mBox.set_land {W : World} {B : Nat} {D : SeaD} {lyv dyv : Value} (h : mBox W B D lyv dyv) (v : Value) : mBox (W.setCell ⟨B, 2, none⟩ v) B D v dyv := by
  have := set_same h 2 v
  unfold mBox
  simpa using this

set_option maxRecDepth 100000 in
set_option maxHeartbeats 8000000 in
theorem ShoalMirror_any (D : SeaD) (rs : List Rep) (n0 n1 : Int) (v0 : Value) (w : World) (h0 : SearchAt w v0 D rs) :
    Cal 14 #[v0, .agg #[.int .i64 n0, .int .i64 n1]] w fun e w' => e = .returned (.bool true) ∧ Ext w w' := by
  obtain ⟨lv, dv, rv, rfl, hl, hd, hr⟩ := h0
  have hx : Ext w ((w.alloc (.cells #[.int .i64 D.wide, .int .i64 D.high, lv, .int .i64 D.hours, dv, .int .i64 D.speed, rv] 28)).alloc (.cells #[.int .i64 n0, .int .i64 n1] 38)) := ((Ext.refl w).alloc _).alloc _
  have hb1 : ((w.alloc (.cells #[.int .i64 D.wide, .int .i64 D.high, lv, .int .i64 D.hours, dv, .int .i64 D.speed, rv] 28)).alloc (.cells #[.int .i64 n0, .int .i64 n1] 38)).heap[w.heap.size]? = some (.cells #[.int .i64 D.wide, .int .i64 D.high, lv, .int .i64 D.hours, dv, .int .i64 D.speed, rv] 28 (0, 0)) := two_new
  have hb2 : ((w.alloc (.cells #[.int .i64 D.wide, .int .i64 D.high, lv, .int .i64 D.hours, dv, .int .i64 D.speed, rv] 28)).alloc (.cells #[.int .i64 n0, .int .i64 n1] 38)).heap[w.heap.size + 1]? = some (.cells #[.int .i64 n0, .int .i64 n1] 38 (0, 0)) := by
    have := Ext.new (w := w.alloc (.cells #[.int .i64 D.wide, .int .i64 D.high, lv, .int .i64 D.hours, dv, .int .i64 D.speed, rv] 28)) (o := .cells #[.int .i64 n0, .int .i64 n1] 38) (Ext.refl _)
    simpa using this
  have hlv : lv.oneCell' = true := by obtain ⟨_, _, rfl, _⟩ := hl; rfl
  have hdv : dv.oneCell' = true := by obtain ⟨_, _, rfl, _⟩ := hd; rfl
  have HONE : Hid ((#[Value.int .i64 D.wide, .int .i64 D.high, lv, .int .i64 D.hours, dv, .int .i64 D.speed] : Array Value).all (·.oneCell') = true) := by
    show Array.all _ _ = true
    simp [hlv, hdv]
    exact ⟨rfl, rfl, rfl, rfl⟩
  have HSND := hid (sound_any D rs _ _ ⟨lv, dv, rv, rfl, hl.mono hx, hd.mono hx, hr.mono hx⟩)
  have HL := hid (hl.mono hx)
  have HD := hid (hd.mono hx)
  have HR := hid (hr.mono hx)
  obtain ⟨da, dcap, rfl, _, hdc⟩ := hd.mono hx
  obtain ⟨ra, rcap, rfl, _, hrc⟩ := hr.mono hx
  have HDC := hid hdc
  have HRC := hid hrc
  have HX := hid hx
  have HB1 := hid hb1
  have HB2 := hid hb2
  clear hl hd hr hx hb1 hb2 hlv hdv hdc hrc
  gi_enter Try.func14, Try.ntmps14
  gi_wp2_with fail
  generalize (w.alloc (.cells #[.int .i64 D.wide, .int .i64 D.high, lv, .int .i64 D.hours, .slice da D.drift.length dcap, .int .i64 D.speed, .slice ra rs.length rcap] 28)).alloc (.cells #[.int .i64 n0, .int .i64 n1] 38) = w0 at *
  cases hsb : soundB D rs with
  | false =>
    rw [hsb] at HSND
    gi_wp2_with (first | (gi_at_call 31; ((with_reducible refine HSND.out.mono ?_); rintro e w1 ⟨rfl, hx1⟩)) | (gi_at_call 22; ((with_reducible refine (works_any _).mono ?_); rintro e w2 ⟨rfl, hx2⟩)))
    go_ret
    exact ⟨rfl, HX.out.trans (hx1.trans hx2)⟩
  | true =>
    rw [hsb] at HSND
    have hsb2 := hsb
    unfold soundB at hsb2
    rw [Bool.and_eq_true] at hsb2
    have hbd := sea_bounds hsb2.1
    have hst := steps_ok hsb2.1
    have hm0 := modI_ok n0 (m := 25) (by omega)
    have hh := inB_spec hbd.2.2.1
    have hm1 := modI_ok n1 (m := D.hours) hh.1
    have hw := inB_spec hbd.1
    have hmb := mul_bounds (inB_spec hbd.1) (inB_spec hbd.2.1)
    have hww : IntKind.i64.wrap (D.wide * D.high) = D.wide * D.high := by rw [IntKind.wrap_i64]; omega
    have hro := reps_ok hsb2.1 hsb2.2
    have hrep := repsB_iff.mp hsb2.2
    have HRO := hid hro.2
    have HRP := hid hrep.2
    have HST := hid hst.2
    have hr24 := hro.1
    have hdl := hst.1
    have HSB := hid hsb
    have HSE := hid hsb2.1
    clear hsb hsb2 hbd hst hro hrep
    have HCB := hid fun (e : World) (hx : Ext w0 e) => cell_of (hx.block HB1.out)
    gi_wp2_with (first | (gi_at_call 31; ((with_reducible refine HSND.out.mono ?_); rintro e w1 ⟨rfl, hx1⟩; have hcb1 := HCB.out w1 hx1)) | (refine wpIn_store_whole (w := w1.alloc (.cells #[.int .i64 0, .int .i64 0, .slice none 0 0, .int .i64 0, .slice none 0 0, .int .i64 0] 25)) 25 (.tmp 5) (.tmp 29) rfl (fun _ => trivial) rfl #[.int .i64 D.wide, .int .i64 D.high, lv, .int .i64 D.hours, .slice da D.drift.length dcap, .int .i64 D.speed] rfl (Ext.new (Ext.refl _)) (by kernel_rfl) rfl HONE.out ?_; have hsl := setRow_heap (w1.alloc (.cells #[.int .i64 0, .int .i64 0, .slice none 0 0, .int .i64 0, .slice none 0 0, .int .i64 0] 25)) w1.heap.size _ #[.int .i64 D.wide, .int .i64 D.high, lv, .int .i64 D.hours, .slice da D.drift.length dcap, .int .i64 D.speed] 25 _ (Ext.new (Ext.refl _)); have hx2 : Ext w1 ((w1.alloc (.cells #[.int .i64 0, .int .i64 0, .slice none 0 0, .int .i64 0, .slice none 0 0, .int .i64 0] 25)).setRow w1.heap.size #[.int .i64 D.wide, .int .i64 D.high, lv, .int .i64 D.hours, .slice da D.drift.length dcap, .int .i64 D.speed]) := below_setRow ((Ext.refl w1).alloc _) (Nat.le_refl _) _; generalize ((w1.alloc (.cells #[.int .i64 0, .int .i64 0, .slice none 0 0, .int .i64 0, .slice none 0 0, .int .i64 0] 25)).setRow w1.heap.size #[.int .i64 D.wide, .int .i64 D.high, lv, .int .i64 D.hours, .slice da D.drift.length dcap, .int .i64 D.speed]) = w2 at *; have hcy := cell_of hsl; have hfy := free_of hsl))
    have hy0 : mBox ((w2.setCell ⟨w1.heap.size, 2, none⟩ (.slice none 0 0)).setCell ⟨w1.heap.size, 4, none⟩ (.slice none 0 0)) w1.heap.size D (.slice none 0 0) (.slice none 0 0) := mBox.set_drift (mBox.set_land (show mBox w2 w1.heap.size D lv (.slice da D.drift.length dcap) from hsl) _) _
    have hx3 : Ext w1 ((w2.setCell ⟨w1.heap.size, 2, none⟩ (.slice none 0 0)).setCell ⟨w1.heap.size, 4, none⟩ (.slice none 0 0)) := (hx2.set (Nat.le_refl _) 2 _).set (Nat.le_refl _) 4 _
    generalize (w2.setCell ⟨w1.heap.size, 2, none⟩ (.slice none 0 0)).setCell ⟨w1.heap.size, 4, none⟩ (.slice none 0 0) = w3 at *
    have hbw : w.heap.size < w1.heap.size := Nat.lt_of_lt_of_le (lt_of_block HB1.out) hx1.size
    have HX1 := hid hx1
    have HY0 := hid (And.intro hx3 hy0)
    clear hx2 hsl hcy hfy hcb1 hy0 hx3 hx1 HSND
    obtain ⟨N, hN⟩ : ∃ N : Nat, D.wide * D.high = N := ⟨(D.wide * D.high).toNat, by omega⟩
    gi_loopw [6] (fun i wr => ∃ c : Nat, c ≤ N ∧ i = .int .i64 c ∧ Hid (Ext w1 wr ∧ ∃ lyv, mBox wr w1.heap.size D lyv (.slice none 0 0) ∧ Row wr 3 1 lyv (mirLand D c).length (natVals (mirLand D c)) ∧ ∀ g, lyv.ownBlock = some g → w1.heap.size < g)) (fun i _ => N - (intOf i).toNat)
    case atStart => exact ⟨0, Nat.zero_le _, rfl, HY0.out.1, _, HY0.out.2, Row.nil _ _ _, fun g hg => by simp [Value.ownBlock] at hg⟩
    case round =>
      obtain ⟨c, hc, rfl, hI⟩ := hrel
      obtain ⟨hxw, lyv, hbx, hrow, hown⟩ := hI.out
      have hcb := HCB.out wr (HX1.out.trans hxw)
      by_cases hlt : c < N
      · have dlt : decide ((c : Int) < D.wide * D.high) = true := by rw [decide_eq_true_eq]; omega
        have HTU := hid fun e : Later wr => turned_any D lv (.slice da D.drift.length dcap) (c : Int) e.val hw (by omega)
        rw [seaVal] at HTU
        have HPL := hid fun e : Later wr => Place_any lv D.land (turnI D.wide c) e.val (HL.out.mono (HX1.out.trans (hxw.trans e.grown)))
        have HC := hid fun e : Later wr => HCB.out e.val (HX1.out.trans (hxw.trans e.grown))
        have HLS := hid (mirLand_succ D c)
        have hpm := placeI_mem (xs := D.land) (x := turnI D.wide c)
        have hll : (mirLand D c).length ≤ c := by unfold mirLand; exact Nat.le_trans (List.length_filter_le _ _) (by simp)
        have HI := hid (And.intro hxw (And.intro hbx (And.intro hrow hown)))
        obtain ⟨sa, sc, rfl⟩ := hrow.isSliceN
        clear hI hxw hbx hrow hown
        gi_wp2_with fail
        cases hmem : D.land.contains (turnI D.wide c) with
        | true =>
          have dp : decide (0 ≤ placeI D.land (turnI D.wide c)) = true := by rw [decide_eq_true_eq]; exact hpm.mpr (List.contains_iff_mem.mp hmem)
          rw [hmem] at HLS
          clear hpm hmem
          generalize placeI D.land (turnI D.wide c) = pI at *
          refine quiet_wide 9 (by kernel_rfl) (by kernel_rfl) ?_
          simp only [List.take_succ_cons, List.take_zero, List.drop_succ_cons, List.drop_zero]
          have q1 := HC.out
          repeat (any_goals (first | go_big_quiet_step ((first | (go_at_call 43; with_reducible exact Cal.quiet (HTU.out _)) | (go_at_call 34; with_reducible exact Cal.quiet (HPL.out _)))) | quiet_step ((first | (go_at_call 43; with_reducible exact Cal.quiet (HTU.out _)) | (go_at_call 34; with_reducible exact Cal.quiet (HPL.out _))))))
          refine wpQuiet_nil ?_
          rintro w8 ⟨⟨_, hx8⟩, rfl⟩
          clear q1 HC HTU HPL
          have hb8 : mBox w8 w1.heap.size D (.slice sa (mirLand D c).length sc) (.slice none 0 0) := Ext.block hx8 HI.out.2.1
          have hc8 := cell_of hb8
          have hlb8 := lt_of_block hb8
          obtain ⟨i0, hi0, hz0, hz1, hz2⟩ := info_parts info3
          have HZ := hid (And.intro hi0 (And.intro hz0 (And.intro hz1 hz2)))
          clear hi0 hz0 hz1 hz2
          have hmax : (mirLand D c).length + 1 ≤ 1000000000 := by omega
          have HRWW := hid (HI.out.2.2.1.mono (Ext.trans hx8 ((Ext.refl w8).alloc (.cells #[.int .i64 c] 3))))
          have HNW : Hid (∀ j u, [Value.int .i64 c][j]? = some u → (w8.alloc (.cells #[.int .i64 c] 3)).cell? ((⟨w8.heap.size, 0, none⟩ : Addr).add j) = some u) := (fun j u hj => by rw [Addr.add_mid, Nat.zero_add, new_cell _ _ rfl]; simpa using hj)
          gi_wp2_with (refine wpIn_append_row (fun _ => trivial) rfl (.tmp 53) (.tmp 55) rfl Try.underlying22 HZ.out.1 HZ.out.2.1 HZ.out.2.2.1 HZ.out.2.2.2 (by simp [Value.cells]) (by omega) (v := .slice sa (mirLand D c).length sc) rfl HRWW.out ⟨w8.heap.size, 0, none⟩ 1 rfl [.int .i64 c] rfl HNW.out (fun u hu => by simp at hu; subst hu; rfl) hmax (by omega) ?_; intro v' w' hrow' hgr' how'; obtain ⟨ta, tn, tc, rfl⟩ := hrow'.isSlice; have hbv' := grownBy_block hgr' (Ext.block ((Ext.refl w8).alloc (.cells #[.int .i64 c] 3)) hb8) (fun e => by have := HI.out.2.2.2 _ e.symm; omega); have hcv' := cell_of hbv'; have hfv' := free_of hbv')
          have hxb : Ext w1 (w8.alloc (.cells #[.int .i64 c] 3)) := HI.out.1.trans (Ext.trans hx8 ((Ext.refl w8).alloc _))
          have hbel : Ext w1 w' := Below.trans hxb ⟨hgr'.os, hgr'.tape, hgr'.output, hgr'.size, fun j hj => hgr'.block j (by have := hxb.size; omega) (fun e => by have := HI.out.2.2.2 j e.symm; omega)⟩
          have hown' : ∀ g, (Value.slice ta tn tc).ownBlock = some g → w1.heap.size < g := fun g hg => by
            rcases how' with e | e
            · exact HI.out.2.2.2 g (by rw [← e]; exact hg)
            · rw [hg] at e
              cases e
              have := ((Ext.refl w8).alloc (.cells #[.int .i64 c] 3)).size
              omega
          go_roundw
          case rel =>
            refine ⟨c + 1, by omega, by go_num, hbel.set (Nat.le_refl _) 2 _, _, mBox.set_land hbv' _, ?_, hown'⟩
            refine Row.set ?_ (fun k hk => by have := hown' k hk; omega) 2 _
            rw [HLS.out, if_pos rfl, natVals_append, List.length_append]
            exact hrow'
          case measure => simp [intOf]; omega
        | false =>
          have dp : decide (0 ≤ placeI D.land (turnI D.wide c)) = false := by rw [decide_eq_false_iff_not]; exact fun h => by rw [List.contains_iff_mem.mpr (hpm.mp h)] at hmem; cases hmem
          rw [hmem] at HLS
          clear hpm hmem
          generalize placeI D.land (turnI D.wide c) = pI at *
          refine quiet_wide 9 (by kernel_rfl) (by kernel_rfl) ?_
          simp only [List.take_succ_cons, List.take_zero, List.drop_succ_cons, List.drop_zero]
          have q1 := HC.out
          repeat (any_goals (first | go_big_quiet_step ((first | (go_at_call 43; with_reducible exact Cal.quiet (HTU.out _)) | (go_at_call 34; with_reducible exact Cal.quiet (HPL.out _)))) | quiet_step ((first | (go_at_call 43; with_reducible exact Cal.quiet (HTU.out _)) | (go_at_call 34; with_reducible exact Cal.quiet (HPL.out _))))))
          refine wpQuiet_nil ?_
          rintro w8 ⟨⟨_, hx8⟩, rfl⟩
          clear q1 HC HTU HPL
          gi_wp2
          go_roundw
          case rel => exact ⟨c + 1, by omega, by go_num, Ext.trans HI.out.1 hx8, _, Ext.block hx8 HI.out.2.1, by rw [HLS.out, if_neg (by simp), List.append_nil]; exact HI.out.2.2.1.mono hx8, HI.out.2.2.2⟩
          case measure => simp [intOf]; omega
      · obtain rfl : c = N := by omega
        have dlt : decide ((c : Int) < D.wide * D.high) = false := by rw [decide_eq_false_iff_not]; omega
        obtain ⟨sa, sc, rfl⟩ := hrow.isSliceN
        have HLY := hid (And.intro hxw (And.intro hbx (And.intro hrow hown)))
        have HLO := hid hown
        obtain ⟨w4, rfl⟩ : ∃ w4, w4 = wr := ⟨wr, rfl⟩
        clear hI hxw hbx hown
        gi_wp2_with fail
        gi_loopw [7] (fun i wr => ∃ k : Nat, k ≤ D.drift.length ∧ i = .int .i64 k ∧ Hid (Ext w1 wr ∧ w4.heap.size ≤ wr.heap.size ∧ Row wr 3 1 (.slice sa (mirLand D c).length sc) (mirLand D c).length (natVals (mirLand D c)) ∧ ∃ dyv, mBox wr w1.heap.size D (.slice sa (mirLand D c).length sc) dyv ∧ Row wr 70 2 dyv k (flatS ((D.drift.take k).map mirStep)) ∧ ∀ g, dyv.ownBlock = some g → w4.heap.size ≤ g)) (fun i _ => D.drift.length - (intOf i).toNat)
        case atStart => exact ⟨0, Nat.zero_le _, rfl, HLY.out.1, Nat.le_refl _, HLY.out.2.2.1, _, HLY.out.2.1, Row.nil _ _ _, fun g hg => by simp [Value.ownBlock] at hg⟩
        case round =>
          obtain ⟨k, hk, rfl, hJ⟩ := hrel
          obtain ⟨hxv, hsz, hrl, dyv, hby, hrd, hod⟩ := hJ.out
          have hcb := HCB.out wr (HX1.out.trans hxv)
          by_cases hlk : k < D.drift.length
          · obtain ⟨db, off, hda, hdb, e0, e1⟩ := HDC.out k hlk
            have hbnd := HST.out k hlk
            obtain ⟨ya, yc, rfl⟩ := hrd.isSliceN
            have hneg : IntKind.i64.wrap (-D.drift[k].east) = -D.drift[k].east := by rw [IntKind.wrap_i64]; omega
            have hwx : w0.heap.size ≤ w1.heap.size := HX1.out.size
            have hw14 : w1.heap.size ≤ w4.heap.size := HLY.out.1.size
            have h1b : w1.heap.size < w4.heap.size := lt_of_block HLY.out.2.1
            have hob : ∀ g, (Value.slice ya k yc).ownBlock = some g → g < wr.heap.size := fun g hg => hrd.lt hg
            have htk : flatS ((D.drift.take (k + 1)).map mirStep) = flatS ((D.drift.take k).map mirStep) ++ [.int .i64 (-D.drift[k].east), .int .i64 D.drift[k].north] := by
              rw [List.take_succ_eq_append_getElem hlk, List.map_append, flatS_app]; rfl
            have e0' := ((HX1.out.trans hxv).cell (p := ⟨db, _, none⟩) hdb).trans e0
            have e1' := ((HX1.out.trans hxv).cell (p := ⟨db, _, none⟩) hdb).trans e1
            have HG : Hid (∀ u, wr.grownBy u (Value.slice ya k yc).ownBlock → (∀ o : Nat, u.cell? ⟨w.heap.size, o, none⟩ = #[Value.int .i64 D.wide, .int .i64 D.high, lv, .int .i64 D.hours, .slice da D.drift.length dcap, .int .i64 D.speed, .slice ra rs.length rcap][o]?) ∧
                (∀ o : Nat, u.cell? ⟨w1.heap.size, o, none⟩ = #[Value.int .i64 D.wide, .int .i64 D.high, .slice sa (mirLand D c).length sc, .int .i64 D.hours, .slice ya k yc, .int .i64 D.speed][o]?) ∧
                u.cell? ⟨db, off + k * 2, none⟩ = some (.int .i64 D.drift[k].east) ∧ u.cell? ⟨db, off + k * 2 + 1, none⟩ = some (.int .i64 D.drift[k].north)) := fun u hu =>
              ⟨fun o => (grown_cell hu (by omega) (fun e => by have := hod _ e; omega) o).trans (hcb o), fun o => (grown_cell hu (by omega) (fun e => by have := hod _ e; omega) o).trans (cell_of hby o),
                (grown_cell hu (by omega) (fun e => by have := hod _ e; omega) _).trans e0', (grown_cell hu (by omega) (fun e => by have := hod _ e; omega) _).trans e1'⟩
            have HJ := hid (And.intro hxv (And.intro hsz (And.intro hrl (And.intro hby (And.intro hrd hod)))))
            have HTK := hid htk
            have HOB := hid hob
            subst hda
            have hcy := cell_of hby
            clear hJ hxv hrl hby hrd hod e0 e1 e0' e1' htk hob
            generalize D.drift[k].east = se at *
            generalize D.drift[k].north = sn at *
            gi_wp2_with fail
            refine lex_own 20 (gPreds 70 2 wr.heap.size (k + 1) (Value.slice ya k yc).ownBlock [.int .i64 (-se), .int .i64 sn] (flatS ((D.drift.take k).map mirStep) ++ [.int .i64 (-se), .int .i64 sn]) 18 19) (gR (Value.slice ya k yc).ownBlock 19) (gC wr (Value.slice ya k yc).ownBlock 19) (fun u => wr.grownBy u (Value.slice ya k yc).ownBlock) (by kernel_rfl) (by kernel_rfl)
              (fun i => ?_) ((Ext.drawn wr).grown _) gC_ok gE_ok (g_stab fun g hg => HOB.out g hg) ?_
            · unfold gC
              split
              · exact Ext.drawn wr
              · exact (Ext.drawn wr).grown _
            simp only [List.take_succ_cons, List.take_zero, List.drop_succ_cons, List.drop_zero]
            apply g_fun (by omega) (by omega)
            · intro x u hR
              obtain ⟨q1, q2, q3, q4⟩ := HG.out u hR
              clear hR
              go_simp
              exact ⟨rfl, Ext.refl _⟩
            simp only [Act.put, List.setIfInBounds_toArray, List.set_cons_succ, List.set_cons_zero]
            apply g_fun (by omega) (by omega)
            · intro x u hR
              obtain ⟨q1, q2, q3, q4⟩ := HG.out u hR
              clear hR
              go_simp
              exact ⟨rfl, Ext.refl _⟩
            simp only [Act.put, List.setIfInBounds_toArray, List.set_cons_succ, List.set_cons_zero]
            apply g_fun (by omega) (by omega)
            · intro x u hR
              obtain ⟨q1, q2, q3, q4⟩ := HG.out u hR
              clear hR
              go_simp
              exact ⟨rfl, Ext.refl _⟩
            simp only [Act.put, List.setIfInBounds_toArray, List.set_cons_succ, List.set_cons_zero]
            apply g_fun (by omega) (by omega)
            · intro x u hR
              obtain ⟨q1, q2, q3, q4⟩ := HG.out u hR
              clear hR
              go_simp
              exact ⟨rfl, Ext.refl _⟩
            simp only [Act.put, List.setIfInBounds_toArray, List.set_cons_succ, List.set_cons_zero]
            apply g_fun (by omega) (by omega)
            · intro x u hR
              obtain ⟨q1, q2, q3, q4⟩ := HG.out u hR
              clear hR
              go_simp
              exact ⟨rfl, Ext.refl _⟩
            simp only [Act.put, List.setIfInBounds_toArray, List.set_cons_succ, List.set_cons_zero]
            apply g_fun (by omega) (by omega)
            · intro x u hR
              obtain ⟨q1, q2, q3, q4⟩ := HG.out u hR
              clear hR
              go_simp
              exact ⟨rfl, Ext.refl _⟩
            simp only [Act.put, List.setIfInBounds_toArray, List.set_cons_succ, List.set_cons_zero]
            apply g_fun (by omega) (by omega)
            · intro x u hR
              obtain ⟨q1, q2, q3, q4⟩ := HG.out u hR
              clear hR
              go_simp
              exact ⟨rfl, Ext.refl _⟩
            simp only [Act.put, List.setIfInBounds_toArray, List.set_cons_succ, List.set_cons_zero]
            apply g_fun (by omega) (by omega)
            · intro x u hR
              obtain ⟨q1, q2, q3, q4⟩ := HG.out u hR
              clear hR
              go_simp
              exact ⟨rfl, Ext.refl _⟩
            simp only [Act.put, List.setIfInBounds_toArray, List.set_cons_succ, List.set_cons_zero]
            apply g_fun (by omega) (by omega)
            · intro x u hR
              obtain ⟨q1, q2, q3, q4⟩ := HG.out u hR
              clear hR
              go_simp
              exact ⟨rfl, Ext.refl _⟩
            simp only [Act.put, List.setIfInBounds_toArray, List.set_cons_succ, List.set_cons_zero]
            apply g_fun (by omega) (by omega)
            · intro x u hR
              obtain ⟨q1, q2, q3, q4⟩ := HG.out u hR
              clear hR
              go_simp
              exact ⟨rfl, Ext.refl _⟩
            simp only [Act.put, List.setIfInBounds_toArray, List.set_cons_succ, List.set_cons_zero]
            apply g_fun (by omega) (by omega)
            · intro x u hR
              obtain ⟨q1, q2, q3, q4⟩ := HG.out u hR
              clear hR
              go_simp
              exact ⟨rfl, Ext.refl _⟩
            simp only [Act.put, List.setIfInBounds_toArray, List.set_cons_succ, List.set_cons_zero]
            apply g_fun (by omega) (by omega)
            · intro x u hR
              obtain ⟨q1, q2, q3, q4⟩ := HG.out u hR
              clear hR
              go_simp
              exact ⟨rfl, Ext.refl _⟩
            simp only [Act.put, List.setIfInBounds_toArray, List.set_cons_succ, List.set_cons_zero]
            apply g_fun (by omega) (by omega)
            · intro x u hR
              obtain ⟨q1, q2, q3, q4⟩ := HG.out u hR
              clear hR
              go_simp
              exact ⟨rfl, Ext.refl _⟩
            simp only [Act.put, List.setIfInBounds_toArray, List.set_cons_succ, List.set_cons_zero]
            apply g_fun (by omega) (by omega)
            · intro x u hR
              obtain ⟨q1, q2, q3, q4⟩ := HG.out u hR
              clear hR
              go_simp
              exact ⟨rfl, Ext.refl _⟩
            simp only [Act.put, List.setIfInBounds_toArray, List.set_cons_succ, List.set_cons_zero]
            apply g_fun (by omega) (by omega)
            · intro x u hR
              obtain ⟨q1, q2, q3, q4⟩ := HG.out u hR
              clear hR
              go_simp
              exact ⟨rfl, Ext.refl _⟩
            simp only [Act.put, List.setIfInBounds_toArray, List.set_cons_succ, List.set_cons_zero]
            apply g_fun (by omega) (by omega)
            · intro x u hR
              obtain ⟨q1, q2, q3, q4⟩ := HG.out u hR
              clear hR
              go_simp
              exact ⟨rfl, Ext.refl _⟩
            simp only [Act.put, List.setIfInBounds_toArray, List.set_cons_succ, List.set_cons_zero]
            apply g_fun (by omega) (by omega)
            · intro x u hR
              obtain ⟨q1, q2, q3, q4⟩ := HG.out u hR
              clear hR
              go_simp
              exact ⟨rfl, Ext.refl _⟩
            simp only [Act.put, List.setIfInBounds_toArray, List.set_cons_succ, List.set_cons_zero]
            apply g_fun (by omega) (by omega)
            · intro x u hR
              obtain ⟨q1, q2, q3, q4⟩ := HG.out u hR
              clear hR
              go_simp
              exact ⟨rfl, Ext.refl _⟩
            simp only [Act.put, List.setIfInBounds_toArray, List.set_cons_succ, List.set_cons_zero]
            refine g_row (by omega) ?_ ?_
            · intro x u hR
              have hn := hR.size
              clear hR
              go_simp
              exact ⟨⟨_, rfl, Ext.new (Ext.refl _), hn⟩, (Ext.refl _).alloc _⟩
            simp only [Act.put, List.setIfInBounds_toArray, List.set_cons_succ, List.set_cons_zero]
            refine g_new (by omega) ?_ ?_
            · intro x u hR hf
              have h18 : gRow 70 wr.heap.size [.int .i64 (-se), .int .i64 sn] (x 18) u := hf.2.1 rfl
              clear hf
              obtain ⟨g, e18, hg, hgn⟩ := h18
              obtain ⟨i0, hi0, hz0, hz1, hz2⟩ := info_parts info70
              obtain ⟨v', w', hrun, hrow', hgr, how, hown⟩ := append_row (sz := 2) (bytes := 16) (t := 23) (ty := 23) Try.underlying23 hi0 hz0 hz1 hz2 (by simp [Value.cells]) (by omega) (HJ.out.2.2.2.2.1.mono hR) ⟨g, 0, none⟩ 1 [.int .i64 (-se), .int .i64 sn] rfl
                (fun j z hj => by rw [Addr.add_mid, Nat.zero_add, cell_of hg]; simpa using hj) (fun z hz => by simp at hz; rcases hz with rfl | rfl <;> rfl) (by omega) (by omega)
              have HRW := hid (And.intro hrow' (And.intro hgr how))
              have hun := hR.size
              clear hR hg hrow' hgr how hown hi0 hz0 hz1 hz2
              rw [if_pos (show Region.wanted _ _ = true from rfl)]
              exact gives_append (.tmp 67) (.tmp 84) 23 rfl rfl e18 hrun ⟨⟨HRW.out.1, HRW.out.2.2.imp id fun e => ⟨_, e, hun⟩⟩, HRW.out.2.1⟩
            simp only [Act.put, List.setIfInBounds_toArray, List.set_cons_succ, List.set_cons_zero]
            refine lex_nil fun x u hE hfacts => ?_
            have h19 : gNew 70 2 wr.heap.size (k + 1) (Value.slice ya k yc).ownBlock _ (x 19) u := hfacts 19 _ (by omega) rfl
            clear hfacts
            generalize x 18 = x18 at *
            generalize x 19 = x19 at *
            have hbyu := grownBy_block hE HJ.out.2.2.2.1 (fun e => by have := HJ.out.2.2.2.2.2 _ e.symm; omega)
            have hcu := cell_of hbyu
            have hfu := free_of hbyu
            have hbel : Ext w1 u := Below.trans HJ.out.1 ⟨hE.os, hE.tape, hE.output, hE.size, fun j hj => hE.block j (by have := HJ.out.1.size; omega) (fun e => by have := HJ.out.2.2.2.2.2 j e.symm; omega)⟩
            have hrlu : Row u 3 1 (.slice sa (mirLand D c).length sc) (mirLand D c).length (natVals (mirLand D c)) := HJ.out.2.2.1.kept fun j ob hj ho => grownBy_block hE ho (fun e => by
              have h1 := hrow.lt hj
              have h2 := HJ.out.2.2.2.2.2 j e.symm
              omega)
            have hown : ∀ g, x19.ownBlock = some g → w4.heap.size ≤ g := fun g hg => by
              rcases h19.2 with e | ⟨k', e, hk'⟩
              · exact HJ.out.2.2.2.2.2 g (by rw [← e]; exact hg)
              · rw [hg] at e; cases e; omega
            have HU := hid (And.intro hbel (And.intro (Nat.le_trans hsz hE.size) (And.intro hrlu (And.intro hbyu (And.intro h19.1 hown)))))
            obtain ⟨za, zn, zc, rfl⟩ := h19.1.isSlice
            clear hbel hrlu hown hbyu h19 hE HG HJ
            gi_wp2
            go_roundw
            case rel =>
              refine ⟨k + 1, by omega, by go_num, HU.out.1.set (Nat.le_refl _) 4 _, by simpa using HU.out.2.1, Row.set HU.out.2.2.1 (fun j hj => ?_) 4 _, _, mBox.set_drift HU.out.2.2.2.1 _, Row.set (by rw [HTK.out]; exact HU.out.2.2.2.2.1) (fun j hj => ?_) 4 _, HU.out.2.2.2.2.2⟩
              · have := HLO.out j hj; omega
              · have := HU.out.2.2.2.2.2 j hj; omega
            case measure => simp [intOf]; omega
          · obtain rfl : k = D.drift.length := by omega
            obtain ⟨ya, yc, rfl⟩ := hrd.isSliceN
            have hcy := cell_of hby
            rw [List.take_length] at hrd
            have HX5 := hid (HX1.out.trans hxv)
            have HLM := hid (hrl.ints (by have : (mirLand D c).length ≤ c := by { unfold mirLand; exact Nat.le_trans (List.length_filter_le _ _) (by simp) }; omega))
            have HDM : Hid (StepsAt wr (.slice ya D.drift.length yc) (D.drift.map mirStep)) := Row.steps (by rw [List.length_map]; exact hrd) (by rw [List.length_map]; omega)
            have HBY := hid hby
            clear hJ hxv hrl hby hrd hod hsz HLY HLO hrow hlk hdl
            obtain ⟨w5, rfl⟩ : ∃ w5, w5 = wr := ⟨wr, rfl⟩
            gi_wp2_with fail
            gi_loopw [8, 9] (fun v i wr => ∃ k : Nat, k ≤ rs.length ∧ i = .int .i64 k ∧ Hid (Ext w5 wr ∧ Row wr 52 4 v k (flatR ((rs.take k).map (mirRep D))) ∧ ∀ g, v.ownBlock = some g → w5.heap.size ≤ g)) (fun _ i _ => rs.length - (intOf i).toNat)
            case atStart => exact ⟨0, Nat.zero_le _, rfl, Ext.refl _, Row.nil _ _ _, fun g hg => by simp [Value.ownBlock] at hg⟩
            case round =>
              obtain ⟨k, hk, rfl, hI⟩ := hrel
              have HI := hid hI.out
              clear hI
              have hcbw := HCB.out wr (HX5.out.trans HI.out.1)
              by_cases hlk : k < rs.length
              · obtain ⟨rb, off, hra, hrbl, c0, c1', c2', c3⟩ := HRC.out k hlk
                have hxw := HX5.out.trans HI.out.1
                have e0 := (hxw.cell (p := ⟨rb, _, none⟩) hrbl).trans c0
                have e1 := (hxw.cell (p := ⟨rb, _, none⟩) hrbl).trans c1'
                have e2 := (hxw.cell (p := ⟨rb, _, none⟩) hrbl).trans c2'
                have e3 := (hxw.cell (p := ⟨rb, _, none⟩) hrbl).trans c3
                have hok := HRP.out rs[k] (List.getElem_mem _)
                unfold repOk at hok
                simp only [Bool.and_eq_true] at hok
                have hcl := inB_spec hok.1.2
                have htk : flatR ((rs.take (k + 1)).map (mirRep D)) = flatR ((rs.take k).map (mirRep D)) ++ [.int .i64 rs[k].hour, .int .i64 (turnI D.wide rs[k].cell), .int .i64 rs[k].far, .bool rs[k].there] := by
                  rw [List.take_succ_eq_append_getElem hlk, List.map_append, flatR_app]; rfl
                have HTK := hid htk
                subst hra
                clear hok htk c0 c1' c2' c3
                generalize rs[k] = rp at *
                have HTU := hid fun (e : World) => turned_any D lv (.slice da D.drift.length dcap) rp.cell e hw (by omega)
                rw [seaVal] at HTU
                obtain ⟨i0, hi0, hz0, hz1, hz2⟩ := info_parts info52
                have HZ := hid (And.intro hi0 (And.intro hz0 (And.intro hz1 hz2)))
                clear hi0 hz0 hz1 hz2
                have hmax : k + 1 ≤ 1000000000 := by omega
                have hcb6 := HCB.out (wr.alloc (.cells #[.int .i64 rp.hour, .int .i64 rp.cell, .int .i64 rp.far, .bool rp.there] 52)) (hxw.alloc _)
                have hsl : (wr.alloc (.cells #[.int .i64 rp.hour, .int .i64 rp.cell, .int .i64 rp.far, .bool rp.there] 52)).heap[wr.heap.size]? = some (.cells #[.int .i64 rp.hour, .int .i64 rp.cell, .int .i64 rp.far, .bool rp.there] 52 (0, 0)) := Ext.new (Ext.refl _)
                have hc6 := cell_of hsl
                have HTU6 := hid (HTU.out (wr.alloc (.cells #[.int .i64 rp.hour, .int .i64 rp.cell, .int .i64 rp.far, .bool rp.there] 52)))
                gi_wp2_with (first | (gi_at_call 43; ((with_reducible refine HTU6.out.mono ?_); rintro e w7 ⟨rfl, hx7⟩; have hb7 := hx7.block hsl; have hc7 := cell_of hb7; have hf7 := free_of hb7; have hc8 := cell_of (set_same hb7 1 (.int .i64 (turnI D.wide rp.cell))); have hxs : Ext wr ((w7.setCell ⟨wr.heap.size, 1, none⟩ (.int .i64 (turnI D.wide rp.cell))).alloc (.cells #[.int .i64 rp.hour, .int .i64 (turnI D.wide rp.cell), .int .i64 rp.far, .bool rp.there] 52)) := ((Ext.after hx7).set (Nat.le_refl _) 1 _).alloc _; have HXS := hid hxs; have HRWW := hid (HI.out.2.1.mono hxs); have HNW : Hid (∀ z u, [Value.int .i64 rp.hour, .int .i64 (turnI D.wide rp.cell), .int .i64 rp.far, .bool rp.there][z]? = some u → ((w7.setCell ⟨wr.heap.size, 1, none⟩ (.int .i64 (turnI D.wide rp.cell))).alloc (.cells #[.int .i64 rp.hour, .int .i64 (turnI D.wide rp.cell), .int .i64 rp.far, .bool rp.there] 52)).cell? ((⟨w7.heap.size, 0, none⟩ : Addr).add z) = some u) := (fun z u hj => by rw [Addr.add_mid, Nat.zero_add, new_cell _ _ (by simp)]; simpa using hj))) | (refine wpIn_append_row (fun _ => trivial) rfl (.tmp 105) (.tmp 107) rfl Try.underlying26 HZ.out.1 HZ.out.2.1 HZ.out.2.2.1 HZ.out.2.2.2 (by simp [Value.cells]) (by omega) (v := u8) rfl HRWW.out ⟨w7.heap.size, 0, none⟩ 1 rfl [.int .i64 rp.hour, .int .i64 (turnI D.wide rp.cell), .int .i64 rp.far, .bool rp.there] rfl HNW.out (fun u hu => by simp at hu; rcases hu with rfl | rfl | rfl | rfl <;> rfl) hmax (by omega) ?_; intro v' w' hrow' hgr' how'))
                have hbel : Ext w5 w' := Below.trans (Ext.trans HI.out.1 HXS.out) ⟨hgr'.os, hgr'.tape, hgr'.output, hgr'.size, fun j hj => hgr'.block j (by have := (Ext.trans HI.out.1 HXS.out).size; omega) (fun e => by have := HI.out.2.2 j e.symm; omega)⟩
                have hsz := (Ext.trans HI.out.1 HXS.out).size
                go_roundw
                case rel =>
                  refine ⟨k + 1, by omega, by go_num, hbel, ?_, fun g hg => ?_⟩
                  · rw [HTK.out]
                    exact hrow'
                  · rcases how' with e | e
                    · exact HI.out.2.2 g (by rw [← e]; exact hg)
                    · rw [hg] at e
                      cases e
                      simp at hsz ⊢
                      omega
                case measure => simp [intOf]; omega
              · obtain rfl : k = rs.length := by omega
                have hrp : RepsAt wr u8 (rs.map (mirRep D)) := Row.reps (by rw [List.length_map]; have := HI.out.2.1; rw [List.take_length] at this; exact this) (by rw [List.length_map]; omega)
                have HRM := hid hrp
                have HW := hid HI.out.1
                clear hrp HI
                obtain ⟨w9, rfl⟩ : ∃ w9, w9 = wr := ⟨wr, rfl⟩
                have HX9 := hid (HX5.out.trans HW.out)
                have HLM9 : Hid (IntsAt w9 (.slice sa (mirLand D c).length sc) (mirD D).land) := by
                  have h := HLM.out.mono HW.out
                  show IntsAt w9 (.slice sa (mirLand D c).length sc) (intsOf (mirLand D (D.wide * D.high).toNat))
                  rw [show (D.wide * D.high).toNat = c by omega]
                  exact h
                have HDM9 : Hid (StepsAt w9 (.slice ya D.drift.length yc) (mirD D).drift) := HDM.out.mono HW.out
                have HBY9 := hid (Ext.block HW.out HBY.out)
                clear HLM HDM HBY HW hlk
                have HC1 := hid fun e : Later w9 => And.intro (HCB.out e.val (HX9.out.trans e.grown)) (cell_of ((HX9.out.trans e.grown).block HB2.out))
                have HM0 := hid fun e : Later w9 => mod_any n0 25 e.val (by omega)
                have HM1 := hid fun e : Later w9 => mod_any n1 D.hours e.val (by omega)
                gi_wp2_with fail
                refine quiet_wide 9 (by kernel_rfl) (by kernel_rfl) ?_
                simp only [List.take_succ_cons, List.take_zero, List.drop_succ_cons, List.drop_zero]
                have q1 := HC1.out
                repeat (any_goals (first | go_big_quiet_step ((first | (go_at_call 37; with_reducible exact Cal.quiet_same (HM0.out _)) | (go_at_call 37; with_reducible exact Cal.quiet_same (HM1.out _)))) | quiet_step ((first | (go_at_call 37; with_reducible exact Cal.quiet_same (HM0.out _)) | (go_at_call 37; with_reducible exact Cal.quiet_same (HM1.out _))))))
                refine wpQuiet_nil ?_
                rintro w10 ⟨⟨_, hx10⟩, rfl⟩
                clear q1 HC1 HM0 HM1
                have HF := hid (mir_facts HSB.out (n := modI n0 25) (h := modI n1 D.hours) hm0 hm1)
                generalize modI n0 25 = mW at *
                generalize modI n1 D.hours = mH at *
                have HXA := hid (HX9.out.trans hx10)
                have HCN := hid (Can_any D lv (.slice da D.drift.length dcap) (.slice ra rs.length rcap) rs mW mH w10 (HL.out.mono HXA.out) (HD.out.mono HXA.out) (HR.out.mono HXA.out))
                have HLS := hid fun (e : World) (hx : Ext w10 e) => Least_any D lv (.slice da D.drift.length dcap) (.slice ra rs.length rcap) rs e (HL.out.mono (HXA.out.trans hx)) (HD.out.mono (HXA.out.trans hx)) (HR.out.mono (HXA.out.trans hx))
                rw [seaVal] at HCN HLS
                have HCM : Hid (∀ e, Ext w10 e → Cal 23 #[.agg #[.int .i64 D.wide, .int .i64 D.high, .slice sa (mirLand D c).length sc, .int .i64 D.hours, .slice ya D.drift.length yc, .int .i64 D.speed], u8, .int .i64 mW, .int .i64 mH] e fun en w' => ∃ v, en = .returned (.tuple #[v, .int .i64 (canErr (mirD D) (rs.map (mirRep D)) mW mH)]) ∧ Ext e w' ∧ Hid (Row w' 3 1 v (canList (mirD D) (rs.map (mirRep D)) mW mH).length (natVals (canList (mirD D) (rs.map (mirRep D)) mW mH)))) :=
                  fun e hx => Can_any (mirD D) _ _ u8 (rs.map (mirRep D)) mW mH e (HLM9.out.mono (Ext.trans hx10 hx)) (HDM9.out.mono (Ext.trans hx10 hx)) (HRM.out.mono (Ext.trans hx10 hx))
                have HLT := fun (e : World) (hx : Ext w10 e) => Least_any (mirD D) _ _ u8 (rs.map (mirRep D)) e (HLM9.out.mono (Ext.trans hx10 hx)) (HDM9.out.mono (Ext.trans hx10 hx)) (HRM.out.mono (Ext.trans hx10 hx))
                have HLT2 : Hid (∀ e, Ext w10 e → Cal 19 #[.agg #[.int .i64 D.wide, .int .i64 D.high, .slice sa (mirLand D c).length sc, .int .i64 D.hours, .slice ya D.drift.length yc, .int .i64 D.speed], u8] e fun en w' => ∃ v, en = .returned (.tuple #[.int .i64 (leastN (mirD D) (rs.map (mirRep D))), v, .int .i64 (leastErr (mirD D) (rs.map (mirRep D)))]) ∧ Ext e w' ∧ Hid (Row w' 3 1 v (leastTr (mirD D) (rs.map (mirRep D))).length (natVals (leastTr (mirD D) (rs.map (mirRep D)))))) := HLT
                clear HLT
                rw [HF.out.1] at HCM
                rw [HF.out.2.1, HF.out.2.2.1] at HLT2
                have hlen := HF.out.2.2.2.1
                have HIN := hid HF.out.2.2.2.2
                have h80 : D.wide * D.high ≤ 80 := hmb.2
                have len1 : (canList D rs mW mH).length ≤ 80 := by
                  unfold canList canF opens
                  split
                  · simp
                  · refine Nat.le_trans (List.length_filter_le _ _) (Nat.le_trans (List.length_filter_le _ _) ?_)
                    rw [List.length_range]; omega
                have dlen : (((canList D rs mW mH).length : Int) != ((canList (mirD D) (rs.map (mirRep D)) mW mH).length : Int)) = false := by rw [bne_eq_false_iff_eq]; omega
                have HLEN := hid hlen
                have hx10' := hid hx10
                clear HF hlen
                generalize leastTr (mirD D) (rs.map (mirRep D)) = tm at *
                generalize leastTr D rs = tt at *
                generalize leastN D rs = lN at *
                generalize leastErr D rs = lE at *
                generalize canErr D rs mW mH = cE at *
                generalize canList D rs mW mH = la at *
                generalize canList (mirD D) (rs.map (mirRep D)) mW mH = lb at *
                have hcbA := HCB.out w10 HXA.out
                have hcyA := cell_of (Ext.block hx10 HBY9.out)
                gi_wp2_with (first | (gi_at_call 23; ((with_reducible refine HCN.out.mono ?_); rintro e w11 ⟨v11, rfl, hx11, hv11⟩; obtain ⟨a11, c11, rfl⟩ := hv11.out.isSliceN; have hcb11 := HCB.out w11 (HXA.out.trans hx11); have hcy11 := cell_of (Ext.block (Ext.trans hx10 hx11) HBY9.out); have HCM2 := hid (HCM.out w11 hx11))) | (gi_at_call 23; ((with_reducible refine HCM2.out.mono ?_); rintro e w12 ⟨v12, rfl, hx12, hv12⟩; obtain ⟨a12, c12, rfl⟩ := hv12.out.isSliceN; have hcb12 := HCB.out w12 (HXA.out.trans (hx11.trans hx12)); have hcy12 := cell_of (Ext.block (Ext.trans hx10 (hx11.trans hx12)) HBY9.out); have HLS2 := hid (HLS.out w12 (hx11.trans hx12)))) | (gi_at_call 19; ((with_reducible refine HLS2.out.mono ?_); rintro e w13 ⟨v13, rfl, hx13, hv13⟩; obtain ⟨a13, c13, rfl⟩ := hv13.out.isSliceN; have hcb13 := HCB.out w13 (HXA.out.trans (hx11.trans (hx12.trans hx13))); have hcy13 := cell_of (Ext.block (Ext.trans hx10 (hx11.trans (hx12.trans hx13))) HBY9.out); have HLT3 := hid (HLT2.out w13 (hx11.trans (hx12.trans hx13))))) | (gi_at_call 19; ((with_reducible refine HLT3.out.mono ?_); rintro e w14 ⟨v14, rfl, hx14, hv14⟩; obtain ⟨a14, c14, rfl⟩ := hv14.out.isSliceN)))
                all_goals try exact (undef_no (by assumption)).elim
                have HXE := hid (HXA.out.trans (hx11.trans (hx12.trans (hx13.trans hx14))))
                have HVB := hid (hv12.out.mono (hx13.trans hx14))
                have HVA := hid (hv11.out.mono (hx12.trans (hx13.trans hx14)))
                obtain ⟨xa, xcap, exc, hxc⟩ := HVA.out.shape
                cases exc
                have HLC : Hid (∀ k (hk : k < la.length), ∃ g, a11 = some ⟨g, 0, none⟩ ∧ g < w14.heap.size ∧ w14.cell? ⟨g, k, none⟩ = some (.int .i64 (la[k] : Nat))) := fun k hk => by
                  obtain ⟨g, e, h, hc⟩ := hxc k (by unfold natVals; rw [List.length_map]; exact hk)
                  exact ⟨g, e, h, by rw [hc]; simp [natVals]⟩
                have hlb : lb.length ≤ 80 := by have := HLEN.out; omega
                clear hxc hv11 hv12 hv13 hv14 hx11 hx12 hx13 hx14 hcb11 hcb12 hcb13 hcy11 hcy12 hcy13 hcbA hcyA dlen HCM HCN HLS HLT2 HLEN hN
                gi_loopw [23] (fun i wr => ∃ k : Nat, k ≤ la.length ∧ i = .int .i64 k ∧ Ext w14 wr) (fun i _ => la.length - (intOf i).toNat)
                case atStart => exact ⟨0, Nat.zero_le _, rfl, Ext.refl _⟩
                case round =>
                  obtain ⟨k, hk, rfl, hxk⟩ := hrel
                  by_cases hlk : k < la.length
                  · obtain ⟨lg, hla, hlg, hlcell⟩ := HLC.out k hlk
                    have hin := HIN.out la[k] (List.getElem_mem _)
                    subst hla
                    have hck : ((la[k] : Nat) : Int) < D.wide * D.high := by have := hin.1; omega
                    have hwm : IntKind.i64.wrap (D.wide * D.high - 1) = D.wide * D.high - 1 := by rw [IntKind.wrap_i64]; omega
                    have hinb : inB (la[k] : Nat) 0 (D.wide * D.high - 1) = true := by unfold inB; simp; omega
                    have HBI := hid fun e : Later wr => in_b (la[k] : Nat) 0 (D.wide * D.high - 1) true e.val hinb
                    have HTU := hid fun e : Later wr => turned_any D lv (.slice da D.drift.length dcap) (la[k] : Nat) e.val hw (by omega)
                    rw [seaVal] at HTU
                    have HPL := hid fun e : Later wr => Place_any (.slice a12 lb.length c12) (intsOf lb) (turnI D.wide (la[k] : Nat)) e.val ((HVB.out.mono (Ext.trans hxk e.grown)).ints (by omega))
                    have hmem : 0 ≤ placeI (intsOf lb) (turnI D.wide (la[k] : Nat)) := by
                      rw [placeI_mem, ← (turnN_ok hw.1 hin.1).1]
                      unfold intsOf
                      exact List.mem_map.mpr ⟨_, hin.2, rfl⟩
                    have dp : decide (placeI (intsOf lb) (turnI D.wide (la[k] : Nat)) < 0) = false := by rw [decide_eq_false_iff_not]; omega
                    have HC := hid fun e : Later wr => And.intro (HCB.out e.val (HXE.out.trans (Ext.trans hxk e.grown))) (((Ext.trans hxk e.grown).cell (p := ⟨lg, _, none⟩) hlg).trans hlcell)
                    have HXK := hid hxk
                    clear hmem hin hlg hlcell hxk
                    generalize placeI (intsOf lb) (turnI D.wide (la[k] : Nat)) = pI at *
                    generalize turnI D.wide (la[k] : Nat) = tI at *
                    generalize la[k] = ck at *
                    gi_wp2_with fail
                    refine quiet_wide 26 (by kernel_rfl) (by kernel_rfl) ?_
                    simp only [List.take_succ_cons, List.take_zero, List.drop_succ_cons, List.drop_zero]
                    have q1 := HC.out
                    repeat (any_goals (first | go_big_quiet_step ((first | (go_at_call 39; with_reducible exact Cal.quiet_same (HBI.out _)) | (go_at_call 43; with_reducible exact Cal.quiet (HTU.out _)) | (go_at_call 34; with_reducible exact Cal.quiet (HPL.out _)))) | quiet_step ((first | (go_at_call 39; with_reducible exact Cal.quiet_same (HBI.out _)) | (go_at_call 43; with_reducible exact Cal.quiet (HTU.out _)) | (go_at_call 34; with_reducible exact Cal.quiet (HPL.out _))))))
                    refine wpQuiet_nil ?_
                    rintro w15 ⟨⟨_, hx15⟩, rfl⟩
                    clear q1 HC HBI HTU HPL
                    gi_wp2
                    all_goals exact ⟨⟨k + 1, by omega, by go_num, HXK.out.trans hx15⟩, by simp [intOf]; omega⟩
                  · obtain rfl : k = la.length := by omega
                    gi_wp2_with (gi_at_call 22; ((with_reducible refine (works_any _).mono ?_); rintro e wz ⟨rfl, hxz⟩))
                    go_ret
                    exact ⟨rfl, HX.out.trans (HXE.out.trans (hxk.trans hxz))⟩
end Go.Proofs.Ytlgcnjcbmihefaa
