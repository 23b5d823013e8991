/- sound: a valid fleet. -/
import Derived.Test.YtmjelgonhpgmbaaMS
import Derived.Test.YtmjelgonhpgmbaaME
set_option linter.unusedSimpArgs false
set_option linter.unusedVariables false
namespace Go.Proofs.Ytmjelgonhpgmbaa
open Go Go.RowKit Go.Shelf

set_option maxRecDepth 100000 in
set_option maxHeartbeats 2000000 in
theorem sound_any (F : FleetD) (ev nv sv : Value) (w : World) (he : SpansAt w ev F.east) (hn : SpansAt w nv F.north) (hs : ShotsAt w sv F.nets) :
    Cal 22 #[.agg #[ev, nv, .int .i64 F.gap, sv]] w fun e w' => e = .returned (.bool (fleetB F)) ∧ Ext w w' := by
  have hx : Ext w (w.alloc (.cells #[ev, nv, .int .i64 F.gap, sv] 40)) := (Ext.refl w).alloc _
  have hbx : (w.alloc (.cells #[ev, nv, .int .i64 F.gap, sv] 40)).heap[w.heap.size]? = some (.cells #[ev, nv, .int .i64 F.gap, sv] 40 (0, 0)) := Ext.new (Ext.refl _)
  have HT := hid (Check_any F ev nv sv _ (he.mono hx) (hn.mono hx) (hs.mono hx))
  have HBX := hid hbx
  have HX := hid hx
  obtain ⟨ea, ec, rfl, _, _⟩ := he
  obtain ⟨na, nc, rfl, _, _⟩ := hn
  obtain ⟨sa, sc, rfl, hsl, hsc⟩ := hs
  have HSC := hid hsc
  clear hx hbx hsc
  gi_enter Try.func22, Try.ntmps22
  cases hb : fleetB F with
  | false =>
    have he : checkE F = 20 := by unfold checkE; rw [hb]; rfl
    rw [he] at HT
    clear he hb
    gi_wp2_with (gi_at_call 23; ((with_reducible refine HT.out.mono ?_); rintro e w1 ⟨rfl, hx1⟩; have hc1 := cell_of (hx1.block HBX.out)))
    gi_loopw [3, 4] (fun a i wr => a = .bool false ∧ i = .int .i64 0 ∧ Ext w1 wr) (fun _ _ _ => 0)
    case atStart => exact ⟨rfl, rfl, Ext.refl _⟩
    case round =>
      obtain ⟨rfl, rfl, hx2⟩ := hrel
      gi_wp2
      go_ret
      exact ⟨rfl, HX.out.trans (hx1.trans hx2)⟩
  | true =>
    have ok := fleetB_ok hb
    have hh := ok.hours
    have hcn := ok.count
    have H1 : Hid (inB F.east.length 1 24 = true) := by show _ = _; unfold inB; rw [decide_eq_true (by omega), decide_eq_true (by omega)]; rfl
    have H2 : Hid (inB F.nets.length 1 6 = true) := by show _ = _; unfold inB; rw [decide_eq_true (by omega), decide_eq_true (by omega)]; rfl
    have h5 : ((F.north.length : Int) == (F.east.length : Int)) = true := by rw [ok.same]; simp
    have HRB := hid (fun (k : Nat) (hk : k < F.nets.length) => And.intro (ok.nets _ (List.getElem_mem hk)).shot (ok.nets _ (List.getElem_mem hk)).haul)
    have he : checkE F = 0 := by unfold checkE; rw [hb]; rfl
    rw [he] at HT
    clear he hb ok
    gi_wp2_with (first | (gi_at_call 23; ((with_reducible refine HT.out.mono ?_); rintro e w1 ⟨rfl, hx1⟩; have hc1 := cell_of (hx1.block HBX.out); have HB1 := hid (hx1.block HBX.out))) | (gi_at_call 26; ((with_reducible refine (in_b _ _ _ true _ H1.out).mono ?_); rintro e w9 ⟨rfl, rfl⟩)) | (gi_at_call 26; ((with_reducible refine (in_b _ _ _ true _ H2.out).mono ?_); rintro e w9 ⟨rfl, rfl⟩)))
    gi_loopw [3, 4] (fun a i wr => ∃ k : Nat, k ≤ F.nets.length ∧ a = .bool true ∧ i = .int .i64 k ∧ Ext w1 wr) (fun _ i _ => F.nets.length - (intOf i).toNat)
    case atStart => exact ⟨0, Nat.zero_le _, rfl, rfl, Ext.refl _⟩
    case round =>
      obtain ⟨k, hk, rfl, rfl, hx2⟩ := hrel
      have hbw := hx2.block HB1.out
      have hcw := cell_of hbw
      by_cases hlt : k < F.nets.length
      · obtain ⟨rb, off, rfl, hrb, _, _, _, _, hr0, hr1, _⟩ := HSC.out k hlt
        have hrk := HRB.out k hlt
        have HRK : Hid (inB F.nets[k].shot 0 ((F.east.length : Int) - 1) = true ∧ inB F.nets[k].haul F.nets[k].shot F.east.length = true) := by
          show _ ∧ _
          unfold inB
          rw [decide_eq_true hrk.1.1, decide_eq_true hrk.1.2, decide_eq_true hrk.2.1, decide_eq_true hrk.2.2]
          exact ⟨rfl, rfl⟩
        have HC := hid fun e : Later wr => And.intro (cell_of (Ext.block e.grown hbw)) (And.intro ((HX.out.trans (hx1.trans (Ext.trans hx2 e.grown))).cell (p := ⟨rb, _, none⟩) hrb |>.trans hr0) ((HX.out.trans (hx1.trans (Ext.trans hx2 e.grown))).cell (p := ⟨rb, _, none⟩) hrb |>.trans hr1))
        have HX2 := hid hx2
        clear hr0 hr1 hrb hrk hbw hx2
        generalize F.nets[k].shot = rh at *
        generalize F.nets[k].haul = rc at *
        gi_wp2_with fail
        clear hcw
        refine quiet_wide 29 (by kernel_rfl) (by kernel_rfl) ?_
        simp only [List.take_succ_cons, List.take_zero, List.drop_succ_cons, List.drop_zero]
        have q1 := HC.out
        repeat (any_goals (first | go_big_quiet_step ((first | (go_at_call 26; with_reducible exact Cal.quiet_same (in_b _ _ _ true _ HRK.out.1)) | (go_at_call 26; with_reducible exact Cal.quiet_same (in_b _ _ _ true _ HRK.out.2)))) | quiet_step ((first | (go_at_call 26; with_reducible exact Cal.quiet_same (in_b _ _ _ true _ HRK.out.1)) | (go_at_call 26; with_reducible exact Cal.quiet_same (in_b _ _ _ true _ HRK.out.2))))))
        refine wpQuiet_nil ?_
        rintro w5 ⟨⟨_, hx5⟩, rfl⟩
        clear q1 HC
        gi_wp2_with fail
        go_roundw
        case rel => exact ⟨k + 1, by omega, rfl, by go_num, HX2.out.trans hx5⟩
        case measure => simp [intOf]; omega
      · obtain rfl : k = F.nets.length := by omega
        gi_wp2_with fail
        go_ret
        exact ⟨rfl, HX.out.trans (hx1.trans hx2)⟩



def pairI (F : FleetD) (n0 : Int) : Nat := (modI n0 F.nets.length).toNat
def pairK (F : FleetD) (n0 n1 : Int) : Nat := (modI ((pairI F n0 : Int) + 1 + modI n1 ((F.nets.length : Int) - 1)) F.nets.length).toNat
def pairLo (F : FleetD) (n0 n1 : Int) : Int := max (F.nets.getD (pairI F n0) netZ).shot (F.nets.getD (pairK F n0 n1) netZ).shot
def pairHi (F : FleetD) (n0 n1 : Int) : Int := min (F.nets.getD (pairI F n0) netZ).haul (F.nets.getD (pairK F n0 n1) netZ).haul
def pairOk (F : FleetD) (n0 n1 : Int) : Bool := decide (2 ≤ F.nets.length) && decide (pairLo F n0 n1 ≤ pairHi F n0 n1)
def pairV (F : FleetD) (n0 n1 n2 : Int) : Value := if pairOk F n0 n1 then .tuple #[.int .i64 (pairI F n0), .int .i64 (pairK F n0 n1), .int .i64 (chosenI (pairLo F n0 n1) (pairHi F n0 n1) n2), .bool true] else .tuple #[.int .i64 0, .int .i64 0, .int .i64 0, .bool false]
theorem modI_pos {x m : Int} (h : 0 ≤ x) (hm : 1 ≤ m) : modI x m = x % m := by
  unfold modI
  have := Int.emod_nonneg x (show m ≠ 0 by omega)
  rw [Int.tmod_eq_emod_of_nonneg h, if_neg (by omega)]
theorem pair_lt {F : FleetD} (h : 2 ≤ F.nets.length) (n0 n1 : Int) : pairI F n0 < F.nets.length ∧ pairK F n0 n1 < F.nets.length ∧ pairI F n0 ≠ pairK F n0 n1 ∧ modI n0 F.nets.length = (pairI F n0 : Int) ∧ modI ((pairI F n0 : Int) + 1 + modI n1 ((F.nets.length : Int) - 1)) F.nets.length = (pairK F n0 n1 : Int) := by
  have h1 := modI_ok n0 (m := (F.nets.length : Int)) (by omega)
  have h2 := modI_ok n1 (m := (F.nets.length : Int) - 1) (by omega)
  have hi : modI n0 F.nets.length = (pairI F n0 : Int) := by unfold pairI; omega
  have h3 := modI_ok ((pairI F n0 : Int) + 1 + modI n1 ((F.nets.length : Int) - 1)) (m := (F.nets.length : Int)) (by omega)
  have hk : modI ((pairI F n0 : Int) + 1 + modI n1 ((F.nets.length : Int) - 1)) F.nets.length = (pairK F n0 n1 : Int) := by unfold pairK; omega
  refine ⟨by omega, by omega, ?_, hi, hk⟩
  have hi2 : (pairI F n0 : Int) < F.nets.length := by omega
  have hq := hk
  rw [modI_pos (by omega) (by omega)] at hq
  generalize modI n1 ((F.nets.length : Int) - 1) = q at *
  intro he
  rw [← he] at hq
  by_cases hlt : (pairI F n0 : Int) + 1 + q < F.nets.length
  · rw [Int.emod_eq_of_lt (by omega) hlt] at hq; omega
  · rw [← Int.sub_emod_right, Int.emod_eq_of_lt (by omega) (by omega)] at hq; omega

set_option maxRecDepth 100000 in
set_option maxHeartbeats 4000000 in
theorem pairHour_any (F : FleetD) (hF : fleetB F = true) (ev nv sv : Value) (n0 n1 n2 : Int) (w : World) (he : SpansAt w ev F.east) (hn : SpansAt w nv F.north) (hs : ShotsAt w sv F.nets) :
    Cal 27 #[.agg #[ev, nv, .int .i64 F.gap, sv], .agg #[.int .i64 n0, .int .i64 n1, .int .i64 n2]] w fun e w' => e = .returned (pairV F n0 n1 n2) ∧ Ext w w' := by
  obtain ⟨sa, sc, rfl, hsl, hsc⟩ := hs
  have ok := fleetB_ok hF
  have hcn := ok.count
  have hh := ok.hours
  gi_enter Try.func27, Try.ntmps27
  by_cases h2 : 2 ≤ F.nets.length
  case neg =>
    have HV : Hid (pairV F n0 n1 n2 = .tuple #[.int .i64 0, .int .i64 0, .int .i64 0, .bool false]) := by
      show _ = _
      unfold pairV pairOk
      rw [decide_eq_false h2]
      rfl
    have hlt : (F.nets.length : Int) < 2 := by omega
    clear hsc ok
    gi_wp2_with fail
    refine bodyPost_ret (v := .tuple #[.int .i64 0, .int .i64 0, .int .i64 0, .bool false]) (by simp [results, Try.results27, go_sem]) rfl ⟨by rw [HV.out], ((Ext.refl _).alloc _).alloc _⟩
  case pos =>
    obtain ⟨hi, hk, hne, em1, em2⟩ := pair_lt h2 n0 n1
    have hlt : ¬ (F.nets.length : Int) < 2 := by omega
    have HM1 := hid (fun u => mod_any n0 F.nets.length u (by omega))
    have HM0 := hid (fun u => mod_any n1 ((F.nets.length : Int) - 1) u (by omega))
    have hm0 := modI_ok n1 (m := (F.nets.length : Int) - 1) (by omega)
    have HM2 := hid (fun u => mod_any ((pairI F n0 : Int) + 1 + modI n1 ((F.nets.length : Int) - 1)) F.nets.length u (by omega))
    rw [em1] at HM1
    rw [em2] at HM2
    have HPL : Hid (pairLo F n0 n1 = max F.nets[pairI F n0].shot F.nets[pairK F n0 n1].shot ∧ pairHi F n0 n1 = min F.nets[pairI F n0].haul F.nets[pairK F n0 n1].haul) := by
      show _ ∧ _
      unfold pairLo pairHi
      rw [getD_of hi, getD_of hk]
      exact ⟨rfl, rfl⟩
    have o1 := ok.nets _ (List.getElem_mem hi)
    have o2 := ok.nets _ (List.getElem_mem hk)
    have b1 := o1.shot
    have b2 := o1.haul
    have b3 := o2.shot
    have b4 := o2.haul
    have HV : Hid (pairV F n0 n1 n2 = if pairLo F n0 n1 ≤ pairHi F n0 n1 then .tuple #[.int .i64 (pairI F n0), .int .i64 (pairK F n0 n1), .int .i64 (chosenI (pairLo F n0 n1) (pairHi F n0 n1) n2), .bool true] else .tuple #[.int .i64 0, .int .i64 0, .int .i64 0, .bool false]) := by
      show _ = _
      unfold pairV pairOk
      rw [decide_eq_true h2, Bool.true_and]
      simp only [decide_eq_true_eq]
    rw [HPL.out.1, HPL.out.2] at HV
    obtain ⟨rb, off, rfl, hrb, _, _, _, _, hs1, hl1, _⟩ := hsc _ hi
    obtain ⟨rb2, off2, hre, hrb2, _, _, _, _, hs2, hl2, _⟩ := hsc _ hk
    obtain ⟨rfl, rfl⟩ : rb = rb2 ∧ off = off2 := by cases hre; exact ⟨rfl, rfl⟩
    clear em1 em2 HPL o1 o2 hsc ok hre hrb2
    generalize modI n1 ((F.nets.length : Int) - 1) = q at *
    generalize pairI F n0 = i at *
    generalize pairK F n0 n1 = k at *
    generalize F.nets[i].shot = ash at *
    generalize F.nets[k].shot = bsh at *
    generalize F.nets[i].haul = ah at *
    generalize F.nets[k].haul = bh at *
    have hik : (i : Int) < F.nets.length := by omega
    have hkk : (k : Int) < F.nets.length := by omega
    have hx0 : Ext w ((w.alloc (.cells #[ev, nv, .int .i64 F.gap, .slice (some ⟨rb, off, none⟩) F.nets.length sc] 40)).alloc (.cells #[.int .i64 n0, .int .i64 n1, .int .i64 n2] 60)) := ((Ext.refl _).alloc _).alloc _
    have hB0 : ((w.alloc (.cells #[ev, nv, .int .i64 F.gap, .slice (some ⟨rb, off, none⟩) F.nets.length sc] 40)).alloc (.cells #[.int .i64 n0, .int .i64 n1, .int .i64 n2] 60)).heap[w.heap.size]? = some (.cells #[ev, nv, .int .i64 F.gap, .slice (some ⟨rb, off, none⟩) F.nets.length sc] 40 (0, 0)) := two_new
    have hB1 : ((w.alloc (.cells #[ev, nv, .int .i64 F.gap, .slice (some ⟨rb, off, none⟩) F.nets.length sc] 40)).alloc (.cells #[.int .i64 n0, .int .i64 n1, .int .i64 n2] 60)).heap[w.heap.size + 1]? = some (.cells #[.int .i64 n0, .int .i64 n1, .int .i64 n2] 60 (0, 0)) := by
      have := Ext.new (w := w.alloc (.cells #[ev, nv, .int .i64 F.gap, .slice (some ⟨rb, off, none⟩) F.nets.length sc] 40)) (o := .cells #[.int .i64 n0, .int .i64 n1, .int .i64 n2] 60) (Ext.refl _)
      rwa [World.size_alloc] at this
    have HX := hid hx0
    have HBB := hid (And.intro hB0 hB1)
    have HLD := hid (And.intro hrb (And.intro hs1 (And.intro hl1 (And.intro hs2 hl2))))
    clear hs1 hl1 hs2 hl2 hrb
    gi_upto_region 3 with fail
    clear hx0 hB0 hB1
    generalize ((w.alloc (.cells #[ev, nv, .int .i64 F.gap, .slice (some ⟨rb, off, none⟩) F.nets.length sc] 40)).alloc (.cells #[.int .i64 n0, .int .i64 n1, .int .i64 n2] 60)) = W at *
    have c0 := cell_of HBB.out.1
    have c1 := cell_of HBB.out.2
    gi_upto_region 4 with (gi_at_call 34; ((with_reducible refine (HM1.out _).mono ?_); rintro e w5 ⟨rfl, rfl⟩))
    clear c0 c1
    have HC0 := hid fun e : Later W => cell_of (Ext.block e.grown HBB.out.1)
    have HC1 := hid fun e : Later W => cell_of (Ext.block e.grown HBB.out.2)
    have q0 := HC0.out
    have q1 := HC1.out
    refine quiet_wide 14 (by kernel_rfl) (by kernel_rfl) ?_
    simp only [List.take_succ_cons, List.take_zero, List.drop_succ_cons, List.drop_zero]
    repeat (any_goals (first | go_big_quiet_step ((first | (go_at_call 34; with_reducible exact Cal.quiet_same (HM0.out _)) | (go_at_call 34; with_reducible exact Cal.quiet_same (HM2.out _)))) | quiet_step ((first | (go_at_call 34; with_reducible exact Cal.quiet_same (HM0.out _)) | (go_at_call 34; with_reducible exact Cal.quiet_same (HM2.out _))))))
    refine wpQuiet_nil ?_
    rintro w5 ⟨⟨_, hx5⟩, rfl⟩
    have hx5 : Ext W _ := hx5
    clear q0 q1 HC0 HC1
    gi_wp2_with fail
    have HX5 := hid (HX.out.trans hx5)
    have HB5 := hid (And.intro (hx5.block HBB.out.1) (hx5.block HBB.out.2))
    clear hx5 HX HBB HM0 HM1 HM2
    have HC0 := hid fun e : Later w5 => And.intro (cell_of (Ext.block e.grown HB5.out.1)) (And.intro ((HX5.out.trans e.grown).cell (p := ⟨rb, _, none⟩) HLD.out.1 |>.trans HLD.out.2.1) (And.intro ((HX5.out.trans e.grown).cell (p := ⟨rb, _, none⟩) HLD.out.1 |>.trans HLD.out.2.2.1) (And.intro ((HX5.out.trans e.grown).cell (p := ⟨rb, _, none⟩) HLD.out.1 |>.trans HLD.out.2.2.2.1) ((HX5.out.trans e.grown).cell (p := ⟨rb, _, none⟩) HLD.out.1 |>.trans HLD.out.2.2.2.2))))
    clear HLD
    have hb1 : 0 ≤ max ash bsh ∧ max ash bsh ≤ 1000 := by omega
    have hb2 : 0 ≤ min ah bh ∧ min ah bh ≤ 1000 := by omega
    have q0 := HC0.out
    refine quiet_wide 28 (by kernel_rfl) (by kernel_rfl) ?_
    simp only [List.take_succ_cons, List.take_zero, List.drop_succ_cons, List.drop_zero]
    repeat (any_goals (first | go_big_quiet_step (fail) | quiet_step (fail)))
    refine wpQuiet_nil ?_
    rintro w6 ⟨⟨w6q, hx6⟩, hew6⟩
    obtain rfl : w6 = w6q := hew6
    have hx6 : Ext w5 w6 := hx6
    clear q0 HC0
    have HX6 := hid (HX5.out.trans hx6)
    have c1 := cell_of (hx6.block HB5.out.2)
    clear hx6 HX5 HB5
    have HCH := hid (fun u => chosen_num (max ash bsh) (min ah bh) n2 u (by omega))
    generalize max ash bsh = f at *
    generalize min ah bh = g at *
    by_cases hle : f ≤ g
    · have HW := HV.out
      rw [if_pos hle] at HW
      have HW2 := hid HW
      clear HW HV
      have hgt : ¬ g < f := by omega
      gi_wp2_with (gi_at_call 36; ((with_reducible refine (HCH.out _).mono ?_); rintro e w9 ⟨rfl, rfl⟩))
      exact bodyPost_ret (v := .tuple #[.int .i64 i, .int .i64 k, .int .i64 (chosenI f g n2), .bool true]) (by simp [results, Try.results27, go_sem]) rfl ⟨by rw [HW2.out], HX6.out⟩
    · have HW := HV.out
      rw [if_neg hle] at HW
      have HW2 := hid HW
      clear HW HV
      have hgt : g < f := by omega
      gi_wp2_with fail
      exact bodyPost_ret (v := .tuple #[.int .i64 0, .int .i64 0, .int .i64 0, .bool false]) (by simp [results, Try.results27, go_sem]) rfl ⟨by rw [HW2.out], HX6.out⟩

end Go.Proofs.Ytmjelgonhpgmbaa
