/- Helpers of the laws: falling, sound, Mod. -/
import Derived.Test.YtfkehbhlagpmcaaCW
import Derived.Test.YtfkehbhlagpmcaaDE
set_option linter.unusedSimpArgs false
set_option linter.unusedVariables false
namespace Go.Proofs.Ytfkehbhlagpmcaa
open Go Go.RowKit Go.Shelf
open Au
theorem allTo_succ (f : Nat → Bool) (k : Nat) : allTo f (k + 1) = (allTo f k && f k) := by
  unfold allTo
  rw [List.range_succ, List.all_append]
  simp
set_option maxHeartbeats 2000000 in
theorem falling_any (v : Value) (l : List Int) (w : World) (hv : IntsAt w v l) :
    Cal 38 #[v] w fun e w' => e = .returned (.bool (fallB l)) ∧ w = w' := by
  obtain ⟨a, cap, rfl, ⟨hcap, hlen⟩, hc⟩ := hv
  have HC := hid hc
  clear hc
  by_cases h40 : l.length ≤ 40
  · have HF : Hid (∀ k, k ≤ l.length → allTo (fallG l) k = false → fallB l = false) := hid fun k hk hg => by
      cases h : fallB l with
      | false => rfl
      | true =>
        unfold fallB at h
        rw [Bool.and_eq_true] at h
        have h2 := h.2
        unfold allTo at h2 hg
        rw [List.all_eq_true] at h2
        rw [List.all_eq_true.2 fun x hx => h2 x (List.mem_range.2 (by have := List.mem_range.1 hx; omega))] at hg
        cases hg
    have HT : Hid (allTo (fallG l) l.length = true → fallB l = true) := hid fun h => by unfold fallB; rw [h]; simp [h40]
    have h41 : (l.length : Int) ≤ 40 := by omega
    have hd41 : decide ((l.length : Int) ≤ 40) = true := decide_eq_true h41
    clear h40
    gi_enter Try.func38, Try.ntmps38
    gi_wp2
    gi_loop [3, 4, 5, 9, 10, 11, 12, 13, 14, 15, 16, 17, 18, 19, 20, 21, 22, 23, 24, 25, 26, 27] (fun q p i u9 u10 u11 u12 u13 u14 u15 u16 u17 u18 u19 u20 u21 u22 u23 u24 u25 u26 u27 => ∃ (k : Nat) (b : Bool), k ≤ l.length ∧ i = .int .i64 k ∧ p = .int .i64 (prevL l k) ∧ q = .bool b ∧ Hid (b = allTo (fallG l) k)) (fun _ _ i _ _ _ _ _ _ _ _ _ _ _ _ _ _ _ _ _ _ _ => l.length - (intOf i).toNat)
    case atStart => exact ⟨0, true, Nat.zero_le _, rfl, rfl, rfl, rfl⟩
    case round =>
      obtain ⟨k, b, hk, rfl, rfl, rfl, HG⟩ := hrel
      cases b with
      | false =>
        have HE := hid (HF.out k hk HG.out.symm)
        clear HG
        gi_wp2
        go_ret
        exact ⟨by rw [HE.out]; rfl, rfl⟩
      | true =>
      by_cases hlt : k < l.length
      · obtain ⟨b, off, rfl, hbb, hck⟩ := HC.out k hlt
        have HD := hid (getD_of (d := (0 : Int)) hlt)
        have HP : Hid (prevL l (k + 1) = l[k]) := hid HD.out
        have HGK : Hid (inB l[k] 0 (prevL l k) = allTo (fallG l) (k + 1)) := hid (by rw [allTo_succ, ← HG.out]; unfold fallG; rw [HD.out]; rfl)
        clear HG
        generalize l[k] = x at *
        generalize prevL l k = p at *
        gi_wp2_with (gi_at_call 35; ((with_reducible refine (In_any _ _ _ _).mono ?_); rintro e w1 ⟨rfl, rfl⟩))
        go_round
        case rel => exact ⟨k + 1, _, by omega, by go_num, by rw [HP.out], rfl, HGK⟩
        case measure => simp [intOf]; omega
      · obtain rfl : k = l.length := by omega
        have HE := hid (HT.out HG.out.symm)
        clear HG
        gi_wp2
        go_ret
        exact ⟨by rw [HE.out]; rfl, rfl⟩
  · have HE := hid (fall_len h40)
    have h41 : ¬ (l.length : Int) ≤ 40 := by omega
    have hd41 : decide ((l.length : Int) ≤ 40) = false := decide_eq_false h41
    clear h40
    gi_enter Try.func38, Try.ntmps38
    gi_wp2
    gi_loop [3, 4, 5, 9, 10, 11, 12, 13, 14, 15, 16, 17, 18, 19, 20, 21, 22, 23, 24, 25, 26, 27] (fun q p i u9 u10 u11 u12 u13 u14 u15 u16 u17 u18 u19 u20 u21 u22 u23 u24 u25 u26 u27 => q = .bool false) (fun _ _ i _ _ _ _ _ _ _ _ _ _ _ _ _ _ _ _ _ _ _ => 0)
    case atStart => rfl
    case round =>
      obtain rfl := hrel
      gi_wp2
      go_ret
      exact ⟨by rw [HE.out]; rfl, rfl⟩
set_option maxHeartbeats 4000000 in
theorem sound_any (v : Value) (s : Sal) (w : World) (hv : ListsAt w v s.offers) :
    Cal 34 #[saleV s v] w fun e w' => e = .returned (.bool (saleB s)) ∧ Ext w w' := by
  have HN := hid (fun (u : World) (hu : Ext w u) => Check_any v s u (hv.mono hu))
  unfold saleE at HN
  cases hb : saleB s with
  | false =>
    rw [hb] at HN
    have HE := hid hb
    clear hb
    obtain ⟨a, cap, rfl, ⟨hcap, hlen⟩, _⟩ := hv
    unfold saleV at *
    gi_enter Try.func34, Try.ntmps34
    gi_wp2_with (gi_at_call 18; ((with_reducible refine (HN.out _ ((Ext.refl _).alloc _)).mono ?_); rintro e w1 ⟨rfl, hx1⟩; have HX1 := hid (((Ext.refl w).alloc _).trans hx1); have hb24 := hx1.block (Ext.new (Ext.refl _)); have H24 := hid hb24; have c24 := cell_of H24.out; clear hx1 hb24))
    gi_loop [3, 4, 24, 25, 26, 27, 28, 29, 30, 31, 32, 33, 34, 35, 36, 37, 38, 39] (fun q i u24 u25 u26 u27 u28 u29 u30 u31 u32 u33 u34 u35 u36 u37 u38 u39 => q = .bool false) (fun _ _ _ _ _ _ _ _ _ _ _ _ _ _ _ _ _ _ => 0)
    case atStart => rfl
    case round =>
      obtain rfl := hrel
      gi_wp2
      go_ret
      exact ⟨rfl, HX1.out⟩
  | true =>
    rw [hb] at HN
    have ho := sale_ok hb
    have HI : Hid (inB s.crans 0 40 = true) := hid (by have := ho.crans; simp [inB, this])
    have HJ : Hid (inB s.least 0 10000 = true) := hid (by have := ho.least; simp [inB, this])
    have HK : Hid (inB (s.offers.length : Int) 1 8 = true) := hid (by have := ho.n; simp [inB]; omega)
    have HF : Hid (∀ k (h : k < s.offers.length), fallB s.offers[k] = true) := hid fun k h => by rw [← of_get h]; exact fall_iff.2 (ho.fall k)
    clear hb ho
    obtain ⟨a, cap, rfl, ⟨hcap, hlen⟩, hc⟩ := hv
    have HC := hid hc
    clear hc
    unfold saleV at *
    gi_enter Try.func34, Try.ntmps34
    gi_wp2_with (first | (gi_at_call 18; ((with_reducible refine (HN.out _ ((Ext.refl _).alloc _)).mono ?_); rintro e w1 ⟨rfl, hx1⟩; have HX1 := hid (((Ext.refl w).alloc _).trans hx1); have hb24 := hx1.block (Ext.new (Ext.refl _)); have H24 := hid hb24; have c24 := cell_of H24.out; clear hx1 hb24)) | (gi_at_call 35; ((with_reducible refine (In_b _ _ _ true _ HI.out).mono ?_); rintro e w2 ⟨rfl, rfl⟩)) | (gi_at_call 35; ((with_reducible refine (In_b _ _ _ true _ HJ.out).mono ?_); rintro e w2 ⟨rfl, rfl⟩)) | (gi_at_call 35; ((with_reducible refine (In_b _ _ _ true _ HK.out).mono ?_); rintro e w2 ⟨rfl, rfl⟩)))
    gi_loop [3, 4, 24, 25, 26, 27, 28, 29, 30, 31, 32, 33, 34, 35, 36, 37, 38, 39] (fun q i u24 u25 u26 u27 u28 u29 u30 u31 u32 u33 u34 u35 u36 u37 u38 u39 => ∃ k : Nat, k ≤ s.offers.length ∧ i = .int .i64 k ∧ q = .bool true) (fun _ i _ _ _ _ _ _ _ _ _ _ _ _ _ _ _ _ => s.offers.length - (intOf i).toNat)
    case atStart => exact ⟨0, Nat.zero_le _, rfl, rfl⟩
    case round =>
      obtain ⟨k, hk, rfl, rfl⟩ := hrel
      by_cases hlt : k < s.offers.length
      · obtain ⟨b, off, u, rfl, hbb, hck, hu⟩ := HC.out k hlt
        have hck := (HX1.out.cell (p := ⟨b, _, none⟩) hbb).trans hck
        have HU := hid (hu.mono HX1.out)
        obtain ⟨a', cap', rfl, ⟨hcap', hlen'⟩, _⟩ := hu
        have HA := hid (falling_any _ _ _ HU.out)
        rw [HF.out k hlt] at HA
        generalize s.offers[k] = l at *
        gi_wp2_with (gi_at_call 38; ((with_reducible refine (HA.out).mono ?_); rintro e w1 ⟨rfl, rfl⟩))
        go_round
        case rel => exact ⟨k + 1, by omega, by go_num, rfl⟩
        case measure => simp [intOf]; omega
      · obtain rfl : k = s.offers.length := by omega
        gi_wp2
        go_ret
        exact ⟨rfl, HX1.out⟩
/-- The rest of a number by another one, from 0 on. -/
def modI (x m : Int) : Int := if x.tmod m < 0 then x.tmod m + m else x.tmod m
theorem modI_ok (x : Int) {m : Int} (hm : 1 ≤ m) : 0 ≤ modI x m ∧ modI x m < m := by
  have h1 := Int.tmod_lt_of_pos x (show 0 < m by omega)
  have h2 := Int.tmod_lt_of_pos (-x) (show 0 < m by omega)
  rw [Int.neg_tmod] at h2
  unfold modI
  split <;> omega
theorem mod_any (x m : Int) (w : World) (hm : 1 ≤ m ∧ m ≤ 1000000000000000000) :
    Cal 36 #[.int .i64 x, .int .i64 m] w fun e w' => e = .returned (.int .i64 (modI x m)) ∧ w = w' := by
  have h1 := Int.tmod_lt_of_pos x (show 0 < m by omega)
  have h2 := Int.tmod_lt_of_pos (-x) (show 0 < m by omega)
  rw [Int.neg_tmod] at h2
  have hw : IntKind.i64.wrap (x.tmod m + m) = x.tmod m + m := by rw [IntKind.wrap_i64]; omega
  have HM : Hid (modI x m = if x.tmod m < 0 then x.tmod m + m else x.tmod m) := rfl
  have hm0 : (m == 0) = false := by simp; omega
  gi_enter Try.func36, Try.ntmps36
  by_cases hneg : x.tmod m < 0
  · have HG := HM.out.trans (if_pos hneg)
    have HG2 := hid HG
    clear HG HM
    have hd : decide (x.tmod m < 0) = true := decide_eq_true hneg
    gi_wp2
    go_ret
    exact ⟨by rw [HG2.out]; rfl, rfl⟩
  · have HG := HM.out.trans (if_neg hneg)
    have HG2 := hid HG
    clear HG HM
    have hd : decide (x.tmod m < 0) = false := decide_eq_false hneg
    gi_wp2
    go_ret
    exact ⟨by rw [HG2.out]; rfl, rfl⟩

end Go.Proofs.Ytfkehbhlagpmcaa
