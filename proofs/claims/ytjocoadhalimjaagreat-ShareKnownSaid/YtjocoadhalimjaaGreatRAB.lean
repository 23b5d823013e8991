/- Names. -/
import Derived.Test.YtjocoadhalimjaaGreatRAA
set_option linter.unusedSimpArgs false
set_option linter.unusedVariables false
namespace Go.Proofs.YtjocoadhalimjaaGreat
section
open Go Go.RowKit Go.Shelf

/-- What may stand at a place of a name. -/
def chP (k : Nat) (c : Int) : Prop := (97 ≤ c ∧ c ≤ 122) ∨ (k ≠ 0 ∧ ((48 ≤ c ∧ c ≤ 57) ∨ c = 45))
instance (k : Nat) (c : Int) : Decidable (chP k c) := by unfold chP; infer_instance
def chAt (s : ByteArray) (k : Nat) : Bool := decide (chP k ((s.data.toList.getD k 0).toNat : Int))
/-- A name. -/
def nameB (s : ByteArray) : Bool := inB (s.size : Int) 1 16 && allTo (chAt s) s.size
theorem chAt_eq (s : ByteArray) {k : Nat} (h : k < s.size) : chAt s k = decide (chP k (s[k].toNat : Int)) := by
  unfold chAt
  have : s.data.toList.getD k 0 = s[k] := by
    rw [getD_of (by simpa using h)]; rfl
  rw [this]
set_option maxHeartbeats 4000000 in
theorem isName_any (s : ByteArray) (w : World) (hs : s.size ≤ maxLen) : Cal 67 #[.string s] w fun e w' => e = .returned (.bool (nameB s)) ∧ w = w' := by
  unfold maxLen at hs
  cases hin : inB (s.size : Int) 1 16 with
  | false =>
    have HF : Hid (nameB s = false) := hid (by unfold nameB; rw [hin]; rfl)
    have HI := hid hin
    clear hin
    gi_enter Tryz.func67, Tryz.ntmps67
    gi_wp2_with (gi_at_call 46; ((with_reducible refine (isIn_b _ _ _ false _ HI.out).mono ?_); rintro e w1 ⟨rfl, rfl⟩))
    go_ret
    exact ⟨by rw [HF.out]; rfl, rfl⟩
  | true =>
    have HN : Hid (nameB s = allTo (chAt s) s.size) := hid (by unfold nameB; rw [hin]; rfl)
    have HI := hid hin
    clear hin
    gi_enter Tryz.func67, Tryz.ntmps67
    gi_wp2_with (gi_at_call 46; ((with_reducible refine (isIn_b _ _ _ true _ HI.out).mono ?_); rintro e w1 ⟨rfl, rfl⟩))
    gi_loop [3, 4, 5, 6, 13] (fun u3 u4 u5 u6 i => ∃ k : Nat, k ≤ s.size ∧ i = .int .i64 k ∧ Hid (∀ j, j < k → chAt s j = true)) (fun _ _ _ _ i => s.size - (intOf i).toNat)
    case atStart => exact ⟨0, Nat.zero_le _, rfl, fun _ h => absurd h (by omega)⟩
    case round =>
      obtain ⟨k, hk, rfl, HG⟩ := hrel
      by_cases hlt : k < s.size
      · have HC := hid (chAt_eq s hlt)
        have hk0 : k = 0 ∨ ((k : Int) == 0) = false := by
          by_cases h : k = 0
          · exact .inl h
          · right; simp [h]
        cases hch : chAt s k with
        | true =>
          have HU := hid (upTo_succ HG.out hch)
          have HP : Hid (chP k (s[k].toNat : Int)) := hid (by have := HC.out; rw [hch] at this; simpa using this.symm)
          clear HG HC hch
          rcases hk0 with rfl | hk0
          all_goals
            gi_wp2
            all_goals
              first
              | (go_round
                 case rel => exact ⟨_, by omega, by go_num, HU⟩
                 case measure => simp [intOf]; omega)
              | (exfalso
                 have hp := HP.out
                 unfold chP at hp
                 simp at *
                 omega)
        | false =>
          have HF : Hid (nameB s = false) := hid (by rw [HN.out]; exact allTo_no hlt hch)
          have HP : Hid (¬ chP k (s[k].toNat : Int)) := hid (by have := HC.out; rw [hch] at this; simpa using this.symm)
          clear HG HC hch
          rcases hk0 with rfl | hk0
          all_goals
            gi_wp2
            all_goals
              first
              | (go_ret
                 exact ⟨by rw [HF.out]; rfl, rfl⟩)
              | (exfalso
                 have hp := HP.out
                 unfold chP at hp
                 simp at *
                 omega)
      · obtain rfl : k = s.size := by omega
        have HT : Hid (nameB s = true) := hid (by rw [HN.out]; exact allTo_yes HG.out)
        clear HG
        gi_wp2
        go_ret
        exact ⟨by rw [HT.out]; rfl, rfl⟩
end
section
open Go Go.RowKit Go.Shelf

set_option maxHeartbeats 4000000 in
theorem IsName_any (s : ByteArray) (w : World) (hs : s.size ≤ maxLen) : Cal 72 #[.string s] w fun e w' => e = .returned (.bool (nameB s)) ∧ w = w' := by
  unfold maxLen at hs
  cases hin : inB (s.size : Int) 1 16 with
  | false =>
    have HF : Hid (nameB s = false) := hid (by unfold nameB; rw [hin]; rfl)
    have HI := hid hin
    clear hin
    gi_enter Tryz.func72, Tryz.ntmps72
    gi_wp2_with (gi_at_call 29; ((with_reducible refine (In_b _ _ _ false _ HI.out).mono ?_); rintro e w1 ⟨rfl, rfl⟩))
    go_ret
    exact ⟨by rw [HF.out]; rfl, rfl⟩
  | true =>
    have HN : Hid (nameB s = allTo (chAt s) s.size) := hid (by unfold nameB; rw [hin]; rfl)
    have HI := hid hin
    have h0 : 0 < s.size := by have := inB_spec hin; omega
    have HC0 := hid (chAt_eq s h0)
    clear hin
    by_cases h97 : 97 ≤ (s[0].toNat : Int)
    · have H97 := hid h97
      have hlt : ¬ ((s[0].toNat : Int) < 97) := by omega
      gi_enter Tryz.func72, Tryz.ntmps72
      gi_wp2_with (gi_at_call 29; ((with_reducible refine (In_b _ _ _ true _ HI.out).mono ?_); rintro e w1 ⟨rfl, rfl⟩))
      clear hlt h97
      gi_loop [3, 4] (fun i u4 => ∃ k : Nat, k ≤ s.size ∧ i = .int .i64 k ∧ Hid (∀ j, j < k → chAt s j = true)) (fun i _ => s.size - (intOf i).toNat)
      case atStart => exact ⟨0, Nat.zero_le _, rfl, fun _ h => absurd h (by omega)⟩
      case round =>
        obtain ⟨k, hk, rfl, HG⟩ := hrel
        by_cases hlt : k < s.size
        · have HC := hid (chAt_eq s hlt)
          have HK0 : Hid (k = 0 → 97 ≤ (s[k].toNat : Int)) := hid (by rintro rfl; exact H97.out)
          clear H97 HC0 HI
          cases hch : chAt s k with
          | true =>
            have HU := hid (upTo_succ HG.out hch)
            have HP : Hid (chP k (s[k].toNat : Int)) := hid (by have := HC.out; rw [hch] at this; simpa using this.symm)
            clear HG HC hch
            gi_wp2
            all_goals
              first
              | (go_round
                 case rel => exact ⟨_, by omega, by go_num, HU⟩
                 case measure => simp [intOf]; omega)
              | (exfalso
                 have hp := HP.out
                 unfold chP at hp
                 simp at *
                 omega)
          | false =>
            have HF : Hid (nameB s = false) := hid (by rw [HN.out]; exact allTo_no hlt hch)
            have HP : Hid (¬ chP k (s[k].toNat : Int)) := hid (by have := HC.out; rw [hch] at this; simpa using this.symm)
            clear HG HC hch
            gi_wp2
            all_goals
              first
              | (go_ret
                 exact ⟨by rw [HF.out]; rfl, rfl⟩)
              | (exfalso
                 have hp := HP.out
                 have hq := HK0.out
                 unfold chP at hp
                 clear HK0 HP HF HN
                 simp at *
                 omega)
        · obtain rfl : k = s.size := by omega
          have HT : Hid (nameB s = true) := hid (by rw [HN.out]; exact allTo_yes HG.out)
          clear HG HC0
          gi_wp2
          go_ret
          exact ⟨by rw [HT.out]; rfl, rfl⟩
    · have HF : Hid (nameB s = false) := hid (by
        rw [HN.out]
        refine allTo_no h0 ?_
        rw [HC0.out, decide_eq_false_iff_not]
        unfold chP; omega)
      have hlt : (s[0].toNat : Int) < 97 := by omega
      clear HN HC0
      gi_enter Tryz.func72, Tryz.ntmps72
      gi_wp2_with (gi_at_call 29; ((with_reducible refine (In_b _ _ _ true _ HI.out).mono ?_); rintro e w1 ⟨rfl, rfl⟩))
      go_ret
      exact ⟨by rw [HF.out]; rfl, rfl⟩
end
section
open Go Go.RowKit Go.Shelf

set_option maxHeartbeats 1000000 in
theorem Sum_any (v : Value) (xs : List Int) (w : World) (hv : IntsAt w v xs) (hb : ∀ x ∈ xs, -1000000000 ≤ x ∧ x ≤ 1000000000) (hl : xs.length ≤ 1000) :
    Cal 34 #[v] w fun e w' => e = .returned (.int .i64 xs.sum) ∧ w = w' := by
  obtain ⟨a, cap, rfl, ⟨hcap, hlen⟩, hc⟩ := hv
  have HB := hid hb
  have HC := hid hc
  clear hc hb
  gi_enter Tryz.func34, Tryz.ntmps34
  gi_wp2
  gi_loop [3, 4] (fun s i => ∃ k : Nat, k ≤ xs.length ∧ i = .int .i64 k ∧ s = .int .i64 (xs.take k).sum) (fun _ i => xs.length - (intOf i).toNat)
  case atStart => exact ⟨0, Nat.zero_le _, rfl, rfl⟩
  case round =>
    obtain ⟨k, hk, rfl, rfl⟩ := hrel
    by_cases hlt : k < xs.length
    · obtain ⟨b, off, rfl, hbb, hck⟩ := HC.out k hlt
      have HS := hid (sum_snoc xs k hlt)
      have hp := sum_to xs HB.out hl k
      have hx := HB.out xs[k] (List.getElem_mem _)
      generalize xs[k] = x at *
      generalize (xs.take k).sum = s at *
      gi_wp2
      go_round
      case rel => exact ⟨k + 1, by omega, by go_num, by rw [HS.out]⟩
      case measure => simp [intOf]; omega
    · have he : k = xs.length := by omega
      subst he
      gi_wp2
      go_ret
      exact ⟨rfl, rfl⟩
set_option maxHeartbeats 1000000 in
theorem whole_any (v : Value) (l : List Stk) (w : World) (hv : StakesAt w v l) (hb : ∀ s ∈ l, -1000000000 ≤ s.weight ∧ s.weight ≤ 1000000000) (hl : l.length ≤ 1000) :
    Cal 51 #[v] w fun e w' => e = .returned (.int .i64 (sumW l)) ∧ w = w' := by
  obtain ⟨a, cap, rfl, ⟨hcap, hlen⟩, hc⟩ := hv
  have HB := hid hb
  have HC := hid hc
  clear hc hb
  gi_enter Tryz.func51, Tryz.ntmps51
  gi_wp2
  gi_loop [3, 4] (fun s i => ∃ k : Nat, k ≤ l.length ∧ i = .int .i64 k ∧ s = .int .i64 (sumW (l.take k))) (fun _ i => l.length - (intOf i).toNat)
  case atStart => exact ⟨0, Nat.zero_le _, rfl, rfl⟩
  case round =>
    obtain ⟨k, hk, rfl, rfl⟩ := hrel
    by_cases hlt : k < l.length
    · obtain ⟨b, off, rfl, hbb, c0, c1⟩ := HC.out k hlt
      have HS := hid (sumW_snoc l k hlt)
      have hp := sumW_to l HB.out hl k
      have hx := HB.out l[k] (List.getElem_mem _)
      generalize l[k] = x at *
      generalize sumW (l.take k) = s at *
      gi_wp2
      go_round
      case rel => exact ⟨k + 1, by omega, by go_num, by rw [HS.out]⟩
      case measure => simp [intOf]; omega
    · have he : k = l.length := by omega
      subst he
      have HT : Hid (sumW (l.take l.length) = sumW l) := hid (by rw [List.take_length])
      gi_wp2
      go_ret
      exact ⟨by rw [← HT.out]; rfl, rfl⟩
end
end Go.Proofs.YtjocoadhalimjaaGreat
