/- Comparing numbers and names. -/
import Derived.Test.YtjocoadhalimjaaGreatRAA
set_option linter.unusedSimpArgs false
set_option linter.unusedVariables false
namespace Go.Proofs.YtjocoadhalimjaaGreat
section
open Go Go.RowKit Go.Shelf

set_option maxHeartbeats 400000 in
theorem isNaNI_any (a : Int) (w : World) : Cal 118 #[.int .i64 a] w fun e w' => e = .returned (.bool false) ∧ w = w' := by
  gi_enter Tryz.func118, Tryz.ntmps118
  gi_wp2
  go_ret; exact ⟨by simp, rfl⟩

set_option maxHeartbeats 400000 in
theorem isNaNS_any (a : ByteArray) (w : World) : Cal 119 #[.string a] w fun e w' => e = .returned (.bool false) ∧ w = w' := by
  gi_enter Tryz.func119, Tryz.ntmps119
  gi_wp2
  go_ret; exact ⟨by simp, rfl⟩

def cmpI (a b : Int) : Int := if a < b then -1 else if b < a then 1 else 0
set_option maxHeartbeats 1000000 in
theorem cmpI_any (a b : Int) (w : World) : Cal 111 #[.int .i64 a, .int .i64 b] w fun e w' => e = .returned (.int .i64 (cmpI a b)) ∧ w = w' := by
  by_cases h1 : a < b
  · have HE : Hid (cmpI a b = -1) := hid (by unfold cmpI; rw [if_pos h1])
    gi_enter Tryz.func111, Tryz.ntmps111
    gi_wp2_with (gi_at_call 118; ((with_reducible refine (isNaNI_any _ _).mono ?_); rintro e w1 ⟨rfl, rfl⟩))
    go_ret; exact ⟨by rw [HE.out]; rfl, rfl⟩
  · by_cases h2 : b < a
    · have HE : Hid (cmpI a b = 1) := hid (by unfold cmpI; rw [if_neg h1, if_pos h2])
      gi_enter Tryz.func111, Tryz.ntmps111
      gi_wp2_with (gi_at_call 118; ((with_reducible refine (isNaNI_any _ _).mono ?_); rintro e w1 ⟨rfl, rfl⟩))
      go_ret; exact ⟨by rw [HE.out]; rfl, rfl⟩
    · have HE : Hid (cmpI a b = 0) := hid (by unfold cmpI; rw [if_neg h1, if_neg h2])
      gi_enter Tryz.func111, Tryz.ntmps111
      gi_wp2_with (gi_at_call 118; ((with_reducible refine (isNaNI_any _ _).mono ?_); rintro e w1 ⟨rfl, rfl⟩))
      go_ret; exact ⟨by rw [HE.out]; rfl, rfl⟩
/-- One name comes before another. -/
def nmLt (a b : ByteArray) : Bool := Op.bytesLess a.toList b.toList
def cmpS (a b : ByteArray) : Int := if nmLt a b then -1 else if a.toList == b.toList then 0 else 1
set_option maxHeartbeats 1000000 in
theorem cmpS_any (a b : ByteArray) (w : World) : Cal 112 #[.string a, .string b] w fun e w' => e = .returned (.int .i64 (cmpS a b)) ∧ w = w' := by
  have HE : Hid (cmpS a b = if Op.bytesLess a.toList b.toList then -1 else if a.toList == b.toList then 0 else 1) := hid rfl
  gi_enter Tryz.func112, Tryz.ntmps112
  gi_wp2_with (gi_at_call 119; ((with_reducible refine (isNaNS_any _ _).mono ?_); rintro e w1 ⟨rfl, rfl⟩))
  · rename_i h
    have HR : Hid (cmpS a b = -1) := hid (by rw [HE.out, h]; rfl)
    go_ret; exact ⟨by rw [HR.out]; rfl, rfl⟩
  · rename_i h1 _ _ h2
    have HR : Hid (cmpS a b = 1) := hid (by
      rw [HE.out, h1]
      have h3 : (a.toList == b.toList) = false := by simpa using h2
      rw [h3]; rfl)
    go_ret; exact ⟨by rw [HR.out]; rfl, rfl⟩
  · rename_i h1 h2
    have HR : Hid (cmpS a b = 0) := hid (by
      rw [HE.out, h1]
      have h3 : (a.toList == b.toList) = true := by simpa using h2
      rw [h3]; rfl)
    go_ret; exact ⟨by rw [HR.out]; rfl, rfl⟩
end
section
open Go Go.RowKit Go.Shelf

/-- What may stand at a place of a name. -/
def chP (k : Nat) (c : Int) : Prop := (97 ≤ c ∧ c ≤ 122) ∨ (k ≠ 0 ∧ ((48 ≤ c ∧ c ≤ 57) ∨ c = 45))
instance (k : Nat) (c : Int) : Decidable (chP k c) := by unfold chP; infer_instance
def chAt (s : ByteArray) (k : Nat) : Bool := decide (chP k ((s.data.toList.getD k 0).toNat : Int))
/-- A name. -/
def nameB (s : ByteArray) : Bool := inB (s.size : Int) 1 16 && allTo (chAt s) s.size
theorem chAt_eq (s : ByteArray) {k : Nat} (h : k < s.size) : chAt s k = decide (chP k (s[k].toNat : Int)) := by
  unfold chAt
  have : s.data.toList.getD k 0 = s[k] := by
    rw [getD_of (by simpa using h)]; rfl
  rw [this]
set_option maxHeartbeats 4000000 in
theorem isName_any (s : ByteArray) (w : World) (hs : s.size ≤ maxLen) : Cal 67 #[.string s] w fun e w' => e = .returned (.bool (nameB s)) ∧ w = w' := by
  unfold maxLen at hs
  cases hin : inB (s.size : Int) 1 16 with
  | false =>
    have HF : Hid (nameB s = false) := hid (by unfold nameB; rw [hin]; rfl)
    have HI := hid hin
    clear hin
    gi_enter Tryz.func67, Tryz.ntmps67
    gi_wp2_with (gi_at_call 46; ((with_reducible refine (isIn_b _ _ _ false _ HI.out).mono ?_); rintro e w1 ⟨rfl, rfl⟩))
    go_ret
    exact ⟨by rw [HF.out]; rfl, rfl⟩
  | true =>
    have HN : Hid (nameB s = allTo (chAt s) s.size) := hid (by unfold nameB; rw [hin]; rfl)
    have HI := hid hin
    clear hin
    gi_enter Tryz.func67, Tryz.ntmps67
    gi_wp2_with (gi_at_call 46; ((with_reducible refine (isIn_b _ _ _ true _ HI.out).mono ?_); rintro e w1 ⟨rfl, rfl⟩))
    gi_loop [3, 4, 5, 6, 13] (fun u3 u4 u5 u6 i => ∃ k : Nat, k ≤ s.size ∧ i = .int .i64 k ∧ Hid (∀ j, j < k → chAt s j = true)) (fun _ _ _ _ i => s.size - (intOf i).toNat)
    case atStart => exact ⟨0, Nat.zero_le _, rfl, fun _ h => absurd h (by omega)⟩
    case round =>
      obtain ⟨k, hk, rfl, HG⟩ := hrel
      by_cases hlt : k < s.size
      · have HC := hid (chAt_eq s hlt)
        have hk0 : k = 0 ∨ ((k : Int) == 0) = false := by
          by_cases h : k = 0
          · exact .inl h
          · right; simp [h]
        cases hch : chAt s k with
        | true =>
          have HU := hid (upTo_succ HG.out hch)
          have HP : Hid (chP k (s[k].toNat : Int)) := hid (by have := HC.out; rw [hch] at this; simpa using this.symm)
          clear HG HC hch
          rcases hk0 with rfl | hk0
          all_goals
            gi_wp2
            all_goals
              first
              | (go_round
                 case rel => exact ⟨_, by omega, by go_num, HU⟩
                 case measure => simp [intOf]; omega)
              | (exfalso
                 have hp := HP.out
                 unfold chP at hp
                 simp at *
                 omega)
        | false =>
          have HF : Hid (nameB s = false) := hid (by rw [HN.out]; exact allTo_no hlt hch)
          have HP : Hid (¬ chP k (s[k].toNat : Int)) := hid (by have := HC.out; rw [hch] at this; simpa using this.symm)
          clear HG HC hch
          rcases hk0 with rfl | hk0
          all_goals
            gi_wp2
            all_goals
              first
              | (go_ret
                 exact ⟨by rw [HF.out]; rfl, rfl⟩)
              | (exfalso
                 have hp := HP.out
                 unfold chP at hp
                 simp at *
                 omega)
      · obtain rfl : k = s.size := by omega
        have HT : Hid (nameB s = true) := hid (by rw [HN.out]; exact allTo_yes HG.out)
        clear HG
        gi_wp2
        go_ret
        exact ⟨by rw [HT.out]; rfl, rfl⟩
end
end Go.Proofs.YtjocoadhalimjaaGreat
