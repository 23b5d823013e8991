/- What crans are worth to a buyer. -/
import Derived.Test.YtfkehbhlagpmcaaEB
set_option linter.unusedSimpArgs false
set_option linter.unusedVariables false
namespace Go.Proofs.Ytfkehbhlagpmcaa
open Go Go.RowKit Go.Shelf
open Au
theorem valF_bd {l : List Int} {c : Int} (hf : ∀ i, i < l.length → 0 ≤ l.getD i 0 ∧ l.getD i 0 ≤ 10000) (hc : 0 ≤ c ∧ c ≤ 10000) : ∀ k : Nat, 0 ≤ valF l k c ∧ valF l k c ≤ 10000 * k
  | 0 => by simp [valF]
  | k + 1 => by
    have ih := valF_bd hf hc k
    rw [valF_succ]
    split
    · have := hf k (by assumption)
      omega
    · omega
set_option maxHeartbeats 1000000 in
theorem value_any (v : Value) (l : List Int) (m : Nat) (c : Int) (w : World) (hv : IntsAt w v l) (hf : ∀ i, i < l.length → 0 ≤ l.getD i 0 ∧ l.getD i 0 ≤ 10000) (hc : 0 ≤ c ∧ c ≤ 10000) (hm : m ≤ 1000) :
    Cal 39 #[v, .int .i64 (m : Int), .int .i64 c] w fun e w' => e = .returned (.int .i64 (valF l m c)) ∧ w = w' := by
  have HB := hid (valF_bd hf hc)
  have HFD := hid hf
  obtain ⟨a, cap, rfl, ⟨hcap, hlen⟩, hcc⟩ := hv
  have HC := hid hcc
  clear hcc hf
  gi_enter Try.func39, Try.ntmps39
  gi_wp2
  gi_loop [7, 8, 9, 10, 11, 12, 13, 14, 15, 16, 17, 18, 19, 20, 21, 22, 23, 24, 25, 26, 27, 28] (fun q i u9 u10 u11 u12 u13 u14 u15 u16 u17 u18 u19 u20 u21 u22 u23 u24 u25 u26 u27 u28 => ∃ k : Nat, k ≤ m ∧ i = .int .i64 k ∧ q = .int .i64 (valF l k c)) (fun _ i _ _ _ _ _ _ _ _ _ _ _ _ _ _ _ _ _ _ _ _ => m - (intOf i).toNat)
  case atStart => exact ⟨0, Nat.zero_le _, rfl, rfl⟩
  case round =>
    obtain ⟨k, hk, rfl, rfl⟩ := hrel
    by_cases hlt : k < m
    · have HS := hid (valF_succ l k c)
      have hb := HB.out k
      by_cases hkl : k < l.length
      · obtain ⟨b, off, rfl, hbb, hck⟩ := HC.out k hkl
        have hx := HFD.out k hkl
        rw [if_pos hkl, getD_of hkl] at HS
        rw [getD_of hkl] at hx
        generalize l[k] = x at *
        generalize valF l k c = q at *
        gi_wp2
        go_round
        case rel => exact ⟨k + 1, by omega, by go_num, by rw [HS.out]⟩
        case measure => simp [intOf]; omega
      · rw [if_neg hkl] at HS
        generalize valF l k c = q at *
        gi_wp2
        go_round
        case rel => exact ⟨k + 1, by omega, by go_num, by rw [HS.out]⟩
        case measure => simp [intOf]; omega
    · obtain rfl : k = m := by omega
      gi_wp2
      go_ret
      exact ⟨rfl, rfl⟩

end Go.Proofs.Ytfkehbhlagpmcaa
