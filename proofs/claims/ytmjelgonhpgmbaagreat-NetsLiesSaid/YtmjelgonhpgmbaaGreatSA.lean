/- The reference: spans, flows, within. -/
import Derived.Test.YtmjelgonhpgmbaaGreatMA
set_option linter.unusedSimpArgs false
set_option linter.unusedVariables false
namespace Go.Proofs.YtmjelgonhpgmbaaGreat
open Go Go.RowKit Go.Shelf

theorem allTo_succ (g : Nat → Bool) (k : Nat) : allTo g (k + 1) = (allTo g k && g k) := by
  cases h : allTo g k
  · obtain ⟨j, hj, hg⟩ : ∃ j, j < k ∧ g j = false := by
      unfold allTo at h
      rw [List.all_eq_false] at h
      obtain ⟨x, hx, hx2⟩ := h
      exact ⟨x, List.mem_range.1 hx, by simpa using hx2⟩
    rw [allTo_no (Nat.lt_succ_of_lt hj) hg]; rfl
  · have h' : ∀ j, j < k → g j = true := fun j hj => by unfold allTo at h; exact List.all_eq_true.1 h j (List.mem_range.2 hj)
    cases hk : g k
    · rw [allTo_no (Nat.lt_succ_self k) hk]; rfl
    · rw [allTo_yes (upTo_succ h' hk)]; rfl
theorem allTo_zero (g : Nat → Bool) : allTo g 0 = true := rfl
theorem allTo_stop {g : Nat → Bool} {k n : Nat} (hk : k ≤ n) (h : allTo g k = false) : allTo g n = false := by
  unfold allTo at h
  rw [List.all_eq_false] at h
  obtain ⟨x, hx, hx2⟩ := h
  exact allTo_no (Nat.lt_of_lt_of_le (List.mem_range.1 hx) hk) (by simpa using hx2)
theorem rin_any (n lo hi : Int) (w : World) :
    Cal 28 #[.int .i64 n, .int .i64 lo, .int .i64 hi] w fun e w' => e = .returned (.bool (inB n lo hi)) ∧ w = w' := by
  unfold inB
  gi_enter Tryz.func28, Tryz.ntmps28
  gi_wp2
  · go_ret; exact ⟨by simp [*], rfl⟩
  · have h : ¬ lo ≤ n := by omega
    go_ret; exact ⟨by simp [h], rfl⟩
theorem rin_b {n lo hi : Int} {v : Bool} (h : inB n lo hi = v) (w : World) :
    Cal 28 #[.int .i64 n, .int .i64 lo, .int .i64 hi] w fun e w' => e = .returned (.bool v) ∧ w = w' := by
  subst h; exact rin_any n lo hi w
def spdB (s : Spn) (lo hi : Int) : Bool := inB s.lo lo hi && inB s.hi s.lo hi
theorem spdB_spanB (s : Spn) (M : Int) : spdB s (-M) M = spanB M s := by
  unfold spdB spanB inB
  by_cases h1 : -M ≤ s.lo <;> by_cases h2 : s.lo ≤ M <;> by_cases h3 : s.lo ≤ s.hi <;> by_cases h4 : s.hi ≤ M <;>
    by_cases g1 : s.hi < s.lo <;> by_cases g2 : s.lo < -M <;> by_cases g3 : M < s.hi <;> simp [h1, h2, h3, h4, g1, g2, g3] <;> omega
set_option maxHeartbeats 2000000 in
theorem spanned_any (a b lo hi : Int) (w : World) : Cal 30 #[.agg #[.int .i64 a, .int .i64 b], .int .i64 lo, .int .i64 hi] w fun e w' => e = .returned (.bool (spdB ⟨a, b⟩ lo hi)) ∧ Ext w w' := by
  have hx : Ext w (w.alloc (.cells #[.int .i64 a, .int .i64 b] 44)) := (Ext.refl _).alloc _
  cases h1 : inB a lo hi
  case false =>
    have H1 := hid (fun u => rin_b h1 u)
    have HG : Hid (spdB ⟨a, b⟩ lo hi = false) := by show spdB _ _ _ = _; unfold spdB; simp only [h1]; rfl
    gi_enter Tryz.func30, Tryz.ntmps30
    gi_wp2_with (gi_at_call 28; ((with_reducible refine (H1.out _).mono ?_); rintro e w1 ⟨rfl, rfl⟩))
    go_ret
    exact ⟨by rw [HG.out]; rfl, hx⟩
  case true =>
    have H1 := hid (fun u => rin_b h1 u)
    have H2 := hid (fun u => rin_any b a hi u)
    have HG : Hid (spdB ⟨a, b⟩ lo hi = inB b a hi) := by show spdB _ _ _ = _; unfold spdB; simp only [h1]; rfl
    gi_enter Tryz.func30, Tryz.ntmps30
    gi_wp2_with (first | (gi_at_call 28; ((with_reducible refine (H1.out _).mono ?_); rintro e w1 ⟨rfl, rfl⟩)) | (gi_at_call 28; ((with_reducible refine (H2.out _).mono ?_); rintro e w1 ⟨rfl, rfl⟩)))
    go_ret
    exact ⟨by rw [HG.out]; first | done | rfl, hx⟩
theorem holds_z (lo hi n : Int) (w : World) :
    Cal 85 #[.agg #[.int .i64 lo, .int .i64 hi], .int .i64 n] w fun e w' => e = .returned (.bool (inB n lo hi)) ∧ Ext w w' := by
  have hx : Ext w (w.alloc (.cells #[.int .i64 lo, .int .i64 hi] 44)) := (Ext.refl _).alloc _
  have HI := hid (fun u => rin_any n lo hi u)
  gi_enter Tryz.func85, Tryz.ntmps85
  gi_wp2_with (gi_at_call 28; ((with_reducible refine (HI.out _).mono ?_); rintro e w1 ⟨rfl, rfl⟩))
  go_ret
  exact ⟨rfl, hx⟩
set_option maxHeartbeats 2000000 in
theorem flows_any (l : List Spn) (h : Nat) (v : Value) (w : World) (hv : SpansAt w v l) : Cal 29 #[v, .int .i64 h] w fun e w' => e = .returned (.bool ((l.length == h) && spansB 200 l)) ∧ Ext w w' := by
  obtain ⟨a, c, rfl, hl, hc⟩ := hv
  gi_enter Tryz.func29, Tryz.ntmps29
  cases hq : ((l.length : Int) == (h : Int))
  case false =>
    have hn : (l.length == h) = false := by rw [beq_eq_false_iff_ne] at hq ⊢; omega
    have HG : Hid (((l.length == h) && spansB 200 l) = false) := by show _ = _; rw [hn]; rfl
    clear hn
    gi_wp2_with fail
    gi_loopw [5, 6] (fun o i wr => o = .bool false ∧ i = .int .i64 0 ∧ wr = w) (fun _ _ _ => 0)
    case atStart => exact ⟨rfl, rfl, rfl⟩
    case round =>
      obtain ⟨rfl, rfl, rfl⟩ := hrel
      gi_wp2_with fail
      go_ret
      exact ⟨by rw [HG.out]; rfl, Ext.refl _⟩
  case true =>
  have hlh : l.length = h := by rw [beq_iff_eq] at hq; omega
  have HG : Hid (((l.length == h) && spansB 200 l) = allTo (spanGood 200 l) h) := by show _ = _; rw [hlh]; unfold spansB; rw [hlh]; simp
  have HLH := hid hlh
  have HC := hid hc
  clear hc hlh
  gi_wp2_with fail
  clear hq
  gi_loopw [5, 6] (fun o i wr => ∃ k : Nat, k ≤ h ∧ i = .int .i64 k ∧ o = .bool (allTo (spanGood 200 l) k) ∧ Ext w wr) (fun _ i _ => h - (intOf i).toNat)
  case atStart => exact ⟨0, Nat.zero_le _, rfl, rfl, Ext.refl _⟩
  case round =>
    obtain ⟨k, hk, rfl, rfl, hx⟩ := hrel
    cases hok : allTo (spanGood 200 l) k
    case false =>
      have HS := hid (allTo_stop hk hok)
      clear hok
      gi_wp2_with fail
      go_ret
      exact ⟨by rw [HG.out, HS.out]; first | done | rfl, hx⟩
    case true =>
      by_cases hlt : k < h
      · have hkl : k < l.length := by have := HLH.out; omega
        obtain ⟨b, off, rfl, hb, c0, c1⟩ := HC.out k hkl
        rw [← hx.cell (p := ⟨b, _, none⟩) hb] at c0 c1
        have hki : (k : Int) < h := by omega
        have hkl2 : (k : Int) < l.length := by omega
        have HS : Hid (allTo (spanGood 200 l) (k + 1) = spdB l[k] (-200) 200) := by show _ = _; rw [allTo_succ, hok, spanGood_eq hkl, ← spdB_spanB]; rfl
        clear hok
        generalize l[k] = m at *
        obtain ⟨m1, m2⟩ := m
        have HSP := hid (fun u => spanned_any m1 m2 (-200) 200 u)
        generalize spdB ⟨m1, m2⟩ (-200) 200 = r at *
        gi_wp2_with (gi_at_call 30; ((with_reducible refine (HSP.out _).mono ?_); rintro e w2 ⟨rfl, hx2⟩))
        go_roundw
        case rel => exact ⟨k + 1, by omega, rfl, by rw [HS.out], hx.trans hx2⟩
        case measure => simp [intOf]; omega
      · obtain rfl : k = h := by omega
        have hki : ¬ (k : Int) < k := by omega
        gi_wp2_with fail
        go_ret
        exact ⟨by rw [HG.out, hok]; first | done | rfl, hx⟩

end Go.Proofs.YtmjelgonhpgmbaaGreat
