/- The reference of torn nets: bar, twine, CheckTorn. -/
import Derived.Test.YtmjelgonhpgmbaaUC
import Derived.Test.YtmjelgonhpgmbaaInv
import Derived.Test.YtmjelgonhpgmbaaMS
import Derived.Test.YtmjelgonhpgmbaaMT
import Derived.Test.YtmjelgonhpgmbaaMV
set_option linter.unusedSimpArgs false
set_option linter.unusedVariables false
namespace Go.Proofs.Ytmjelgonhpgmbaa
open Go Go.RowKit Go.Shelf

theorem undef_no' {b : Bool} (h : some undef = some (Value.bool b)) : False := by cases h
set_option maxHeartbeats 4000000 in
theorem bar_any (b : Spn) (wide high : Int) (hw : 2 ≤ wide ∧ wide ≤ 6) (hh : 2 ≤ high ∧ high ≤ 6) (w : World) :
    Cal 49 #[.agg #[.int .i64 b.lo, .int .i64 b.hi], .int .i64 wide, .int .i64 high] w fun e w' => e = .returned (.bool (isBarB wide high b)) ∧ Ext w w' := by
  have hm := mul_36 hw hh
  obtain ⟨lo, hi⟩ := b
  unfold isBarB
  simp only
  have HX : Hid (Ext w (w.alloc (.cells #[.int .i64 lo, .int .i64 hi] 86))) := (Ext.refl _).alloc _
  have hb : (w.alloc (.cells #[.int .i64 lo, .int .i64 hi] 86)).heap[w.heap.size]? = some (.cells #[.int .i64 lo, .int .i64 hi] 86 (0, 0)) := Ext.new (Ext.refl _)
  have hm1 : IntKind.i64.wrap (wide * high - 1) = wide * high - 1 := by rw [IntKind.wrap_i64]; omega
  cases h1 : inB lo 0 (wide * high - 1) with
  | false =>
    have H1 := hid h1
    clear h1
    gi_enter Try.func49, Try.ntmps49
    gi_wp2_with (gi_at_call 26; ((with_reducible refine (in_b _ _ _ false _ H1.out).mono ?_); rintro e w9 ⟨rfl, rfl⟩))
    go_ret
    exact ⟨rfl, HX.out⟩
  | true =>
    have H1 := hid h1
    cases h2 : inB hi 0 (wide * high - 1) with
    | false =>
      have H2 := hid h2
      clear h1 h2
      gi_enter Try.func49, Try.ntmps49
      gi_wp2_with (first | (gi_at_call 26; ((with_reducible refine (in_b _ _ _ true _ H1.out).mono ?_); rintro e w9 ⟨rfl, rfl⟩)) | (gi_at_call 26; ((with_reducible refine (in_b _ _ _ false _ H2.out).mono ?_); rintro e w9 ⟨rfl, rfl⟩)))
      go_ret
      exact ⟨rfl, HX.out⟩
    | true =>
      have H2 := hid h2
      have b1 := inB_spec h1
      have b2 := inB_spec h2
      have HMD := hid (fun (u : World) => mod_any hi wide u (by omega))
      have hmp : modI hi wide = hi % wide := modI_pos (by omega) (by omega)
      rw [hmp] at HMD
      clear h1 h2 hmp
      by_cases h3 : hi = lo + wide
      case pos =>
        have g3 : (hi == lo + wide) = true := by simpa using h3
        have HR : Hid ((true && (true && ((hi == lo + wide) || ((hi == lo + 1) && (hi % wide != 0))))) = true) := by show _ = _; rw [g3]; rfl
        rw [HR.out]
        clear h3 HR
        gi_enter Try.func49, Try.ntmps49
        gi_wp2_with (first | (gi_at_call 26; ((with_reducible refine (in_b _ _ _ true _ H1.out).mono ?_); rintro e w9 ⟨rfl, rfl⟩)) | (gi_at_call 26; ((with_reducible refine (in_b _ _ _ true _ H2.out).mono ?_); rintro e w9 ⟨rfl, rfl⟩)))
        all_goals first | exact (undef_no' ‹_›).elim | (go_ret; exact ⟨rfl, HX.out⟩)
      case neg =>
        have g3 : (hi == lo + wide) = false := by simpa using h3
        by_cases h4 : hi = lo + 1
        case neg =>
          have g4 : (hi == lo + 1) = false := by simpa using h4
          have HR : Hid ((true && (true && ((hi == lo + wide) || ((hi == lo + 1) && (hi % wide != 0))))) = false) := by show _ = _; rw [g3, g4]; rfl
          rw [HR.out]
          clear h3 h4 HR
          gi_enter Try.func49, Try.ntmps49
          gi_wp2_with (first | (gi_at_call 26; ((with_reducible refine (in_b _ _ _ true _ H1.out).mono ?_); rintro e w9 ⟨rfl, rfl⟩)) | (gi_at_call 26; ((with_reducible refine (in_b _ _ _ true _ H2.out).mono ?_); rintro e w9 ⟨rfl, rfl⟩)))
          go_ret
          exact ⟨rfl, HX.out⟩
        case pos =>
          have g4 : (hi == lo + 1) = true := by simpa using h4
          have HR : Hid ((true && (true && ((hi == lo + wide) || ((hi == lo + 1) && (hi % wide != 0))))) = (hi % wide != 0)) := by show _ = _; rw [g3, g4]; rfl
          rw [HR.out]
          clear h3 h4 HR
          generalize hi % wide = r at *
          gi_enter Try.func49, Try.ntmps49
          gi_wp2_with (first | (gi_at_call 26; ((with_reducible refine (in_b _ _ _ true _ H1.out).mono ?_); rintro e w9 ⟨rfl, rfl⟩)) | (gi_at_call 26; ((with_reducible refine (in_b _ _ _ true _ H2.out).mono ?_); rintro e w9 ⟨rfl, rfl⟩)) | (gi_at_call 34; ((with_reducible refine (HMD.out _).mono ?_); rintro e w9 ⟨rfl, rfl⟩)))
          go_ret
          exact ⟨rfl, HX.out⟩
set_option maxHeartbeats 4000000 in
theorem rtwine_any (T : TornD) (hT : tornB T = true) (tv : Value) (p : Nat) (hp : p ≤ 1000) (w : World) (ht : TnAt w tv T) : Cal 48 #[tv, .int .i64 p] w fun e w' => e = .returned (.int .i64 (T.mesh * T.bars.length + T.knot * 2 * p)) ∧ Ext w w' := by
  obtain ⟨sv, rfl, sa, sc, rfl, hsl, _⟩ := ht
  have ok := torn_ok hT
  have hlen := ok.2.2.2.2.1
  have hmesh := ok.2.2.1
  have hknot := ok.2.2.2.1
  have hb1 : 0 ≤ T.mesh * T.bars.length ∧ T.mesh * T.bars.length ≤ 6000 := by
    have a1 := Int.mul_le_mul hmesh.2 (show (T.bars.length : Int) ≤ 60 by omega) (by omega) (by omega)
    have a2 := Int.mul_nonneg (show 0 ≤ T.mesh by omega) (show (0 : Int) ≤ T.bars.length by omega)
    omega
  have hb2 : 0 ≤ 2 * T.knot * (p : Int) ∧ 2 * T.knot * (p : Int) ≤ 200000 := by
    have a1 := Int.mul_le_mul (show 2 * T.knot ≤ 200 by omega) (show (p : Int) ≤ 1000 by omega) (by omega) (by omega)
    have a2 := Int.mul_nonneg (show 0 ≤ 2 * T.knot by omega) (show (0 : Int) ≤ p by omega)
    omega
  have HR : Hid (T.mesh * T.bars.length + T.knot * 2 * p = T.mesh * T.bars.length + 2 * T.knot * p) := by show _ = _; rw [Int.mul_comm T.knot 2]
  rw [HR.out]
  clear HR ok
  gi_enter Try.func48, Try.ntmps48
  gi_wp2
  go_ret
  exact ⟨rfl, (Ext.refl _).alloc _⟩
/-- A bar that is told twice. -/
def sameB (a b : Spn) : Bool := (a.lo == b.lo && a.hi == b.hi)
theorem good_eq {T : TornD} {i : Nat} (hi : i < T.bars.length) : barGood T i = (isBarB T.wide T.high T.bars[i] && allTo (fun k => !sameB (T.bars.getD k ⟨0, 0⟩) T.bars[i]) i) := by
  rw [barGood_eq hi, Bool.and_comm]
  congr 1
  rw [Bool.eq_iff_iff]
  have e : (PMap.find (barMapTo T.bars i) (barKey T.bars[i])).isNone = true ↔ ∀ k, k < i → sameB (T.bars.getD k ⟨0, 0⟩) T.bars[i] = false := by
    unfold PMap.find
    rw [Option.isNone_map, Option.isNone_iff_eq_none, List.find?_eq_none]
    unfold barMapTo
    constructor
    · intro h k hk
      have := h (barKey (T.bars.getD k ⟨0, 0⟩), (k : Int)) (List.mem_map.2 ⟨k, List.mem_range.2 hk, rfl⟩)
      simp only [barKey, Bool.and_eq_true, beq_iff_eq, not_and] at this
      unfold sameB
      cases h1 : (T.bars.getD k ⟨0, 0⟩).lo == T.bars[i].lo
      · rfl
      · have h1 := by simpa using h1
        have := this h1.symm
        simpa using fun e : (T.bars.getD k ⟨0, 0⟩).hi = T.bars[i].hi => this e.symm
    · intro h x hx
      obtain ⟨k, hk, rfl⟩ := List.mem_map.1 hx
      have := h k (List.mem_range.1 hk)
      unfold sameB at this
      intro e
      simp only [barKey, Bool.and_eq_true, beq_iff_eq] at e
      rw [e.1, e.2] at this
      simp at this
  rw [e]
  unfold allTo
  rw [List.all_eq_true]
  constructor
  · intro h k hk; rw [h k (List.mem_range.1 hk)]; rfl
  · intro h k hk; have := h k (List.mem_range.2 hk); simpa using this
theorem allTo_snoc (g : Nat → Bool) (k : Nat) : allTo g (k + 1) = (allTo g k && g k) := by
  unfold allTo; rw [List.range_succ, List.all_append]; simp

end Go.Proofs.Ytmjelgonhpgmbaa
