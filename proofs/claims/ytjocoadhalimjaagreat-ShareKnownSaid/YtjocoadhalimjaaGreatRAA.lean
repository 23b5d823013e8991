/- Numbers: within bounds, sums. -/
import Derived.Test.YtjocoadhalimjaaGreatInv
import Derived.Sort.CutIn
set_option linter.unusedSimpArgs false
set_option linter.unusedVariables false
namespace Go.Proofs.YtjocoadhalimjaaGreat
section
open Go Go.RowKit Go.Shelf

set_option maxHeartbeats 400000 in
theorem isIn_any (n lo hi : Int) (w : World) :
    Cal 46 #[.int .i64 n, .int .i64 lo, .int .i64 hi] w fun e w' => e = .returned (.bool (inB n lo hi)) ∧ w = w' := by
  unfold inB
  gi_enter Tryz.func46, Tryz.ntmps46
  gi_wp2
  · go_ret; exact ⟨by simp [*], rfl⟩
  · have h : ¬ lo ≤ n := by omega
    go_ret; exact ⟨by simp [h], rfl⟩
theorem isIn_b (n lo hi : Int) (v : Bool) (w : World) (h : inB n lo hi = v) :
    Cal 46 #[.int .i64 n, .int .i64 lo, .int .i64 hi] w fun e w' => e = .returned (.bool v) ∧ w = w' := by
  subst h; exact isIn_any n lo hi w

set_option maxHeartbeats 400000 in
theorem In_any (n lo hi : Int) (w : World) :
    Cal 29 #[.int .i64 n, .int .i64 lo, .int .i64 hi] w fun e w' => e = .returned (.bool (inB n lo hi)) ∧ w = w' := by
  unfold inB
  gi_enter Tryz.func29, Tryz.ntmps29
  gi_wp2
  · go_ret; exact ⟨by simp [*], rfl⟩
  · have h : ¬ lo ≤ n := by omega
    go_ret; exact ⟨by simp [h], rfl⟩
theorem In_b (n lo hi : Int) (v : Bool) (w : World) (h : inB n lo hi = v) :
    Cal 29 #[.int .i64 n, .int .i64 lo, .int .i64 hi] w fun e w' => e = .returned (.bool v) ∧ w = w' := by
  subst h; exact In_any n lo hi w

set_option maxHeartbeats 400000 in
theorem itself_any (n : Int) (w : World) : Cal 84 #[.int .i64 n] w fun e w' => e = .returned (.int .i64 n) ∧ w = w' := by
  gi_enter Tryz.func84, Tryz.ntmps84
  gi_wp2
  go_ret; exact ⟨rfl, rfl⟩
theorem sum_snoc (xs : List Int) (k : Nat) (h : k < xs.length) : (xs.take (k + 1)).sum = (xs.take k).sum + xs[k] := by
  rw [List.take_succ_eq_append_getElem h, List.sum_append, List.sum_cons, List.sum_nil, Int.add_zero]
theorem sum_within {M : Int} (hM : 0 ≤ M) : ∀ (l : List Int), (∀ x ∈ l, -M ≤ x ∧ x ≤ M) → -(M * l.length) ≤ l.sum ∧ l.sum ≤ M * l.length
  | [], _ => by simp
  | x :: l, h => by
    have h1 := h x (by simp)
    have h2 := sum_within hM l fun t ht => h t (by simp [ht])
    simp only [List.sum_cons, List.length_cons, Int.mul_add, Int.mul_one, Int.natCast_add, Int.natCast_one] at *
    omega
theorem sum_to (l : List Int) (h : ∀ x ∈ l, -1000000000 ≤ x ∧ x ≤ 1000000000) (hl : l.length ≤ 1000) (k : Nat) : -1000000000000 ≤ (l.take k).sum ∧ (l.take k).sum ≤ 1000000000000 := by
  have := sum_within (M := 1000000000) (by omega) (l.take k) fun s hs => h s (List.mem_of_mem_take hs)
  have hl : (l.take k).length ≤ 1000 := by rw [List.length_take]; omega
  omega
/-- A function of the program as a value. -/
abbrev fnV (f : Nat) : Value := .func (.func f) #[] #[]
set_option maxHeartbeats 1000000 in
theorem sumI_any (v : Value) (xs : List Int) (w : World) (hv : IntsAt w v xs) (hb : ∀ x ∈ xs, -1000000000 ≤ x ∧ x ≤ 1000000000) (hl : xs.length ≤ 1000) :
    Cal 83 #[fnV 84, v] w fun e w' => e = .returned (.int .i64 xs.sum) ∧ w = w' := by
  obtain ⟨a, cap, rfl, ⟨hcap, hlen⟩, hc⟩ := hv
  have HB := hid hb
  have HC := hid hc
  clear hc hb
  gi_enter Tryz.func83, Tryz.ntmps83
  gi_wp2
  gi_loop [5, 7, 10, 12, 13, 14, 15, 16, 17, 18, 19] (fun s u7 i u12 u13 u14 u15 u16 u17 u18 u19 => ∃ k : Nat, k ≤ xs.length ∧ i = .int .i64 k ∧ s = .int .i64 (xs.take k).sum) (fun _ _ i _ _ _ _ _ _ _ _ => xs.length - (intOf i).toNat)
  case atStart => exact ⟨0, Nat.zero_le _, rfl, rfl⟩
  case round =>
    obtain ⟨k, hk, rfl, rfl⟩ := hrel
    by_cases hlt : k < xs.length
    · obtain ⟨b, off, rfl, hbb, hck⟩ := HC.out k hlt
      have HS := hid (sum_snoc xs k hlt)
      have hp := sum_to xs HB.out hl k
      have hx := HB.out xs[k] (List.getElem_mem _)
      generalize xs[k] = x at *
      generalize (xs.take k).sum = s at *
      gi_wp2_with (gi_at_call 84; ((with_reducible refine (itself_any _ _).mono ?_); rintro e w1 ⟨rfl, rfl⟩))
      go_round
      case rel => exact ⟨k + 1, by omega, by go_num, by rw [HS.out]⟩
      case measure => simp [intOf]; omega
    · have he : k = xs.length := by omega
      subst he
      gi_wp2
      go_ret
      exact ⟨rfl, rfl⟩
/-- All are within bounds. -/
def areB (lo hi : Int) (xs : List Int) : Bool := allTo (fun i => inB (xs.getD i 0) lo hi) xs.length
theorem areB_iff {lo hi : Int} {xs : List Int} : areB lo hi xs = true ↔ ∀ x ∈ xs, lo ≤ x ∧ x ≤ hi := by
  unfold areB allTo
  rw [List.all_eq_true]
  constructor
  · intro h x hx
    obtain ⟨i, hi', rfl⟩ := List.getElem_of_mem hx
    have := h i (List.mem_range.mpr hi')
    rw [getD_of hi'] at this
    exact inB_spec this
  · intro h i hi'
    rw [List.mem_range] at hi'
    rw [getD_of hi']
    have := h xs[i] (List.getElem_mem _)
    simp [inB, this.1, this.2]
set_option maxHeartbeats 1000000 in
theorem areIn_any (lo hi : Int) (v : Value) (xs : List Int) (w : World) (hv : IntsAt w v xs) :
    Cal 82 #[.int .i64 lo, .int .i64 hi, v] w fun e w' => e = .returned (.bool (areB lo hi xs)) ∧ w = w' := by
  obtain ⟨a, cap, rfl, ⟨hcap, hlen⟩, hc⟩ := hv
  have HC := hid hc
  clear hc
  gi_enter Tryz.func82, Tryz.ntmps82
  gi_wp2
  gi_loop [8, 11, 13, 14, 15, 16, 17, 18, 19, 20] (fun u8 i u13 u14 u15 u16 u17 u18 u19 u20 => ∃ k : Nat, k ≤ xs.length ∧ i = .int .i64 k ∧ Hid (∀ j, j < k → inB (xs.getD j 0) lo hi = true)) (fun _ i _ _ _ _ _ _ _ _ => xs.length - (intOf i).toNat)
  case atStart => exact ⟨0, Nat.zero_le _, rfl, fun _ h => absurd h (by omega)⟩
  case round =>
    obtain ⟨k, hk, rfl, HG⟩ := hrel
    by_cases hlt : k < xs.length
    · obtain ⟨b, off, rfl, hbb, hck⟩ := HC.out k hlt
      have HD := hid (getD_of (d := (0 : Int)) hlt)
      generalize xs[k] = x at *
      cases hin : inB x lo hi with
      | true =>
        have HU := hid (upTo_succ HG.out (by rw [HD.out]; exact hin))
        have HI := hid hin
        clear hin HG
        gi_wp2_with (gi_at_call 46; ((with_reducible refine (isIn_b _ _ _ true _ HI.out).mono ?_); rintro e w1 ⟨rfl, rfl⟩))
        go_round
        case rel => exact ⟨k + 1, by omega, by go_num, HU⟩
        case measure => simp [intOf]; omega
      | false =>
        have HF : Hid (areB lo hi xs = false) := hid (by unfold areB; exact allTo_no hlt (by rw [HD.out]; exact hin))
        have HI := hid hin
        clear hin HG
        gi_wp2_with (gi_at_call 46; ((with_reducible refine (isIn_b _ _ _ false _ HI.out).mono ?_); rintro e w1 ⟨rfl, rfl⟩))
        go_ret
        exact ⟨by rw [HF.out]; rfl, rfl⟩
    · obtain rfl : k = xs.length := by omega
      have HT : Hid (areB lo hi xs = true) := hid (by unfold areB; exact allTo_yes HG.out)
      clear HG
      gi_wp2
      go_ret
      exact ⟨by rw [HT.out]; rfl, rfl⟩
end
section
open Go Go.RowKit Go.Shelf

/-- A stake. -/
structure Stk where
  name : ByteArray
  weight : Int
  deriving Inhabited
def stkV (s : Stk) : Value := .agg #[.string s.name, .int .i64 s.weight]
def noStk : Stk := ⟨ByteArray.empty, 0⟩
def StakesAt (w : World) (v : Value) (l : List Stk) : Prop :=
  ∃ a cap, v = .slice a l.length cap ∧ (l.length ≤ cap ∧ l.length ≤ 1000000000000000) ∧ ∀ i (h : i < l.length), ∃ b off, a = some ⟨b, off, none⟩ ∧ b < w.heap.size ∧
    w.cell? ⟨b, off + i * 2, none⟩ = some (.string l[i].name) ∧ w.cell? ⟨b, off + i * 2 + 1, none⟩ = some (.int .i64 l[i].weight)
theorem StakesAt.mono {w w' : World} {v : Value} {l : List Stk} (h : StakesAt w v l) (hx : Ext w w') : StakesAt w' v l := by
  obtain ⟨a, cap, hv, hl, hc⟩ := h
  refine ⟨a, cap, hv, hl, fun i hi => ?_⟩
  obtain ⟨b, off, ha, hb, h0, h1⟩ := hc i hi
  exact ⟨b, off, ha, Nat.lt_of_lt_of_le hb hx.size, by rw [hx.cell (p := ⟨b, _, none⟩) hb]; exact h0, by rw [hx.cell (p := ⟨b, _, none⟩) hb]; exact h1⟩
set_option maxHeartbeats 400000 in
theorem weight_any (n : ByteArray) (k : Int) (w : World) : Cal 69 #[.agg #[.string n, .int .i64 k]] w fun e w' => e = .returned (.int .i64 k) ∧ Ext w w' := by
  gi_enter Tryz.func69, Tryz.ntmps69
  gi_wp2
  go_ret; exact ⟨rfl, (Ext.refl _).alloc _⟩
/-- What stakes weigh together. -/
def sumW (l : List Stk) : Int := (l.map (·.weight)).sum
theorem sumW_snoc (l : List Stk) (k : Nat) (h : k < l.length) : sumW (l.take (k + 1)) = sumW (l.take k) + l[k].weight := by
  unfold sumW; rw [List.take_succ_eq_append_getElem h, List.map_append, List.sum_append, List.map_cons, List.map_nil, List.sum_cons, List.sum_nil, Int.add_zero]
theorem sumW_to (l : List Stk) (h : ∀ s ∈ l, -1000000000 ≤ s.weight ∧ s.weight ≤ 1000000000) (hl : l.length ≤ 1000) (k : Nat) : -1000000000000 ≤ sumW (l.take k) ∧ sumW (l.take k) ≤ 1000000000000 := by
  have := sum_to (l.map (·.weight)) (fun x hx => by obtain ⟨s, hs, rfl⟩ := List.mem_map.mp hx; exact h s hs) (by simpa using hl) k
  unfold sumW; rw [List.map_take]; exact this
set_option maxHeartbeats 2000000 in
theorem sumS_any (v : Value) (l : List Stk) (w : World) (hv : StakesAt w v l) (hb : ∀ s ∈ l, -1000000000 ≤ s.weight ∧ s.weight ≤ 1000000000) (hl : l.length ≤ 1000) :
    Cal 68 #[fnV 69, v] w fun e w' => e = .returned (.int .i64 (sumW l)) ∧ Ext w w' := by
  obtain ⟨a, cap, rfl, ⟨hcap, hlen⟩, hc⟩ := hv
  have HB := hid hb
  have HC := hid hc
  clear hc hb
  gi_enter Tryz.func68, Tryz.ntmps68
  gi_wp2
  gi_loopw [5, 7, 10, 11, 12, 13, 14, 15, 16, 17, 18, 19] (fun s u7 i u11 u12 u13 u14 u15 u16 u17 u18 u19 wr => ∃ k : Nat, k ≤ l.length ∧ i = .int .i64 k ∧ s = .int .i64 (sumW (l.take k)) ∧ Ext w wr) (fun _ _ i _ _ _ _ _ _ _ _ _ _ => l.length - (intOf i).toNat)
  case atStart => exact ⟨0, Nat.zero_le _, rfl, rfl, Ext.refl _⟩
  case round =>
    obtain ⟨k, hk, rfl, rfl, hx⟩ := hrel
    by_cases hlt : k < l.length
    · obtain ⟨b, off, rfl, hbb, hc0, hc1⟩ := HC.out k hlt
      rw [← hx.cell (p := ⟨b, _, none⟩) hbb] at hc0 hc1
      have HS := hid (sumW_snoc l k hlt)
      have hp := sumW_to l HB.out hl k
      have hy := HB.out l[k] (List.getElem_mem _)
      generalize l[k] = x at *
      generalize sumW (l.take k) = s at *
      have HX := hid hx
      clear hx
      gi_wp2_with (gi_at_call 69; ((with_reducible refine (weight_any _ _ _).mono ?_); rintro e w1 ⟨rfl, hx1⟩))
      go_roundw
      case rel => exact ⟨k + 1, by omega, by go_num, by rw [HS.out], (HX.out.alloc _).trans hx1⟩
      case measure => simp [intOf]; omega
    · have he : k = l.length := by omega
      subst he
      have HT : Hid (sumW (l.take l.length) = sumW l) := hid (by rw [List.take_length])
      have HX := hid hx
      clear hx
      gi_wp2
      go_ret
      exact ⟨by rw [← HT.out]; rfl, HX.out⟩
set_option maxHeartbeats 400000 in
theorem weights_any (v : Value) (l : List Stk) (w : World) (hv : StakesAt w v l) (hb : ∀ s ∈ l, -1000000000 ≤ s.weight ∧ s.weight ≤ 1000000000) (hl : l.length ≤ 1000) :
    Cal 48 #[v] w fun e w' => e = .returned (.int .i64 (sumW l)) ∧ Ext w w' := by
  gi_enter Tryz.func48, Tryz.ntmps48
  gi_wp2_with (gi_at_call 68; ((with_reducible refine (sumS_any _ l _ hv hb hl).mono ?_); rintro e w1 ⟨rfl, hx1⟩))
  go_ret
  exact ⟨rfl, hx1⟩
end
section
open Go Go.RowKit Go.Shelf

set_option maxHeartbeats 400000 in
theorem isNaNI_any (a : Int) (w : World) : Cal 118 #[.int .i64 a] w fun e w' => e = .returned (.bool false) ∧ w = w' := by
  gi_enter Tryz.func118, Tryz.ntmps118
  gi_wp2
  go_ret; exact ⟨by simp, rfl⟩

set_option maxHeartbeats 400000 in
theorem isNaNS_any (a : ByteArray) (w : World) : Cal 119 #[.string a] w fun e w' => e = .returned (.bool false) ∧ w = w' := by
  gi_enter Tryz.func119, Tryz.ntmps119
  gi_wp2
  go_ret; exact ⟨by simp, rfl⟩

def cmpI (a b : Int) : Int := if a < b then -1 else if b < a then 1 else 0
set_option maxHeartbeats 1000000 in
theorem cmpI_any (a b : Int) (w : World) : Cal 111 #[.int .i64 a, .int .i64 b] w fun e w' => e = .returned (.int .i64 (cmpI a b)) ∧ w = w' := by
  by_cases h1 : a < b
  · have HE : Hid (cmpI a b = -1) := hid (by unfold cmpI; rw [if_pos h1])
    gi_enter Tryz.func111, Tryz.ntmps111
    gi_wp2_with (gi_at_call 118; ((with_reducible refine (isNaNI_any _ _).mono ?_); rintro e w1 ⟨rfl, rfl⟩))
    go_ret; exact ⟨by rw [HE.out]; rfl, rfl⟩
  · by_cases h2 : b < a
    · have HE : Hid (cmpI a b = 1) := hid (by unfold cmpI; rw [if_neg h1, if_pos h2])
      gi_enter Tryz.func111, Tryz.ntmps111
      gi_wp2_with (gi_at_call 118; ((with_reducible refine (isNaNI_any _ _).mono ?_); rintro e w1 ⟨rfl, rfl⟩))
      go_ret; exact ⟨by rw [HE.out]; rfl, rfl⟩
    · have HE : Hid (cmpI a b = 0) := hid (by unfold cmpI; rw [if_neg h1, if_neg h2])
      gi_enter Tryz.func111, Tryz.ntmps111
      gi_wp2_with (gi_at_call 118; ((with_reducible refine (isNaNI_any _ _).mono ?_); rintro e w1 ⟨rfl, rfl⟩))
      go_ret; exact ⟨by rw [HE.out]; rfl, rfl⟩
/-- One name comes before another. -/
def nmLt (a b : ByteArray) : Bool := Op.bytesLess a.toList b.toList
def cmpS (a b : ByteArray) : Int := if nmLt a b then -1 else if a.toList == b.toList then 0 else 1
set_option maxHeartbeats 1000000 in
theorem cmpS_any (a b : ByteArray) (w : World) : Cal 112 #[.string a, .string b] w fun e w' => e = .returned (.int .i64 (cmpS a b)) ∧ w = w' := by
  have HE : Hid (cmpS a b = if Op.bytesLess a.toList b.toList then -1 else if a.toList == b.toList then 0 else 1) := hid rfl
  gi_enter Tryz.func112, Tryz.ntmps112
  gi_wp2_with (gi_at_call 119; ((with_reducible refine (isNaNS_any _ _).mono ?_); rintro e w1 ⟨rfl, rfl⟩))
  · rename_i h
    have HR : Hid (cmpS a b = -1) := hid (by rw [HE.out, h]; rfl)
    go_ret; exact ⟨by rw [HR.out]; rfl, rfl⟩
  · rename_i h1 _ _ h2
    have HR : Hid (cmpS a b = 1) := hid (by
      rw [HE.out, h1]
      have h3 : (a.toList == b.toList) = false := by simpa using h2
      rw [h3]; rfl)
    go_ret; exact ⟨by rw [HR.out]; rfl, rfl⟩
  · rename_i h1 h2
    have HR : Hid (cmpS a b = 0) := hid (by
      rw [HE.out, h1]
      have h3 : (a.toList == b.toList) = true := by simpa using h2
      rw [h3]; rfl)
    go_ret; exact ⟨by rw [HR.out]; rfl, rfl⟩
end
end Go.Proofs.YtjocoadhalimjaaGreat
