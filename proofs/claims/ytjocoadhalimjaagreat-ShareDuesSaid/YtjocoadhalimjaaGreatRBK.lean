/- Spoilt clearings: the mathematics; Bit. -/
import Derived.Test.YtjocoadhalimjaaGreatRBJ
set_option linter.unusedSimpArgs false
set_option linter.unusedVariables false
namespace Go.Proofs.YtjocoadhalimjaaGreat
section
open Go Go.RowKit Go.Shelf

/-- What a payment adds. -/
def payC (p : Py) (i : Nat) : Int := if (i : Int) = p.z then -p.s else if (i : Int) = p.a then p.s else 0
theorem payL_add (D : Nat → Int) (p : Py) (i : Nat) : payL D p i = D i + payC p i := by
  unfold payL payC; split
  · omega
  · split <;> omega
theorem fold_add : ∀ (ps : List Py) (D : Nat → Int) (i : Nat), ps.foldl payL D i = D i + (ps.map fun p => payC p i).sum
  | [], D, i => by simp
  | p :: ps, D, i => by
    rw [List.foldl_cons, fold_add ps (payL D p) i, payL_add, List.map_cons, List.sum_cons]; omega
theorem clear_not {xs : List Int} {ps : List Py} {i : Nat} (hn : xs.length ≤ 10) (hi : i < xs.length) (h : ps.foldl payL (balF xs) i ≠ 0) : clearB xs ps = false := by
  have e0 : leftFrom xs xs.length = balF xs := by
    funext i
    unfold leftFrom balF
    by_cases h : i < xs.length
    · rw [if_pos h]
    · rw [if_neg h, List.getD_eq_getElem?_getD, List.getElem?_eq_none (by omega)]; rfl
  cases hc : clearB xs ps with
  | false => rfl
  | true =>
    exfalso
    unfold clearB allTo at hc
    rw [Bool.and_eq_true, List.all_eq_true, List.all_eq_true] at hc
    have h1 := hc.2 i (List.mem_range.2 (by omega))
    unfold leftPay at h1
    rw [List.take_length, e0] at h1
    exact h (by simpa using h1)
theorem sum_set {α : Type} (f : α → Int) : ∀ (l : List α) (k : Nat) (hk : k < l.length) (q : α), ((l.set k q).map f).sum = (l.map f).sum + f q - f l[k]
  | [], k, hk, _ => by simp at hk
  | x :: l, 0, hk, q => by simp; omega
  | x :: l, k + 1, hk, q => by
    have ih := sum_set f l k (by simpa using hk) q
    simp only [List.set_cons_succ, List.map_cons, List.sum_cons, List.getElem_cons_succ]
    omega
theorem sum_out {α : Type} (f : α → Int) : ∀ (l : List α) (k : Nat) (hk : k < l.length), ((l.take k ++ l.drop (k + 1)).map f).sum = (l.map f).sum - f l[k]
  | [], k, hk => by simp at hk
  | x :: l, 0, hk => by simp; omega
  | x :: l, k + 1, hk => by
    have ih := sum_out f l k (by simpa using hk)
    simp only [List.take_succ_cons, List.drop_succ_cons, List.cons_append, List.map_cons, List.sum_cons, List.getElem_cons_succ]
    omega
/-- One penny more, and it is no clearing. -/
theorem spoilt_more {xs : List Int} {ps : List Py} {k : Nat} (hn : xs.length ≤ 10) (hz : ∀ i, ps.foldl payL (balF xs) i = 0) (hk : k < ps.length) (hg : pyGood xs.length ps[k] = true) :
    clearB xs (ps.set k ⟨ps[k].a, ps[k].z, ps[k].s + 1⟩) = false := by
  obtain ⟨h1, h2, h3, h4⟩ := pyGood_iff.1 hg
  refine clear_not (i := ps[k].a.toNat) hn (by omega) ?_
  have h5 := hz ps[k].a.toNat
  rw [fold_add] at h5 ⊢
  rw [sum_set _ ps k hk]
  have e1 : payC ⟨ps[k].a, ps[k].z, ps[k].s + 1⟩ ps[k].a.toNat = ps[k].s + 1 := by
    unfold payC; dsimp only; rw [if_neg (by omega), if_pos (by omega)]
  have e2 : payC ps[k] ps[k].a.toNat = ps[k].s := by
    unfold payC; rw [if_neg (by omega), if_pos (by omega)]
  rw [e1, e2]
  omega
/-- One payment less, and it is no clearing. -/
theorem spoilt_less {xs : List Int} {ps : List Py} {k : Nat} (hn : xs.length ≤ 10) (hz : ∀ i, ps.foldl payL (balF xs) i = 0) (hk : k < ps.length) (hg : pyGood xs.length ps[k] = true) :
    clearB xs (ps.take k ++ ps.drop (k + 1)) = false := by
  obtain ⟨h1, h2, h3, h4⟩ := pyGood_iff.1 hg
  refine clear_not (i := ps[k].a.toNat) hn (by omega) ?_
  have h5 := hz ps[k].a.toNat
  rw [fold_add] at h5 ⊢
  rw [sum_out _ ps k hk]
  have e2 : payC ps[k] ps[k].a.toNat = ps[k].s := by
    unfold payC; rw [if_neg (by omega), if_pos (by omega)]
  rw [e2]
  omega
theorem balF_twice (xs : List Int) (i : Nat) : balF (xs.map fun x => 2 * x) i = 2 * balF xs i := by
  unfold balF
  rw [List.getD_eq_getElem?_getD, List.getD_eq_getElem?_getD, List.getElem?_map]
  cases xs[i]? <;> simp
/-- Two clearings after each other are one of both together. -/
theorem twice_clear {xs : List Int} {ps : List Py} (hn : xs.length ≤ 10) (hg : ∀ p ∈ ps, pyGood xs.length p = true) (hz : ∀ i, ps.foldl payL (balF xs) i = 0) : clearB (xs.map fun x => 2 * x) (ps ++ ps) = true := by
  refine clear_of (by simpa using hn) (fun p hp => ?_) fun i => ?_
  · rw [List.length_map]
    rcases List.mem_append.1 hp with h | h <;> exact hg p h
  · have h := hz i
    rw [fold_add] at h ⊢
    rw [balF_twice, List.map_append, List.sum_append]
    omega
theorem Bit_any (s k : Nat) (w : World) (hs : s < 1024) (hk : k ≤ 20) : Cal 40 #[.int .i64 s, .int .i64 k] w fun e w' => e = .returned (.bool (s.testBit k)) ∧ w = w' := by
  have HB := hid (has_bits (k := k) hs)
  have h1 : (0 : Int) ≤ (k : Int) := by omega
  have h2 : (k : Int) ≤ 64 := by omega
  gi_enter Tryz.func40, Tryz.ntmps40
  gi_wp2
  go_ret
  exact ⟨by rw [← HB.out]; rfl, rfl⟩
end
section
open Go Go.RowKit Go.Shelf

set_option maxRecDepth 100000 in
set_option maxHeartbeats 4000000 in
theorem small_true (v : Value) (l : List Stk) (w : World) (hv : StakesAt w v l) (hl : l.length ≤ 10) (hw : ∀ s ∈ l, 0 ≤ s.weight ∧ s.weight ≤ 1000) : Cal 28 #[v] w fun e w' => e = .returned (.bool true) ∧ w = w' := by
  obtain ⟨a, cap, rfl, ⟨hcap, hlen⟩, hc⟩ := hv
  have HC := hid hc
  have HI := hid (fun (k : Nat) (h : k < l.length) => In_b l[k].weight 0 1000 true w (by have := hw _ (List.getElem_mem h); unfold inB; simp; omega))
  have hle : decide ((l.length : Int) ≤ 10) = true := decide_eq_true (by omega)
  clear hc hw
  gi_enter Tryz.func28, Tryz.ntmps28
  gi_wp2_with fail
  clear hle
  gi_loopw [3, 4] (fun u3 i wr => wr = w ∧ ∃ k : Nat, k ≤ l.length ∧ i = .int .i64 k ∧ u3 = .bool true) (fun _ i _ => l.length - (intOf i).toNat)
  case atStart => exact ⟨rfl, 0, Nat.zero_le _, rfl, rfl⟩
  case round =>
    obtain ⟨rfl, k, hk, rfl, rfl⟩ := hrel
    by_cases hlt : k < l.length
    · have hki : (k : Int) < (l.length : Int) := by omega
      obtain ⟨b, off, rfl, hb, c0, c1⟩ := HC.out k hlt
      have HI2 := hid (HI.out k hlt)
      clear HI
      generalize l[k] = x at *
      gi_wp2_with (gi_at_call 29; ((with_reducible refine (HI2.out).mono ?_); rintro e w1 ⟨rfl, rfl⟩))
      go_roundw
      case rel => exact ⟨by first | rfl | trivial, k + 1, by omega, by go_num, rfl⟩
      case measure => simp [intOf]; omega
    · obtain rfl : k = l.length := by omega
      have hki : ¬ (l.length : Int) < (l.length : Int) := by omega
      gi_wp2_with fail
      go_ret
      exact ⟨rfl, rfl⟩
def wtsL (l : List Stk) : List Int := l.map (·.weight)
theorem wtsL_succ {l : List Stk} {k : Nat} (h : k < l.length) : intsV ((wtsL l).take (k + 1)) = intsV ((wtsL l).take k) ++ [.int .i64 l[k].weight] := by
  unfold wtsL
  rw [List.take_succ_eq_append_getElem (by simpa using h)]
  simp [intsV]
set_option maxRecDepth 100000 in
set_option maxHeartbeats 8000000 in
theorem wtsL_any (v : Value) (l : List Stk) (w : World) (hv : StakesAt w v l) (hl : l.length ≤ 1000) : Cal 31 #[v] w fun e w' => ∃ r, e = .returned r ∧ Ext w w' ∧ Hid (Row w' 3 1 r l.length (intsV (wtsL l))) := by
  obtain ⟨a, cap, rfl, ⟨hcap, hlen⟩, hc⟩ := hv
  have HC := hid hc
  have HN := hid (fun (k : Nat) (h : k < l.length) => wtsL_succ h)
  have HT : Hid ((wtsL l).take l.length = wtsL l) := hid (by unfold wtsL; rw [List.take_of_length_le]; simp)
  obtain ⟨i, hi, hz0, hz1, hz2⟩ := info_parts info3
  have HZ := hid (And.intro hi (And.intro hz0 (And.intro hz1 hz2)))
  clear hc hi hz0 hz1 hz2
  gi_enter Tryz.func31, Tryz.ntmps31
  gi_wp2_with fail
  gi_loopw [3, 4] (fun r i wr => ∃ k : Nat, k ≤ l.length ∧ i = .int .i64 k ∧ Hid (Ext w wr ∧ Row wr 3 1 r k (intsV ((wtsL l).take k)) ∧ ∀ g, r.ownBlock = some g → w.heap.size ≤ g)) (fun _ i _ => l.length - (intOf i).toNat)
  case atStart => exact ⟨0, Nat.zero_le _, rfl, hid ⟨Ext.refl _, by simpa [intsV] using Row.nil _ _ _, fun g h => by simp [Value.ownBlock] at h⟩⟩
  case round =>
    obtain ⟨k, hk, rfl, HI⟩ := hrel
    by_cases hlt : k < l.length
    · have hki : (k : Int) < (l.length : Int) := by omega
      obtain ⟨b, off, rfl, hb, c0, c1⟩ := HC.out k hlt
      have HN2 := hid (HN.out k hlt)
      clear HN
      obtain ⟨hx, hrow, hown⟩ := HI.out
      have hbr : b < wr.heap.size := Nat.lt_of_lt_of_le hb hx.size
      rw [← hx.cell (p := ⟨b, _, none⟩) hb] at c0 c1
      generalize l[k] = x at *
      have HX := hid hx
      have HR := hid hrow
      have HO := hid hown
      obtain ⟨na, nc, rfl⟩ := hrow.isSliceN
      clear HI hx hrow hown
      have hxa : Ext wr (wr.alloc (.cells #[.int .i64 x.weight] 3)) := (Ext.refl _).alloc _
      have hce : (wr.alloc (.cells #[.int .i64 x.weight] 3)).heap[wr.heap.size]? = some (.cells #[.int .i64 x.weight] 3 (0, 0)) := Ext.new (Ext.refl _)
      have HCE := hid (cell_of hce)
      have HXA := hid hxa
      clear hxa hce
      gi_wp2_with (refine wpIn_append_row (fun _ => trivial) rfl (.tmp 11) (.tmp 17) rfl Tryz.underlying23 HZ.out.1 HZ.out.2.1 HZ.out.2.2.1 HZ.out.2.2.2 (by simp [Value.cells]) (by omega) (v := .slice na k nc) rfl (HR.out.mono HXA.out) ⟨wr.heap.size, 0, none⟩ 1 rfl [.int .i64 x.weight] (by simp) (fun j u hj => by match j, hj with | 0, h => (cases h; rw [Addr.add_mid]; exact (HCE.out 0).trans rfl)) (by simp [Value.oneCell']) (by omega) (by omega) ?_; intro v' w' hrow' hgr' how')
      have hn := own_next (HX.out.trans HXA.out) HO.out hgr' how'
      go_roundw
      case rel => exact ⟨k + 1, by omega, by go_num, hid ⟨hn.1, by rw [HN2.out]; exact hrow', hn.2⟩⟩
      case measure => simp [intOf]; omega
    · obtain rfl : k = l.length := by omega
      have hki : ¬ (l.length : Int) < (l.length : Int) := by omega
      gi_wp2_with fail
      go_ret
      exact ⟨_, rfl, HI.out.1, hid (by rw [← HT.out]; exact HI.out.2.1)⟩
end
end Go.Proofs.YtjocoadhalimjaaGreat
