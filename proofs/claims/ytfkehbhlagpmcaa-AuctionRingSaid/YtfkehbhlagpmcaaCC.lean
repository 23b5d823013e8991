/- Bids in memory; which of two comes first. -/
import Derived.Test.YtfkehbhlagpmcaaCB
import Derived.Test.YtfkehbhlagpmcaaMe
set_option linter.unusedSimpArgs false
set_option linter.unusedVariables false
namespace Go.Proofs.Ytfkehbhlagpmcaa
open Go Go.RowKit Go.Shelf
open Au
def noBd : Bd := ⟨0, 0, 0⟩
def bidCells (b : Bd) : List Value := [.int .i64 (b.buyer : Int), .int .i64 (b.place : Int), .int .i64 b.offer]
def bidV (b : Bd) : Value := .agg #[.int .i64 (b.buyer : Int), .int .i64 (b.place : Int), .int .i64 b.offer]
def BidsAt (w : World) (v : Value) (l : List Bd) : Prop :=
  ∃ a cap, v = .slice a l.length cap ∧ (l.length ≤ cap ∧ l.length ≤ 1000000000000000) ∧ ∀ i (h : i < l.length), ∃ b off, a = some ⟨b, off, none⟩ ∧ b < w.heap.size ∧
    w.cell? ⟨b, off + i * 3, none⟩ = some (.int .i64 (l[i].buyer : Int)) ∧ w.cell? ⟨b, off + i * 3 + 1, none⟩ = some (.int .i64 (l[i].place : Int)) ∧ w.cell? ⟨b, off + i * 3 + 2, none⟩ = some (.int .i64 l[i].offer)
theorem BidsAt.mono {w w' : World} {v : Value} {l : List Bd} (h : BidsAt w v l) (hx : Ext w w') : BidsAt w' v l := by
  obtain ⟨a, cap, hv, hl, hc⟩ := h
  refine ⟨a, cap, hv, hl, fun i hi => ?_⟩
  obtain ⟨b, off, ha, hb, h0, h1, h2⟩ := hc i hi
  exact ⟨b, off, ha, Nat.lt_of_lt_of_le hb hx.size, by rw [hx.cell (p := ⟨b, _, none⟩) hb]; exact h0, by rw [hx.cell (p := ⟨b, _, none⟩) hb]; exact h1, by rw [hx.cell (p := ⟨b, _, none⟩) hb]; exact h2⟩
set_option maxHeartbeats 400000 in
theorem bworth_any (a b c : Int) (w : World) : Cal 75 #[.agg #[.int .i64 a, .int .i64 b, .int .i64 c]] w fun e w' => e = .returned (.int .i64 c) ∧ Ext w w' := by
  gi_enter Try.func75, Try.ntmps75
  gi_wp2
  go_ret; exact ⟨rfl, (Ext.refl _).alloc _⟩
theorem sumO_snoc (l : List Bd) (k : Nat) (h : k < l.length) : sumO (l.take (k + 1)) = sumO (l.take k) + l[k].offer := by
  unfold sumO; rw [List.take_succ_eq_append_getElem h, List.map_append, List.sum_append, List.map_cons, List.map_nil, List.sum_cons, List.sum_nil, Int.add_zero]
theorem sumO_to (l : List Bd) (h : ∀ s ∈ l, -1000000000 ≤ s.offer ∧ s.offer ≤ 1000000000) (hl : l.length ≤ 1000) (k : Nat) : -1000000000000 ≤ sumO (l.take k) ∧ sumO (l.take k) ≤ 1000000000000 := by
  have := sum_to (l.map (·.offer)) (fun x hx => by obtain ⟨s, hs, rfl⟩ := List.mem_map.mp hx; exact h s hs) (by simpa using hl) k
  unfold sumO; rw [List.map_take]; exact this
set_option maxHeartbeats 2000000 in
theorem sumB_any (v : Value) (l : List Bd) (w : World) (hv : BidsAt w v l) (hb : ∀ s ∈ l, -1000000000 ≤ s.offer ∧ s.offer ≤ 1000000000) (hl : l.length ≤ 1000) :
    Cal 74 #[fnV 75, v] w fun e w' => e = .returned (.int .i64 (sumO l)) ∧ Ext w w' := by
  obtain ⟨a, cap, rfl, ⟨hcap, hlen⟩, hc⟩ := hv
  have HB := hid hb
  have HC := hid hc
  clear hc hb
  gi_enter Try.func74, Try.ntmps74
  gi_wp2
  gi_loopw [5, 7, 10, 11, 12, 13, 14, 15, 16, 17, 18, 19] (fun s u7 i u11 u12 u13 u14 u15 u16 u17 u18 u19 wr => ∃ k : Nat, k ≤ l.length ∧ i = .int .i64 k ∧ s = .int .i64 (sumO (l.take k)) ∧ Ext w wr) (fun _ _ i _ _ _ _ _ _ _ _ _ _ => l.length - (intOf i).toNat)
  case atStart => exact ⟨0, Nat.zero_le _, rfl, rfl, Ext.refl _⟩
  case round =>
    obtain ⟨k, hk, rfl, rfl, hx⟩ := hrel
    by_cases hlt : k < l.length
    · obtain ⟨b, off, rfl, hbb, hc0, hc1, hc2⟩ := HC.out k hlt
      rw [← hx.cell (p := ⟨b, _, none⟩) hbb] at hc0 hc1 hc2
      have HS := hid (sumO_snoc l k hlt)
      have hp := sumO_to l HB.out hl k
      have hy := HB.out l[k] (List.getElem_mem _)
      generalize l[k] = x at *
      obtain ⟨x1, x2, x3⟩ := x
      simp only at hc0 hc1 hc2 hy HS
      generalize (x1 : Int) = y1 at *
      generalize (x2 : Int) = y2 at *
      generalize sumO (l.take k) = s at *
      have HX := hid hx
      clear hx
      gi_wp2_with (gi_at_call 75; ((with_reducible refine (bworth_any _ _ _ _).mono ?_); rintro e w1 ⟨rfl, hx1⟩))
      go_roundw
      case rel => exact ⟨k + 1, by omega, by go_num, by rw [HS.out], (HX.out.alloc _).trans hx1⟩
      case measure => simp [intOf]; omega
    · have he : k = l.length := by omega
      subst he
      have HT : Hid (sumO (l.take l.length) = sumO l) := hid (by rw [List.take_length])
      have HX := hid hx
      clear hx
      gi_wp2
      go_ret
      exact ⟨by rw [← HT.out]; rfl, HX.out⟩
set_option maxHeartbeats 400000 in
theorem isNaNI_any (a : Int) (w : World) : Cal 93 #[.int .i64 a] w fun e w' => e = .returned (.bool false) ∧ w = w' := by
  gi_enter Try.func93, Try.ntmps93
  gi_wp2
  go_ret; exact ⟨by simp, rfl⟩
def cmpI (a b : Int) : Int := if a < b then -1 else if b < a then 1 else 0
set_option maxHeartbeats 1000000 in
theorem cmpI_any (a b : Int) (w : World) : Cal 87 #[.int .i64 a, .int .i64 b] w fun e w' => e = .returned (.int .i64 (cmpI a b)) ∧ w = w' := by
  by_cases h1 : a < b
  · have HE : Hid (cmpI a b = -1) := hid (by unfold cmpI; rw [if_pos h1])
    gi_enter Try.func87, Try.ntmps87
    gi_wp2_with (gi_at_call 93; ((with_reducible refine (isNaNI_any _ _).mono ?_); rintro e w1 ⟨rfl, rfl⟩))
    go_ret; exact ⟨by rw [HE.out]; rfl, rfl⟩
  · by_cases h2 : b < a
    · have HE : Hid (cmpI a b = 1) := hid (by unfold cmpI; rw [if_neg h1, if_pos h2])
      gi_enter Try.func87, Try.ntmps87
      gi_wp2_with (gi_at_call 93; ((with_reducible refine (isNaNI_any _ _).mono ?_); rintro e w1 ⟨rfl, rfl⟩))
      go_ret; exact ⟨by rw [HE.out]; rfl, rfl⟩
    · have HE : Hid (cmpI a b = 0) := hid (by unfold cmpI; rw [if_neg h1, if_neg h2])
      gi_enter Try.func87, Try.ntmps87
      gi_wp2_with (gi_at_call 93; ((with_reducible refine (isNaNI_any _ _).mono ?_); rintro e w1 ⟨rfl, rfl⟩))
      go_ret; exact ⟨by rw [HE.out]; rfl, rfl⟩
/-- The first number that is not 0. -/
def orL : List Int → Int
  | [] => 0
  | x :: l => if x = 0 then orL l else x
theorem orL_some : ∀ {xs : List Int} {k : Nat} (h : k < xs.length), (∀ j, j < k → xs.getD j 0 = 0) → xs[k] ≠ 0 → orL xs = xs[k]
  | x :: l, 0, _, _, hn => by simp only [List.getElem_cons_zero] at hn ⊢; rw [orL, if_neg hn]
  | x :: l, k + 1, h, h0, hn => by
    have hx : x = 0 := h0 0 (by omega)
    rw [orL, if_pos hx]
    exact orL_some (xs := l) (k := k) (by simpa using h) (fun j hj => by simpa using h0 (j + 1) (by omega)) (by simpa using hn)
theorem orL_none : ∀ {xs : List Int}, (∀ j, j < xs.length → xs.getD j 0 = 0) → orL xs = 0
  | [], _ => rfl
  | x :: l, h => by
    have hx : x = 0 := h 0 (by simp)
    rw [orL, if_pos hx]
    exact orL_none fun j hj => by simpa using h (j + 1) (by simpa using hj)
set_option maxHeartbeats 1000000 in
theorem or_any (v : Value) (xs : List Int) (w : World) (hv : IntsAt w v xs) :
    Cal 86 #[v] w fun e w' => e = .returned (.int .i64 (orL xs)) ∧ w = w' := by
  obtain ⟨a, cap, rfl, ⟨hcap, hlen⟩, hc⟩ := hv
  have HC := hid hc
  clear hc
  gi_enter Try.func86, Try.ntmps86
  gi_wp2
  gi_loop [5, 8, 10, 11, 12, 13, 14, 15, 16] (fun u5 i u10 u11 u12 u13 u14 u15 u16 => ∃ k : Nat, k ≤ xs.length ∧ i = .int .i64 k ∧ Hid (∀ j, j < k → xs.getD j 0 = 0)) (fun _ i _ _ _ _ _ _ _ => xs.length - (intOf i).toNat)
  case atStart => exact ⟨0, Nat.zero_le _, rfl, fun _ h => absurd h (by omega)⟩
  case round =>
    obtain ⟨k, hk, rfl, HG⟩ := hrel
    by_cases hlt : k < xs.length
    · obtain ⟨b, off, rfl, hbb, hck⟩ := HC.out k hlt
      by_cases hz : xs[k] = 0
      · have HU : Hid (∀ j, j < k + 1 → xs.getD j 0 = 0) := fun j hj => by
          by_cases hjk : j < k
          · exact HG.out j hjk
          · obtain rfl : j = k := by omega
            rw [getD_of hlt]; exact hz
        rw [hz] at hck
        clear HG hz
        gi_wp2
        go_round
        case rel => exact ⟨k + 1, by omega, by go_num, HU⟩
        case measure => simp [intOf]; omega
      · have HF : Hid (orL xs = xs[k]) := hid (orL_some hlt HG.out hz)
        clear HG
        generalize xs[k] = x at *
        gi_wp2
        go_ret
        exact ⟨by rw [HF.out]; rfl, rfl⟩
    · obtain rfl : k = xs.length := by omega
      have HT : Hid (orL xs = 0) := hid (orL_none HG.out)
      clear HG
      gi_wp2
      go_ret
      exact ⟨by rw [HT.out]; rfl, rfl⟩
def pI (l : List Int) (v : Value) (u : World) : Prop := IntsAt u v l
def nStab (ps : Preds) : Prop := ∀ i p, psAt ps i = some p → ∀ v u u', p v u → Ext u u' → p v u'
theorem nStab_nil : nStab [] := fun i p h => by cases h
theorem nStab_cons {k : Nat} {q : Value → World → Prop} {ps : Preds} (hq : ∀ v u u', q v u → Ext u u' → q v u') (h : nStab ps) : nStab ((k, q) :: ps) := fun i p hp v u u' hv hx => by
  unfold psAt at hp
  split at hp
  · cases hp; exact hq v u u' hv hx
  · exact h i p hp v u u' hv hx
theorem pI_s (l : List Int) : ∀ v u u', pI l v u → Ext u u' → pI l v u' := fun _ _ _ h k => h.mono k
theorem ints_three {W : World} {ty : TypeId} (a b c : Int) {W' : World} (hx : Ext (W.alloc (.cells #[.int .i64 a, .int .i64 b, .int .i64 c] ty)) W') : pI [a, b, c] (.slice (some ⟨W.heap.size, 0, none⟩) 3 3) W' := by
  refine ⟨_, 3, rfl, by simp, fun i hi => ⟨W.heap.size, 0, rfl, Nat.lt_of_lt_of_le (by simp) hx.size, ?_⟩⟩
  have hc := cell_of (Ext.new hx)
  rw [hc]
  match i, hi with
  | 0, _ => rfl
  | 1, _ => rfl
  | 2, _ => rfl
theorem size102 : (Try.prog.info? 102).map (·.size) = some 3 := by kernel_rfl
theorem info102 : (Try.prog.info? 102).map (fun i => (i.zero, i.size, i.bytes)) = some (some (.agg #[.int .i64 0, .int .i64 0, .int .i64 0]), 3, 24) := by kernel_rfl

end Go.Proofs.Ytfkehbhlagpmcaa
