/- Comparing numbers and names. -/
import Derived.Test.YtjocoadhalimjaaGreatRAA
set_option linter.unusedSimpArgs false
set_option linter.unusedVariables false
namespace Go.Proofs.YtjocoadhalimjaaGreat
section
open Go Go.RowKit Go.Shelf

set_option maxHeartbeats 400000 in
theorem isNaNI_any (a : Int) (w : World) : Cal 118 #[.int .i64 a] w fun e w' => e = .returned (.bool false) ∧ w = w' := by
  gi_enter Tryz.func118, Tryz.ntmps118
  gi_wp2
  go_ret; exact ⟨by simp, rfl⟩

set_option maxHeartbeats 400000 in
theorem isNaNS_any (a : ByteArray) (w : World) : Cal 119 #[.string a] w fun e w' => e = .returned (.bool false) ∧ w = w' := by
  gi_enter Tryz.func119, Tryz.ntmps119
  gi_wp2
  go_ret; exact ⟨by simp, rfl⟩

def cmpI (a b : Int) : Int := if a < b then -1 else if b < a then 1 else 0
set_option maxHeartbeats 1000000 in
theorem cmpI_any (a b : Int) (w : World) : Cal 111 #[.int .i64 a, .int .i64 b] w fun e w' => e = .returned (.int .i64 (cmpI a b)) ∧ w = w' := by
  by_cases h1 : a < b
  · have HE : Hid (cmpI a b = -1) := hid (by unfold cmpI; rw [if_pos h1])
    gi_enter Tryz.func111, Tryz.ntmps111
    gi_wp2_with (gi_at_call 118; ((with_reducible refine (isNaNI_any _ _).mono ?_); rintro e w1 ⟨rfl, rfl⟩))
    go_ret; exact ⟨by rw [HE.out]; rfl, rfl⟩
  · by_cases h2 : b < a
    · have HE : Hid (cmpI a b = 1) := hid (by unfold cmpI; rw [if_neg h1, if_pos h2])
      gi_enter Tryz.func111, Tryz.ntmps111
      gi_wp2_with (gi_at_call 118; ((with_reducible refine (isNaNI_any _ _).mono ?_); rintro e w1 ⟨rfl, rfl⟩))
      go_ret; exact ⟨by rw [HE.out]; rfl, rfl⟩
    · have HE : Hid (cmpI a b = 0) := hid (by unfold cmpI; rw [if_neg h1, if_neg h2])
      gi_enter Tryz.func111, Tryz.ntmps111
      gi_wp2_with (gi_at_call 118; ((with_reducible refine (isNaNI_any _ _).mono ?_); rintro e w1 ⟨rfl, rfl⟩))
      go_ret; exact ⟨by rw [HE.out]; rfl, rfl⟩
/-- One name comes before another. -/
def nmLt (a b : ByteArray) : Bool := Op.bytesLess a.toList b.toList
def cmpS (a b : ByteArray) : Int := if nmLt a b then -1 else if a.toList == b.toList then 0 else 1
set_option maxHeartbeats 1000000 in
theorem cmpS_any (a b : ByteArray) (w : World) : Cal 112 #[.string a, .string b] w fun e w' => e = .returned (.int .i64 (cmpS a b)) ∧ w = w' := by
  have HE : Hid (cmpS a b = if Op.bytesLess a.toList b.toList then -1 else if a.toList == b.toList then 0 else 1) := hid rfl
  gi_enter Tryz.func112, Tryz.ntmps112
  gi_wp2_with (gi_at_call 119; ((with_reducible refine (isNaNS_any _ _).mono ?_); rintro e w1 ⟨rfl, rfl⟩))
  · rename_i h
    have HR : Hid (cmpS a b = -1) := hid (by rw [HE.out, h]; rfl)
    go_ret; exact ⟨by rw [HR.out]; rfl, rfl⟩
  · rename_i h1 _ _ h2
    have HR : Hid (cmpS a b = 1) := hid (by
      rw [HE.out, h1]
      have h3 : (a.toList == b.toList) = false := by simpa using h2
      rw [h3]; rfl)
    go_ret; exact ⟨by rw [HR.out]; rfl, rfl⟩
  · rename_i h1 h2
    have HR : Hid (cmpS a b = 0) := hid (by
      rw [HE.out, h1]
      have h3 : (a.toList == b.toList) = true := by simpa using h2
      rw [h3]; rfl)
    go_ret; exact ⟨by rw [HR.out]; rfl, rfl⟩
end
section
open Go Go.RowKit Go.Shelf

/-- A share: a stake with what it gets and its rest. -/
structure Shr where
  name : ByteArray
  weight : Int
  pence : Int
  rest : Int
  deriving Inhabited
def shrV (s : Shr) : Value := .agg #[.string s.name, .int .i64 s.weight, .int .i64 s.pence, .int .i64 s.rest]
/-- The first number that is not 0. -/
def orL : List Int → Int
  | [] => 0
  | x :: l => if x = 0 then orL l else x
theorem orL_some : ∀ {xs : List Int} {k : Nat} (h : k < xs.length), (∀ j, j < k → xs.getD j 0 = 0) → xs[k] ≠ 0 → orL xs = xs[k]
  | x :: l, 0, _, _, hn => by simp only [List.getElem_cons_zero] at hn ⊢; rw [orL, if_neg hn]
  | x :: l, k + 1, h, h0, hn => by
    have hx : x = 0 := h0 0 (by omega)
    rw [orL, if_pos hx]
    exact orL_some (xs := l) (k := k) (by simpa using h) (fun j hj => by simpa using h0 (j + 1) (by omega)) (by simpa using hn)
theorem orL_none : ∀ {xs : List Int}, (∀ j, j < xs.length → xs.getD j 0 = 0) → orL xs = 0
  | [], _ => rfl
  | x :: l, h => by
    have hx : x = 0 := h 0 (by simp)
    rw [orL, if_pos hx]
    exact orL_none fun j hj => by simpa using h (j + 1) (by simpa using hj)
set_option maxHeartbeats 1000000 in
theorem or_any (v : Value) (xs : List Int) (w : World) (hv : IntsAt w v xs) :
    Cal 110 #[v] w fun e w' => e = .returned (.int .i64 (orL xs)) ∧ w = w' := by
  obtain ⟨a, cap, rfl, ⟨hcap, hlen⟩, hc⟩ := hv
  have HC := hid hc
  clear hc
  gi_enter Tryz.func110, Tryz.ntmps110
  gi_wp2
  gi_loop [5, 8, 10, 11, 12, 13, 14, 15, 16] (fun u5 i u10 u11 u12 u13 u14 u15 u16 => ∃ k : Nat, k ≤ xs.length ∧ i = .int .i64 k ∧ Hid (∀ j, j < k → xs.getD j 0 = 0)) (fun _ i _ _ _ _ _ _ _ => xs.length - (intOf i).toNat)
  case atStart => exact ⟨0, Nat.zero_le _, rfl, fun _ h => absurd h (by omega)⟩
  case round =>
    obtain ⟨k, hk, rfl, HG⟩ := hrel
    by_cases hlt : k < xs.length
    · obtain ⟨b, off, rfl, hbb, hck⟩ := HC.out k hlt
      by_cases hz : xs[k] = 0
      · have HU : Hid (∀ j, j < k + 1 → xs.getD j 0 = 0) := fun j hj => by
          by_cases hjk : j < k
          · exact HG.out j hjk
          · obtain rfl : j = k := by omega
            rw [getD_of hlt]; exact hz
        rw [hz] at hck
        clear HG hz
        gi_wp2
        go_round
        case rel => exact ⟨k + 1, by omega, by go_num, HU⟩
        case measure => simp [intOf]; omega
      · have HF : Hid (orL xs = xs[k]) := hid (orL_some hlt HG.out hz)
        clear HG
        generalize xs[k] = x at *
        gi_wp2
        go_ret
        exact ⟨by rw [HF.out]; rfl, rfl⟩
    · obtain rfl : k = xs.length := by omega
      have HT : Hid (orL xs = 0) := hid (orL_none HG.out)
      clear HG
      gi_wp2
      go_ret
      exact ⟨by rw [HT.out]; rfl, rfl⟩
def pI (l : List Int) (v : Value) (u : World) : Prop := IntsAt u v l
def nStab (ps : Preds) : Prop := ∀ i p, psAt ps i = some p → ∀ v u u', p v u → Ext u u' → p v u'
theorem nStab_nil : nStab [] := fun i p h => by cases h
theorem nStab_cons {k : Nat} {q : Value → World → Prop} {ps : Preds} (hq : ∀ v u u', q v u → Ext u u' → q v u') (h : nStab ps) : nStab ((k, q) :: ps) := fun i p hp v u u' hv hx => by
  unfold psAt at hp
  split at hp
  · cases hp; exact hq v u u' hv hx
  · exact h i p hp v u u' hv hx
theorem pI_s (l : List Int) : ∀ v u u', pI l v u → Ext u u' → pI l v u' := fun _ _ _ h k => h.mono k
theorem ints_two {W : World} {ty : TypeId} (a b : Int) {W' : World} (hx : Ext (W.alloc (.cells #[.int .i64 a, .int .i64 b] ty)) W') : pI [a, b] (.slice (some ⟨W.heap.size, 0, none⟩) 2 2) W' := by
  refine ⟨_, 2, rfl, by simp, fun i hi => ⟨W.heap.size, 0, rfl, Nat.lt_of_lt_of_le (by simp) hx.size, ?_⟩⟩
  have hc := cell_of (Ext.new hx)
  rw [hc]
  match i, hi with
  | 0, _ => rfl
  | 1, _ => rfl
/-- Who of two gets one of the pence first: below 0, the first one. -/
def restC (a b : Shr) : Int := orL [cmpI b.rest a.rest, cmpS a.name b.name]
set_option maxRecDepth 100000 in
set_option maxHeartbeats 1000000 in
theorem byRest_any (a b : Shr) (w : World) : Cal 92 #[shrV a, shrV b] w fun e w' => e = .returned (.int .i64 (restC a b)) ∧ Ext w w' := by
  unfold shrV restC
  gi_enter Tryz.func92, Tryz.ntmps92
  gi_wp2_with fail
  have hW : Ext w ((w.alloc (.cells #[.string a.name, .int .i64 a.weight, .int .i64 a.pence, .int .i64 a.rest] 146)).alloc (.cells #[.string b.name, .int .i64 b.weight, .int .i64 b.pence, .int .i64 b.rest] 146)) := ((Ext.refl _).alloc _).alloc _
  have HA := hid (two_new (w := w) (o1 := .cells #[.string a.name, .int .i64 a.weight, .int .i64 a.pence, .int .i64 a.rest] 146) (o2 := .cells #[.string b.name, .int .i64 b.weight, .int .i64 b.pence, .int .i64 b.rest] 146))
  have HB : Hid (((w.alloc (.cells #[.string a.name, .int .i64 a.weight, .int .i64 a.pence, .int .i64 a.rest] 146)).alloc (.cells #[.string b.name, .int .i64 b.weight, .int .i64 b.pence, .int .i64 b.rest] 146)).heap[w.heap.size + 1]? = some (.cells #[.string b.name, .int .i64 b.weight, .int .i64 b.pence, .int .i64 b.rest] 146 (0, 0))) := hid (by
    have := Ext.new (w := w.alloc (.cells #[.string a.name, .int .i64 a.weight, .int .i64 a.pence, .int .i64 a.rest] 146)) (o := .cells #[.string b.name, .int .i64 b.weight, .int .i64 b.pence, .int .i64 b.rest] 146) (Ext.refl _); rwa [World.size_alloc] at this)
  generalize (w.alloc (.cells #[.string a.name, .int .i64 a.weight, .int .i64 a.pence, .int .i64 a.rest] 146)).alloc (.cells #[.string b.name, .int .i64 b.weight, .int .i64 b.pence, .int .i64 b.rest] 146) = W at *
  refine lex_wide 14 [(12, pI [cmpI b.rest a.rest, cmpS a.name b.name])] (by kernel_rfl) (by kernel_rfl) (nStab_cons (pI_s _) nStab_nil) ?_
  simp only [List.take_succ_cons, List.take_zero, List.drop_succ_cons, List.drop_zero]
  apply lex_fun (rfl : psAt _ _ = none)
  · intro x u hR hf
    clear hR hf
    go_simp
    exact ⟨rfl, Ext.refl _⟩
  simp only [Act.put, List.setIfInBounds_toArray, List.set_cons_succ, List.set_cons_zero]
  apply lex_fun (rfl : psAt _ _ = none)
  · intro x u hR hf
    have c1 := cell_of (hR.block HB.out)
    clear hR hf
    go_simp
    exact ⟨rfl, Ext.refl _⟩
  simp only [Act.put, List.setIfInBounds_toArray, List.set_cons_succ, List.set_cons_zero]
  apply lex_fun (rfl : psAt _ _ = none)
  · intro x u hR hf
    clear hR hf
    go_simp
    exact ⟨rfl, Ext.refl _⟩
  simp only [Act.put, List.setIfInBounds_toArray, List.set_cons_succ, List.set_cons_zero]
  apply lex_fun (rfl : psAt _ _ = none)
  · intro x u hR hf
    have c0 := cell_of (hR.block HA.out)
    clear hR hf
    go_simp
    exact ⟨rfl, Ext.refl _⟩
  simp only [Act.put, List.setIfInBounds_toArray, List.set_cons_succ, List.set_cons_zero]
  refine lex_fun (v := .int .i64 (cmpI b.rest a.rest)) (rfl : psAt _ _ = none) ?_ ?_
  · intro x u hR hf
    have hcal := hid (cmpI_any b.rest a.rest u)
    clear hR hf
    go_simp
    exact hcal.out.mono fun e w'' ⟨he, hx'⟩ => ⟨_, he, rfl, by subst hx'; exact Ext.refl _⟩
  simp only [Act.put, List.setIfInBounds_toArray, List.set_cons_succ, List.set_cons_zero]
  apply lex_fun (rfl : psAt _ _ = none)
  · intro x u hR hf
    clear hR hf
    go_simp
    exact ⟨rfl, Ext.refl _⟩
  simp only [Act.put, List.setIfInBounds_toArray, List.set_cons_succ, List.set_cons_zero]
  apply lex_fun (rfl : psAt _ _ = none)
  · intro x u hR hf
    clear hR hf
    go_simp
    exact ⟨rfl, Ext.refl _⟩
  simp only [Act.put, List.setIfInBounds_toArray, List.set_cons_succ, List.set_cons_zero]
  apply lex_fun (rfl : psAt _ _ = none)
  · intro x u hR hf
    have c0 := cell_of (hR.block HA.out)
    clear hR hf
    go_simp
    exact ⟨rfl, Ext.refl _⟩
  simp only [Act.put, List.setIfInBounds_toArray, List.set_cons_succ, List.set_cons_zero]
  apply lex_fun (rfl : psAt _ _ = none)
  · intro x u hR hf
    clear hR hf
    go_simp
    exact ⟨rfl, Ext.refl _⟩
  simp only [Act.put, List.setIfInBounds_toArray, List.set_cons_succ, List.set_cons_zero]
  apply lex_fun (rfl : psAt _ _ = none)
  · intro x u hR hf
    clear hR hf
    go_simp
    exact ⟨rfl, Ext.refl _⟩
  simp only [Act.put, List.setIfInBounds_toArray, List.set_cons_succ, List.set_cons_zero]
  apply lex_fun (rfl : psAt _ _ = none)
  · intro x u hR hf
    have c1 := cell_of (hR.block HB.out)
    clear hR hf
    go_simp
    exact ⟨rfl, Ext.refl _⟩
  simp only [Act.put, List.setIfInBounds_toArray, List.set_cons_succ, List.set_cons_zero]
  refine lex_fun (v := .int .i64 (cmpS a.name b.name)) (rfl : psAt _ _ = none) ?_ ?_
  · intro x u hR hf
    have hcal := hid (cmpS_any a.name b.name u)
    clear hR hf
    go_simp
    exact hcal.out.mono fun e w'' ⟨he, hx'⟩ => ⟨_, he, rfl, by subst hx'; exact Ext.refl _⟩
  simp only [Act.put, List.setIfInBounds_toArray, List.set_cons_succ, List.set_cons_zero]
  refine lex_pred (p := pI [cmpI b.rest a.rest, cmpS a.name b.name]) rfl ?_ ?_
  · intro x u hR hf
    clear hR hf
    go_simp
    exact ⟨ints_two _ _ (Ext.refl _), (Ext.refl _).alloc _⟩
  simp only [Act.put, List.setIfInBounds_toArray, List.set_cons_succ, List.set_cons_zero]
  refine lex_fun (v := .int .i64 (orL [cmpI b.rest a.rest, cmpS a.name b.name])) (rfl : psAt _ _ = none) ?_ ?_
  · intro x u hR hf
    have h12 := (hf.1 rfl : pI _ (x 12) u)
    have hcal := hid (or_any _ _ u h12)
    clear hR hf
    go_simp
    exact hcal.out.mono fun e w'' ⟨he, hx'⟩ => ⟨_, he, rfl, by subst hx'; exact Ext.refl _⟩
  simp only [Act.put, List.setIfInBounds_toArray, List.set_cons_succ, List.set_cons_zero]
  refine lex_nil fun x w6 hE hfacts => ?_
  clear hfacts
  generalize x 12 = x12
  clear x
  gi_wp2
  go_ret
  exact ⟨rfl, hW.trans hE⟩
end
end Go.Proofs.YtjocoadhalimjaaGreat
