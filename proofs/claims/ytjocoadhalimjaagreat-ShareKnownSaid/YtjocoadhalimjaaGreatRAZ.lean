/- The law ShareKnown. -/
import Derived.Test.YtjocoadhalimjaaGreatRAX
import Derived.Test.YtjocoadhalimjaaGreatRAY
set_option linter.unusedSimpArgs false
set_option linter.unusedVariables false
namespace Go.Proofs.YtjocoadhalimjaaGreat
open Go Go.RowKit Go.Shelf

def kV1 : Voy := { nt with gr := 58 }
def kV2 : Voy := { nt with cs := [-1] }
def kV3 : Voy := { nt with bo := 4 }
def kV4a : Voy := { nt with bo := -1 }
def kV4 : Voy := { nt with bo := -1, ne := 7 }
def kV5 : Voy := { nt with ow := [] }
def kV6 : Voy := { nt with ha := [⟨⟨#[115, 109, 105, 116, 104]⟩, 10⟩, ⟨⟨#[115, 109, 105, 116, 104]⟩, 8⟩, ⟨⟨#[98, 111, 121]⟩, 4⟩] }
def kV7 : Voy := { nt with le := [⟨⟨#[98, 117, 99, 107, 105, 101]⟩, 1001⟩, ⟨⟨#[101, 121, 101, 109, 111, 117, 116, 104]⟩, 10⟩, ⟨⟨#[115, 109, 105, 116, 104]⟩, 0⟩] }
def kV8 : Voy := { nt with ow := [⟨⟨#[66, 117, 99, 107, 105, 101]⟩, 5⟩, ⟨⟨#[99, 117, 108, 108, 101, 110]⟩, 3⟩] }
theorem kE : (([zeroV, kV1, kV2, kV3, kV4, kV5, kV6, kV7, kV8].all fun V => voyE V == 30)) = true := by kernel_rfl
def kG (g1 g2 g3 g4 g5 g6 g7 g8 : Nat) : Nat → Nat := fun i => if i = 1 then g1 else if i = 2 then g2 else if i = 3 then g3 else if i = 4 then g4 else if i = 5 then g5 else if i = 6 then g6 else if i = 7 then g7 else g8
set_option maxRecDepth 100000 in
theorem bad_start {u : World} (g1 g2 g3 g4 g5 g6 g7 g8 : Nat) : BadAt (u.alloc (.cells #[.int .i64 0, .slice none 0 0, .int .i64 0, .int .i64 0, .int .i64 0, .slice none 0 0, .slice none 0 0, .slice none 0 0, .slice none 0 0, .int .i64 1000, .slice (some ⟨g1, 0, none⟩) 2 2, .int .i64 3, .int .i64 3, .int .i64 2, .slice (some ⟨g1 + 1, 0, none⟩) 2 2, .slice (some ⟨g1 + 1 + 1, 0, none⟩) 3 3, .slice (some ⟨g1 + 1 + 1 + 1, 0, none⟩) 3 3, .slice (some ⟨g1 + 1 + 1 + 1 + 1, 0, none⟩) 1 1, .int .i64 1000, .slice (some ⟨g2, 0, none⟩) 2 2, .int .i64 3, .int .i64 3, .int .i64 2, .slice (some ⟨g2 + 1, 0, none⟩) 2 2, .slice (some ⟨g2 + 1 + 1, 0, none⟩) 3 3, .slice (some ⟨g2 + 1 + 1 + 1, 0, none⟩) 3 3, .slice (some ⟨g2 + 1 + 1 + 1 + 1, 0, none⟩) 1 1, .int .i64 1000, .slice (some ⟨g3, 0, none⟩) 2 2, .int .i64 3, .int .i64 3, .int .i64 2, .slice (some ⟨g3 + 1, 0, none⟩) 2 2, .slice (some ⟨g3 + 1 + 1, 0, none⟩) 3 3, .slice (some ⟨g3 + 1 + 1 + 1, 0, none⟩) 3 3, .slice (some ⟨g3 + 1 + 1 + 1 + 1, 0, none⟩) 1 1, .int .i64 1000, .slice (some ⟨g4, 0, none⟩) 2 2, .int .i64 3, .int .i64 3, .int .i64 2, .slice (some ⟨g4 + 1, 0, none⟩) 2 2, .slice (some ⟨g4 + 1 + 1, 0, none⟩) 3 3, .slice (some ⟨g4 + 1 + 1 + 1, 0, none⟩) 3 3, .slice (some ⟨g4 + 1 + 1 + 1 + 1, 0, none⟩) 1 1, .int .i64 1000, .slice (some ⟨g5, 0, none⟩) 2 2, .int .i64 3, .int .i64 3, .int .i64 2, .slice (some ⟨g5 + 1, 0, none⟩) 2 2, .slice (some ⟨g5 + 1 + 1, 0, none⟩) 3 3, .slice (some ⟨g5 + 1 + 1 + 1, 0, none⟩) 3 3, .slice (some ⟨g5 + 1 + 1 + 1 + 1, 0, none⟩) 1 1, .int .i64 1000, .slice (some ⟨g6, 0, none⟩) 2 2, .int .i64 3, .int .i64 3, .int .i64 2, .slice (some ⟨g6 + 1, 0, none⟩) 2 2, .slice (some ⟨g6 + 1 + 1, 0, none⟩) 3 3, .slice (some ⟨g6 + 1 + 1 + 1, 0, none⟩) 3 3, .slice (some ⟨g6 + 1 + 1 + 1 + 1, 0, none⟩) 1 1, .int .i64 1000, .slice (some ⟨g7, 0, none⟩) 2 2, .int .i64 3, .int .i64 3, .int .i64 2, .slice (some ⟨g7 + 1, 0, none⟩) 2 2, .slice (some ⟨g7 + 1 + 1, 0, none⟩) 3 3, .slice (some ⟨g7 + 1 + 1 + 1, 0, none⟩) 3 3, .slice (some ⟨g7 + 1 + 1 + 1 + 1, 0, none⟩) 1 1, .int .i64 1000, .slice (some ⟨g8, 0, none⟩) 2 2, .int .i64 3, .int .i64 3, .int .i64 2, .slice (some ⟨g8 + 1, 0, none⟩) 2 2, .slice (some ⟨g8 + 1 + 1, 0, none⟩) 3 3, .slice (some ⟨g8 + 1 + 1 + 1, 0, none⟩) 3 3, .slice (some ⟨g8 + 1 + 1 + 1 + 1, 0, none⟩) 1 1] 32)) u.heap.size bV0 (bS0 (kG g1 g2 g3 g4 g5 g6 g7 g8)) := by
  refine ⟨_, Ext.new (Ext.refl _), rfl, fun i hi j hj => ?_⟩
  rcases (by omega : i = 0 ∨ i = 1 ∨ i = 2 ∨ i = 3 ∨ i = 4 ∨ i = 5 ∨ i = 6 ∨ i = 7 ∨ i = 8) with rfl | rfl | rfl | rfl | rfl | rfl | rfl | rfl | rfl <;> rcases (by omega : j = 0 ∨ j = 1 ∨ j = 2 ∨ j = 3 ∨ j = 4 ∨ j = 5 ∨ j = 6 ∨ j = 7 ∨ j = 8) with rfl | rfl | rfl | rfl | rfl | rfl | rfl | rfl | rfl <;> rfl
theorem NightB.set {w : World} {g b : Nat} (h : NightB w g) (hb : b < g ∨ g + 4 < b) (off : Nat) (v : Value) : NightB (w.setCell ⟨b, off, none⟩ v) g :=
  ⟨by rw [set_other (by omega)]; exact h.cs, by rw [set_other (by omega)]; exact h.ow, by rw [set_other (by omega)]; exact h.le, by rw [set_other (by omega)]; exact h.ha, by rw [set_other (by omega)]; exact h.lo⟩
/-- All nights but the last ones, which are changed. -/
structure Nine (w W : World) (gb g1 g2 g3 g4 g5 g6 g7 g8 : Nat) (Vs : Nat → Voy) (Ss : Nat → VS) : Prop where
  ext : Ext w W
  n1 : NightB W g1
  n2 : NightB W g2
  n3 : NightB W g3
  n4 : NightB W g4
  n5 : NightB W g5
  n6 : NightB W g6
  n7 : NightB W g7
  n8 : NightB W g8
  bad : BadAt W gb Vs Ss
  apart : w.heap.size ≤ g1 ∧ g1 + 4 < g2 ∧ g2 + 4 < g3 ∧ g3 + 4 < g4 ∧ g4 + 4 < g5 ∧ g5 + 4 < g6 ∧ g6 + 4 < g7 ∧ g7 + 4 < g8 ∧ g8 + 4 < gb
section
variable {w W : World} {gb g1 g2 g3 g4 g5 g6 g7 g8 : Nat} {Vs : Nat → Voy} {Ss : Nat → VS}
theorem Nine.set (h : Nine w W gb g1 g2 g3 g4 g5 g6 g7 g8 Vs Ss) {i j : Nat} (hi : i < 9) (hj : j < 9) (v : Value) (V : Voy) (S : VS) (h1 : (voyA V S)[j]? = some v) (h2 : ∀ k, k < 9 → k ≠ j → (voyA V S)[k]? = (voyA (Vs i) (Ss i))[k]?) {off : Nat} (ho : off = i * 9 + j) :
    Nine w (W.setCell ⟨gb, off, none⟩ v) gb g1 g2 g3 g4 g5 g6 g7 g8 (updV Vs i V) (updV Ss i S) := by
  have ha := h.apart
  exact ⟨h.ext.set (by omega) _ _, h.n1.set (by omega) _ _, h.n2.set (by omega) _ _, h.n3.set (by omega) _ _, h.n4.set (by omega) _ _, h.n5.set (by omega) _ _, h.n6.set (by omega) _ _, h.n7.set (by omega) _ _, h.n8.set (by omega) _ _, h.bad.set hi hj v V S h1 h2 ho, ha⟩
theorem Nine.more (h : Nine w W gb g1 g2 g3 g4 g5 g6 g7 g8 Vs Ss) {W' : World} (hx : Ext W W') : Nine w W' gb g1 g2 g3 g4 g5 g6 g7 g8 Vs Ss :=
  ⟨h.ext.trans hx, h.n1.ext hx, h.n2.ext hx, h.n3.ext hx, h.n4.ext hx, h.n5.ext hx, h.n6.ext hx, h.n7.ext hx, h.n8.ext hx, h.bad.kept fun _ ho => hx.block ho, h.apart⟩
end
theorem NightB.kept {w w' : World} {g : Nat} (h : NightB w g) (hk : ∀ q o, g ≤ q → q ≤ g + 4 → w.heap[q]? = some o → w'.heap[q]? = some o) : NightB w' g :=
  ⟨hk _ _ (by omega) (by omega) h.cs, hk _ _ (by omega) (by omega) h.ow, hk _ _ (by omega) (by omega) h.le, hk _ _ (by omega) (by omega) h.ha, hk _ _ (by omega) (by omega) h.lo⟩
theorem ints_nil (w : World) : IntsAt w (.slice none 0 0) [] := ⟨none, 0, rfl, ⟨by simp, by simp⟩, fun i hi => by simp at hi⟩
theorem stakes_nil (w : World) : StakesAt w (.slice none 0 0) [] := ⟨none, 0, rfl, ⟨by simp, by simp⟩, fun i hi => by simp at hi⟩
theorem loans_nil (w : World) : LoansAt w (.slice none 0 0) [] := ⟨none, 0, rfl, ⟨by simp, by simp⟩, fun i hi => by simp at hi⟩
theorem nm_nil : nmOk [] := fun s hs => by cases hs
theorem nm6 : nmOk kV6.ha := fun s hs => by simp [kV6] at hs; rcases hs with h | h | h <;> subst h <;> decide
theorem nm7 : nmOk kV7.le := fun s hs => by simp [kV7] at hs; rcases hs with h | h | h <;> subst h <;> decide
theorem nm8 : nmOk kV8.ow := fun s hs => by simp [kV8] at hs; rcases hs with h | h <;> subst h <;> decide
theorem kE_of {V : Voy} (h : V ∈ [zeroV, kV1, kV2, kV3, kV4, kV5, kV6, kV7, kV8]) : voyE V = 30 := by
  have := List.all_eq_true.1 kE V h
  simpa using this
def voyC (V : Voy) (s : VS) (w : World) (gb k : Nat) : Prop := (w.cell? ⟨gb, k * 9, none⟩ = some (.int .i64 V.gr) ∧ w.cell? ⟨gb, k * 9 + 1, none⟩ = some (.slice s.ca V.cs.length s.cc) ∧ w.cell? ⟨gb, k * 9 + 2, none⟩ = some (.int .i64 V.bo)) ∧ (w.cell? ⟨gb, k * 9 + 3, none⟩ = some (.int .i64 V.ne) ∧ w.cell? ⟨gb, k * 9 + 4, none⟩ = some (.int .i64 V.cr) ∧ w.cell? ⟨gb, k * 9 + 5, none⟩ = some (.slice s.oa V.ow.length s.oc)) ∧ (w.cell? ⟨gb, k * 9 + 6, none⟩ = some (.slice s.la V.le.length s.lc) ∧ w.cell? ⟨gb, k * 9 + 7, none⟩ = some (.slice s.ha V.ha.length s.hc) ∧ w.cell? ⟨gb, k * 9 + 8, none⟩ = some (.slice s.xa V.lo.length s.xc))
theorem BadAt.voy {w : World} {gb : Nat} {Vs : Nat → Voy} {Ss : Nat → VS} (h : BadAt w gb Vs Ss) {k : Nat} (hk : k < 9) (V : Voy) (S : VS) (he : voyA (Vs k) (Ss k) = voyA V S) : ∀ u, Ext w u → voyC V S u gb k := fun u hu => by
  have hb := h.kept (w' := u) fun o ho => hu.block ho
  have hc := fun j (hj : j < 9) => (hb.cell hk hj (off := k * 9 + j) rfl).1
  rw [he] at hc
  exact ⟨⟨(hc 0 (by omega)).trans rfl, (hc 1 (by omega)).trans rfl, (hc 2 (by omega)).trans rfl⟩, ⟨(hc 3 (by omega)).trans rfl, (hc 4 (by omega)).trans rfl, (hc 5 (by omega)).trans rfl⟩, ⟨(hc 6 (by omega)).trans rfl, (hc 7 (by omega)).trans rfl, (hc 8 (by omega)).trans rfl⟩⟩
theorem info59K : (Tryz.prog.info? 59).map (fun i => (i.zero, i.size, i.bytes)) = some (some (.agg #[.string ByteArray.empty, .string ByteArray.empty, .int .i64 0, .int .i64 0]), 4, 48) := by kernel_rfl
def lnCK (x : Ln) : List Value := [.string x.f, .string x.g, .int .i64 x.n, .int .i64 x.r]
theorem loans_two {w : World} {v : Value} {a b : Ln} (h : Row w 59 4 v 2 (lnCK a ++ lnCK b)) : LoansAt w v [a, b] := by
  obtain ⟨_, h⟩ := h
  rcases h with ⟨rfl, h0⟩ | ⟨g, cap, cur, rfl, hg, h1, h2, h3, h4⟩
  · omega
  · have key : ∀ j u, (lnCK a ++ lnCK b)[j]? = some u → w.cell? ⟨g, j, none⟩ = some u := fun j u hj => by
      rw [← h4, List.getElem?_take] at hj
      split at hj
      · rw [Array.getElem?_toList] at hj; rw [cell_of hg]; exact hj
      · cases hj
    refine ⟨_, cap, rfl, ⟨h1, by simp⟩, fun i hi => ⟨g, 0, rfl, lt_of_block hg, ?_⟩⟩
    have hi : i < 2 := hi
    rcases (by omega : i = 0 ∨ i = 1) with rfl | rfl
    · exact ⟨key 0 _ rfl, key 1 _ rfl, key 2 _ rfl, key 3 _ rfl⟩
    · exact ⟨key 4 _ rfl, key 5 _ rfl, key 6 _ rfl, key 7 _ rfl⟩
/-- A loan more in a box: made by 6, appended by 7, stored by 9; 1 reads the box. -/
def fullJ (w1 : World) (b : Nat) (arr : Value → Array Value) (v : Value) (xs ne : List Value) : InvJ := fun L x u => Ext w1 u ∧ (w1.heap.size ≤ b ∧ b < u.heap.size) ∧ u.heap[b]? = some (.cells (arr (if L 9 then x 7 else v)) 32 (0, 0)) ∧
  (L 6 = true → ∃ g, x 6 = .slice (some ⟨g, 0, none⟩) 1 1 ∧ u.heap[g]? = some (.cells ne.toArray 59 (0, 0)) ∧ g ≠ b) ∧
  (L 7 = true → Row u 59 4 (x 7) 2 (xs ++ ne) ∧ ∀ q, (x 7).ownBlock = some q → q ≠ b) ∧ ((L 9 = true → L 7 = true ∧ L 1 = true) ∧ (L 7 = true → L 6 = true))
section
variable {w1 u u' : World} {b : Nat} {arr : Value → Array Value} {v : Value} {xs ne : List Value} {L : Nat → Bool} {x : Nat → Value}
theorem ful_ne {j k : Nat} (h : j ≠ k) : updL L k j = L j := if_neg h
theorem ful_eq {k : Nat} : updL L k k = true := if_pos rfl
theorem fulx_ne {j k : Nat} {v : Value} (h : j ≠ k) : updX x k v j = x j := if_neg h
theorem fulx_eq {k : Nat} {v : Value} : updX x k v k = v := if_pos rfl
theorem full_skip {k : Nat} (hk : (6 != k && 7 != k && 9 != k) = true) (h : fullJ w1 b arr v xs ne L x u) : fullJ w1 b arr v xs ne (updL L k) x u := by
  simp only [Bool.and_eq_true, bne_iff_ne, ne_eq] at hk
  unfold fullJ at *
  rw [ful_ne hk.1.1, ful_ne hk.1.2, ful_ne hk.2]
  refine ⟨h.1, h.2.1, h.2.2.1, h.2.2.2.1, h.2.2.2.2.1, fun e => ⟨(h.2.2.2.2.2.1 e).1, ?_⟩, h.2.2.2.2.2.2⟩
  have := (h.2.2.2.2.2.1 e).2
  unfold updL
  split
  · rfl
  · exact this
theorem full_low (h : fullJ w1 b arr v xs ne L x u) : (L 6 = false → L 7 = false) ∧ (L 7 = false → L 9 = false) ∧ (L 1 = false → L 9 = false) := by
  obtain ⟨_, _, _, _, _, a, c⟩ := h
  refine ⟨fun e => ?_, fun e => ?_, fun e => ?_⟩
  · cases hh : L 7 with | false => rfl | true => rw [c hh] at e; cases e
  · cases hh : L 9 with | false => rfl | true => rw [(a hh).1] at e; cases e
  · cases hh : L 9 with | false => rfl | true => rw [(a hh).2] at e; cases e
theorem full_make (h : fullJ w1 b arr v xs ne L x u) (hL : L 6 = false) {cs : Array Value} (hcs : cs = ne.toArray) : fullJ w1 b arr v xs ne (updL L 6) (updX x 6 (.slice (some ⟨u.heap.size, 0, none⟩) 1 1)) (u.alloc (.cells cs 59)) := by
  subst hcs
  have hlow := full_low h
  have l7 := hlow.1 hL
  have l9 := hlow.2.1 l7
  obtain ⟨h1, h2, h3, h4, h5, h6⟩ := h
  have hx : Ext u (u.alloc (.cells ne.toArray 59)) := (Ext.refl _).alloc _
  rw [l9] at h3
  unfold fullJ
  rw [ful_ne (show 9 ≠ 6 by decide), ful_ne (show 7 ≠ 6 by decide), ful_eq, fulx_eq, l7, l9]
  exact ⟨h1.trans hx, ⟨h2.1, Nat.lt_of_lt_of_le h2.2 hx.size⟩, hx.block h3, fun _ => ⟨_, rfl, Ext.new (Ext.refl _), by have := h2.2; omega⟩, fun e => (by cases e), fun e => (by cases e), fun e => (by cases e)⟩
theorem full_app {q : Nat} (h : fullJ w1 b arr (.slice (some ⟨q, 0, none⟩) 1 1) xs ne L x u) (hm : L 6 = true) (hL : L 7 = false) (hxl : xs.length = 4) (hold : ∀ j y, xs[j]? = some y → w1.cell? ⟨q, j, none⟩ = some y) (hq : q < w1.heap.size) (hl : ne.length = 4) :
    ∃ v' u', (Builtin.append_ #[30, 30] 30 #[.slice (some ⟨q, 0, none⟩) 1 1, x 6]).run Tryz.prog u = .ok v' u' ∧ fullJ w1 b arr (.slice (some ⟨q, 0, none⟩) 1 1) xs ne (updL L 7) (updX x 7 v') u' := by
  obtain ⟨i, hi, hz0, hz1, hz2⟩ := info_parts info59K
  have l9 := (full_low h).2.1 hL
  obtain ⟨h1, h2, h3, h4, h5, h6⟩ := h
  obtain ⟨g, e1, e2, e3⟩ := h4 hm
  obtain ⟨v', u', k1, k2, k3, k4⟩ := append_full (w := u) (ty := 30) Tryz.underlying30 hi hz0 hz1 hz2 (by simp [Value.cells]) (by omega) (sa := some ⟨q, 0, none⟩) (n := 1) (xs := xs) (by omega) (fun e => by cases e) (fun p hp j y hj => by
    cases hp
    rw [Addr.add_mid, Nat.zero_add, h1.cell (p := ⟨q, _, none⟩) hq]
    exact hold j y hj) ⟨g, 0, none⟩ 1 ne (by omega) (fun j y hj => by
    rw [Addr.add_mid, Nat.zero_add, cell_of e2]
    simpa using hj) (by omega) (by omega)
  rw [← e1] at k1
  refine ⟨v', u', k1, ?_⟩
  rw [l9] at h3
  unfold fullJ
  rw [ful_ne (show 9 ≠ 7 by decide), ful_ne (show 6 ≠ 7 by decide), ful_eq, fulx_eq, fulx_ne (show 6 ≠ 7 by decide), l9, hm]
  exact ⟨h1.trans k3, ⟨h2.1, Nat.lt_of_lt_of_le h2.2 k3.size⟩, k3.block h3, fun _ => ⟨g, e1, k3.block e2, e3⟩, fun _ => ⟨k2, fun q' hq' => by rw [k4] at hq'; cases hq'; have := h2.2; omega⟩, fun e => (by cases e), fun _ => rfl⟩
theorem full_store (h : fullJ w1 b arr v xs ne L x u) (h7 : L 7 = true) (h1 : L 1 = true) (harr : ∀ y z, (arr y).setIfInBounds 8 z = arr z) : fullJ w1 b arr v xs ne (updL L 9) x (u.setCell ⟨b, 8, none⟩ (x 7)) := by
  obtain ⟨k1, k2, k3, k4, k5, k6⟩ := h
  have e := set_same k3 8 (x 7)
  rw [harr] at e
  unfold fullJ
  rw [ful_ne (show 6 ≠ 9 by decide), ful_ne (show 7 ≠ 9 by decide), ful_ne (show 1 ≠ 9 by decide), ful_eq]
  refine ⟨k1.set k2.1 _ _, ⟨k2.1, by simpa using k2.2⟩, e, fun hh => ?_, fun hh => ?_, fun _ => ⟨h7, h1⟩, k6.2⟩
  · obtain ⟨g, e1, e2, e3⟩ := k4 hh
    exact ⟨g, e1, by rw [set_other e3]; exact e2, e3⟩
  · have hr := k5 hh
    exact ⟨hr.1.kept fun k o hk ho => by rw [set_other (hr.2 k hk)]; exact ho, hr.2⟩
theorem full_old (h : fullJ w1 b arr v xs ne L x u) (hL : L 9 = false) : u.heap[b]? = some (.cells (arr v) 32 (0, 0)) := by
  have := h.2.2.1
  rw [hL] at this; exact this
theorem full_row (h : fullJ w1 b arr v xs ne L x u) (h7 : L 7 = true) : ∃ a c, x 7 = .slice a 2 c := (h.2.2.2.2.1 h7).1.isSliceN
end
def kLs : List Ln := [⟨⟨#[119, 105, 99, 107]⟩, ⟨#[115, 109, 105, 116, 104]⟩, 1, 0⟩, ⟨⟨#[115, 109, 105, 116, 104]⟩, ⟨#[115, 109, 105, 116, 104]⟩, 1, 0⟩, ⟨⟨#[98, 117, 99, 107, 105, 101]⟩, ⟨#[115, 109, 105, 116, 104]⟩, 0, 0⟩, ⟨⟨#[98, 117, 99, 107, 105, 101]⟩, ⟨#[115, 109, 105, 116, 104]⟩, 1001, 0⟩, ⟨⟨#[98, 117, 99, 107, 105, 101]⟩, ⟨#[115, 109, 105, 116, 104]⟩, 1, 9⟩, ⟨⟨#[98, 117, 99, 107, 105, 101]⟩, ⟨#[115, 109, 105, 116, 104]⟩, 21, 8⟩, ⟨⟨#[115, 109, 105, 116, 104]⟩, ⟨#[98, 117, 99, 107, 105, 101]⟩, 10, 2⟩]
def ntL (z : Ln) : Voy := { nt with lo := nt.lo ++ [z] }
theorem kLE : (kLs.all fun z => voyE (ntL z) == 31) = true := by kernel_rfl
theorem kL_cells {w : World} {g : Nat} (h : w.heap[g]? = some (.cells (kLs.flatMap lnCK).toArray 59 (0, 0))) {k : Nat} (hk : k < 7) : ∃ z, voyE (ntL z) = 31 ∧ w.cell? ⟨g, k * 4, none⟩ = some (.string z.f) ∧ w.cell? ⟨g, k * 4 + 1, none⟩ = some (.string z.g) ∧ w.cell? ⟨g, k * 4 + 2, none⟩ = some (.int .i64 z.n) ∧ w.cell? ⟨g, k * 4 + 3, none⟩ = some (.int .i64 z.r) := by
  have hc := cell_of h
  have hE : ∀ z ∈ kLs, voyE (ntL z) = 31 := fun z hz => by
    have := List.all_eq_true.1 kLE z hz
    simpa using this
  have h7 : kLs.length = 7 := rfl
  refine ⟨kLs[k]'(by omega), hE _ (List.getElem_mem _), ?_⟩
  rw [hc, hc, hc, hc]
  rcases (by omega : k = 0 ∨ k = 1 ∨ k = 2 ∨ k = 3 ∨ k = 4 ∨ k = 5 ∨ k = 6) with rfl | rfl | rfl | rfl | rfl | rfl | rfl <;> exact ⟨rfl, rfl, rfl, rfl⟩
theorem kD : (divE (-1) [] == 7 && divE 10000001 [] == 7 && divE 5 [] == 32 && divE 5 [⟨⟨#[97]⟩, 0⟩] == 32 && divE 5 [⟨⟨#[97]⟩, 1⟩, ⟨⟨#[97]⟩, 1⟩] == 32 && divE 5 [⟨⟨#[]⟩, 1⟩] == 32 && debtsB [1] == false && debtsB [1000001, -1000001] == false && debtsB [0, 0, 0, 0, 0, 0, 0, 0, 0, 0, 0] == false) = true := by kernel_rfl
theorem div_bad (P : Int) (v : Value) (l : List Stk) (E : Int) (w : World) (hv : StakesAt w v l) (hn : ∀ s ∈ l, s.name.size ≤ maxLen) (he : divE P l = E) (h0 : E ≠ 0) : Cal 15 #[.int .i64 P, v] w fun e w' => e = .returned (.tuple #[.slice none 0 0, .int .i64 E]) ∧ Ext w w' := by
  subst he
  exact Divide_bad P v l w hv hn h0
theorem make_intsK (w : World) (n : Nat) (hn : n ≤ 1000) : (Instr.makeSlice 23 (.int .i64 (n : Int)) (.int .i64 (n : Int))).run Tryz.prog w = .ok (.slice (some ⟨w.heap.size, 0, none⟩) n n) (w.alloc (.cells (madeCells #[.int .i64 0] n) 3)) := by
  obtain ⟨i0, hi, hz0, hz1, hz2⟩ := info_parts info3
  have := run_make (P := Tryz.prog) w 23 3 i0 (.int .i64 0) Tryz.underlying23 hi hz0 .i64 .i64 n n (by omega) (by omega) (by rw [hz2]; omega) (by omega)
  rw [this]; simp [hz1, Value.cells]
theorem made_row (w : World) (n : Nat) (hn : n ≤ 1000) : Row (w.alloc (.cells (madeCells #[.int .i64 0] n) 3)) 3 1 (.slice (some ⟨w.heap.size, 0, none⟩) n n) n (intsF n fun _ => 0) := by
  refine ⟨by simp [intsF], .inr ⟨_, n, _, rfl, Ext.new (Ext.refl _), Nat.le_refl _, by unfold maxLen; omega, by rw [size_madeCells]; omega, ?_⟩⟩
  have e : (madeCells #[.int .i64 0] n).toList = intsF n fun _ => 0 := by
    unfold madeCells intsF
    simp [Nat.mod_one]
  rw [e, List.take_of_length_le (by simp [intsF])]
/-- What has been counted, in a block of its own; all else is kept. -/
structure MetAt (wb : World) (mb n : Nat) (M : Nat → Int) (wr : World) : Prop where
  km : KM mb wb wr
  row : Row wr 3 1 (.slice (some ⟨mb, 0, none⟩) n n) n (intsF n M)
theorem MetAt.cell {wb wr : World} {mb n : Nat} {M : Nat → Int} (h : MetAt wb mb n M wr) {c : Nat} (hc : c < n) : wr.cell? ⟨mb, c, none⟩ = some (.int .i64 (M c)) ∧ wr.frozen? ⟨mb, c, none⟩ = false := by
  obtain ⟨g, cap, cur, e, _, _, h1, h2⟩ := h.row.cells1 hc
  cases e
  exact ⟨by rw [h1]; simp [intsF, hc], h2 _⟩
theorem kMade : (madeCells #[Value.int .i64 0] 11).toList = intsV [0, 0, 0, 0, 0, 0, 0, 0, 0, 0, 0] := by
  have e : (madeCells #[Value.int .i64 0] 11).toList = intsF 11 fun _ => 0 := by
    unfold madeCells intsF
    simp [Nat.mod_one]
  rw [e]; rfl
theorem kB : (voyE (ntL ⟨⟨#[115, 109, 105, 116, 104]⟩, ⟨#[98, 117, 99, 107, 105, 101]⟩, 10, 3⟩) == 0 && wts (clm nt.le (lentV (ntL ⟨⟨#[115, 109, 105, 116, 104]⟩, ⟨#[98, 117, 99, 107, 105, 101]⟩, 10, 3⟩)) nt.le.length) == [210, 30, 0]) = true := by kernel_rfl
def alV : Voy := { nt with bo := 0, ne := 0, cr := 8, ow := [], le := [], lo := [] }
theorem kA : (voyE alV == 0 && canC (netV alV) (threeS 0 0 8) && ((List.range 3).map (giveC (netV alV) (threeS 0 0 8)) == [0, 0, 941])) = true := by kernel_rfl
theorem kAP : partP alV 0 = 0 ∧ partP alV 1 = 0 ∧ partP alV 2 = 941 := by
  have h := kA
  simp only [Bool.and_eq_true, beq_iff_eq] at h
  obtain ⟨h0, h1, h2⟩ := list3 h.2
  refine ⟨?_, ?_, ?_⟩
  · show giveTo (netV alV) (threeS 0 0 8) 0 = 0
    rw [give_c h.1.2 (by decide), h0]; rfl
  · show giveTo (netV alV) (threeS 0 0 8) 1 = 0
    rw [give_c h.1.2 (by decide), h1]; rfl
  · show giveTo (netV alV) (threeS 0 0 8) 2 = 941
    rw [give_c h.1.2 (by decide), h2]; rfl
theorem kO : (divE 353 nt.ow == 0 && canC 353 nt.ow && ((List.range 2).map (giveC 353 nt.ow) == [221, 132])) = true := by kernel_rfl
theorem kOD : intsF 2 (giveTo 353 nt.ow) = intsV [221, 132] := by
  have h := kO
  simp only [Bool.and_eq_true, beq_iff_eq] at h
  have e : intsF 2 (giveTo 353 nt.ow) = ((List.range 2).map (giveC 353 nt.ow)).map fun n : Nat => (.int .i64 n : Value) := by
    unfold intsF
    rw [List.map_map]
    apply List.map_congr_left
    intro i hi
    rw [give_c h.1.2 (show i < nt.ow.length from List.mem_range.1 hi)]; rfl
  rw [e, h.2]; rfl
def kP1 : List Py := [⟨1, 0, 5⟩, ⟨2, 1, 2⟩]
def kP2 : List Py := [⟨1, 1, 1⟩, ⟨1, 0, 1⟩]
theorem kC : (clearB wkX kP1 == false && clearB [1, -1] kP2 == false && clearB [] [] && debtsB [1, -1] && debtsB [] && nzC [] == 0) = true := by kernel_rfl
theorem pays_two {w : World} {ty : TypeId} {g : Nat} {p q : Py} (hb : w.heap[g]? = some (.cells #[.int .i64 p.a, .int .i64 p.z, .int .i64 p.s, .int .i64 q.a, .int .i64 q.z, .int .i64 q.s] ty (0, 0))) : PaysAt w (.slice (some ⟨g, 0, none⟩) 2 2) [p, q] := by
  refine ⟨_, _, rfl, ⟨Nat.le_refl _, by simp⟩, fun i hi => ⟨g, 0, rfl, lt_of_block hb, ?_⟩⟩
  rw [cell_of hb, cell_of hb, cell_of hb]
  have hi : i < 2 := hi
  rcases (by omega : i = 0 ∨ i = 1) with rfl | rfl <;> exact ⟨rfl, rfl, rfl⟩
theorem pays_nil (w : World) : PaysAt w (.slice none 0 0) [] := ⟨none, 0, rfl, ⟨by simp, by simp⟩, fun i hi => by simp at hi⟩
theorem kSm {p : Py} (h : p ∈ kP1 ++ kP2) : sm p := by
  simp [kP1, kP2] at h
  rcases h with h | h | h | h <;> subst h <;> unfold sm <;> simp
theorem kClaims (s : VS) (u : World) (h : VoyAt u (ntL ⟨⟨#[115, 109, 105, 116, 104]⟩, ⟨#[98, 117, 99, 107, 105, 101]⟩, 10, 3⟩) s) : Cal 19 #[.agg (voyA (ntL ⟨⟨#[115, 109, 105, 116, 104]⟩, ⟨#[98, 117, 99, 107, 105, 101]⟩, 10, 3⟩) s)] u fun e w' => ∃ r, e = .returned (.tuple #[r, .int .i64 0]) ∧ Ext u w' ∧ Hid (IntsAt w' r [210, 30, 0]) := by
  have hk := kB
  simp only [Bool.and_eq_true, beq_iff_eq] at hk
  exact (Claims_ok _ s u h hk.1).mono fun e w' ⟨r, h1, h2, h3⟩ => ⟨r, h1, h2, hid (IntsAt.of_row (xs := [210, 30, 0]) (by have h := h3.out; rw [show (ntL ⟨⟨#[115, 109, 105, 116, 104]⟩, ⟨#[98, 117, 99, 107, 105, 101]⟩, 10, 3⟩).le = nt.le from rfl, hk.2] at h; exact h) (by decide))⟩
theorem kParts (s : VS) (u : World) (h : VoyAt u alV s) : Cal 23 #[.agg (voyA alV s)] u fun e w' => e = .returned (.tuple #[.int .i64 0, .int .i64 0, .int .i64 941, .int .i64 0]) ∧ Ext u w' := by
  have hk := kA
  simp only [Bool.and_eq_true, beq_iff_eq] at hk
  have := Parts_ok alV s u h hk.1.1
  rw [kAP.1, kAP.2.1, kAP.2.2] at this
  exact this
theorem kDiv (v : Value) (u : World) (hv : StakesAt u v nt.ow) : Cal 15 #[.int .i64 353, v] u fun e w' => ∃ r, e = .returned (.tuple #[r, .int .i64 0]) ∧ Ext u w' ∧ Hid (IntsAt w' r [221, 132]) := by
  have hk := kO
  simp only [Bool.and_eq_true, beq_iff_eq] at hk
  exact (Divide_ok 353 v nt.ow u hv ntNm.1 hk.1.1).mono fun e w' ⟨r, h1, h2, h3⟩ => ⟨r, h1, h2, hid (IntsAt.of_row (xs := [221, 132]) (by have h := h3.out; rw [show nt.ow.length = 2 from rfl, kOD] at h; exact h) (by decide))⟩
theorem kIs1 (v pv : Value) (u : World) (h : IntsAt u v wkX) (hp : PaysAt u pv kP1) : Cal 42 #[v, pv] u fun e w' => e = .returned (.tuple #[.bool false, .int .i64 0]) ∧ Ext u w' := by
  have hk := kC
  simp only [Bool.and_eq_true, beq_iff_eq] at hk
  have := IsClear_ok v pv wkX kP1 u h hp (fun p hp => kSm (List.mem_append_left _ hp)) wkB
  rw [hk.1.1.1.1.1] at this
  exact this
theorem kIs2 (v pv : Value) (u : World) (h : IntsAt u v [1, -1]) (hp : PaysAt u pv kP2) : Cal 42 #[v, pv] u fun e w' => e = .returned (.tuple #[.bool false, .int .i64 0]) ∧ Ext u w' := by
  have hk := kC
  simp only [Bool.and_eq_true, beq_iff_eq] at hk
  have := IsClear_ok v pv [1, -1] kP2 u h hp (fun p hp => kSm (List.mem_append_right _ hp)) hk.1.1.2
  rw [hk.1.1.1.1.2] at this
  exact this
theorem kIs3 (u : World) : Cal 42 #[.slice none 0 0, .slice none 0 0] u fun e w' => e = .returned (.tuple #[.bool true, .int .i64 0]) ∧ Ext u w' := by
  have hk := kC
  simp only [Bool.and_eq_true, beq_iff_eq] at hk
  have := IsClear_ok _ _ [] [] u (ints_nil u) (pays_nil u) (fun p hp => by cases hp) hk.1.2
  rw [hk.1.1.1.2] at this
  exact this
theorem kClear (u : World) : Cal 41 #[.slice none 0 0] u fun e w' => ∃ ra rc, e = .returned (.tuple #[.slice ra 0 rc, .int .i64 0]) ∧ Ext u w' := by
  have hk := kC
  simp only [Bool.and_eq_true, beq_iff_eq] at hk
  exact (Clear_ok _ [] u (ints_nil u) hk.1.2).mono fun e w' ⟨r, ps, h1, h2, h3⟩ => by
    obtain ⟨k, _, hlen⟩ := h3.out.2.2.few
    have h0 : ps.length = 0 := by have := hk.2; omega
    obtain ⟨ra, rc, hr⟩ := h3.out.1.isSliceN
    rw [h0] at hr
    exact ⟨ra, rc, by rw [h1, hr], h2⟩
theorem kHC19 {s6 : World} {gA qc : Nat} {qa : Option Addr} (h : VoyAt s6 (ntL ⟨⟨#[115, 109, 105, 116, 104]⟩, ⟨#[98, 117, 99, 107, 105, 101]⟩, 10, 3⟩) { VSn gA with xa := qa, xc := qc }) : Cal 19 #[.agg #[.int .i64 1000, .slice (some ⟨gA, 0, none⟩) 2 2, .int .i64 3, .int .i64 3, .int .i64 2, .slice (some ⟨gA + 1, 0, none⟩) 2 2, .slice (some ⟨gA + 1 + 1, 0, none⟩) 3 3, .slice (some ⟨gA + 1 + 1 + 1, 0, none⟩) 3 3, .slice qa 2 qc]] s6 fun e w' => ∃ r, e = .returned (.tuple #[r, .int .i64 0]) ∧ Ext s6 w' ∧ Hid (IntsAt w' r [210, 30, 0]) := by
  have h2 := kClaims _ s6 h
  exact h2
theorem kHC23 {u : World} {g : Nat} (h : VoyAt u alV { VSn g with oa := none, oc := 0, la := none, lc := 0, xa := none, xc := 0 }) : Cal 23 #[.agg #[.int .i64 1000, .slice (some ⟨g, 0, none⟩) 2 2, .int .i64 0, .int .i64 0, .int .i64 8, .slice none 0 0, .slice none 0 0, .slice (some ⟨g + 1 + 1 + 1, 0, none⟩) 3 3, .slice none 0 0]] u fun e w' => e = .returned (.tuple #[.int .i64 0, .int .i64 0, .int .i64 941, .int .i64 0]) ∧ Ext u w' := by
  have h2 := kParts _ u h
  exact h2
theorem kHI1 (u : World) (ba : Option Addr) (bc : Nat) (hb : IntsAt u (.slice ba wkX.length bc) wkX) : Cal 42 #[.slice ba wkX.length bc, .slice (some ⟨u.heap.size, 0, none⟩) 2 2] (u.alloc (.cells #[.int .i64 1, .int .i64 0, .int .i64 5, .int .i64 2, .int .i64 1, .int .i64 2] 74)) fun e w' => e = .returned (.tuple #[.bool false, .int .i64 0]) ∧ Ext u w' := by
  have hp : PaysAt (u.alloc (.cells #[.int .i64 1, .int .i64 0, .int .i64 5, .int .i64 2, .int .i64 1, .int .i64 2] 74)) (.slice (some ⟨u.heap.size, 0, none⟩) 2 2) kP1 := pays_two (p := ⟨1, 0, 5⟩) (q := ⟨2, 1, 2⟩) (Ext.new (Ext.refl _))
  exact (kIs1 _ _ _ (hb.mono ((Ext.refl _).alloc _)) hp).mono fun e w' h => ⟨h.1, ((Ext.refl u).alloc _).trans h.2⟩
theorem kHI2 (u : World) : Cal 42 #[.slice (some ⟨u.heap.size, 0, none⟩) 2 2, .slice (some ⟨u.heap.size + 1, 0, none⟩) 2 2] ((u.alloc (.cells #[.int .i64 1, .int .i64 (-1)] 3)).alloc (.cells #[.int .i64 1, .int .i64 1, .int .i64 1, .int .i64 1, .int .i64 0, .int .i64 1] 74)) fun e w' => e = .returned (.tuple #[.bool false, .int .i64 0]) ∧ Ext u w' := by
  have hb := Ext.new (w := u.alloc (.cells #[.int .i64 1, .int .i64 (-1)] 3)) (o := .cells #[.int .i64 1, .int .i64 1, .int .i64 1, .int .i64 1, .int .i64 0, .int .i64 1] 74) (Ext.refl _)
  rw [World.size_alloc] at hb
  have hp : PaysAt ((u.alloc (.cells #[.int .i64 1, .int .i64 (-1)] 3)).alloc (.cells #[.int .i64 1, .int .i64 1, .int .i64 1, .int .i64 1, .int .i64 0, .int .i64 1] 74)) (.slice (some ⟨u.heap.size + 1, 0, none⟩) 2 2) kP2 := pays_two (p := ⟨1, 1, 1⟩) (q := ⟨1, 0, 1⟩) hb
  have hi : IntsAt ((u.alloc (.cells #[.int .i64 1, .int .i64 (-1)] 3)).alloc (.cells #[.int .i64 1, .int .i64 1, .int .i64 1, .int .i64 1, .int .i64 0, .int .i64 1] 74)) (.slice (some ⟨u.heap.size, 0, none⟩) 2 2) [1, -1] := ints_new (xs := [1, -1]) two_new rfl (by decide)
  exact (kIs2 _ _ _ hi hp).mono fun e w' h => ⟨h.1, (((Ext.refl u).alloc _).alloc _).trans h.2⟩
theorem kField (g : Nat) (u : World) : (Instr.field 32 (.agg #[.int .i64 1000, .slice (some ⟨g, 0, none⟩) 2 2, .int .i64 3, .int .i64 3, .int .i64 2, .slice (some ⟨g + 1, 0, none⟩) 2 2, .slice (some ⟨g + 1 + 1, 0, none⟩) 3 3, .slice (some ⟨g + 1 + 1 + 1, 0, none⟩) 3 3, .slice (some ⟨g + 1 + 1 + 1 + 1, 0, none⟩) 1 1]) 5).run Tryz.prog u = .ok (.slice (some ⟨g + 1, 0, none⟩) 2 2) u := by simp [Instr.field, go_sem, asAgg]
set_option maxRecDepth 100000 in
set_option maxHeartbeats 32000000 in
theorem ShareKnown_any (w : World) : Cal 14 #[] w fun e w' => e = .returned (.bool true) ∧ Ext w w' := by
  have HNT : Hid (∀ u : World, Cal 44 #[] u fun e w' => ∃ g, e = .returned (.agg #[.int .i64 1000, .slice (some ⟨g, 0, none⟩) 2 2, .int .i64 3, .int .i64 3, .int .i64 2, .slice (some ⟨g + 1, 0, none⟩) 2 2, .slice (some ⟨g + 1 + 1, 0, none⟩) 3 3, .slice (some ⟨g + 1 + 1 + 1, 0, none⟩) 3 3, .slice (some ⟨g + 1 + 1 + 1 + 1, 0, none⟩) 1 1]) ∧ Ext u w' ∧ Hid (u.heap.size ≤ g ∧ NightB w' g)) := hid (fun u => night2_any u)
  have HWK := hid (fun (u : World) => works_any u)
  gi_enter Tryz.func14, Tryz.ntmps14
  gi_upto_region 2 with (gi_at_call 44; ((with_reducible refine (HNT.out _).mono ?_); rintro e u ⟨g, rfl, hx, HM⟩; have HN := hid (And.intro hx HM.out); clear hx HM))
  rename_i u1 g1 H1 u2 g2 H2 u3 g3 H3 u4 g4 H4 u5 g5 H5 u6 g6 H6 u7 g7 H7 K0 a0
  have HN9 : Hid (Nine w (u.alloc (.cells #[.int .i64 0, .slice none 0 0, .int .i64 0, .int .i64 0, .int .i64 0, .slice none 0 0, .slice none 0 0, .slice none 0 0, .slice none 0 0, .int .i64 1000, .slice (some ⟨g1, 0, none⟩) 2 2, .int .i64 3, .int .i64 3, .int .i64 2, .slice (some ⟨g1 + 1, 0, none⟩) 2 2, .slice (some ⟨g1 + 1 + 1, 0, none⟩) 3 3, .slice (some ⟨g1 + 1 + 1 + 1, 0, none⟩) 3 3, .slice (some ⟨g1 + 1 + 1 + 1 + 1, 0, none⟩) 1 1, .int .i64 1000, .slice (some ⟨g2, 0, none⟩) 2 2, .int .i64 3, .int .i64 3, .int .i64 2, .slice (some ⟨g2 + 1, 0, none⟩) 2 2, .slice (some ⟨g2 + 1 + 1, 0, none⟩) 3 3, .slice (some ⟨g2 + 1 + 1 + 1, 0, none⟩) 3 3, .slice (some ⟨g2 + 1 + 1 + 1 + 1, 0, none⟩) 1 1, .int .i64 1000, .slice (some ⟨g3, 0, none⟩) 2 2, .int .i64 3, .int .i64 3, .int .i64 2, .slice (some ⟨g3 + 1, 0, none⟩) 2 2, .slice (some ⟨g3 + 1 + 1, 0, none⟩) 3 3, .slice (some ⟨g3 + 1 + 1 + 1, 0, none⟩) 3 3, .slice (some ⟨g3 + 1 + 1 + 1 + 1, 0, none⟩) 1 1, .int .i64 1000, .slice (some ⟨g4, 0, none⟩) 2 2, .int .i64 3, .int .i64 3, .int .i64 2, .slice (some ⟨g4 + 1, 0, none⟩) 2 2, .slice (some ⟨g4 + 1 + 1, 0, none⟩) 3 3, .slice (some ⟨g4 + 1 + 1 + 1, 0, none⟩) 3 3, .slice (some ⟨g4 + 1 + 1 + 1 + 1, 0, none⟩) 1 1, .int .i64 1000, .slice (some ⟨g5, 0, none⟩) 2 2, .int .i64 3, .int .i64 3, .int .i64 2, .slice (some ⟨g5 + 1, 0, none⟩) 2 2, .slice (some ⟨g5 + 1 + 1, 0, none⟩) 3 3, .slice (some ⟨g5 + 1 + 1 + 1, 0, none⟩) 3 3, .slice (some ⟨g5 + 1 + 1 + 1 + 1, 0, none⟩) 1 1, .int .i64 1000, .slice (some ⟨g6, 0, none⟩) 2 2, .int .i64 3, .int .i64 3, .int .i64 2, .slice (some ⟨g6 + 1, 0, none⟩) 2 2, .slice (some ⟨g6 + 1 + 1, 0, none⟩) 3 3, .slice (some ⟨g6 + 1 + 1 + 1, 0, none⟩) 3 3, .slice (some ⟨g6 + 1 + 1 + 1 + 1, 0, none⟩) 1 1, .int .i64 1000, .slice (some ⟨g7, 0, none⟩) 2 2, .int .i64 3, .int .i64 3, .int .i64 2, .slice (some ⟨g7 + 1, 0, none⟩) 2 2, .slice (some ⟨g7 + 1 + 1, 0, none⟩) 3 3, .slice (some ⟨g7 + 1 + 1 + 1, 0, none⟩) 3 3, .slice (some ⟨g7 + 1 + 1 + 1 + 1, 0, none⟩) 1 1, .int .i64 1000, .slice (some ⟨g, 0, none⟩) 2 2, .int .i64 3, .int .i64 3, .int .i64 2, .slice (some ⟨g + 1, 0, none⟩) 2 2, .slice (some ⟨g + 1 + 1, 0, none⟩) 3 3, .slice (some ⟨g + 1 + 1 + 1, 0, none⟩) 3 3, .slice (some ⟨g + 1 + 1 + 1 + 1, 0, none⟩) 1 1] 32)) u.heap.size g1 g2 g3 g4 g5 g6 g7 g bV0 (bS0 (kG g1 g2 g3 g4 g5 g6 g7 g))) := hid (by
    have x8 := HN.out.1.alloc (.cells #[.int .i64 0, .slice none 0 0, .int .i64 0, .int .i64 0, .int .i64 0, .slice none 0 0, .slice none 0 0, .slice none 0 0, .slice none 0 0, .int .i64 1000, .slice (some ⟨g1, 0, none⟩) 2 2, .int .i64 3, .int .i64 3, .int .i64 2, .slice (some ⟨g1 + 1, 0, none⟩) 2 2, .slice (some ⟨g1 + 1 + 1, 0, none⟩) 3 3, .slice (some ⟨g1 + 1 + 1 + 1, 0, none⟩) 3 3, .slice (some ⟨g1 + 1 + 1 + 1 + 1, 0, none⟩) 1 1, .int .i64 1000, .slice (some ⟨g2, 0, none⟩) 2 2, .int .i64 3, .int .i64 3, .int .i64 2, .slice (some ⟨g2 + 1, 0, none⟩) 2 2, .slice (some ⟨g2 + 1 + 1, 0, none⟩) 3 3, .slice (some ⟨g2 + 1 + 1 + 1, 0, none⟩) 3 3, .slice (some ⟨g2 + 1 + 1 + 1 + 1, 0, none⟩) 1 1, .int .i64 1000, .slice (some ⟨g3, 0, none⟩) 2 2, .int .i64 3, .int .i64 3, .int .i64 2, .slice (some ⟨g3 + 1, 0, none⟩) 2 2, .slice (some ⟨g3 + 1 + 1, 0, none⟩) 3 3, .slice (some ⟨g3 + 1 + 1 + 1, 0, none⟩) 3 3, .slice (some ⟨g3 + 1 + 1 + 1 + 1, 0, none⟩) 1 1, .int .i64 1000, .slice (some ⟨g4, 0, none⟩) 2 2, .int .i64 3, .int .i64 3, .int .i64 2, .slice (some ⟨g4 + 1, 0, none⟩) 2 2, .slice (some ⟨g4 + 1 + 1, 0, none⟩) 3 3, .slice (some ⟨g4 + 1 + 1 + 1, 0, none⟩) 3 3, .slice (some ⟨g4 + 1 + 1 + 1 + 1, 0, none⟩) 1 1, .int .i64 1000, .slice (some ⟨g5, 0, none⟩) 2 2, .int .i64 3, .int .i64 3, .int .i64 2, .slice (some ⟨g5 + 1, 0, none⟩) 2 2, .slice (some ⟨g5 + 1 + 1, 0, none⟩) 3 3, .slice (some ⟨g5 + 1 + 1 + 1, 0, none⟩) 3 3, .slice (some ⟨g5 + 1 + 1 + 1 + 1, 0, none⟩) 1 1, .int .i64 1000, .slice (some ⟨g6, 0, none⟩) 2 2, .int .i64 3, .int .i64 3, .int .i64 2, .slice (some ⟨g6 + 1, 0, none⟩) 2 2, .slice (some ⟨g6 + 1 + 1, 0, none⟩) 3 3, .slice (some ⟨g6 + 1 + 1 + 1, 0, none⟩) 3 3, .slice (some ⟨g6 + 1 + 1 + 1 + 1, 0, none⟩) 1 1, .int .i64 1000, .slice (some ⟨g7, 0, none⟩) 2 2, .int .i64 3, .int .i64 3, .int .i64 2, .slice (some ⟨g7 + 1, 0, none⟩) 2 2, .slice (some ⟨g7 + 1 + 1, 0, none⟩) 3 3, .slice (some ⟨g7 + 1 + 1 + 1, 0, none⟩) 3 3, .slice (some ⟨g7 + 1 + 1 + 1 + 1, 0, none⟩) 1 1, .int .i64 1000, .slice (some ⟨g, 0, none⟩) 2 2, .int .i64 3, .int .i64 3, .int .i64 2, .slice (some ⟨g + 1, 0, none⟩) 2 2, .slice (some ⟨g + 1 + 1, 0, none⟩) 3 3, .slice (some ⟨g + 1 + 1 + 1, 0, none⟩) 3 3, .slice (some ⟨g + 1 + 1 + 1 + 1, 0, none⟩) 1 1] 32)
    have x7 := H7.out.1
    have x6 := H6.out.1
    have x5 := H5.out.1
    have x4 := H4.out.1
    have x3 := H3.out.1
    have x2 := H2.out.1
    have e7 := x8
    have e6 := x7.trans e7
    have e5 := x6.trans e6
    have e4 := x5.trans e5
    have e3 := x4.trans e4
    have e2 := x3.trans e3
    have e1 := x2.trans e2
    refine ⟨H1.out.1.trans e1, H1.out.2.2.ext e1, H2.out.2.2.ext e2, H3.out.2.2.ext e3, H4.out.2.2.ext e4, H5.out.2.2.ext e5, H6.out.2.2.ext e6, H7.out.2.2.ext e7, HN.out.2.2.ext ((Ext.refl _).alloc _), bad_start g1 g2 g3 g4 g5 g6 g7 g, ?_⟩
    have l1 := H1.out.2.2.lt
    have l2 := H2.out.2.2.lt
    have l3 := H3.out.2.2.lt
    have l4 := H4.out.2.2.lt
    have l5 := H5.out.2.2.lt
    have l6 := H6.out.2.2.lt
    have l7 := H7.out.2.2.lt
    have l8 := HN.out.2.2.lt
    have s1 := H1.out.2.1
    have s2 := H2.out.2.1
    have s3 := H3.out.2.1
    have s4 := H4.out.2.1
    have s5 := H5.out.2.1
    have s6 := H6.out.2.1
    have s7 := H7.out.2.1
    have s8 := HN.out.2.1
    omega)
  clear H1 H2 H3 H4 H5 H6 H7 HN
  generalize u.alloc (.cells #[.int .i64 0, .slice none 0 0, .int .i64 0, .int .i64 0, .int .i64 0, .slice none 0 0, .slice none 0 0, .slice none 0 0, .slice none 0 0, .int .i64 1000, .slice (some ⟨g1, 0, none⟩) 2 2, .int .i64 3, .int .i64 3, .int .i64 2, .slice (some ⟨g1 + 1, 0, none⟩) 2 2, .slice (some ⟨g1 + 1 + 1, 0, none⟩) 3 3, .slice (some ⟨g1 + 1 + 1 + 1, 0, none⟩) 3 3, .slice (some ⟨g1 + 1 + 1 + 1 + 1, 0, none⟩) 1 1, .int .i64 1000, .slice (some ⟨g2, 0, none⟩) 2 2, .int .i64 3, .int .i64 3, .int .i64 2, .slice (some ⟨g2 + 1, 0, none⟩) 2 2, .slice (some ⟨g2 + 1 + 1, 0, none⟩) 3 3, .slice (some ⟨g2 + 1 + 1 + 1, 0, none⟩) 3 3, .slice (some ⟨g2 + 1 + 1 + 1 + 1, 0, none⟩) 1 1, .int .i64 1000, .slice (some ⟨g3, 0, none⟩) 2 2, .int .i64 3, .int .i64 3, .int .i64 2, .slice (some ⟨g3 + 1, 0, none⟩) 2 2, .slice (some ⟨g3 + 1 + 1, 0, none⟩) 3 3, .slice (some ⟨g3 + 1 + 1 + 1, 0, none⟩) 3 3, .slice (some ⟨g3 + 1 + 1 + 1 + 1, 0, none⟩) 1 1, .int .i64 1000, .slice (some ⟨g4, 0, none⟩) 2 2, .int .i64 3, .int .i64 3, .int .i64 2, .slice (some ⟨g4 + 1, 0, none⟩) 2 2, .slice (some ⟨g4 + 1 + 1, 0, none⟩) 3 3, .slice (some ⟨g4 + 1 + 1 + 1, 0, none⟩) 3 3, .slice (some ⟨g4 + 1 + 1 + 1 + 1, 0, none⟩) 1 1, .int .i64 1000, .slice (some ⟨g5, 0, none⟩) 2 2, .int .i64 3, .int .i64 3, .int .i64 2, .slice (some ⟨g5 + 1, 0, none⟩) 2 2, .slice (some ⟨g5 + 1 + 1, 0, none⟩) 3 3, .slice (some ⟨g5 + 1 + 1 + 1, 0, none⟩) 3 3, .slice (some ⟨g5 + 1 + 1 + 1 + 1, 0, none⟩) 1 1, .int .i64 1000, .slice (some ⟨g6, 0, none⟩) 2 2, .int .i64 3, .int .i64 3, .int .i64 2, .slice (some ⟨g6 + 1, 0, none⟩) 2 2, .slice (some ⟨g6 + 1 + 1, 0, none⟩) 3 3, .slice (some ⟨g6 + 1 + 1 + 1, 0, none⟩) 3 3, .slice (some ⟨g6 + 1 + 1 + 1 + 1, 0, none⟩) 1 1, .int .i64 1000, .slice (some ⟨g7, 0, none⟩) 2 2, .int .i64 3, .int .i64 3, .int .i64 2, .slice (some ⟨g7 + 1, 0, none⟩) 2 2, .slice (some ⟨g7 + 1 + 1, 0, none⟩) 3 3, .slice (some ⟨g7 + 1 + 1 + 1, 0, none⟩) 3 3, .slice (some ⟨g7 + 1 + 1 + 1 + 1, 0, none⟩) 1 1, .int .i64 1000, .slice (some ⟨g, 0, none⟩) 2 2, .int .i64 3, .int .i64 3, .int .i64 2, .slice (some ⟨g + 1, 0, none⟩) 2 2, .slice (some ⟨g + 1 + 1, 0, none⟩) 3 3, .slice (some ⟨g + 1 + 1 + 1, 0, none⟩) 3 3, .slice (some ⟨g + 1 + 1 + 1 + 1, 0, none⟩) 1 1] 32) = W at *
  generalize u.heap.size = gb at *
  clear u u1 u2 u3 u4 u5 u6 u7
  obtain ⟨g8, rfl⟩ : ∃ g8, g8 = g := ⟨g, rfl⟩
  have cb0 := HN9.out.bad.cell (i := 1) (j := 0) (off := 9) (by omega) (by omega) rfl
  have c0 : W.cell? ⟨gb, 9, none⟩ = some (.int .i64 1000) := cb0.1
  have f0 := cb0.2
  clear cb0
  have HNa := hid (HN9.out.set (i := 1) (j := 0) (by omega) (by omega) (.int .i64 58) (kV1) (VSn g1) rfl (fun k hk hne => by rcases (by omega : k = 0 ∨ k = 1 ∨ k = 2 ∨ k = 3 ∨ k = 4 ∨ k = 5 ∨ k = 6 ∨ k = 7 ∨ k = 8) with rfl | rfl | rfl | rfl | rfl | rfl | rfl | rfl | rfl <;> first | rfl | omega) (off := 9) rfl)
  gi_upto_region 3 with fail
  clear c0 f0
  clear HN9
  generalize hWn : W.setCell ⟨gb, 9, none⟩ (.int .i64 58) = W2 at *
  clear hWn W
  obtain ⟨W, rfl⟩ : ∃ W, W = W2 := ⟨W2, rfl⟩
  have HN9 := HNa
  clear HNa
  obtain ⟨gc, hgc⟩ : ∃ gc, gc = W.heap.size := ⟨_, rfl⟩
  have cb := HN9.out.bad.cell (i := 2) (j := 1) (off := 19) (by omega) (by omega) rfl
  have c0 : W.cell? ⟨gb, 19, none⟩ = some (.slice (some ⟨g2, 0, none⟩) 2 2) := cb.1
  have f0 := cb.2
  have HNb := hid (HN9.out.more ((Ext.refl _).alloc (.cells #[.int .i64 (-1)] 3)))
  have cb2 := HNb.out.bad.cell (i := 2) (j := 1) (off := 19) (by omega) (by omega) rfl
  have c1 : (W.alloc (.cells #[.int .i64 (-1)] 3)).cell? ⟨gb, 19, none⟩ = some (.slice (some ⟨g2, 0, none⟩) 2 2) := cb2.1
  have f1 := cb2.2
  clear cb cb2
  have HNa := hid (HNb.out.set (i := 2) (j := 1) (by omega) (by omega) (.slice (some ⟨gc, 0, none⟩) 1 1) kV2 { VSn g2 with ca := some ⟨gc, 0, none⟩, cc := 1 } rfl (fun k hk hne => by rcases (by omega : k = 0 ∨ k = 1 ∨ k = 2 ∨ k = 3 ∨ k = 4 ∨ k = 5 ∨ k = 6 ∨ k = 7 ∨ k = 8) with rfl | rfl | rfl | rfl | rfl | rfl | rfl | rfl | rfl <;> first | rfl | omega) (off := 19) rfl)
  have HGC : Hid (((W.alloc (.cells #[.int .i64 (-1)] 3)).setCell ⟨gb, 19, none⟩ (.slice (some ⟨gc, 0, none⟩) 1 1)).heap[gc]? = some (.cells #[.int .i64 (-1)] 3 (0, 0)) ∧ g8 + 4 < gc ∧ gb < gc) := hid (by
    have h := Ext.new (w := W) (o := .cells #[.int .i64 (-1)] 3) (Ext.refl _)
    have h1 := HN9.out.n8.lt
    have h2 := HN9.out.bad.lt
    rw [← hgc] at h h1 h2
    exact ⟨by rw [set_other (by omega)]; exact h, by omega, h2⟩)
  clear HNb HN9
  gi_upto_region 4 with fail
  clear c0 f0 c1 f1
  rw [← hgc]
  clear hgc
  generalize (W.alloc (.cells #[.int .i64 (-1)] 3)).setCell ⟨gb, 19, none⟩ (.slice (some ⟨gc, 0, none⟩) 1 1) = W2 at *
  clear W
  obtain ⟨W, rfl⟩ : ∃ W, W = W2 := ⟨W2, rfl⟩
  have HN9 := HNa
  clear HNa
  have cb0 := HN9.out.bad.cell (i := 3) (j := 2) (off := 29) (by omega) (by omega) rfl
  have c0 : W.cell? ⟨gb, 29, none⟩ = some (.int .i64 3) := cb0.1
  have f0 := cb0.2
  clear cb0
  have HNa0 := hid (HN9.out.set (i := 3) (j := 2) (by omega) (by omega) (.int .i64 4) (kV3) (VSn g3) rfl (fun k hk hne => by rcases (by omega : k = 0 ∨ k = 1 ∨ k = 2 ∨ k = 3 ∨ k = 4 ∨ k = 5 ∨ k = 6 ∨ k = 7 ∨ k = 8) with rfl | rfl | rfl | rfl | rfl | rfl | rfl | rfl | rfl <;> first | rfl | omega) (off := 29) rfl)
  gi_upto_region 5 with fail
  clear c0 f0
  have HGD : Hid ((W.setCell ⟨gb, 29, none⟩ (.int .i64 4)).heap[gc]? = some (.cells #[.int .i64 (-1)] 3 (0, 0)) ∧ g8 + 4 < gc ∧ gb < gc) := hid ⟨((set_other (by have := HGC.out.2; omega) _ _).trans HGC.out.1), HGC.out.2⟩
  clear HN9 HGC
  generalize W.setCell ⟨gb, 29, none⟩ (.int .i64 4) = W2 at *
  clear W
  obtain ⟨W, rfl⟩ : ∃ W, W = W2 := ⟨W2, rfl⟩
  have HN9 := HNa0
  have HGC := HGD
  clear HNa0 HGD
  have cb0 := HN9.out.bad.cell (i := 4) (j := 2) (off := 38) (by omega) (by omega) rfl
  have c0 : W.cell? ⟨gb, 38, none⟩ = some (.int .i64 3) := cb0.1
  have f0 := cb0.2
  clear cb0
  have HNa0 := hid (HN9.out.set (i := 4) (j := 2) (by omega) (by omega) (.int .i64 (-1)) (kV4a) (VSn g4) rfl (fun k hk hne => by rcases (by omega : k = 0 ∨ k = 1 ∨ k = 2 ∨ k = 3 ∨ k = 4 ∨ k = 5 ∨ k = 6 ∨ k = 7 ∨ k = 8) with rfl | rfl | rfl | rfl | rfl | rfl | rfl | rfl | rfl <;> first | rfl | omega) (off := 38) rfl)
  have cb1 := HNa0.out.bad.cell (i := 4) (j := 3) (off := 39) (by omega) (by omega) rfl
  have c1 : (W.setCell ⟨gb, 38, none⟩ (.int .i64 (-1))).cell? ⟨gb, 39, none⟩ = some (.int .i64 3) := cb1.1
  have f1 := cb1.2
  clear cb1
  have HNa1 := hid (HNa0.out.set (i := 4) (j := 3) (by omega) (by omega) (.int .i64 7) (kV4) (VSn g4) rfl (fun k hk hne => by rcases (by omega : k = 0 ∨ k = 1 ∨ k = 2 ∨ k = 3 ∨ k = 4 ∨ k = 5 ∨ k = 6 ∨ k = 7 ∨ k = 8) with rfl | rfl | rfl | rfl | rfl | rfl | rfl | rfl | rfl <;> first | rfl | omega) (off := 39) rfl)
  gi_upto_region 6 with fail
  clear c0 f0
  clear c1 f1
  have HGD : Hid (((W.setCell ⟨gb, 38, none⟩ (.int .i64 (-1))).setCell ⟨gb, 39, none⟩ (.int .i64 7)).heap[gc]? = some (.cells #[.int .i64 (-1)] 3 (0, 0)) ∧ g8 + 4 < gc ∧ gb < gc) := hid ⟨((set_other (by have := HGC.out.2; omega) _ _).trans ((set_other (by have := HGC.out.2; omega) _ _).trans HGC.out.1)), HGC.out.2⟩
  clear HNa0
  clear HN9 HGC
  generalize (W.setCell ⟨gb, 38, none⟩ (.int .i64 (-1))).setCell ⟨gb, 39, none⟩ (.int .i64 7) = W2 at *
  clear W
  obtain ⟨W, rfl⟩ : ∃ W, W = W2 := ⟨W2, rfl⟩
  have HN9 := HNa1
  have HGC := HGD
  clear HNa1 HGD
  have cb0 := HN9.out.bad.cell (i := 5) (j := 5) (off := 50) (by omega) (by omega) rfl
  have c0 : W.cell? ⟨gb, 50, none⟩ = some (.slice (some ⟨g5 + 1, 0, none⟩) 2 2) := cb0.1
  have f0 := cb0.2
  clear cb0
  have HNa0 := hid (HN9.out.set (i := 5) (j := 5) (by omega) (by omega) (.slice none 0 0) (kV5) ({ VSn g5 with oa := none, oc := 0 }) rfl (fun k hk hne => by rcases (by omega : k = 0 ∨ k = 1 ∨ k = 2 ∨ k = 3 ∨ k = 4 ∨ k = 5 ∨ k = 6 ∨ k = 7 ∨ k = 8) with rfl | rfl | rfl | rfl | rfl | rfl | rfl | rfl | rfl <;> first | rfl | omega) (off := 50) rfl)
  gi_upto_region 7 with fail
  clear c0 f0
  have HGD : Hid ((W.setCell ⟨gb, 50, none⟩ (.slice none 0 0)).heap[gc]? = some (.cells #[.int .i64 (-1)] 3 (0, 0)) ∧ g8 + 4 < gc ∧ gb < gc) := hid ⟨((set_other (by have := HGC.out.2; omega) _ _).trans HGC.out.1), HGC.out.2⟩
  clear HN9 HGC
  generalize W.setCell ⟨gb, 50, none⟩ (.slice none 0 0) = W2 at *
  clear W
  obtain ⟨W, rfl⟩ : ∃ W, W = W2 := ⟨W2, rfl⟩
  have HN9 := HNa0
  have HGC := HGD
  clear HNa0 HGD
  have b6 : W.heap[g6 + 1 + 1 + 1]? = _ := HN9.out.n6.ha
  have b7 : W.heap[g7 + 1 + 1]? = _ := HN9.out.n7.le
  have b8 : W.heap[g8 + 1]? = _ := HN9.out.n8.ow
  have hap := HN9.out.apart
  have x6 := set_same b6 2 (.string ⟨#[115, 109, 105, 116, 104]⟩)
  have b7a : (W.setCell ⟨g6 + 1 + 1 + 1, 2, none⟩ (.string ⟨#[115, 109, 105, 116, 104]⟩)).heap[g7 + 1 + 1]? = _ := (set_other (by omega) _ _).trans b7
  have x7 := set_same b7a 1 (.int .i64 1001)
  have b8a : ((W.setCell ⟨g6 + 1 + 1 + 1, 2, none⟩ (.string ⟨#[115, 109, 105, 116, 104]⟩)).setCell ⟨g7 + 1 + 1, 1, none⟩ (.int .i64 1001)).heap[g8 + 1]? = _ := (set_other (by omega) _ _).trans ((set_other (by omega) _ _).trans b8)
  have x8 := set_same b8a 0 (.string ⟨#[66, 117, 99, 107, 105, 101]⟩)
  have y7 := (set_other (g := g8 + 1) (by omega) 0 (.string ⟨#[66, 117, 99, 107, 105, 101]⟩)).trans x7
  have y6 := (set_other (g := g8 + 1) (by omega) 0 (.string ⟨#[66, 117, 99, 107, 105, 101]⟩)).trans ((set_other (g := g7 + 1 + 1) (by omega) 1 (.int .i64 1001)).trans x6)
  have hE3 : Ext w (((W.setCell ⟨g6 + 1 + 1 + 1, 2, none⟩ (.string ⟨#[115, 109, 105, 116, 104]⟩)).setCell ⟨g7 + 1 + 1, 1, none⟩ (.int .i64 1001)).setCell ⟨g8 + 1, 0, none⟩ (.string ⟨#[66, 117, 99, 107, 105, 101]⟩)) := ((HN9.out.ext.set (by omega) _ _).set (by omega) _ _).set (by omega) _ _
  have HL := hid (And.intro y6 (And.intro y7 x8))
  have HE3 := hid hE3
  have HBD : Hid (BadAt (((W.setCell ⟨g6 + 1 + 1 + 1, 2, none⟩ (.string ⟨#[115, 109, 105, 116, 104]⟩)).setCell ⟨g7 + 1 + 1, 1, none⟩ (.int .i64 1001)).setCell ⟨g8 + 1, 0, none⟩ (.string ⟨#[66, 117, 99, 107, 105, 101]⟩)) gb _ _) := hid (HN9.out.bad.kept fun o ho => by rw [set_other (by omega), set_other (by omega), set_other (by omega)]; exact ho)
  have HKP : Hid (∀ q o, q ≠ g6 + 1 + 1 + 1 → q ≠ g7 + 1 + 1 → q ≠ g8 + 1 → W.heap[q]? = some o → (((W.setCell ⟨g6 + 1 + 1 + 1, 2, none⟩ (.string ⟨#[115, 109, 105, 116, 104]⟩)).setCell ⟨g7 + 1 + 1, 1, none⟩ (.int .i64 1001)).setCell ⟨g8 + 1, 0, none⟩ (.string ⟨#[66, 117, 99, 107, 105, 101]⟩)).heap[q]? = some o) := hid (fun q o h1 h2 h3 ho => by rw [set_other h3, set_other h2, set_other h1]; exact ho)
  have cb6 : W.cell? ⟨gb, 61, none⟩ = some (.slice (some ⟨g6 + 1 + 1 + 1, 0, none⟩) 3 3) := (HN9.out.bad.cell (i := 6) (j := 7) (off := 61) (by omega) (by omega) rfl).1
  have hbd1 := HN9.out.bad.kept (w' := W.setCell ⟨g6 + 1 + 1 + 1, 2, none⟩ (.string ⟨#[115, 109, 105, 116, 104]⟩)) fun o ho => by rw [set_other (by omega)]; exact ho
  have cb7 : (W.setCell ⟨g6 + 1 + 1 + 1, 2, none⟩ (.string ⟨#[115, 109, 105, 116, 104]⟩)).cell? ⟨gb, 69, none⟩ = some (.slice (some ⟨g7 + 1 + 1, 0, none⟩) 3 3) := (hbd1.cell (i := 7) (j := 6) (off := 69) (by omega) (by omega) rfl).1
  have hbd2 := hbd1.kept (w' := (W.setCell ⟨g6 + 1 + 1 + 1, 2, none⟩ (.string ⟨#[115, 109, 105, 116, 104]⟩)).setCell ⟨g7 + 1 + 1, 1, none⟩ (.int .i64 1001)) fun o ho => by rw [set_other (by omega)]; exact ho
  have cb8 : ((W.setCell ⟨g6 + 1 + 1 + 1, 2, none⟩ (.string ⟨#[115, 109, 105, 116, 104]⟩)).setCell ⟨g7 + 1 + 1, 1, none⟩ (.int .i64 1001)).cell? ⟨gb, 77, none⟩ = some (.slice (some ⟨g8 + 1, 0, none⟩) 2 2) := (hbd2.cell (i := 8) (j := 5) (off := 77) (by omega) (by omega) rfl).1
  have d6 : W.cell? ⟨g6 + 1 + 1 + 1, 2, none⟩ = some (.string ⟨#[119, 105, 99, 107]⟩) := (cell_of b6 2).trans rfl
  have z6 := free_of b6 2
  have d7 : (W.setCell ⟨g6 + 1 + 1 + 1, 2, none⟩ (.string ⟨#[115, 109, 105, 116, 104]⟩)).cell? ⟨g7 + 1 + 1, 1, none⟩ = some (.int .i64 20) := (cell_of b7a 1).trans rfl
  have z7 := free_of b7a 1
  have d8 : ((W.setCell ⟨g6 + 1 + 1 + 1, 2, none⟩ (.string ⟨#[115, 109, 105, 116, 104]⟩)).setCell ⟨g7 + 1 + 1, 1, none⟩ (.int .i64 1001)).cell? ⟨g8 + 1, 0, none⟩ = some (.string ⟨#[98, 117, 99, 107, 105, 101]⟩) := (cell_of b8a 0).trans rfl
  have z8 := free_of b8a 0
  clear b6 b7 b8 hap x6 b7a x7 b8a x8 y7 y6 hE3 hbd1 hbd2
  gi_upto_region 10 with fail
  clear cb6 cb7 cb8 d6 z6 d7 z7 d8 z8
  generalize ((W.setCell ⟨g6 + 1 + 1 + 1, 2, none⟩ (.string ⟨#[115, 109, 105, 116, 104]⟩)).setCell ⟨g7 + 1 + 1, 1, none⟩ (.int .i64 1001)).setCell ⟨g8 + 1, 0, none⟩ (.string ⟨#[66, 117, 99, 107, 105, 101]⟩) = WB at *
  have HF : Hid (∀ i, i < 9 → ∃ V S, VoyAt WB V S ∧ voyE V = 30 ∧ ∀ u, Ext WB u → voyC V S u gb i) := hid (fun i hi => by
    have hap := HN9.out.apart
    have hgc := HGC.out.2
    rcases (by omega : i = 0 ∨ i = 1 ∨ i = 2 ∨ i = 3 ∨ i = 4 ∨ i = 5 ∨ i = 6 ∨ i = 7 ∨ i = 8) with rfl | rfl | rfl | rfl | rfl | rfl | rfl | rfl | rfl
    · exact ⟨zeroV, zeroS, ⟨ints_nil _, stakes_nil _, stakes_nil _, stakes_nil _, loans_nil _, nm_nil, nm_nil, nm_nil⟩, kE_of (by simp), HBD.out.voy (by omega) _ _ rfl⟩
    · have h := (HN9.out.n1.kept fun q o h1 h2 ho => HKP.out q o (by omega) (by omega) (by omega) ho)
      exact ⟨kV1, VSn g1, ⟨NightB.css h.cs, h.ows, h.les, h.has, h.los, ntNm.1, ntNm.2.1, ntNm.2.2⟩, kE_of (by simp), HBD.out.voy (by omega) _ _ rfl⟩
    · have h := (HN9.out.n2.kept fun q o h1 h2 ho => HKP.out q o (by omega) (by omega) (by omega) ho)
      exact ⟨kV2, { VSn g2 with ca := some ⟨gc, 0, none⟩, cc := 1 }, ⟨ints_new (xs := [-1]) (HKP.out gc _ (by omega) (by omega) (by omega) HGC.out.1) rfl (by decide), h.ows, h.les, h.has, h.los, ntNm.1, ntNm.2.1, ntNm.2.2⟩, kE_of (by simp), HBD.out.voy (by omega) _ _ rfl⟩
    · have h := (HN9.out.n3.kept fun q o h1 h2 ho => HKP.out q o (by omega) (by omega) (by omega) ho)
      exact ⟨kV3, VSn g3, ⟨NightB.css h.cs, h.ows, h.les, h.has, h.los, ntNm.1, ntNm.2.1, ntNm.2.2⟩, kE_of (by simp), HBD.out.voy (by omega) _ _ rfl⟩
    · have h := (HN9.out.n4.kept fun q o h1 h2 ho => HKP.out q o (by omega) (by omega) (by omega) ho)
      exact ⟨kV4, VSn g4, ⟨NightB.css h.cs, h.ows, h.les, h.has, h.los, ntNm.1, ntNm.2.1, ntNm.2.2⟩, kE_of (by simp), HBD.out.voy (by omega) _ _ rfl⟩
    · have h := (HN9.out.n5.kept fun q o h1 h2 ho => HKP.out q o (by omega) (by omega) (by omega) ho)
      exact ⟨kV5, { VSn g5 with oa := none, oc := 0 }, ⟨NightB.css h.cs, stakes_nil _, h.les, h.has, h.los, nm_nil, ntNm.2.1, ntNm.2.2⟩, kE_of (by simp), HBD.out.voy (by omega) _ _ rfl⟩
    · have h := HN9.out.n6
      exact ⟨kV6, VSn g6, ⟨NightB.css (HKP.out _ _ (by omega) (by omega) (by omega) h.cs), stakes_new (l := nt.ow) (HKP.out _ _ (by omega) (by omega) (by omega) h.ow) rfl (by decide), stakes_new (l := nt.le) (HKP.out _ _ (by omega) (by omega) (by omega) h.le) rfl (by decide), stakes_new (l := kV6.ha) HL.out.1 rfl (by decide), LoansAt.night (HKP.out _ _ (by omega) (by omega) (by omega) h.lo), ntNm.1, ntNm.2.1, nm6⟩, kE_of (by simp), HBD.out.voy (by omega) _ _ rfl⟩
    · have h := HN9.out.n7
      exact ⟨kV7, VSn g7, ⟨NightB.css (HKP.out _ _ (by omega) (by omega) (by omega) h.cs), stakes_new (l := nt.ow) (HKP.out _ _ (by omega) (by omega) (by omega) h.ow) rfl (by decide), stakes_new (l := kV7.le) HL.out.2.1 rfl (by decide), stakes_new (l := nt.ha) (HKP.out _ _ (by omega) (by omega) (by omega) h.ha) rfl (by decide), LoansAt.night (HKP.out _ _ (by omega) (by omega) (by omega) h.lo), ntNm.1, nm7, ntNm.2.2⟩, kE_of (by simp), HBD.out.voy (by omega) _ _ rfl⟩
    · have h := HN9.out.n8
      exact ⟨kV8, VSn g8, ⟨NightB.css (HKP.out _ _ (by omega) (by omega) (by omega) h.cs), stakes_new (l := kV8.ow) HL.out.2.2 rfl (by decide), stakes_new (l := nt.le) (HKP.out _ _ (by omega) (by omega) (by omega) h.le) rfl (by decide), stakes_new (l := nt.ha) (HKP.out _ _ (by omega) (by omega) (by omega) h.ha) rfl (by decide), LoansAt.night (HKP.out _ _ (by omega) (by omega) (by omega) h.lo), nm8, ntNm.2.1, ntNm.2.2⟩, kE_of (by simp), HBD.out.voy (by omega) _ _ rfl⟩)
  clear HBD HL HKP HN9 HGC
  have HXB := HE3
  clear HE3
  gi_wp2_with fail
  gi_loopw [2] (fun i wr => ∃ k : Nat, k ≤ 9 ∧ i = .int .i64 k ∧ Hid (Ext WB wr)) (fun i _ => 9 - (intOf i).toNat)
  case atStart => exact ⟨0, by omega, rfl, hid (Ext.refl _)⟩
  case round =>
    obtain ⟨k, hk, rfl, HXk⟩ := hrel
    by_cases hlt : k < 9
    · have hki : (k : Int) < 9 := by omega
      obtain ⟨V, S, hat, hE, hcell⟩ := HF.out k hlt
      have HC19 := hid (fun (u : World) (hu : Ext WB u) => (show Cal 19 #[.agg #[.int .i64 V.gr, .slice S.ca V.cs.length S.cc, .int .i64 V.bo, .int .i64 V.ne, .int .i64 V.cr, .slice S.oa V.ow.length S.oc, .slice S.la V.le.length S.lc, .slice S.ha V.ha.length S.hc, .slice S.xa V.lo.length S.xc]] u fun e w' => e = .returned (.tuple #[.slice none 0 0, .int .i64 30]) ∧ Ext u w' from by have h := Claims_bad V S u (hat.mono hu) (by rw [hE]; decide); rw [hE] at h; exact h))
      have HC23 := hid (fun (u : World) (hu : Ext WB u) => (show Cal 23 #[.agg #[.int .i64 V.gr, .slice S.ca V.cs.length S.cc, .int .i64 V.bo, .int .i64 V.ne, .int .i64 V.cr, .slice S.oa V.ow.length S.oc, .slice S.la V.le.length S.lc, .slice S.ha V.ha.length S.hc, .slice S.xa V.lo.length S.xc]] u fun e w' => e = .returned (.tuple #[.int .i64 0, .int .i64 0, .int .i64 0, .int .i64 30]) ∧ Ext u w' from by have h := Parts_bad V S u (hat.mono hu) (by rw [hE]; decide); rw [hE] at h; exact h))
      have HC25 := hid (fun (u : World) (hu : Ext WB u) => (show Cal 25 #[.agg #[.int .i64 V.gr, .slice S.ca V.cs.length S.cc, .int .i64 V.bo, .int .i64 V.ne, .int .i64 V.cr, .slice S.oa V.ow.length S.oc, .slice S.la V.le.length S.lc, .slice S.ha V.ha.length S.hc, .slice S.xa V.lo.length S.xc]] u fun e w' => e = .returned (.tuple #[.slice none 0 0, .int .i64 30]) ∧ Ext u w' from by have h := Shares_bad V S u (hat.mono hu) (by rw [hE]; decide); rw [hE] at h; exact h))
      have HC21 := hid (fun (u : World) (hu : Ext WB u) => (show Cal 21 #[.agg #[.int .i64 V.gr, .slice S.ca V.cs.length S.cc, .int .i64 V.bo, .int .i64 V.ne, .int .i64 V.cr, .slice S.oa V.ow.length S.oc, .slice S.la V.le.length S.lc, .slice S.ha V.ha.length S.hc, .slice S.xa V.lo.length S.xc]] u fun e w' => e = .returned (.int .i64 30) ∧ Ext u w' from by have h := Check_bad V S u (hat.mono hu) (by rw [hE]; decide); rw [hE] at h; exact h))
      have HCE := hid hcell
      clear hat hE hcell HF
      have HKK := hid hlt
      clear hlt
      obtain ⟨⟨c0, c1, c2⟩, ⟨c3, c4, c5⟩, c6, c7, c8⟩ := HCE.out wr HXk.out
      gi_wp2_with (first | (gi_at_call 19; ((with_reducible refine (HC19.out _ HXk.out).mono ?_); rintro e w1 ⟨rfl, hx1⟩; have HX1 := hid (HXk.out.trans hx1); clear hx1; obtain ⟨⟨d0, d1, d2⟩, ⟨d3, d4, d5⟩, d6, d7, d8⟩ := HCE.out w1 HX1.out)) | (gi_at_call 23; ((with_reducible refine (HC23.out _ HX1.out).mono ?_); rintro e w2 ⟨rfl, hx2⟩; have HX2 := hid (HX1.out.trans hx2); clear hx2; obtain ⟨⟨e0, e1, e2⟩, ⟨e3, e4, e5⟩, e6, e7, e8⟩ := HCE.out w2 HX2.out)) | (gi_at_call 25; ((with_reducible refine (HC25.out _ HX2.out).mono ?_); rintro e w3 ⟨rfl, hx3⟩; have HX3 := hid (HX2.out.trans hx3); clear hx3; obtain ⟨⟨f0, f1, f2⟩, ⟨f3, f4, f5⟩, f6, f7, f8⟩ := HCE.out w3 HX3.out)) | (gi_at_call 21; ((with_reducible refine (HC21.out _ HX3.out).mono ?_); rintro e w4 ⟨rfl, hx4⟩; have HX4 := hid (HX3.out.trans hx4); clear hx4)))
      go_roundw
      case rel => exact ⟨k + 1, HKK.out, by go_num, HX4⟩
      case measure => simp [intOf]; have := HKK.out; omega
    · obtain rfl : k = 9 := by omega
      have hki : ¬ (9 : Int) < 9 := by omega
      clear HF hlt hk
      gi_upto_region 18 with fail
      have HXK := hid (HXB.out.trans HXk.out)
      clear HXB HXk
      obtain ⟨w1, rfl⟩ : ∃ w1, w1 = wr := ⟨wr, rfl⟩
      have HXL : Hid (Ext w (w1.alloc (.cells #[.string ⟨#[119, 105, 99, 107]⟩, .string ⟨#[115, 109, 105, 116, 104]⟩, .int .i64 1, .int .i64 0, .string ⟨#[115, 109, 105, 116, 104]⟩, .string ⟨#[115, 109, 105, 116, 104]⟩, .int .i64 1, .int .i64 0, .string ⟨#[98, 117, 99, 107, 105, 101]⟩, .string ⟨#[115, 109, 105, 116, 104]⟩, .int .i64 0, .int .i64 0, .string ⟨#[98, 117, 99, 107, 105, 101]⟩, .string ⟨#[115, 109, 105, 116, 104]⟩, .int .i64 1001, .int .i64 0, .string ⟨#[98, 117, 99, 107, 105, 101]⟩, .string ⟨#[115, 109, 105, 116, 104]⟩, .int .i64 1, .int .i64 9, .string ⟨#[98, 117, 99, 107, 105, 101]⟩, .string ⟨#[115, 109, 105, 116, 104]⟩, .int .i64 21, .int .i64 8, .string ⟨#[115, 109, 105, 116, 104]⟩, .string ⟨#[98, 117, 99, 107, 105, 101]⟩, .int .i64 10, .int .i64 2] 59))) := hid (HXK.out.alloc _)
      have HBL : Hid ((w1.alloc (.cells #[.string ⟨#[119, 105, 99, 107]⟩, .string ⟨#[115, 109, 105, 116, 104]⟩, .int .i64 1, .int .i64 0, .string ⟨#[115, 109, 105, 116, 104]⟩, .string ⟨#[115, 109, 105, 116, 104]⟩, .int .i64 1, .int .i64 0, .string ⟨#[98, 117, 99, 107, 105, 101]⟩, .string ⟨#[115, 109, 105, 116, 104]⟩, .int .i64 0, .int .i64 0, .string ⟨#[98, 117, 99, 107, 105, 101]⟩, .string ⟨#[115, 109, 105, 116, 104]⟩, .int .i64 1001, .int .i64 0, .string ⟨#[98, 117, 99, 107, 105, 101]⟩, .string ⟨#[115, 109, 105, 116, 104]⟩, .int .i64 1, .int .i64 9, .string ⟨#[98, 117, 99, 107, 105, 101]⟩, .string ⟨#[115, 109, 105, 116, 104]⟩, .int .i64 21, .int .i64 8, .string ⟨#[115, 109, 105, 116, 104]⟩, .string ⟨#[98, 117, 99, 107, 105, 101]⟩, .int .i64 10, .int .i64 2] 59)).heap[w1.heap.size]? = some (.cells (kLs.flatMap lnCK).toArray 59 (0, 0))) := hid (Ext.new (Ext.refl _))
      gi_upto_region 19 with fail
      generalize w1.alloc (.cells #[.string ⟨#[119, 105, 99, 107]⟩, .string ⟨#[115, 109, 105, 116, 104]⟩, .int .i64 1, .int .i64 0, .string ⟨#[115, 109, 105, 116, 104]⟩, .string ⟨#[115, 109, 105, 116, 104]⟩, .int .i64 1, .int .i64 0, .string ⟨#[98, 117, 99, 107, 105, 101]⟩, .string ⟨#[115, 109, 105, 116, 104]⟩, .int .i64 0, .int .i64 0, .string ⟨#[98, 117, 99, 107, 105, 101]⟩, .string ⟨#[115, 109, 105, 116, 104]⟩, .int .i64 1001, .int .i64 0, .string ⟨#[98, 117, 99, 107, 105, 101]⟩, .string ⟨#[115, 109, 105, 116, 104]⟩, .int .i64 1, .int .i64 9, .string ⟨#[98, 117, 99, 107, 105, 101]⟩, .string ⟨#[115, 109, 105, 116, 104]⟩, .int .i64 21, .int .i64 8, .string ⟨#[115, 109, 105, 116, 104]⟩, .string ⟨#[98, 117, 99, 107, 105, 101]⟩, .int .i64 10, .int .i64 2] 59) = WL at *
      generalize w1.heap.size = gl at *
      clear HXK
      gi_wp2_with fail
      gi_loopw [12] (fun i wr => ∃ k : Nat, k ≤ 7 ∧ i = .int .i64 k ∧ Hid (Ext WL wr)) (fun i _ => 7 - (intOf i).toNat)
      case atStart => exact ⟨0, by omega, rfl, hid (Ext.refl _)⟩
      case round =>
        obtain ⟨k, hk, rfl, HXk⟩ := hrel
        by_cases hlt : k < 7
        · have hki : (k : Int) < 7 := by omega
          obtain ⟨z, hzE, hz0, hz1, hz2, hz3⟩ := kL_cells HBL.out hlt
          have hgl := lt_of_block HBL.out
          have HZ0 := hid (fun (u : World) (hu : Ext WL u) => (show u.cell? ⟨gl, k * 4, none⟩ = some (.string z.f) ∧ u.cell? ⟨gl, k * 4 + 1, none⟩ = some (.string z.g) ∧ u.cell? ⟨gl, k * 4 + 2, none⟩ = some (.int .i64 z.n) ∧ u.cell? ⟨gl, k * 4 + 3, none⟩ = some (.int .i64 z.r) from by
            rw [hu.cell (p := ⟨gl, _, none⟩) hgl, hu.cell (p := ⟨gl, _, none⟩) hgl, hu.cell (p := ⟨gl, _, none⟩) hgl, hu.cell (p := ⟨gl, _, none⟩) hgl]
            exact ⟨hz0, hz1, hz2, hz3⟩))
          have HZE := hid hzE
          have HKK := hid hlt
          clear hzE hz0 hz1 hz2 hz3 hgl hlt hk
          gi_wp2_with (first | (gi_at_call 44; ((with_reducible refine (HNT.out _).mono ?_); rintro e wn ⟨g, rfl, hxn, HM⟩; have HXn := hid (HXk.out.trans hxn); clear hxn)) | (refine wpIn_store_fresh (fun _ => trivial) 32 (.tmp 13) (.tmp 156) rfl (W := wn) (c' := #[.int .i64 1000, .slice (some ⟨g, 0, none⟩) 2 2, .int .i64 3, .int .i64 3, .int .i64 2, .slice (some ⟨g + 1, 0, none⟩) 2 2, .slice (some ⟨g + 1 + 1, 0, none⟩) 3 3, .slice (some ⟨g + 1 + 1 + 1, 0, none⟩) 3 3, .slice (some ⟨g + 1 + 1 + 1 + 1, 0, none⟩) 1 1]) rfl rfl rfl size32 rfl (by simp [Value.oneCell']) ?_; refine Hid.out ?_))
          have HXA : Hid (Ext wn (wn.alloc (.cells #[.int .i64 1000, .slice (some ⟨g, 0, none⟩) 2 2, .int .i64 3, .int .i64 3, .int .i64 2, .slice (some ⟨g + 1, 0, none⟩) 2 2, .slice (some ⟨g + 1 + 1, 0, none⟩) 3 3, .slice (some ⟨g + 1 + 1 + 1, 0, none⟩) 3 3, .slice (some ⟨g + 1 + 1 + 1 + 1, 0, none⟩) 1 1] 32))) := hid ((Ext.refl _).alloc _)
          have HBB : Hid ((wn.alloc (.cells #[.int .i64 1000, .slice (some ⟨g, 0, none⟩) 2 2, .int .i64 3, .int .i64 3, .int .i64 2, .slice (some ⟨g + 1, 0, none⟩) 2 2, .slice (some ⟨g + 1 + 1, 0, none⟩) 3 3, .slice (some ⟨g + 1 + 1 + 1, 0, none⟩) 3 3, .slice (some ⟨g + 1 + 1 + 1 + 1, 0, none⟩) 1 1] 32)).heap[wn.heap.size]? = some (.cells #[.int .i64 1000, .slice (some ⟨g, 0, none⟩) 2 2, .int .i64 3, .int .i64 3, .int .i64 2, .slice (some ⟨g + 1, 0, none⟩) 2 2, .slice (some ⟨g + 1 + 1, 0, none⟩) 3 3, .slice (some ⟨g + 1 + 1 + 1, 0, none⟩) 3 3, .slice (some ⟨g + 1 + 1 + 1 + 1, 0, none⟩) 1 1] 32 (0, 0))) := hid (Ext.new (Ext.refl _))
          have HSZ : Hid (wn.heap.size < (wn.alloc (.cells #[.int .i64 1000, .slice (some ⟨g, 0, none⟩) 2 2, .int .i64 3, .int .i64 3, .int .i64 2, .slice (some ⟨g + 1, 0, none⟩) 2 2, .slice (some ⟨g + 1 + 1, 0, none⟩) 3 3, .slice (some ⟨g + 1 + 1 + 1, 0, none⟩) 3 3, .slice (some ⟨g + 1 + 1 + 1 + 1, 0, none⟩) 1 1] 32)).heap.size) := hid (by simp)
          refine hid ?_
          generalize wn.alloc (.cells #[.int .i64 1000, .slice (some ⟨g, 0, none⟩) 2 2, .int .i64 3, .int .i64 3, .int .i64 2, .slice (some ⟨g + 1, 0, none⟩) 2 2, .slice (some ⟨g + 1 + 1, 0, none⟩) 3 3, .slice (some ⟨g + 1 + 1 + 1, 0, none⟩) 3 3, .slice (some ⟨g + 1 + 1 + 1 + 1, 0, none⟩) 1 1] 32) = wb at *
          obtain ⟨b13, hb13⟩ : ∃ b13, b13 = wn.heap.size := ⟨_, rfl⟩
          rw [← hb13] at HBB HSZ ⊢
          have HB13 : Hid (wn.heap.size ≤ b13) := hid (by omega)
          clear hb13
          have HOLD : Hid ((∀ j y, ([.string ⟨#[101, 121, 101, 109, 111, 117, 116, 104]⟩, .string ⟨#[115, 109, 105, 116, 104]⟩, .int .i64 10, .int .i64 3] : List Value)[j]? = some y → wn.cell? ⟨g + 1 + 1 + 1 + 1, j, none⟩ = some y) ∧ g + 1 + 1 + 1 + 1 < wn.heap.size) := hid ⟨fun j y hj => by rw [cell_of HM.out.2.lo]; simpa using hj, lt_of_block HM.out.2.lo⟩
          have HZ := hid (fun (u : World) (hu : Ext wn u) => HZ0.out u (HXn.out.trans hu))
          have HST : fullJ wn b13 (fun y => #[.int .i64 1000, .slice (some ⟨g, 0, none⟩) 2 2, .int .i64 3, .int .i64 3, .int .i64 2, .slice (some ⟨g + 1, 0, none⟩) 2 2, .slice (some ⟨g + 1 + 1, 0, none⟩) 3 3, .slice (some ⟨g + 1 + 1 + 1, 0, none⟩) 3 3, y]) (.slice (some ⟨g + 1 + 1 + 1 + 1, 0, none⟩) 1 1) [.string ⟨#[101, 121, 101, 109, 111, 117, 116, 104]⟩, .string ⟨#[115, 109, 105, 116, 104]⟩, .int .i64 10, .int .i64 3] [.string z.f, .string z.g, .int .i64 z.n, .int .i64 z.r] (fun _ => false) (fun _ => undef) { wb with drawn := wb.drawn + 1 } := ⟨HXA.out.trans (Ext.drawn _), ⟨HB13.out, HSZ.out⟩, HBB.out, fun h => (by cases h), fun h => (by cases h), fun h => (by cases h), fun h => (by cases h)⟩
          gi_upto_region 23 with fail
          refine jj_own 10 [6, 7] _ (by kernel_rfl) (by kernel_rfl) HST ?_
          simp only [List.take_succ_cons, List.take_zero, List.drop_succ_cons, List.drop_zero]
          clear HST
          apply jj_fun (by decide)
          · intro L x u hL hd hJ
            have HJ := hid (full_skip (k := 0) (by rfl) hJ)
            clear hJ hd hL
            go_simp
            exact ⟨rfl, HJ.out⟩
          simp only [Act.put, List.setIfInBounds_toArray, List.set_cons_succ, List.set_cons_zero]
          apply jj_fun (by decide)
          · intro L x u hL hd hJ
            have c0 : u.cell? ⟨b13, 8, none⟩ = some (.slice (some ⟨g + 1 + 1 + 1 + 1, 0, none⟩) 1 1) := (cell_of (full_old hJ ((full_low hJ).2.2 hL)) 8).trans rfl
            have HJ := hid (full_skip (k := 1) (by rfl) hJ)
            clear hJ hd hL
            go_simp
            exact ⟨rfl, HJ.out⟩
          simp only [Act.put, List.setIfInBounds_toArray, List.set_cons_succ, List.set_cons_zero]
          apply jj_fun (by decide)
          · intro L x u hL hd hJ
            have HJ := hid (full_skip (k := 2) (by rfl) hJ)
            clear hJ hd hL
            go_simp
            exact ⟨rfl, HJ.out⟩
          simp only [Act.put, List.setIfInBounds_toArray, List.set_cons_succ, List.set_cons_zero]
          apply jj_fun (by decide)
          · intro L x u hL hd hJ
            have HJ := hid (full_skip (k := 3) (by rfl) hJ)
            clear hJ hd hL
            go_simp
            exact ⟨rfl, HJ.out⟩
          simp only [Act.put, List.setIfInBounds_toArray, List.set_cons_succ, List.set_cons_zero]
          apply jj_fun (by decide)
          · intro L x u hL hd hJ
            have HJ := hid (full_skip (k := 4) (by rfl) hJ)
            clear hJ hd hL
            go_simp
            exact ⟨rfl, HJ.out⟩
          simp only [Act.put, List.setIfInBounds_toArray, List.set_cons_succ, List.set_cons_zero]
          apply jj_fun (by decide)
          · intro L x u hL hd hJ
            obtain ⟨c0, c1, c2, c3⟩ := HZ.out u hJ.1
            have HJ := hid (full_skip (k := 5) (by rfl) hJ)
            clear hJ hd hL
            go_simp
            exact ⟨rfl, HJ.out⟩
          simp only [Act.put, List.setIfInBounds_toArray, List.set_cons_succ, List.set_cons_zero]
          refine jj_inv (by decide) ?_ ?_
          · intro L x u hL hd hJ
            have HJ := hid (full_make hJ hL (cs := #[.string z.f, .string z.g, .int .i64 z.n, .int .i64 z.r]) rfl)
            clear hJ hd hL
            go_simp
            exact HJ.out
          simp only [Act.put, List.setIfInBounds_toArray, List.set_cons_succ, List.set_cons_zero]
          refine jj_inv (by decide) ?_ ?_
          · intro L x u hL hd hJ
            obtain ⟨v', u', h1, h2⟩ := full_app hJ (hd.2.1 rfl) hL rfl HOLD.out.1 HOLD.out.2 rfl
            rw [if_pos (show Region.wanted _ _ = true from rfl)]
            exact gives_append (.tmp 158) (.tmp 163) 30 rfl rfl rfl h1 ⟨h2, trivial⟩
          simp only [Act.put, List.setIfInBounds_toArray, List.set_cons_succ, List.set_cons_zero]
          apply jj_fun (by decide)
          · intro L x u hL hd hJ
            have HJ := hid (full_skip (k := 8) (by rfl) hJ)
            clear hJ hd hL
            go_simp
            exact ⟨rfl, HJ.out⟩
          simp only [Act.put, List.setIfInBounds_toArray, List.set_cons_succ, List.set_cons_zero]
          refine jj_fun (v := undef) (by decide) ?_ ?_
          · intro L x u hL hd hJ
            have h7 : L 7 = true := hd.2.1 rfl
            have h1 : L 1 = true := hd.2.2.2.2.1 rfl
            have HJ := hid (full_store hJ h7 h1 (fun y z => rfl))
            have hold := full_old hJ hL
            have c0 : u.cell? ⟨b13, 8, none⟩ = some (.slice (some ⟨g + 1 + 1 + 1 + 1, 0, none⟩) 1 1) := (cell_of hold 8).trans rfl
            have fb := free_of hold
            obtain ⟨qa, qc, hq⟩ := full_row hJ h7
            rw [hq] at HJ
            clear hJ hd hL h7 h1 hold
            simp only [hq]
            go_simp
            exact HJ.out
          simp only [Act.put, List.setIfInBounds_toArray, List.set_cons_succ, List.set_cons_zero]
          refine jj_nil fun L x u hall hJ => ?_
          obtain ⟨j1, j2, j3, j4, j5, j6⟩ := hJ
          have hrow := (j5 (hall 7 (by omega))).1
          rw [hall 9 (by omega)] at j3
          generalize x 6 = y6 at *
          generalize x 7 = y7 at *
          obtain ⟨qa, qc, rfl⟩ := hrow.isSliceN
          have HB3 : Hid (u.heap[b13]? = some (.cells #[.int .i64 1000, .slice (some ⟨g, 0, none⟩) 2 2, .int .i64 3, .int .i64 3, .int .i64 2, .slice (some ⟨g + 1, 0, none⟩) 2 2, .slice (some ⟨g + 1 + 1, 0, none⟩) 3 3, .slice (some ⟨g + 1 + 1 + 1, 0, none⟩) 3 3, .slice qa 2 qc] 32 (0, 0))) := hid j3
          have HXU := hid j1
          have hat : VoyAt u (ntL z) { VSn g with xa := qa, xc := qc } := by
            have hn := HM.out.2.ext j1
            exact ⟨NightB.css hn.cs, hn.ows, hn.les, hn.has, loans_two (a := ⟨⟨#[101, 121, 101, 109, 111, 117, 116, 104]⟩, ⟨#[115, 109, 105, 116, 104]⟩, 10, 3⟩) (b := z) hrow, ntNm.1, ntNm.2.1, ntNm.2.2⟩
          have HC25 := hid (fun (u' : World) (hu : Ext u u') => (show Cal 25 #[.agg #[.int .i64 1000, .slice (some ⟨g, 0, none⟩) 2 2, .int .i64 3, .int .i64 3, .int .i64 2, .slice (some ⟨g + 1, 0, none⟩) 2 2, .slice (some ⟨g + 1 + 1, 0, none⟩) 3 3, .slice (some ⟨g + 1 + 1 + 1, 0, none⟩) 3 3, .slice qa 2 qc]] u' fun e w' => e = .returned (.tuple #[.slice none 0 0, .int .i64 31]) ∧ Ext u' w' from by have h := Shares_bad (ntL z) _ u' (hat.mono hu) (by rw [HZE.out]; decide); rw [HZE.out] at h; exact h))
          have HC21 := hid (fun (u' : World) (hu : Ext u u') => (show Cal 21 #[.agg #[.int .i64 1000, .slice (some ⟨g, 0, none⟩) 2 2, .int .i64 3, .int .i64 3, .int .i64 2, .slice (some ⟨g + 1, 0, none⟩) 2 2, .slice (some ⟨g + 1 + 1, 0, none⟩) 3 3, .slice (some ⟨g + 1 + 1 + 1, 0, none⟩) 3 3, .slice qa 2 qc]] u' fun e w' => e = .returned (.int .i64 31) ∧ Ext u' w' from by have h := Check_bad (ntL z) _ u' (hat.mono hu) (by rw [HZE.out]; decide); rw [HZE.out] at h; exact h))
          clear j1 j2 j3 j4 j5 j6 hall hrow hat
          have c0 := cell_of HB3.out
          gi_wp2_with (first | (gi_at_call 25; ((with_reducible refine (HC25.out _ (Ext.refl _)).mono ?_); rintro e u1 ⟨rfl, hx1⟩; have HX1 := hid hx1; have c1 := cell_of (hx1.block HB3.out); clear hx1)) | (gi_at_call 21; ((with_reducible refine (HC21.out _ HX1.out).mono ?_); rintro e u2 ⟨rfl, hx2⟩; have HX2 := hid (HX1.out.trans hx2); clear hx2)))
          go_roundw
          case rel => exact ⟨k + 1, HKK.out, by go_num, hid (HXn.out.trans (HXU.out.trans HX2.out))⟩
          case measure => simp [intOf]; have := HKK.out; omega
        · obtain rfl : k = 7 := by omega
          have hki : ¬ (7 : Int) < 7 := by omega
          gi_upto_region 27 with fail
          have HXK := hid (HXL.out.trans HXk.out)
          clear HXL HXk HBL hlt hk
          have hkd := kD
          simp only [Bool.and_eq_true, beq_iff_eq] at hkd
          obtain ⟨⟨⟨⟨⟨⟨⟨⟨HKD0, HKD1⟩, HKD2⟩, HKD3⟩, HKD4⟩, HKD5⟩, HKD6⟩, HKD7⟩, HKD8⟩ := hkd
          have HD0 : Hid (∀ u : World, Cal 15 #[.int .i64 (-1), .slice none 0 0] u fun e w' => e = .returned (.tuple #[.slice none 0 0, .int .i64 7]) ∧ Ext u w') := hid (fun u => div_bad (-1) _ [] 7 u (stakes_nil u) (fun s hs => by cases hs) HKD0 (by decide))
          have HD1 : Hid (∀ u : World, Cal 15 #[.int .i64 10000001, .slice none 0 0] u fun e w' => e = .returned (.tuple #[.slice none 0 0, .int .i64 7]) ∧ Ext u w') := hid (fun u => div_bad 10000001 _ [] 7 u (stakes_nil u) (fun s hs => by cases hs) HKD1 (by decide))
          have HD2 : Hid (∀ u : World, Cal 15 #[.int .i64 5, .slice none 0 0] u fun e w' => e = .returned (.tuple #[.slice none 0 0, .int .i64 32]) ∧ Ext u w') := hid (fun u => div_bad 5 _ [] 32 u (stakes_nil u) (fun s hs => by cases hs) HKD2 (by decide))
          have HD3 : Hid (∀ u : World, Cal 15 #[.int .i64 5, .slice (some ⟨u.heap.size, 0, none⟩) 1 1] (u.alloc (.cells #[.string ⟨#[97]⟩, .int .i64 0] 49)) fun e w' => e = .returned (.tuple #[.slice none 0 0, .int .i64 32]) ∧ Ext u w') := hid (fun u => (div_bad 5 _ [⟨⟨#[97]⟩, 0⟩] 32 (u.alloc (.cells #[.string ⟨#[97]⟩, .int .i64 0] 49)) (stakes_new (l := [⟨⟨#[97]⟩, 0⟩]) (Ext.new (Ext.refl _)) rfl (by decide)) (fun s hs => by simp at hs; first | (subst hs; decide) | (rcases hs with h | h <;> subst h <;> decide)) HKD3 (by decide)).mono fun e w' h => ⟨h.1, ((Ext.refl u).alloc _).trans h.2⟩)
          have HD4 : Hid (∀ u : World, Cal 15 #[.int .i64 5, .slice (some ⟨u.heap.size, 0, none⟩) 2 2] (u.alloc (.cells #[.string ⟨#[97]⟩, .int .i64 1, .string ⟨#[97]⟩, .int .i64 1] 49)) fun e w' => e = .returned (.tuple #[.slice none 0 0, .int .i64 32]) ∧ Ext u w') := hid (fun u => (div_bad 5 _ [⟨⟨#[97]⟩, 1⟩, ⟨⟨#[97]⟩, 1⟩] 32 (u.alloc (.cells #[.string ⟨#[97]⟩, .int .i64 1, .string ⟨#[97]⟩, .int .i64 1] 49)) (stakes_new (l := [⟨⟨#[97]⟩, 1⟩, ⟨⟨#[97]⟩, 1⟩]) (Ext.new (Ext.refl _)) rfl (by decide)) (fun s hs => by simp at hs; first | (subst hs; decide) | (rcases hs with h | h <;> subst h <;> decide)) HKD4 (by decide)).mono fun e w' h => ⟨h.1, ((Ext.refl u).alloc _).trans h.2⟩)
          have HD5 : Hid (∀ u : World, Cal 15 #[.int .i64 5, .slice (some ⟨u.heap.size, 0, none⟩) 1 1] (u.alloc (.cells #[.string ⟨#[]⟩, .int .i64 1] 49)) fun e w' => e = .returned (.tuple #[.slice none 0 0, .int .i64 32]) ∧ Ext u w') := hid (fun u => (div_bad 5 _ [⟨⟨#[]⟩, 1⟩] 32 (u.alloc (.cells #[.string ⟨#[]⟩, .int .i64 1] 49)) (stakes_new (l := [⟨⟨#[]⟩, 1⟩]) (Ext.new (Ext.refl _)) rfl (by decide)) (fun s hs => by simp at hs; first | (subst hs; decide) | (rcases hs with h | h <;> subst h <;> decide)) HKD5 (by decide)).mono fun e w' h => ⟨h.1, ((Ext.refl u).alloc _).trans h.2⟩)
          have HD6 : Hid (∀ u : World, Cal 37 #[.slice (some ⟨u.heap.size, 0, none⟩) 1 1] (u.alloc (.cells #[.int .i64 1] 3)) fun e w' => e = .returned (.tuple #[.slice none 0 0, .int .i64 33]) ∧ Ext u w') := hid (fun u => (Groups_bad _ [1] (u.alloc (.cells #[.int .i64 1] 3)) (ints_new (xs := [1]) (Ext.new (Ext.refl _)) rfl (by decide)) HKD6).mono fun e w' h => ⟨h.1, ((Ext.refl u).alloc _).trans h.2⟩)
          have HD7 : Hid (∀ u : World, Cal 41 #[.slice (some ⟨u.heap.size, 0, none⟩) 2 2] (u.alloc (.cells #[.int .i64 1000001, .int .i64 (-1000001)] 3)) fun e w' => e = .returned (.tuple #[.slice none 0 0, .int .i64 33]) ∧ Ext u w') := hid (fun u => (Clear_bad _ [1000001, -1000001] (u.alloc (.cells #[.int .i64 1000001, .int .i64 (-1000001)] 3)) (ints_new (xs := [1000001, -1000001]) (Ext.new (Ext.refl _)) rfl (by decide)) HKD7).mono fun e w' h => ⟨h.1, ((Ext.refl u).alloc _).trans h.2⟩)
          clear HKD0 HKD1 HKD2 HKD3 HKD4 HKD5 HKD6 HKD7
          have HX := HXK
          clear HXK
          gi_upto_region 35 with (first | (gi_at_call 15; first | ((with_reducible refine (HD0.out _).mono ?_); rintro e u ⟨rfl, hx⟩; have HX := hid (HX.out.trans hx); clear hx) | ((with_reducible refine (HD1.out _).mono ?_); rintro e u ⟨rfl, hx⟩; have HX := hid (HX.out.trans hx); clear hx) | ((with_reducible refine (HD2.out _).mono ?_); rintro e u ⟨rfl, hx⟩; have HX := hid (HX.out.trans hx); clear hx) | ((with_reducible refine (HD3.out _).mono ?_); rintro e u ⟨rfl, hx⟩; have HX := hid (HX.out.trans hx); clear hx) | ((with_reducible refine (HD4.out _).mono ?_); rintro e u ⟨rfl, hx⟩; have HX := hid (HX.out.trans hx); clear hx) | ((with_reducible refine (HD5.out _).mono ?_); rintro e u ⟨rfl, hx⟩; have HX := hid (HX.out.trans hx); clear hx)) | (gi_at_call 37; ((with_reducible refine (HD6.out _).mono ?_); rintro e u ⟨rfl, hx⟩; have HX := hid (HX.out.trans hx); clear hx)) | (gi_at_call 41; ((with_reducible refine (HD7.out _).mono ?_); rintro e u ⟨rfl, hx⟩; have HX := hid (HX.out.trans hx); clear hx)))
          have hms : ∀ u : World, (Instr.makeSlice 23 (.int .i64 11) (.int .i64 11)).run Tryz.prog u = .ok (.slice (some ⟨u.heap.size, 0, none⟩) 11 11) (u.alloc (.cells (madeCells #[.int .i64 0] 11) 3)) := fun u => make_intsK u 11 (by omega)
          have HD8 : Hid (∀ u : World, Cal 42 #[.slice (some ⟨u.heap.size, 0, none⟩) 11 11, .slice none 0 0] (u.alloc (.cells (madeCells #[.int .i64 0] 11) 3)) fun e w' => e = .returned (.tuple #[.bool false, .int .i64 33]) ∧ Ext u w') := hid (fun u => (IsClear_bad _ (.slice none 0 0) [0, 0, 0, 0, 0, 0, 0, 0, 0, 0, 0] (u.alloc (.cells (madeCells #[.int .i64 0] 11) 3)) (ints_new (xs := [0, 0, 0, 0, 0, 0, 0, 0, 0, 0, 0]) (Ext.new (Ext.refl _)) kMade (by decide)) HKD8).mono fun e w' h => ⟨h.1, ((Ext.refl u).alloc _).trans h.2⟩)
          clear HKD8 HD0 HD1 HD2 HD3 HD4 HD5 HD6 HD7
          gi_upto_region 36 with (gi_at_call 42; ((with_reducible refine (HD8.out _).mono ?_); rintro e u ⟨rfl, hx⟩; have HX := hid (HX.out.trans hx); clear hx))
          clear hms HD8
          gi_upto_region 38 with fail
          gi_wp2_with (first | (gi_at_call 44; ((with_reducible refine (HNT.out _).mono ?_); rintro e u ⟨g, rfl, hx, HM⟩; have HN := hid (And.intro hx HM.out); clear hx HM)) | (refine wpIn_store_at 32 (.tmp 34) (.tmp 258) rfl (fun _ => trivial) (g := u.heap.size) (off := 0) rfl rfl two_new size32 (by simp) (by simp [Value.oneCell']) ?_; refine Hid.out ?_))
          rename_i uA gA HA
          have HXu : Hid (Ext w u) := hid (HX.out.trans (HA.out.1.trans HN.out.1))
          have HNA := hid (HA.out.2.2.ext HN.out.1)
          have HNB := hid HN.out.2.2
          have HLO : Hid (w.heap.size ≤ gA ∧ gA + 4 < g ∧ g + 4 < u.heap.size) := hid ⟨by have := HX.out.size; have := HA.out.2.1; omega, by have := HA.out.2.2.lt; have := HN.out.2.1; omega, HN.out.2.2.lt⟩
          have hb34 := setRow_heap ((u.alloc (.cells #[.int .i64 0, .slice none 0 0, .int .i64 0, .int .i64 0, .int .i64 0, .slice none 0 0, .slice none 0 0, .slice none 0 0, .slice none 0 0] 32)).alloc (.cells #[.int .i64 0, .slice none 0 0, .int .i64 0, .int .i64 0, .int .i64 0, .slice none 0 0, .slice none 0 0, .slice none 0 0, .slice none 0 0] 32)) u.heap.size _ #[.int .i64 1000, .slice (some ⟨gA, 0, none⟩) 2 2, .int .i64 3, .int .i64 3, .int .i64 2, .slice (some ⟨gA + 1, 0, none⟩) 2 2, .slice (some ⟨gA + 1 + 1, 0, none⟩) 3 3, .slice (some ⟨gA + 1 + 1 + 1, 0, none⟩) 3 3, .slice (some ⟨gA + 1 + 1 + 1 + 1, 0, none⟩) 1 1] 32 _ two_new
          have hb35a : ((u.alloc (.cells #[.int .i64 0, .slice none 0 0, .int .i64 0, .int .i64 0, .int .i64 0, .slice none 0 0, .slice none 0 0, .slice none 0 0, .slice none 0 0] 32)).alloc (.cells #[.int .i64 0, .slice none 0 0, .int .i64 0, .int .i64 0, .int .i64 0, .slice none 0 0, .slice none 0 0, .slice none 0 0, .slice none 0 0] 32)).heap[u.heap.size + 1]? = some (.cells #[.int .i64 0, .slice none 0 0, .int .i64 0, .int .i64 0, .int .i64 0, .slice none 0 0, .slice none 0 0, .slice none 0 0, .slice none 0 0] 32 (0, 0)) := by
            have := Ext.new (w := u.alloc (.cells #[.int .i64 0, .slice none 0 0, .int .i64 0, .int .i64 0, .int .i64 0, .slice none 0 0, .slice none 0 0, .slice none 0 0, .slice none 0 0] 32)) (o := .cells #[.int .i64 0, .slice none 0 0, .int .i64 0, .int .i64 0, .int .i64 0, .slice none 0 0, .slice none 0 0, .slice none 0 0, .slice none 0 0] 32) (Ext.refl _)
            rw [World.size_alloc] at this
            exact this
          have hb35 := (setRow_other ((u.alloc (.cells #[.int .i64 0, .slice none 0 0, .int .i64 0, .int .i64 0, .int .i64 0, .slice none 0 0, .slice none 0 0, .slice none 0 0, .slice none 0 0] 32)).alloc (.cells #[.int .i64 0, .slice none 0 0, .int .i64 0, .int .i64 0, .int .i64 0, .slice none 0 0, .slice none 0 0, .slice none 0 0, .slice none 0 0] 32)) u.heap.size (u.heap.size + 1) #[.int .i64 1000, .slice (some ⟨gA, 0, none⟩) 2 2, .int .i64 3, .int .i64 3, .int .i64 2, .slice (some ⟨gA + 1, 0, none⟩) 2 2, .slice (some ⟨gA + 1 + 1, 0, none⟩) 3 3, .slice (some ⟨gA + 1 + 1 + 1, 0, none⟩) 3 3, .slice (some ⟨gA + 1 + 1 + 1 + 1, 0, none⟩) 1 1] (by omega)).trans hb35a
          have hxA : Ext u (((u.alloc (.cells #[.int .i64 0, .slice none 0 0, .int .i64 0, .int .i64 0, .int .i64 0, .slice none 0 0, .slice none 0 0, .slice none 0 0, .slice none 0 0] 32)).alloc (.cells #[.int .i64 0, .slice none 0 0, .int .i64 0, .int .i64 0, .int .i64 0, .slice none 0 0, .slice none 0 0, .slice none 0 0, .slice none 0 0] 32)).setRow u.heap.size #[.int .i64 1000, .slice (some ⟨gA, 0, none⟩) 2 2, .int .i64 3, .int .i64 3, .int .i64 2, .slice (some ⟨gA + 1, 0, none⟩) 2 2, .slice (some ⟨gA + 1 + 1, 0, none⟩) 3 3, .slice (some ⟨gA + 1 + 1 + 1, 0, none⟩) 3 3, .slice (some ⟨gA + 1 + 1 + 1 + 1, 0, none⟩) 1 1]) := ext_setRow (((Ext.refl _).alloc _).alloc _) (Nat.le_refl _) _
          have HB34 := hid hb34
          have HB35 := hid hb35
          have HXA := hid hxA
          clear hb34 hb35 hb35a hxA HX HA HN
          refine hid ?_
          generalize ((u.alloc (.cells #[.int .i64 0, .slice none 0 0, .int .i64 0, .int .i64 0, .int .i64 0, .slice none 0 0, .slice none 0 0, .slice none 0 0, .slice none 0 0] 32)).alloc (.cells #[.int .i64 0, .slice none 0 0, .int .i64 0, .int .i64 0, .int .i64 0, .slice none 0 0, .slice none 0 0, .slice none 0 0, .slice none 0 0] 32)).setRow u.heap.size #[.int .i64 1000, .slice (some ⟨gA, 0, none⟩) 2 2, .int .i64 3, .int .i64 3, .int .i64 2, .slice (some ⟨gA + 1, 0, none⟩) 2 2, .slice (some ⟨gA + 1 + 1, 0, none⟩) 3 3, .slice (some ⟨gA + 1 + 1 + 1, 0, none⟩) 3 3, .slice (some ⟨gA + 1 + 1 + 1 + 1, 0, none⟩) 1 1] = WA at HB34 HB35 HXA ⊢
          obtain ⟨g34, hg34⟩ : ∃ g34, g34 = u.heap.size := ⟨_, rfl⟩
          rw [← hg34] at HB34 HB35 ⊢
          have HG34 : Hid (u.heap.size = g34) := hid hg34.symm
          clear hg34
          gi_wp2_with (refine wpIn_store_at 32 (.tmp 35) (.tmp 259) rfl (fun _ => trivial) (g := g34 + 1) (off := 0) rfl rfl HB35.out size32 (by simp) (by simp [Value.oneCell']) ?_; refine Hid.out ?_)
          have hb35 := setRow_heap WA (g34 + 1) _ #[.int .i64 1000, .slice (some ⟨g, 0, none⟩) 2 2, .int .i64 3, .int .i64 3, .int .i64 2, .slice (some ⟨g + 1, 0, none⟩) 2 2, .slice (some ⟨g + 1 + 1, 0, none⟩) 3 3, .slice (some ⟨g + 1 + 1 + 1, 0, none⟩) 3 3, .slice (some ⟨g + 1 + 1 + 1 + 1, 0, none⟩) 1 1] 32 _ HB35.out
          have hb34 := (setRow_other WA (g34 + 1) g34 #[.int .i64 1000, .slice (some ⟨g, 0, none⟩) 2 2, .int .i64 3, .int .i64 3, .int .i64 2, .slice (some ⟨g + 1, 0, none⟩) 2 2, .slice (some ⟨g + 1 + 1, 0, none⟩) 3 3, .slice (some ⟨g + 1 + 1 + 1, 0, none⟩) 3 3, .slice (some ⟨g + 1 + 1 + 1 + 1, 0, none⟩) 1 1] (by omega)).trans HB34.out
          have hxC : Ext u (WA.setRow (g34 + 1) #[.int .i64 1000, .slice (some ⟨g, 0, none⟩) 2 2, .int .i64 3, .int .i64 3, .int .i64 2, .slice (some ⟨g + 1, 0, none⟩) 2 2, .slice (some ⟨g + 1 + 1, 0, none⟩) 3 3, .slice (some ⟨g + 1 + 1 + 1, 0, none⟩) 3 3, .slice (some ⟨g + 1 + 1 + 1 + 1, 0, none⟩) 1 1]) := ext_setRow HXA.out (by have := HG34.out; omega) _
          have HB34 := hid hb34
          have HB35 := hid hb35
          have HXC := hid hxC
          clear hb34 hb35 hxC HXA
          refine hid ?_
          generalize WA.setRow (g34 + 1) #[.int .i64 1000, .slice (some ⟨g, 0, none⟩) 2 2, .int .i64 3, .int .i64 3, .int .i64 2, .slice (some ⟨g + 1, 0, none⟩) 2 2, .slice (some ⟨g + 1 + 1, 0, none⟩) 3 3, .slice (some ⟨g + 1 + 1 + 1, 0, none⟩) 3 3, .slice (some ⟨g + 1 + 1 + 1 + 1, 0, none⟩) 1 1] = WC at HB34 HB35 HXC ⊢
          gi_upto_region 39 with fail
          have HNA := hid (HNA.out.ext HXC.out)
          have HNB := hid (HNB.out.ext HXC.out)
          have HXw := hid (HXu.out.trans HXC.out)
          have hxd : Ext WC (WC.alloc (.cells #[.string ⟨#[115, 109, 105, 116, 104]⟩, .string ⟨#[98, 117, 99, 107, 105, 101]⟩, .int .i64 10, .int .i64 3] 59)) := (Ext.refl _).alloc _
          have HXD := hid hxd
          have HROW : Hid (Row (WC.alloc (.cells #[.string ⟨#[115, 109, 105, 116, 104]⟩, .string ⟨#[98, 117, 99, 107, 105, 101]⟩, .int .i64 10, .int .i64 3] 59)) 59 4 (.slice (some ⟨gA + 1 + 1 + 1 + 1, 0, none⟩) 1 1) 1 [.string ⟨#[101, 121, 101, 109, 111, 117, 116, 104]⟩, .string ⟨#[115, 109, 105, 116, 104]⟩, .int .i64 10, .int .i64 3]) := hid ⟨rfl, .inr ⟨_, 1, _, rfl, hxd.block HNA.out.lo, Nat.le_refl _, by unfold maxLen; omega, rfl, rfl⟩⟩
          have HNW : Hid (∀ j q, ([.string ⟨#[115, 109, 105, 116, 104]⟩, .string ⟨#[98, 117, 99, 107, 105, 101]⟩, .int .i64 10, .int .i64 3] : List Value)[j]? = some q → (WC.alloc (.cells #[.string ⟨#[115, 109, 105, 116, 104]⟩, .string ⟨#[98, 117, 99, 107, 105, 101]⟩, .int .i64 10, .int .i64 3] 59)).cell? ((⟨WC.heap.size, 0, none⟩ : Addr).add j) = some q) := hid (fun j q hj => by rw [Addr.add_mid, Nat.zero_add, new_cell _ _ rfl]; simpa using hj)
          have HD34 := hid (hxd.block HB34.out)
          clear hxd
          obtain ⟨i0, hi, hz0, hz1, hz2⟩ := info_parts info59K
          have HZZ := hid (And.intro hi (And.intro hz0 (And.intro hz1 hz2)))
          clear hi hz0 hz1 hz2
          have c8 : WC.cell? ⟨g34, 8, none⟩ = some (.slice (some ⟨gA + 1 + 1 + 1 + 1, 0, none⟩) 1 1) := (cell_of HB34.out 8).trans rfl
          gi_upto_region 40 with (refine wpIn_append_row (fun _ => trivial) rfl (.tmp 261) (.tmp 263) rfl Tryz.underlying30 HZZ.out.1 HZZ.out.2.1 HZZ.out.2.2.1 HZZ.out.2.2.2 (by simp [Value.cells]) (by omega) (v := .slice (some ⟨gA + 1 + 1 + 1 + 1, 0, none⟩) 1 1) rfl HROW.out ⟨WC.heap.size, 0, none⟩ 1 rfl [.string ⟨#[115, 109, 105, 116, 104]⟩, .string ⟨#[98, 117, 99, 107, 105, 101]⟩, .int .i64 10, .int .i64 3] rfl HNW.out (fun q hq => by simp at hq; rcases hq with rfl | rfl | rfl | rfl <;> rfl) (by omega) (by omega) ?_; intro v' wz hrow' hgr' how'; obtain ⟨qa, qc, rfl⟩ := hrow'.isSliceN; have hz34 := grownBy_block hgr' HD34.out (fun e => by simp [Value.ownBlock] at e; have := HLO.out; have := HG34.out; omega); have c9 : wz.cell? ⟨g34, 8, none⟩ = some (.slice (some ⟨gA + 1 + 1 + 1 + 1, 0, none⟩) 1 1) := (cell_of hz34 8).trans rfl; have f9 := free_of hz34 8)
          clear c8 c9 f9
          have hown : ∀ q, (Value.slice qa 2 qc).ownBlock = some q → q ≠ g34 ∧ q ≠ g34 + 1 := fun q hq => by
            have h1 := HLO.out
            have h2 := HG34.out
            have h3 := lt_of_block HB35.out
            rcases how' with e | e
            · rw [hq] at e; simp [Value.ownBlock] at e; omega
            · rw [hq] at e; simp at e; omega
          have HR0 : Hid (Row (wz.setCell ⟨g34, 8, none⟩ (.slice qa 2 qc)) 59 4 (.slice qa 2 qc) 2 ([.string ⟨#[101, 121, 101, 109, 111, 117, 116, 104]⟩, .string ⟨#[115, 109, 105, 116, 104]⟩, .int .i64 10, .int .i64 3] ++ [.string ⟨#[115, 109, 105, 116, 104]⟩, .string ⟨#[98, 117, 99, 107, 105, 101]⟩, .int .i64 10, .int .i64 3])) := hid (hrow'.kept fun q o hq ho => by rw [set_other (hown q hq).1]; exact ho)
          have HOWN := hid hown
          have HX0 : Hid (Ext w (wz.setCell ⟨g34, 8, none⟩ (.slice qa 2 qc))) := hid ((ext_grown (HXw.out.trans HXD.out) hgr' (fun q hq => by simp [Value.ownBlock] at hq; have := HLO.out; omega)).set (by have := HLO.out; have := HG34.out; omega) _ _)
          have HB34 : Hid ((wz.setCell ⟨g34, 8, none⟩ (.slice qa 2 qc)).heap[g34]? = some (.cells #[.int .i64 1000, .slice (some ⟨gA, 0, none⟩) 2 2, .int .i64 3, .int .i64 3, .int .i64 2, .slice (some ⟨gA + 1, 0, none⟩) 2 2, .slice (some ⟨gA + 1 + 1, 0, none⟩) 3 3, .slice (some ⟨gA + 1 + 1 + 1, 0, none⟩) 3 3, .slice qa 2 qc] 32 (0, 0))) := hid (set_same hz34 8 _)
          have HKQ : Hid (∀ q o, q ≠ gA + 1 + 1 + 1 + 1 → q ≠ g34 → WC.heap[q]? = some o → (wz.setCell ⟨g34, 8, none⟩ (.slice qa 2 qc)).heap[q]? = some o) := hid (fun q o h1 h2 ho => by
            rw [set_other h2]
            exact grownBy_block hgr' (HXD.out.block ho) (fun e => by simp [Value.ownBlock] at e; omega))
          clear hrow' hgr' how' hz34 hown HROW HNW HD34 HZZ HXD HXw HXu HXC
          generalize wz.setCell ⟨g34, 8, none⟩ (.slice qa 2 qc) = s0 at HR0 HX0 HB34 HKQ ⊢
          have HNA0 : Hid (s0.heap[gA]? = some (.cells #[.int .i64 40, .int .i64 19] 3 (0, 0)) ∧ s0.heap[gA + 1]? = _ ∧ s0.heap[gA + 1 + 1]? = _ ∧ s0.heap[gA + 1 + 1 + 1]? = _) := hid (by
            have h1 := HLO.out
            have h2 := HG34.out
            exact ⟨HKQ.out _ _ (by omega) (by omega) HNA.out.cs, HKQ.out _ _ (by omega) (by omega) HNA.out.ow, HKQ.out _ _ (by omega) (by omega) HNA.out.le, HKQ.out _ _ (by omega) (by omega) HNA.out.ha⟩)
          have HNB0 : Hid (NightB s0 g) := hid (HNB.out.kept fun q o h1 h2 ho => HKQ.out q o (by have := HLO.out; omega) (by have := HLO.out; have := HG34.out; omega) ho)
          have HB35 : Hid (s0.heap[g34 + 1]? = some (.cells #[.int .i64 1000, .slice (some ⟨g, 0, none⟩) 2 2, .int .i64 3, .int .i64 3, .int .i64 2, .slice (some ⟨g + 1, 0, none⟩) 2 2, .slice (some ⟨g + 1 + 1, 0, none⟩) 3 3, .slice (some ⟨g + 1 + 1 + 1, 0, none⟩) 3 3, .slice (some ⟨g + 1 + 1 + 1 + 1, 0, none⟩) 1 1] 32 (0, 0))) := hid (HKQ.out _ _ (by have := HLO.out; have := HG34.out; omega) (by omega) HB35.out)
          clear HKQ HNA HNB
          have k0 : s0.cell? ⟨g34 + 1, 2, none⟩ = some (.int .i64 3) := (cell_of HB35.out 2).trans rfl
          have z0 := free_of HB35.out 2
          have b0 := set_same HB35.out 2 (.int .i64 0)
          have k1 : (s0.setCell ⟨g34 + 1, 2, none⟩ (.int .i64 0)).cell? ⟨g34 + 1, 3, none⟩ = some (.int .i64 3) := (cell_of b0 3).trans rfl
          have z1 := free_of b0 3
          have b1 := set_same b0 3 (.int .i64 0)
          have k2 : ((s0.setCell ⟨g34 + 1, 2, none⟩ (.int .i64 0)).setCell ⟨g34 + 1, 3, none⟩ (.int .i64 0)).cell? ⟨g34 + 1, 4, none⟩ = some (.int .i64 2) := (cell_of b1 4).trans rfl
          have z2 := free_of b1 4
          have b2 := set_same b1 4 (.int .i64 8)
          have k3 : (((s0.setCell ⟨g34 + 1, 2, none⟩ (.int .i64 0)).setCell ⟨g34 + 1, 3, none⟩ (.int .i64 0)).setCell ⟨g34 + 1, 4, none⟩ (.int .i64 8)).cell? ⟨g34 + 1, 5, none⟩ = some (.slice (some ⟨g + 1, 0, none⟩) 2 2) := (cell_of b2 5).trans rfl
          have z3 := free_of b2 5
          have b3 := set_same b2 5 (.slice none 0 0)
          have k4 : ((((s0.setCell ⟨g34 + 1, 2, none⟩ (.int .i64 0)).setCell ⟨g34 + 1, 3, none⟩ (.int .i64 0)).setCell ⟨g34 + 1, 4, none⟩ (.int .i64 8)).setCell ⟨g34 + 1, 5, none⟩ (.slice none 0 0)).cell? ⟨g34 + 1, 6, none⟩ = some (.slice (some ⟨g + 1 + 1, 0, none⟩) 3 3) := (cell_of b3 6).trans rfl
          have z4 := free_of b3 6
          have b4 := set_same b3 6 (.slice none 0 0)
          have k5 : (((((s0.setCell ⟨g34 + 1, 2, none⟩ (.int .i64 0)).setCell ⟨g34 + 1, 3, none⟩ (.int .i64 0)).setCell ⟨g34 + 1, 4, none⟩ (.int .i64 8)).setCell ⟨g34 + 1, 5, none⟩ (.slice none 0 0)).setCell ⟨g34 + 1, 6, none⟩ (.slice none 0 0)).cell? ⟨g34 + 1, 8, none⟩ = some (.slice (some ⟨g + 1 + 1 + 1 + 1, 0, none⟩) 1 1) := (cell_of b4 8).trans rfl
          have z5 := free_of b4 8
          have b5 := set_same b4 8 (.slice none 0 0)
          have HK6 : Hid (∀ q o, q ≠ g34 + 1 → s0.heap[q]? = some o → ((((((s0.setCell ⟨g34 + 1, 2, none⟩ (.int .i64 0)).setCell ⟨g34 + 1, 3, none⟩ (.int .i64 0)).setCell ⟨g34 + 1, 4, none⟩ (.int .i64 8)).setCell ⟨g34 + 1, 5, none⟩ (.slice none 0 0)).setCell ⟨g34 + 1, 6, none⟩ (.slice none 0 0)).setCell ⟨g34 + 1, 8, none⟩ (.slice none 0 0)).heap[q]? = some o) := hid (fun q o h1 ho => by rw [set_other h1, set_other h1, set_other h1, set_other h1, set_other h1, set_other h1]; exact ho)
          have HX6 : Hid (Ext w ((((((s0.setCell ⟨g34 + 1, 2, none⟩ (.int .i64 0)).setCell ⟨g34 + 1, 3, none⟩ (.int .i64 0)).setCell ⟨g34 + 1, 4, none⟩ (.int .i64 8)).setCell ⟨g34 + 1, 5, none⟩ (.slice none 0 0)).setCell ⟨g34 + 1, 6, none⟩ (.slice none 0 0)).setCell ⟨g34 + 1, 8, none⟩ (.slice none 0 0))) := hid (by
            have hle : w.heap.size ≤ g34 + 1 := by have := HLO.out; have := HG34.out; omega
            exact (((((HX0.out.set hle _ _).set hle _ _).set hle _ _).set hle _ _).set hle _ _).set hle _ _)
          have HB6 : Hid (((((((s0.setCell ⟨g34 + 1, 2, none⟩ (.int .i64 0)).setCell ⟨g34 + 1, 3, none⟩ (.int .i64 0)).setCell ⟨g34 + 1, 4, none⟩ (.int .i64 8)).setCell ⟨g34 + 1, 5, none⟩ (.slice none 0 0)).setCell ⟨g34 + 1, 6, none⟩ (.slice none 0 0)).setCell ⟨g34 + 1, 8, none⟩ (.slice none 0 0)).heap[g34 + 1]? = some (.cells #[.int .i64 1000, .slice (some ⟨g, 0, none⟩) 2 2, .int .i64 0, .int .i64 0, .int .i64 8, .slice none 0 0, .slice none 0 0, .slice (some ⟨g + 1 + 1 + 1, 0, none⟩) 3 3, .slice none 0 0] 32 (0, 0))) := hid b5
          clear b0 b1 b2 b3 b4 b5
          gi_upto_region 41 with fail
          clear k0 z0 k1 z1 k2 z2 k3 z3 k4 z4 k5 z5
          generalize (((((s0.setCell ⟨g34 + 1, 2, none⟩ (.int .i64 0)).setCell ⟨g34 + 1, 3, none⟩ (.int .i64 0)).setCell ⟨g34 + 1, 4, none⟩ (.int .i64 8)).setCell ⟨g34 + 1, 5, none⟩ (.slice none 0 0)).setCell ⟨g34 + 1, 6, none⟩ (.slice none 0 0)).setCell ⟨g34 + 1, 8, none⟩ (.slice none 0 0) = s6 at HK6 HX6 HB6 ⊢
          have HVB : Hid (VoyAt s6 (ntL ⟨⟨#[115, 109, 105, 116, 104]⟩, ⟨#[98, 117, 99, 107, 105, 101]⟩, 10, 3⟩) { VSn gA with xa := qa, xc := qc }) := hid (by
            have h1 := HLO.out
            have h2 := HG34.out
            have hn := HNA0.out
            have hr : Row s6 59 4 (.slice qa 2 qc) 2 ([.string ⟨#[101, 121, 101, 109, 111, 117, 116, 104]⟩, .string ⟨#[115, 109, 105, 116, 104]⟩, .int .i64 10, .int .i64 3] ++ [.string ⟨#[115, 109, 105, 116, 104]⟩, .string ⟨#[98, 117, 99, 107, 105, 101]⟩, .int .i64 10, .int .i64 3]) := HR0.out.kept fun q o hq ho => HK6.out q o (HOWN.out q hq).2 ho
            exact ⟨NightB.css (HK6.out _ _ (by omega) hn.1), stakes_new (l := nt.ow) (HK6.out _ _ (by omega) hn.2.1) rfl (by decide), stakes_new (l := nt.le) (HK6.out _ _ (by omega) hn.2.2.1) rfl (by decide), stakes_new (l := nt.ha) (HK6.out _ _ (by omega) hn.2.2.2) rfl (by decide), loans_two (a := ⟨⟨#[101, 121, 101, 109, 111, 117, 116, 104]⟩, ⟨#[115, 109, 105, 116, 104]⟩, 10, 3⟩) (b := ⟨⟨#[115, 109, 105, 116, 104]⟩, ⟨#[98, 117, 99, 107, 105, 101]⟩, 10, 3⟩) hr, ntNm.1, ntNm.2.1, ntNm.2.2⟩)
          have HVL : Hid (VoyAt s6 alV { VSn g with oa := none, oc := 0, la := none, lc := 0, xa := none, xc := 0 }) := hid (by
            have h1 := HLO.out
            have h2 := HG34.out
            have hn := HNB0.out
            exact ⟨NightB.css (HK6.out _ _ (by omega) hn.cs), stakes_nil _, stakes_nil _, stakes_new (l := nt.ha) (HK6.out _ _ (by omega) hn.ha) rfl (by decide), loans_nil _, nm_nil, nm_nil, ntNm.2.2⟩)
          have HB34 := hid (HK6.out _ _ (by omega) HB34.out)
          clear HK6 HNA0 HNB0 HR0 HOWN HLO HG34 HB35 HX0
          have HC19 := hid (kHC19 HVB.out)
          have HC23 := hid (fun (u : World) (hu : Ext s6 u) => kHC23 (HVL.out.mono hu))
          have HBA := hid (fun (u : World) => balances_any u)
          have HI1 := hid (fun (u : World) (ba : Option Addr) (bc : Nat) (hb : IntsAt u (.slice ba wkX.length bc) wkX) => kHI1 u ba bc hb)
          have HI2 := hid (fun (u : World) => kHI2 u)
          have c0 := cell_of HB34.out
          have d0 := cell_of HB6.out
          clear HVB HVL
          gi_upto_region 43 with (first | (gi_at_call 19; ((with_reducible refine (HC19.out).mono ?_); rintro e s7 ⟨r1, rfl, hx7, HR1⟩; obtain ⟨r1a, r1c, rfl, hr1q⟩ := id HR1.out; have HX7 := hid hx7; have d0 := cell_of (hx7.block HB6.out); clear hx7 hr1q)) | (gi_at_call 23; ((with_reducible refine (HC23.out _ HX7.out).mono ?_); rintro e s8 ⟨rfl, hx8⟩; have HX8 := hid (HX7.out.trans hx8); have HX78 := hid hx8; clear hx8)))
          clear c0 d0
          have HR1 := hid (fun (u : World) (hu : Ext s8 u) => (show IntsAt u (.slice r1a 3 r1c) [210, 30, 0] from HR1.out.mono (HX78.out.trans hu)))
          clear HB34 HB6 HC19 HC23 HX78
          have HXw := hid (HX6.out.trans HX8.out)
          gi_upto_region 44 with (first | (gi_at_call 44; ((with_reducible refine (HNT.out _).mono ?_); rintro e s9 ⟨gC, rfl, hx9, HM⟩; have HX9 := hid hx9; have HDV := hid (kDiv (.slice (some ⟨gC + 1, 0, none⟩) 2 2) s9 HM.out.2.ows); have hfld := kField gC s9; clear hx9 HM)) | (gi_at_call 15; ((with_reducible refine (HDV.out).mono ?_); rintro e s10 ⟨r2, rfl, hx10, HR2⟩; obtain ⟨r2a, r2c, rfl, hr2q⟩ := id HR2.out; have HX10 := hid (HX9.out.trans hx10); clear hx10 hr2q)))
          have HR1 := hid (fun (u : World) (hu : Ext s10 u) => HR1.out u (HX10.out.trans hu))
          have HXw := hid (HXw.out.trans HX10.out)
          clear HX9 HX10 HDV HX7 HX8 HX6
          gi_upto_region 45 with (first | (gi_at_call 45; ((with_reducible refine (HBA.out _).mono ?_); rintro e s11 ⟨r3, rfl, hx11, HR3⟩; obtain ⟨r3a, r3c, rfl, hr3q⟩ := id HR3.out; have HX11 := hid hx11; clear hx11 hr3q)) | (gi_at_call 42; ((with_reducible refine (HI1.out _ _ _ HR3.out).mono ?_); rintro e s12 ⟨rfl, hx12⟩; have HX12 := hid (HX11.out.trans hx12); clear hx12)))
          gi_upto_region 46 with (gi_at_call 42; ((with_reducible refine (HI2.out _).mono ?_); rintro e s13 ⟨rfl, hx13⟩; have HX13 := hid (HX12.out.trans hx13); clear hx13))
          have HCL0 := hid (fun (u : World) => kClear u)
          have HI3 := hid (fun (u : World) => kIs3 u)
          gi_upto_region 48 with (first | (gi_at_call 41; ((with_reducible refine (HCL0.out _).mono ?_); rintro e s14 ⟨r4a, r4c, rfl, hx14⟩; have HX14 := hid (HX13.out.trans hx14); clear hx14)) | (gi_at_call 42; ((with_reducible refine (HI3.out _).mono ?_); rintro e s15 ⟨rfl, hx15⟩; have HX15 := hid (HX14.out.trans hx15); clear hx15)))
          have HXw := hid (HXw.out.trans HX15.out)
          have HR1 := hid (fun (u : World) (hu : Ext s15 u) => HR1.out u (HX15.out.trans hu))
          have HR2 := hid (fun (u : World) (hu : Ext s15 u) => (show IntsAt u (.slice r2a 2 r2c) [221, 132] from HR2.out.mono (HX15.out.trans hu)))
          have HS1 : Hid (∀ u : World, Ext s15 u → Cal 17 #[.slice r1a 3 r1c, .slice (some ⟨u.heap.size, 0, none⟩) 3 3] (u.alloc (.cells #[.int .i64 210, .int .i64 30, .int .i64 0] 3)) fun e w' => e = .returned (.bool true) ∧ Ext u w') := hid (fun u hu => (same_true _ _ [210, 30, 0] _ (HR1.out _ (hu.alloc _)) (ints_new (xs := [210, 30, 0]) (Ext.new (Ext.refl _)) rfl (by decide))).mono fun e w' h => ⟨h.1, ((Ext.refl u).alloc _).trans h.2⟩)
          have HS2 : Hid (∀ u : World, Ext s15 u → Cal 17 #[.slice r2a 2 r2c, .slice (some ⟨u.heap.size, 0, none⟩) 2 2] (u.alloc (.cells #[.int .i64 221, .int .i64 132] 3)) fun e w' => e = .returned (.bool true) ∧ Ext u w') := hid (fun u hu => (same_true _ _ [221, 132] _ (HR2.out _ (hu.alloc _)) (ints_new (xs := [221, 132]) (Ext.new (Ext.refl _)) rfl (by decide))).mono fun e w' h => ⟨h.1, ((Ext.refl u).alloc _).trans h.2⟩)
          gi_wp2_with (first | (gi_at_call 17; first | ((with_reducible refine (HS1.out _ (Ext.refl _)).mono ?_); rintro e s16 ⟨rfl, hx16⟩; have HX16 := hid hx16; clear hx16) | ((with_reducible refine (HS2.out _ HX16.out).mono ?_); rintro e s17 ⟨rfl, hx17⟩; have HX17 := hid (HX16.out.trans hx17); clear hx17)) | (gi_at_call 18; ((with_reducible refine (HWK.out _).mono ?_); rintro e s18 ⟨rfl, hx18⟩; have HX18 := hid (HX17.out.trans hx18); clear hx18)))
          all_goals first | (go_ret; exact ⟨rfl, HXw.out.trans HX18.out⟩) | skip

end Go.Proofs.YtjocoadhalimjaaGreat
