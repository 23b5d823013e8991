/- The least knots that can be come to (pure). -/
import Derived.Test.YtmjelgonhpgmbaaUB
set_option linter.unusedSimpArgs false
set_option linter.unusedVariables false
namespace Go.Proofs.Ytmjelgonhpgmbaa
namespace Tw
/-- A label is handed on along a bar, the lesser one to both ends. -/
def stepG (g : Nat → Nat) (s : Spn) : Nat → Nat := fun k => if k = s.hi.toNat then min (g s.lo.toNat) (g s.hi.toNat) else if k = s.lo.toNat then min (g s.lo.toNat) (g s.hi.toNat) else g k
def roundTo (bars : List Spn) (g : Nat → Nat) : Nat → Nat → Nat
  | 0 => g
  | i + 1 => stepG (roundTo bars g i) (bars.getD i ⟨0, 0⟩)
def roundsTo (bars : List Spn) : Nat → Nat → Nat
  | 0 => fun k => k
  | r + 1 => roundTo bars (roundsTo bars r) bars.length
def labG (bars : List Spn) (P : Nat) : Int → Nat := fun k => roundsTo bars P k.toNat
theorem stepG_le (g : Nat → Nat) (s : Spn) (k : Nat) : stepG g s k ≤ g k := by
  unfold stepG
  split
  · next h => subst h; omega
  · split
    · next h => subst h; omega
    · exact Nat.le_refl _
theorem roundTo_le (bars : List Spn) (g : Nat → Nat) (k : Nat) : ∀ i, roundTo bars g i k ≤ g k
  | 0 => Nat.le_refl _
  | i + 1 => by unfold roundTo; have := stepG_le (roundTo bars g i) (bars.getD i ⟨0, 0⟩) k; have := roundTo_le bars g k i; omega
theorem roundTo_mono (bars : List Spn) (g : Nat → Nat) (k : Nat) : ∀ i j, i ≤ j → roundTo bars g j k ≤ roundTo bars g i k
  | i, 0, h => by obtain rfl : i = 0 := by omega
                  exact Nat.le_refl _
  | i, j + 1, h => by
    rcases Nat.lt_or_ge j i with h' | h'
    · obtain rfl : i = j + 1 := by omega
      exact Nat.le_refl _
    · have h1 := roundTo_mono bars g k i j h'
      have h2 : roundTo bars g (j + 1) k ≤ roundTo bars g j k := stepG_le (roundTo bars g j) (bars.getD j ⟨0, 0⟩) k
      omega
theorem roundsTo_mono (bars : List Spn) (k : Nat) : ∀ r q, r ≤ q → roundsTo bars q k ≤ roundsTo bars r k
  | r, 0, h => by obtain rfl : r = 0 := by omega
                  exact Nat.le_refl _
  | r, q + 1, h => by
    rcases Nat.lt_or_ge q r with h' | h'
    · obtain rfl : r = q + 1 := by omega
      exact Nat.le_refl _
    · have h1 := roundsTo_mono bars k r q h'
      have h2 : roundsTo bars (q + 1) k ≤ roundsTo bars q k := roundTo_le bars _ k _
      omega
/-- After a round the label of each end of a bar is no more than that of the other one was. -/
theorem round_bar {bars : List Spn} (g : Nat → Nat) {i : Nat} (hi : i < bars.length) : roundTo bars g bars.length (bars.getD i ⟨0, 0⟩).lo.toNat ≤ g (bars.getD i ⟨0, 0⟩).hi.toNat ∧ roundTo bars g bars.length (bars.getD i ⟨0, 0⟩).hi.toNat ≤ g (bars.getD i ⟨0, 0⟩).lo.toNat := by
  have h1 := roundTo_mono bars g (bars.getD i ⟨0, 0⟩).lo.toNat (i + 1) bars.length (by omega)
  have h2 := roundTo_mono bars g (bars.getD i ⟨0, 0⟩).hi.toNat (i + 1) bars.length (by omega)
  have h3 := roundTo_le bars g (bars.getD i ⟨0, 0⟩).lo.toNat i
  have h4 := roundTo_le bars g (bars.getD i ⟨0, 0⟩).hi.toNat i
  have e1 : roundTo bars g (i + 1) (bars.getD i ⟨0, 0⟩).lo.toNat ≤ roundTo bars g i (bars.getD i ⟨0, 0⟩).hi.toNat := by
    show stepG _ _ _ ≤ _
    unfold stepG
    split
    · omega
    · rw [if_pos rfl]; omega
  have e2 : roundTo bars g (i + 1) (bars.getD i ⟨0, 0⟩).hi.toNat ≤ roundTo bars g i (bars.getD i ⟨0, 0⟩).lo.toNat := by
    show stepG _ _ _ ≤ _
    unfold stepG
    rw [if_pos rfl]; omega
  omega
/-- A label is a knot that can be come to. -/
def Lab (bars : List Spn) (P : Nat) (g : Nat → Nat) : Prop := ∀ k, k < P → g k < P ∧ Conn bars (g k : Int) (k : Int)
theorem Lab.step {bars : List Spn} {P : Nat} (hB : Bars bars P) {g : Nat → Nat} (h : Lab bars P g) {i : Nat} (hi : i < bars.length) : Lab bars P (stepG g (bars.getD i ⟨0, 0⟩)) := by
  have hb := bars_at hB i hi
  have hc : Conn bars (bars.getD i ⟨0, 0⟩).lo (bars.getD i ⟨0, 0⟩).hi := Conn.one hi (.inl ⟨rfl, rfl⟩)
  generalize bars.getD i ⟨0, 0⟩ = s at *
  have hl := h s.lo.toNat (by omega)
  have hh := h s.hi.toNat (by omega)
  rw [show ((s.lo.toNat : Nat) : Int) = s.lo by omega] at hl
  rw [show ((s.hi.toNat : Nat) : Int) = s.hi by omega] at hh
  have key : min (g s.lo.toNat) (g s.hi.toNat) < P ∧ Conn bars (min (g s.lo.toNat) (g s.hi.toNat) : Nat) s.lo ∧ Conn bars (min (g s.lo.toNat) (g s.hi.toNat) : Nat) s.hi := by
    rcases Nat.le_total (g s.lo.toNat) (g s.hi.toNat) with h' | h'
    · rw [Nat.min_eq_left h']; exact ⟨hl.1, hl.2, hl.2.trans hc⟩
    · rw [Nat.min_eq_right h']; exact ⟨hh.1, hh.2.trans hc.symm, hh.2⟩
  intro k hk
  unfold stepG
  split
  · next e => subst e; rw [show ((s.hi.toNat : Nat) : Int) = s.hi by omega]; exact ⟨key.1, key.2.2⟩
  · split
    · next e => subst e; rw [show ((s.lo.toNat : Nat) : Int) = s.lo by omega]; exact ⟨key.1, key.2.1⟩
    · exact h k hk
theorem Lab.roundTo {bars : List Spn} {P : Nat} (hB : Bars bars P) {g : Nat → Nat} (h : Lab bars P g) : ∀ i, i ≤ bars.length → Lab bars P (roundTo bars g i)
  | 0, _ => h
  | i + 1, hi => (Lab.roundTo hB h i (by omega)).step hB (by omega)
theorem Lab.rounds {bars : List Spn} {P : Nat} (hB : Bars bars P) : ∀ r, Lab bars P (roundsTo bars r)
  | 0 => fun k hk => ⟨hk, .refl⟩
  | r + 1 => (Lab.rounds hB r).roundTo hB bars.length (Nat.le_refl _)
theorem conn_range {bars : List Spn} {P : Nat} (hB : Bars bars P) {a b : Int} (h : Conn bars a b) (ha : 0 ≤ a ∧ a < P) : 0 ≤ b ∧ b < P := by
  induction h with
  | refl => exact ha
  | step _ hi hj _ =>
    have := bars_at hB _ hi
    rcases hj with ⟨e1, e2⟩ | ⟨e1, e2⟩ <;> rw [e1, e2] at this <;> omega
/-- So many rounds reach so many knots of the group of its least one, or all of them. -/
theorem rounds_reach {bars : List Spn} {P : Nat} (hB : Bars bars P) {m : Nat} (hm : m < P) (hleast : ∀ k : Nat, Conn bars (m : Int) (k : Int) → m ≤ k) :
    ∀ r, (∀ k : Nat, Conn bars (m : Int) (k : Int) → roundsTo bars r k = m) ∨ r + 1 ≤ cnt (fun k => roundsTo bars r k == m) P
  | 0 => by
    right
    have : ∀ n, m < n → 1 ≤ cnt (fun k => roundsTo bars 0 k == m) n := fun n => by
      induction n with
      | zero => intro h; omega
      | succ n ih =>
        intro h
        unfold cnt
        by_cases e : n = m
        · subst e; simp [roundsTo]
        · have := ih (by omega); omega
    exact this P hm
  | r + 1 => by
    have down : ∀ k : Nat, k < P → Conn bars (m : Int) (k : Int) → m ≤ roundsTo bars (r + 1) k := fun k hk hc => by
      have := (Lab.rounds hB (r + 1)) k hk
      exact hleast _ (hc.trans this.2.symm)
    have keep : ∀ k : Nat, k < P → roundsTo bars r k = m → roundsTo bars (r + 1) k = m := fun k hk e => by
      have h1 := roundsTo_mono bars k r (r + 1) (by omega)
      have h2 := (Lab.rounds hB r) k hk
      rw [e] at h2
      have := down k hk h2.2
      omega
    rcases rounds_reach hB hm hleast r with h | h
    · left
      intro k hc
      have hk := conn_range hB hc (by omega)
      exact keep k (by omega) (h k hc)
    · -- either the labelled knots are closed along bars, or one more is labelled
      by_cases hcl : ∀ i, i < bars.length → (roundsTo bars r (bars.getD i ⟨0, 0⟩).lo.toNat = m ↔ roundsTo bars r (bars.getD i ⟨0, 0⟩).hi.toNat = m)
      · left
        have hself : roundsTo bars r m = m := by
          have h1 := roundsTo_mono bars m 0 r (by omega)
          have h2 := (Lab.rounds hB r) m hm
          have := hleast _ h2.2.symm
          have h3 : roundsTo bars 0 m = m := rfl
          omega
        have all : ∀ b : Int, Conn bars (m : Int) b → roundsTo bars r b.toNat = m := fun b hc => by
          induction hc with
          | refl => simpa using hself
          | step _ hi hj ih =>
            have := hcl _ hi
            rcases hj with ⟨e1, e2⟩ | ⟨e1, e2⟩
            · rw [e1, e2] at this; exact this.1 ih
            · rw [e1, e2] at this; exact this.2 ih
        intro k hc
        have hk := conn_range hB hc (by omega)
        have := all k hc
        exact keep k (by omega) (by simpa using this)
      · right
        have : ∃ i, i < bars.length ∧ ¬ (roundsTo bars r (bars.getD i ⟨0, 0⟩).lo.toNat = m ↔ roundsTo bars r (bars.getD i ⟨0, 0⟩).hi.toNat = m) := by
          apply Classical.byContradiction
          intro hn
          exact hcl fun i hi => Classical.byContradiction fun hne => hn ⟨i, hi, hne⟩
        obtain ⟨i, hi, hne⟩ := this
        have hb := bars_at hB i hi
        have hrb := round_bar (roundsTo bars r) hi
        have hc : Conn bars (bars.getD i ⟨0, 0⟩).lo (bars.getD i ⟨0, 0⟩).hi := Conn.one hi (.inl ⟨rfl, rfl⟩)
        -- the knot that is new
        have : ∃ x : Nat, x < P ∧ roundsTo bars r x ≠ m ∧ roundsTo bars (r + 1) x = m := by
          by_cases e : roundsTo bars r (bars.getD i ⟨0, 0⟩).lo.toNat = m
          · refine ⟨(bars.getD i ⟨0, 0⟩).hi.toNat, by omega, fun e2 => hne ⟨fun _ => e2, fun _ => e⟩, ?_⟩
            have h1 : roundsTo bars (r + 1) (bars.getD i ⟨0, 0⟩).hi.toNat ≤ m := by rw [← e]; exact hrb.2
            have h2 := (Lab.rounds hB r) (bars.getD i ⟨0, 0⟩).lo.toNat (by omega)
            rw [e, show (((bars.getD i ⟨0, 0⟩).lo.toNat : Nat) : Int) = (bars.getD i ⟨0, 0⟩).lo by omega] at h2
            have h3 := down (bars.getD i ⟨0, 0⟩).hi.toNat (by omega) (by rw [show (((bars.getD i ⟨0, 0⟩).hi.toNat : Nat) : Int) = (bars.getD i ⟨0, 0⟩).hi by omega]; exact h2.2.trans hc)
            omega
          · have e2 : roundsTo bars r (bars.getD i ⟨0, 0⟩).hi.toNat = m := by
              apply Classical.byContradiction
              intro e2
              exact hne ⟨fun h => absurd h e, fun h => absurd h e2⟩
            refine ⟨(bars.getD i ⟨0, 0⟩).lo.toNat, by omega, e, ?_⟩
            have h1 : roundsTo bars (r + 1) (bars.getD i ⟨0, 0⟩).lo.toNat ≤ m := by rw [← e2]; exact hrb.1
            have h2 := (Lab.rounds hB r) (bars.getD i ⟨0, 0⟩).hi.toNat (by omega)
            rw [e2, show (((bars.getD i ⟨0, 0⟩).hi.toNat : Nat) : Int) = (bars.getD i ⟨0, 0⟩).hi by omega] at h2
            have h3 := down (bars.getD i ⟨0, 0⟩).lo.toNat (by omega) (by rw [show (((bars.getD i ⟨0, 0⟩).lo.toNat : Nat) : Int) = (bars.getD i ⟨0, 0⟩).lo by omega]; exact h2.2.trans hc.symm)
            omega
        obtain ⟨x, hx, hx1, hx2⟩ := this
        have more : ∀ n, n ≤ P → cnt (fun k => roundsTo bars r k == m) n + (if x < n then 1 else 0) ≤ cnt (fun k => roundsTo bars (r + 1) k == m) n := fun n => by
          induction n with
          | zero => intro _; simp [cnt]
          | succ n ih =>
            intro hn
            have ih := ih (by omega)
            unfold cnt
            by_cases e : x = n
            · subst e
              rw [if_neg (show ¬ x < x by omega)] at ih
              rw [if_pos (show x < x + 1 by omega), if_neg (show ¬ (roundsTo bars r x == m) = true by simpa using hx1), if_pos (show (roundsTo bars (r + 1) x == m) = true by simpa using hx2)]
              omega
            · have : (if x < n + 1 then 1 else 0) = (if x < n then 1 else 0) := by split <;> split <;> omega
              rw [this]
              by_cases e2 : roundsTo bars r n = m
              · rw [if_pos (show (roundsTo bars r n == m) = true by simpa using e2), if_pos (show (roundsTo bars (r + 1) n == m) = true by simpa using keep n (by omega) e2)]; omega
              · rw [if_neg (show ¬ (roundsTo bars r n == m) = true by simpa using e2)]; omega
        have := more P (Nat.le_refl _)
        rw [if_pos hx] at this
        omega
theorem cnt_le' (L : Nat → Bool) : ∀ n, cnt L n ≤ n
  | 0 => Nat.le_refl _
  | n + 1 => by unfold cnt; have := cnt_le' L n; split <;> omega
theorem least_conn {bars : List Spn} {P : Nat} {a : Nat} (ha : a < P) : ∃ m : Nat, m < P ∧ Conn bars (m : Int) (a : Int) ∧ ∀ k : Nat, Conn bars (m : Int) (k : Int) → m ≤ k := by
  have : ∀ n : Nat, ∀ a : Nat, a ≤ n → a < P → ∃ m : Nat, m < P ∧ Conn bars (m : Int) (a : Int) ∧ ∀ k : Nat, Conn bars (m : Int) (k : Int) → m ≤ k := fun n => by
    induction n with
    | zero => intro a h hp; exact ⟨a, hp, .refl, fun k _ => by omega⟩
    | succ n ih =>
      intro a h hp
      by_cases hx : ∃ k : Nat, Conn bars (a : Int) (k : Int) ∧ k < a
      · obtain ⟨k, h1, h2⟩ := hx
        obtain ⟨m, h3, h4, h5⟩ := ih k (by omega) (by omega)
        exact ⟨m, h3, h4.trans h1.symm, h5⟩
      · exact ⟨a, hp, .refl, fun k hk => Nat.le_of_not_lt fun h => hx ⟨k, hk, h⟩⟩
  exact this a a (Nat.le_refl _) ha
/-- After as many rounds as there are knots each label is the least knot that can be come to. -/
theorem lab_within {bars : List Spn} {P : Nat} (hB : Bars bars P) : Within bars (labG bars P) := by
  intro i hi
  have hb := bars_at hB i hi
  have hc : Conn bars (bars.getD i ⟨0, 0⟩).lo (bars.getD i ⟨0, 0⟩).hi := Conn.one hi (.inl ⟨rfl, rfl⟩)
  obtain ⟨m, hm, h1, h2⟩ := least_conn (bars := bars) (P := P) (a := (bars.getD i ⟨0, 0⟩).lo.toNat) (by omega)
  rw [show (((bars.getD i ⟨0, 0⟩).lo.toNat : Nat) : Int) = (bars.getD i ⟨0, 0⟩).lo by omega] at h1
  rcases rounds_reach hB hm h2 P with h | h
  · unfold labG
    rw [h _ (by rw [show (((bars.getD i ⟨0, 0⟩).lo.toNat : Nat) : Int) = (bars.getD i ⟨0, 0⟩).lo by omega]; exact h1), h _ (by rw [show (((bars.getD i ⟨0, 0⟩).hi.toNat : Nat) : Int) = (bars.getD i ⟨0, 0⟩).hi by omega]; exact h1.trans hc)]
  · have := cnt_le' (fun k => roundsTo bars P k == m) P; omega
theorem lab_conn {bars : List Spn} {P : Nat} (hB : Bars bars P) (i j : Nat) (hi : i < bars.length) (hj : j < bars.length) (h : labG bars P (bars.getD i ⟨0, 0⟩).lo = labG bars P (bars.getD j ⟨0, 0⟩).lo) : Conn bars (bars.getD i ⟨0, 0⟩).lo (bars.getD j ⟨0, 0⟩).lo := by
  have h1 := bars_at hB i hi
  have h2 := bars_at hB j hj
  have l1 := (Lab.rounds hB P) (bars.getD i ⟨0, 0⟩).lo.toNat (by omega)
  have l2 := (Lab.rounds hB P) (bars.getD j ⟨0, 0⟩).lo.toNat (by omega)
  rw [show (((bars.getD i ⟨0, 0⟩).lo.toNat : Nat) : Int) = (bars.getD i ⟨0, 0⟩).lo by omega] at l1
  rw [show (((bars.getD j ⟨0, 0⟩).lo.toNat : Nat) : Int) = (bars.getD j ⟨0, 0⟩).lo by omega] at l2
  unfold labG at h
  rw [h] at l1
  exact l1.2.symm.trans l2.2
/-- The number of pieces of the program is that which the labels tell. -/
theorem mend_labels {bars : List Spn} {P : Nat} (hB : Bars bars P) (hlen : bars.length + P ≤ 96) :
    ∃ qs, (mendTo (handTo bars P P) P (P + 1)).2 = qs.map (·.1) ∧ Mends bars qs ∧ qs.length = fewest bars (labG bars P) P P :=
  mend_spec hB hlen (lab_within hB) (fun k hk => ((Lab.rounds hB P) k hk).1) (lab_conn hB)

end Tw
end Go.Proofs.Ytmjelgonhpgmbaa
