/- NetsKnown: the walk. -/
import Derived.Test.YtmjelgonhpgmbaaMX
import Derived.Test.YtmjelgonhpgmbaaInv
set_option linter.unusedSimpArgs false
set_option linter.unusedVariables false
namespace Go.Proofs.Ytmjelgonhpgmbaa
open Go Go.RowKit Go.Shelf

theorem cells_ne : ¬ (some (Obj.cells northC 56 (0, 0)) = some (Obj.cells eastC 56 (0, 0))) := fun h => by
  have h1 : northC = eastC := by injection h with h; injection h
  have h2 := congrArg (fun a : Array Value => a[0]?) h1
  simp [northC, eastC] at h2
theorem cells_ne2 : ¬ (some (Obj.cells shotC 58 (0, 0)) = some (Obj.cells eastC 56 (0, 0))) := fun h => by
  injection h with h; injection h with _ h; cases h
theorem cells_ne3 : ¬ (some (Obj.cells shotC 58 (0, 0)) = some (Obj.cells northC 56 (0, 0))) := fun h => by
  injection h with h; injection h with _ h; cases h
def kn0 : FleetD := ⟨[], [], 0, []⟩
def kn1 : FleetD := { exF with north := [⟨0, 0⟩, ⟨0, 0⟩] }
def kn2 : FleetD := { exF with east := [⟨10, 20⟩, ⟨20, 10⟩, ⟨10, 20⟩] }
def kn3 : FleetD := { exF with gap := 501 }
def kn4 : FleetD := { exF with nets := [] }
def kn5 : FleetD := { exF with nets := [⟨0, 0, 100, 2, 0, 3, ⟨0, 0⟩, ⟨0, 0⟩⟩, ⟨25, 0, 100, 1, 1, 3, ⟨0, 0⟩, ⟨0, 0⟩⟩] }
def kn6 : FleetD := { exF with nets := [⟨0, 0, 100, 1, 0, 3, ⟨0, 0⟩, ⟨0, 0⟩⟩, ⟨25, 0, 100, 1, 3, 3, ⟨0, 0⟩, ⟨0, 0⟩⟩] }
def kn7 : FleetD := { exF with nets := [⟨0, 0, 100, 1, 0, 3, ⟨0, 0⟩, ⟨0, 0⟩⟩, ⟨25, 0, 100, 1, 1, 0, ⟨0, 0⟩, ⟨0, 0⟩⟩] }
def kn8 : FleetD := { exF with nets := [⟨0, 0, 100, 1, 0, 3, ⟨0, 0⟩, ⟨-51, 0⟩⟩, ⟨25, 0, 100, 1, 1, 3, ⟨0, 0⟩, ⟨0, 0⟩⟩] }
def knL (i : Nat) : FleetD := match i with
  | 0 => kn0
  | 1 => kn1
  | 2 => kn2
  | 3 => kn3
  | 4 => kn4
  | 5 => kn5
  | 6 => kn6
  | 7 => kn7
  | _ => kn8
theorem nine {i : Nat} (h : i < 9) : i = 0 ∨ i = 1 ∨ i = 2 ∨ i = 3 ∨ i = 4 ∨ i = 5 ∨ i = 6 ∨ i = 7 ∨ i = 8 := by omega
theorem kn_bad {i : Nat} (h : i < 9) : fleetB (knL i) = false := by
  rcases nine h with rfl | rfl | rfl | rfl | rfl | rfl | rfl | rfl | rfl <;> kernel_rfl
def nilT : TruthD := ⟨[], [], [], []⟩
theorem nil_tr (w : World) : TrAt w (.agg #[.slice none 0 0, .slice none 0 0, .slice none 0 0, .slice none 0 0]) nilT := ⟨_, _, _, _, rfl, ints_nil w, ints_nil w, ints_nil w, ints_nil w⟩
theorem spans_nil (w : World) : SpansAt w (.slice none 0 0) [] := ⟨none, 0, rfl, by simp, fun i h => absurd h (by simp)⟩
theorem shots_nil (w : World) : ShotsAt w (.slice none 0 0) [] := ⟨none, 0, rfl, by simp, fun i h => absurd h (by simp)⟩
theorem bad_lies {F : FleetD} (h : fleetB F = false) (T : TruthD) (i k : Int) : liesVe F T i k = 0 ∧ liesVn F T i k = 0 ∧ liesE F T i k = 20 := by
  have he : liesE F T i k = 20 := by unfold liesE; rw [h]; rfl
  exact ⟨by unfold liesVe; rw [he]; rfl, by unfold liesVn; rw [he]; rfl, he⟩
theorem bad_fouls {F : FleetD} (h : fleetB F = false) (T : TruthD) : foulsV F T = #[.int .i64 0, .int .i64 0, .int .i64 0] ∧ foulsE F T = 20 := by
  unfold foulsV foulsE; rw [h]; exact ⟨rfl, rfl⟩
theorem bad_apart {F : FleetD} (h : fleetB F = false) (i k t : Int) : apartVe F i k t = ⟨0, 0⟩ ∧ apartVn F i k t = ⟨0, 0⟩ ∧ apartE F i k t = 20 := by
  have he : apartE F i k t = 20 := by unfold apartE; rw [h]; rfl
  exact ⟨by unfold apartVe; rw [he]; rfl, by unfold apartVn; rw [he]; rfl, he⟩
theorem bad_shift {F : FleetD} (h : fleetB F = false) (i m : Int) : shiftV F i m = 0 ∧ shiftE F i m = 20 := by
  have he : shiftE F i m = 20 := by unfold shiftE; rw [h]; rfl
  exact ⟨by unfold shiftV; rw [he]; rfl, he⟩
theorem size54 : (Try.prog.info? 54).map (·.size) = some 2 := by kernel_rfl
theorem size43 : (Try.prog.info? 43).map (·.size) = some 3 := by kernel_rfl
theorem size56 : (Try.prog.info? 56).map (·.size) = some 2 := by kernel_rfl
def kT1 : TruthD := ⟨[10, 10, 10], [0, 0, 0], [0, 0], [0]⟩
def kT2 : TruthD := ⟨[10, 10, 21], [0, 0, 0], [0, 0], [0, 0]⟩
def kT3 : TruthD := ⟨[10, 10, 10], [0, 0, 0], [0, 0], [0, 0]⟩
theorem k22 (fv tv : Value) (u : World) (hf : FlAt u fv exF) (ht : TrAt u tv kT1) : Cal 29 #[fv, tv, .int .i64 (-1), .int .i64 0] u fun e w' => e = .returned (.tuple #[.agg #[.int .i64 0, .int .i64 0], .int .i64 21]) ∧ Ext u w' := by
  have h := Lies_c exF kT1 fv tv (-1) 0 u hf ht
  rw [show liesVe exF kT1 (-1) 0 = 0 by kernel_rfl, show liesVn exF kT1 (-1) 0 = 0 by kernel_rfl, show liesE exF kT1 (-1) 0 = 21 by kernel_rfl] at h
  exact h
theorem k23 (fv tv : Value) (u : World) (hf : FlAt u fv exF) (ht : TrAt u tv kT2) : Cal 29 #[fv, tv, .int .i64 0, .int .i64 0] u fun e w' => e = .returned (.tuple #[.agg #[.int .i64 0, .int .i64 0], .int .i64 21]) ∧ Ext u w' := by
  have h := Lies_c exF kT2 fv tv 0 0 u hf ht
  rw [show liesVe exF kT2 0 0 = 0 by kernel_rfl, show liesVn exF kT2 0 0 = 0 by kernel_rfl, show liesE exF kT2 0 0 = 21 by kernel_rfl] at h
  exact h
theorem k24 (fv tv : Value) (u : World) (hf : FlAt u fv exF) (ht : TrAt u tv kT3) : Cal 29 #[fv, tv, .int .i64 1, .int .i64 0] u fun e w' => e = .returned (.tuple #[.agg #[.int .i64 0, .int .i64 0], .int .i64 22]) ∧ Ext u w' := by
  have h := Lies_c exF kT3 fv tv 1 0 u hf ht
  rw [show liesVe exF kT3 1 0 = 0 by kernel_rfl, show liesVn exF kT3 1 0 = 0 by kernel_rfl, show liesE exF kT3 1 0 = 22 by kernel_rfl] at h
  exact h
theorem k25 (fv tv : Value) (u : World) (hf : FlAt u fv exF) (ht : TrAt u tv kT3) : Cal 29 #[fv, tv, .int .i64 2, .int .i64 1] u fun e w' => e = .returned (.tuple #[.agg #[.int .i64 0, .int .i64 0], .int .i64 22]) ∧ Ext u w' := by
  have h := Lies_c exF kT3 fv tv 2 1 u hf ht
  rw [show liesVe exF kT3 2 1 = 0 by kernel_rfl, show liesVn exF kT3 2 1 = 0 by kernel_rfl, show liesE exF kT3 2 1 = 22 by kernel_rfl] at h
  exact h
theorem k26 (fv tv : Value) (u : World) (hf : FlAt u fv exF) (ht : TrAt u tv kT3) : Cal 29 #[fv, tv, .int .i64 0, .int .i64 4] u fun e w' => e = .returned (.tuple #[.agg #[.int .i64 0, .int .i64 0], .int .i64 22]) ∧ Ext u w' := by
  have h := Lies_c exF kT3 fv tv 0 4 u hf ht
  rw [show liesVe exF kT3 0 4 = 0 by kernel_rfl, show liesVn exF kT3 0 4 = 0 by kernel_rfl, show liesE exF kT3 0 4 = 22 by kernel_rfl] at h
  exact h
theorem k27 (fv tv : Value) (u : World) (hf : FlAt u fv exF) (ht : TrAt u tv kT3) : Cal 24 #[fv, tv] u fun e w' => e = .returned (.tuple #[.agg #[.int .i64 0, .int .i64 0, .int .i64 0], .int .i64 4]) ∧ Ext u w' := by
  have h := Fouls_c exF kT3 fv tv u hf ht
  rw [show foulsV exF kT3 = #[.int .i64 0, .int .i64 0, .int .i64 0] by kernel_rfl, show foulsE exF kT3 = 4 by kernel_rfl] at h
  exact h
theorem k28 (fv : Value) (u : World) (hf : FlAt u fv exF) : Cal 28 #[fv, .int .i64 0, .int .i64 0, .int .i64 1] u fun e w' => e = .returned (.tuple #[.agg #[.int .i64 0, .int .i64 0], .agg #[.int .i64 0, .int .i64 0], .int .i64 22]) ∧ Ext u w' := by
  have h := Apart_c exF fv 0 0 1 u hf
  rw [show apartVe exF 0 0 1 = ⟨0, 0⟩ by kernel_rfl, show apartVn exF 0 0 1 = ⟨0, 0⟩ by kernel_rfl, show apartE exF 0 0 1 = 22 by kernel_rfl] at h
  exact h
theorem k29 (fv : Value) (u : World) (hf : FlAt u fv exF) : Cal 28 #[fv, .int .i64 0, .int .i64 1, .int .i64 0] u fun e w' => e = .returned (.tuple #[.agg #[.int .i64 0, .int .i64 0], .agg #[.int .i64 0, .int .i64 0], .int .i64 22]) ∧ Ext u w' := by
  have h := Apart_c exF fv 0 1 0 u hf
  rw [show apartVe exF 0 1 0 = ⟨0, 0⟩ by kernel_rfl, show apartVn exF 0 1 0 = ⟨0, 0⟩ by kernel_rfl, show apartE exF 0 1 0 = 22 by kernel_rfl] at h
  exact h
theorem k62 (fv : Value) (u : World) (hf : FlAt u fv exF) : Cal 28 #[fv, .int .i64 0, .int .i64 1, .int .i64 1] u fun e w' => e = .returned (.tuple #[.agg #[.int .i64 (-15), .int .i64 (-5)], .agg #[.int .i64 0, .int .i64 0], .int .i64 0]) ∧ Ext u w' := by
  have h := Apart_c exF fv 0 1 1 u hf
  rw [show apartVe exF 0 1 1 = ⟨-15, -5⟩ by kernel_rfl, show apartVn exF 0 1 1 = ⟨0, 0⟩ by kernel_rfl, show apartE exF 0 1 1 = 0 by kernel_rfl] at h
  exact h
theorem k30 (fv : Value) (u : World) (hf : FlAt u fv exD) : Cal 21 #[fv] u fun e w' => e = .returned (.tuple #[.agg #[.int .i64 0, .int .i64 0, .int .i64 0], .int .i64 4]) ∧ Ext u w' := by
  have h := Can_c exD fv u hf
  rw [show canV exD = #[.int .i64 0, .int .i64 0, .int .i64 0] by kernel_rfl, show canE exD = 4 by kernel_rfl] at h
  exact h
theorem k31 (fv : Value) (u : World) (hf : FlAt u fv exF) : Cal 33 #[fv, .int .i64 0, .int .i64 5001] u fun e w' => e = .returned (.tuple #[.int .i64 0, .int .i64 22]) ∧ Ext u w' := by
  have h := Shift_c exF fv 0 5001 u hf
  rw [show shiftV exF 0 5001 = 0 by kernel_rfl, show shiftE exF 0 5001 = 22 by kernel_rfl] at h
  exact h
theorem k32 (fv : Value) (u : World) (hf : FlAt u fv exF) : Cal 33 #[fv, .int .i64 0, .int .i64 20] u fun e w' => e = .returned (.tuple #[.int .i64 0, .int .i64 4]) ∧ Ext u w' := by
  have h := Shift_c exF fv 0 20 u hf
  rw [show shiftV exF 0 20 = 0 by kernel_rfl, show shiftE exF 0 20 = 4 by kernel_rfl] at h
  exact h
theorem k63 (fv : Value) (u : World) (hf : FlAt u fv exF) : Cal 33 #[fv, .int .i64 0, .int .i64 100] u fun e w' => e = .returned (.tuple #[.int .i64 21, .int .i64 0]) ∧ Ext u w' := by
  have h := Shift_c exF fv 0 100 u hf
  rw [show shiftV exF 0 100 = 21 by kernel_rfl, show shiftE exF 0 100 = 0 by kernel_rfl] at h
  exact h

/-- A truth that is read, a fleet that is made and a box that is filled, in any order. -/
def K22 (w0 : World) : InvJ := fun L x u => Ext w0 u ∧ (L 0 = true → L 2 = false → FlAt u (x 0) exF) ∧
  (L 6 = true → ∃ g, x 6 = .pointer (some ⟨g, 0, none⟩) ∧ w0.heap.size ≤ g ∧ u.heap[g]? = some (.cells #[.int .i64 0, .int .i64 0] 54 (0, 0))) ∧ (L 3 = true → L 2 = true) ∧ (L 4 = true → L 2 = true)
theorem K22_start (w0 : World) : K22 w0 (fun _ => false) (fun _ => undef) { w0 with drawn := w0.drawn + 1 } := ⟨Ext.drawn _, (fun h => by cases h), (fun h => by cases h), (fun h => by cases h), fun h => by cases h⟩
section
variable {w0 u u' : World} {L : Nat → Bool} {x : Nat → Value}
theorem K22_fleet (h : K22 w0 L x u) (hx : Ext u u') {v : Value} (hf : FlAt u' v exF) : K22 w0 (updL L 0) (updX x 0 v) u' :=
  ⟨h.1.trans hx, fun _ _ => hf, fun q => by obtain ⟨g, h1, h2, h3⟩ := h.2.2.1 q; exact ⟨g, h1, h2, hx.block h3⟩, h.2.2.2.1, h.2.2.2.2⟩
theorem K22_lies (h : K22 w0 L x u) (hx : Ext u u') : K22 w0 (updL L 2) x u' :=
  ⟨h.1.trans hx, (fun _ q => by cases q), fun q => by obtain ⟨g, h1, h2, h3⟩ := h.2.2.1 q; exact ⟨g, h1, h2, hx.block h3⟩, fun _ => rfl, fun _ => rfl⟩
theorem K22_box (h : K22 w0 L x u) : K22 w0 (updL L 6) (updX x 6 (.pointer (some ⟨u.heap.size, 0, none⟩))) (u.alloc (.cells #[.int .i64 0, .int .i64 0] 54)) := by
  have hx : Ext u (u.alloc (.cells #[.int .i64 0, .int .i64 0] 54)) := (Ext.refl _).alloc _
  exact ⟨h.1.trans hx, fun q r => (h.2.1 q r).mono hx, fun _ => ⟨_, rfl, h.1.size, Ext.new (Ext.refl _)⟩, h.2.2.2.1, h.2.2.2.2⟩
theorem K22_fill (h : K22 w0 L x u) (h4 : L 4 = true) {g : Nat} (hg : w0.heap.size ≤ g) (hx : x 6 = .pointer (some ⟨g, 0, none⟩)) (hb : u.heap[g]? = some (.cells #[.int .i64 0, .int .i64 0] 54 (0, 0))) : K22 w0 (updL L 7) x ((u.setCell ⟨g, 0, none⟩ (.int .i64 0)).setCell ⟨g, 1, none⟩ (.int .i64 0)) := by
  have hk := set_same (set_same hb 0 (.int .i64 0)) 1 (.int .i64 0)
  simp only [List.setIfInBounds_toArray, List.set_cons_succ, List.set_cons_zero] at hk
  refine ⟨(h.1.set hg 0 _).set hg 1 _, fun _ q => ?_, fun _ => ⟨g, hx, hg, hk⟩, h.2.2.2.1, h.2.2.2.2⟩
  rw [show (updL L 7) 2 = L 2 from rfl, h.2.2.2.2 h4] at q; cases q
end
theorem ints3 {w : World} {v : Value} {a b c : Int} (h : IntsAt w v [a, b, c]) : ∃ x y, v = .slice x 3 y := by
  obtain ⟨x, y, rfl, _⟩ := h; exact ⟨x, y, rfl⟩
theorem ints2 {w : World} {v : Value} {a b : Int} (h : IntsAt w v [a, b]) : ∃ x y, v = .slice x 2 y := by
  obtain ⟨x, y, rfl, _⟩ := h; exact ⟨x, y, rfl⟩
theorem size50 : (Try.prog.info? 50).map (·.size) = some 4 := by kernel_rfl

def tn0 : TornD := ⟨0, 0, [], 0, 0⟩
def tn1 : TornD := ⟨3, 2, bars3 ++ [⟨1, 0⟩], 10, 3⟩
def tn2 : TornD := ⟨3, 2, bars3 ++ [⟨2, 3⟩], 10, 3⟩
def tn3 : TornD := ⟨3, 2, bars3 ++ [⟨1, 2⟩], 10, 3⟩
def tn4 : TornD := ⟨3, 2, bars3 ++ [⟨5, 8⟩], 10, 3⟩
def tn5 : TornD := ⟨3, 2, bars3, 0, 3⟩
def tn6 : TornD := ⟨3, 2, bars3, 10, 101⟩
def tn7 : TornD := ⟨7, 2, bars3, 10, 3⟩
def tnL (i : Nat) : TornD := match i with
  | 0 => tn0
  | 1 => tn1
  | 2 => tn2
  | 3 => tn3
  | 4 => tn4
  | 5 => tn5
  | 6 => tn6
  | _ => tn7
theorem eight {i : Nat} (h : i < 8) : i = 0 ∨ i = 1 ∨ i = 2 ∨ i = 3 ∨ i = 4 ∨ i = 5 ∨ i = 6 ∨ i = 7 := by omega
theorem tn_bad {i : Nat} (h : i < 8) : tornB (tnL i) = false := by
  rcases eight h with rfl | rfl | rfl | rfl | rfl | rfl | rfl | rfl <;> kernel_rfl
theorem torn_bad {T : TornD} (h : tornB T = false) (ps : List (List Int)) : tornE T = 23 ∧ twineV T = 0 ∧ mendE T = 23 ∧ isTw T ps = 0 ∧ isV T ps = false := by
  have h1 : isV T ps = false := by unfold isV; rw [h]; rfl
  exact ⟨by unfold tornE; rw [h]; rfl, by unfold twineV; rw [h]; rfl, by unfold mendE; rw [h]; rfl, by unfold isTw; rw [if_neg (by rw [h1]; exact Bool.false_ne_true)], h1⟩
theorem pieces_nil (u : World) : PiecesAt u (.slice none 0 0) [] := ⟨none, 0, rfl, by simp, fun i h => absurd h (by simp)⟩
theorem spans_form {w : World} {v : Value} {l : List Spn} (h : SpansAt w v l) : ∃ a c, v = .slice a l.length c := by
  obtain ⟨a, c, rfl, _⟩ := h; exact ⟨a, c, rfl⟩
theorem pieces_new {W : World} {g n : Nat} {cs : Array Value} {ps : List (List Int)} (hg : W.heap[g]? = some (.cells cs 41 (0, 0))) (hn : ps.length = n) (hm : n ≤ 1000) (hp : ∀ i (h : i < ps.length), ∃ pv, cs[i]? = some pv ∧ IntsAt W pv ps[i]) : PiecesAt W (.slice (some ⟨g, 0, none⟩) n n) ps := by
  refine ⟨_, n, by rw [hn], by omega, fun i hi => ?_⟩
  obtain ⟨pv, h1, h2⟩ := hp i hi
  exact ⟨g, 0, pv, rfl, lt_of_block hg, by rw [cell_of hg, Nat.zero_add]; exact h1, h2⟩
def wrL (i : Nat) : List (List Int) := match i with
  | 0 => []
  | 1 => [[0, 1, 2]]
  | 2 => [[0, 1, 2], [1, 4], [1]]
  | 3 => [[0, 1, 2, 1, 4]]
  | 4 => [[0, 1, 2], [4, 3]]
  | _ => [[0, 1, 2], [1, 4, 1]]
theorem six {i : Nat} (h : i < 6) : i = 0 ∨ i = 1 ∨ i = 2 ∨ i = 3 ∨ i = 4 ∨ i = 5 := by omega
theorem wr_bad {i : Nat} (h : i < 6) : isTw exN (wrL i) = 0 ∧ isV exN (wrL i) = false ∧ tornE exN = 0 := by
  rcases six h with rfl | rfl | rfl | rfl | rfl | rfl <;> exact ⟨by kernel_rfl, by kernel_rfl, by kernel_rfl⟩
def kTn (v : Value) (u : World) : Prop := TnAt u v exN
theorem kTn_s : ∀ v u u', kTn v u → Ext u u' → kTn v u' := fun _ _ _ h hx => TnAt.mono h hx
def exB : TornD := ⟨3, 2, [], 10, 3⟩
def exQ : TornD := ⟨3, 2, [⟨0, 1⟩, ⟨1, 4⟩, ⟨3, 4⟩, ⟨0, 3⟩], 10, 3⟩
theorem ex_blank : mendE exB = 4 ∧ tornE exB = 0 ∧ twineV exB = 0 ∧ isTw exB [] = 0 ∧ isV exB [] = true := ⟨by kernel_rfl, by kernel_rfl, by kernel_rfl, by kernel_rfl, by kernel_rfl⟩
theorem ex_square : twineV exQ = 46 ∧ tornE exQ = 0 := ⟨by kernel_rfl, by kernel_rfl⟩
theorem size24 : (Try.prog.info? 24).map (·.size) = some 5 := by kernel_rfl

set_option maxRecDepth 100000 in
set_option maxHeartbeats 64000000 in
theorem NetsKnown_any (w : World) : Cal 11 #[] w fun e w' => e = .returned (.bool true) ∧ Ext w w' := by
  gi_enter Try.func11, Try.ntmps11
  gi_upto_region 2 with (first | (have _ := hx7; gi_at_call 40; ((with_reducible refine (fleet_any _).mono ?_); rintro e w8 ⟨_, rfl, hx8, a8, b8, s8, rfl, ha8, hb8, hs8, la8, lb8, ls8⟩)) | (have _ := hx6; gi_at_call 40; ((with_reducible refine (fleet_any _).mono ?_); rintro e w7 ⟨_, rfl, hx7, a7, b7, s7, rfl, ha7, hb7, hs7, la7, lb7, ls7⟩)) | (have _ := hx5; gi_at_call 40; ((with_reducible refine (fleet_any _).mono ?_); rintro e w6 ⟨_, rfl, hx6, a6, b6, s6, rfl, ha6, hb6, hs6, la6, lb6, ls6⟩)) | (have _ := hx4; gi_at_call 40; ((with_reducible refine (fleet_any _).mono ?_); rintro e w5 ⟨_, rfl, hx5, a5, b5, s5, rfl, ha5, hb5, hs5, la5, lb5, ls5⟩)) | (have _ := hx3; gi_at_call 40; ((with_reducible refine (fleet_any _).mono ?_); rintro e w4 ⟨_, rfl, hx4, a4, b4, s4, rfl, ha4, hb4, hs4, la4, lb4, ls4⟩)) | (have _ := hx2; gi_at_call 40; ((with_reducible refine (fleet_any _).mono ?_); rintro e w3 ⟨_, rfl, hx3, a3, b3, s3, rfl, ha3, hb3, hs3, la3, lb3, ls3⟩)) | (have _ := hx1; gi_at_call 40; ((with_reducible refine (fleet_any _).mono ?_); rintro e w2 ⟨_, rfl, hx2, a2, b2, s2, rfl, ha2, hb2, hs2, la2, lb2, ls2⟩)) | (gi_at_call 40; ((with_reducible refine (fleet_any _).mono ?_); rintro e w1 ⟨_, rfl, hx1, a1, b1, s1, rfl, ha1, hb1, hs1, la1, lb1, ls1⟩)))
  have hG : (w8.alloc (.cells #[.slice none 0 0, .slice none 0 0, .int .i64 0, .slice none 0 0, .slice (some ⟨a1, 0, none⟩) 3 3, .slice (some ⟨b1, 0, none⟩) 3 3, .int .i64 5, .slice (some ⟨s1, 0, none⟩) 2 2, .slice (some ⟨a2, 0, none⟩) 3 3, .slice (some ⟨b2, 0, none⟩) 3 3, .int .i64 5, .slice (some ⟨s2, 0, none⟩) 2 2, .slice (some ⟨a3, 0, none⟩) 3 3, .slice (some ⟨b3, 0, none⟩) 3 3, .int .i64 5, .slice (some ⟨s3, 0, none⟩) 2 2, .slice (some ⟨a4, 0, none⟩) 3 3, .slice (some ⟨b4, 0, none⟩) 3 3, .int .i64 5, .slice (some ⟨s4, 0, none⟩) 2 2, .slice (some ⟨a5, 0, none⟩) 3 3, .slice (some ⟨b5, 0, none⟩) 3 3, .int .i64 5, .slice (some ⟨s5, 0, none⟩) 2 2, .slice (some ⟨a6, 0, none⟩) 3 3, .slice (some ⟨b6, 0, none⟩) 3 3, .int .i64 5, .slice (some ⟨s6, 0, none⟩) 2 2, .slice (some ⟨a7, 0, none⟩) 3 3, .slice (some ⟨b7, 0, none⟩) 3 3, .int .i64 5, .slice (some ⟨s7, 0, none⟩) 2 2, .slice (some ⟨a8, 0, none⟩) 3 3, .slice (some ⟨b8, 0, none⟩) 3 3, .int .i64 5, .slice (some ⟨s8, 0, none⟩) 2 2] 40)).heap[w8.heap.size]? = some (.cells #[.slice none 0 0, .slice none 0 0, .int .i64 0, .slice none 0 0, .slice (some ⟨a1, 0, none⟩) 3 3, .slice (some ⟨b1, 0, none⟩) 3 3, .int .i64 5, .slice (some ⟨s1, 0, none⟩) 2 2, .slice (some ⟨a2, 0, none⟩) 3 3, .slice (some ⟨b2, 0, none⟩) 3 3, .int .i64 5, .slice (some ⟨s2, 0, none⟩) 2 2, .slice (some ⟨a3, 0, none⟩) 3 3, .slice (some ⟨b3, 0, none⟩) 3 3, .int .i64 5, .slice (some ⟨s3, 0, none⟩) 2 2, .slice (some ⟨a4, 0, none⟩) 3 3, .slice (some ⟨b4, 0, none⟩) 3 3, .int .i64 5, .slice (some ⟨s4, 0, none⟩) 2 2, .slice (some ⟨a5, 0, none⟩) 3 3, .slice (some ⟨b5, 0, none⟩) 3 3, .int .i64 5, .slice (some ⟨s5, 0, none⟩) 2 2, .slice (some ⟨a6, 0, none⟩) 3 3, .slice (some ⟨b6, 0, none⟩) 3 3, .int .i64 5, .slice (some ⟨s6, 0, none⟩) 2 2, .slice (some ⟨a7, 0, none⟩) 3 3, .slice (some ⟨b7, 0, none⟩) 3 3, .int .i64 5, .slice (some ⟨s7, 0, none⟩) 2 2, .slice (some ⟨a8, 0, none⟩) 3 3, .slice (some ⟨b8, 0, none⟩) 3 3, .int .i64 5, .slice (some ⟨s8, 0, none⟩) 2 2] 40 (0, 0)) := Ext.new (Ext.refl _)
  have hxw : Ext w8 (w8.alloc (.cells #[.slice none 0 0, .slice none 0 0, .int .i64 0, .slice none 0 0, .slice (some ⟨a1, 0, none⟩) 3 3, .slice (some ⟨b1, 0, none⟩) 3 3, .int .i64 5, .slice (some ⟨s1, 0, none⟩) 2 2, .slice (some ⟨a2, 0, none⟩) 3 3, .slice (some ⟨b2, 0, none⟩) 3 3, .int .i64 5, .slice (some ⟨s2, 0, none⟩) 2 2, .slice (some ⟨a3, 0, none⟩) 3 3, .slice (some ⟨b3, 0, none⟩) 3 3, .int .i64 5, .slice (some ⟨s3, 0, none⟩) 2 2, .slice (some ⟨a4, 0, none⟩) 3 3, .slice (some ⟨b4, 0, none⟩) 3 3, .int .i64 5, .slice (some ⟨s4, 0, none⟩) 2 2, .slice (some ⟨a5, 0, none⟩) 3 3, .slice (some ⟨b5, 0, none⟩) 3 3, .int .i64 5, .slice (some ⟨s5, 0, none⟩) 2 2, .slice (some ⟨a6, 0, none⟩) 3 3, .slice (some ⟨b6, 0, none⟩) 3 3, .int .i64 5, .slice (some ⟨s6, 0, none⟩) 2 2, .slice (some ⟨a7, 0, none⟩) 3 3, .slice (some ⟨b7, 0, none⟩) 3 3, .int .i64 5, .slice (some ⟨s7, 0, none⟩) 2 2, .slice (some ⟨a8, 0, none⟩) 3 3, .slice (some ⟨b8, 0, none⟩) 3 3, .int .i64 5, .slice (some ⟨s8, 0, none⟩) 2 2] 40)) := (Ext.refl _).alloc _
  have e8 := hxw
  have e7 := hx8.trans e8
  have e6 := hx7.trans e7
  have e5 := hx6.trans e6
  have e4 := hx5.trans e5
  have e3 := hx4.trans e4
  have e2 := hx3.trans e3
  have e1 := hx2.trans e2
  have e0 := hx1.trans e1
  have na1 := lt_of_block ha1
  have nb1 := lt_of_block hb1
  have ns1 := lt_of_block hs1
  have HA1 := hid (show _ = some (Obj.cells #[.int .i64 10, .int .i64 20, .int .i64 10, .int .i64 20, .int .i64 10, .int .i64 20] 56 (0, 0)) from e1.block ha1)
  have HB1 := hid (show _ = some (Obj.cells #[.int .i64 0, .int .i64 0, .int .i64 0, .int .i64 0, .int .i64 0, .int .i64 0] 56 (0, 0)) from e1.block hb1)
  have HS1 := hid (show _ = some (Obj.cells #[.int .i64 0, .int .i64 0, .int .i64 100, .int .i64 1, .int .i64 0, .int .i64 3, .int .i64 0, .int .i64 0, .int .i64 0, .int .i64 0, .int .i64 25, .int .i64 0, .int .i64 100, .int .i64 1, .int .i64 1, .int .i64 3, .int .i64 0, .int .i64 0, .int .i64 0, .int .i64 0] 58 (0, 0)) from e1.block hs1)
  have z1 : w.heap.size ≤ w1.heap.size := hx1.size
  have na2 := lt_of_block ha2
  have nb2 := lt_of_block hb2
  have ns2 := lt_of_block hs2
  have HA2 := hid (show _ = some (Obj.cells #[.int .i64 10, .int .i64 20, .int .i64 10, .int .i64 20, .int .i64 10, .int .i64 20] 56 (0, 0)) from e2.block ha2)
  have HB2 := hid (show _ = some (Obj.cells #[.int .i64 0, .int .i64 0, .int .i64 0, .int .i64 0, .int .i64 0, .int .i64 0] 56 (0, 0)) from e2.block hb2)
  have HS2 := hid (show _ = some (Obj.cells #[.int .i64 0, .int .i64 0, .int .i64 100, .int .i64 1, .int .i64 0, .int .i64 3, .int .i64 0, .int .i64 0, .int .i64 0, .int .i64 0, .int .i64 25, .int .i64 0, .int .i64 100, .int .i64 1, .int .i64 1, .int .i64 3, .int .i64 0, .int .i64 0, .int .i64 0, .int .i64 0] 58 (0, 0)) from e2.block hs2)
  have z2 : w1.heap.size ≤ w2.heap.size := hx2.size
  have na3 := lt_of_block ha3
  have nb3 := lt_of_block hb3
  have ns3 := lt_of_block hs3
  have HA3 := hid (show _ = some (Obj.cells #[.int .i64 10, .int .i64 20, .int .i64 10, .int .i64 20, .int .i64 10, .int .i64 20] 56 (0, 0)) from e3.block ha3)
  have HB3 := hid (show _ = some (Obj.cells #[.int .i64 0, .int .i64 0, .int .i64 0, .int .i64 0, .int .i64 0, .int .i64 0] 56 (0, 0)) from e3.block hb3)
  have HS3 := hid (show _ = some (Obj.cells #[.int .i64 0, .int .i64 0, .int .i64 100, .int .i64 1, .int .i64 0, .int .i64 3, .int .i64 0, .int .i64 0, .int .i64 0, .int .i64 0, .int .i64 25, .int .i64 0, .int .i64 100, .int .i64 1, .int .i64 1, .int .i64 3, .int .i64 0, .int .i64 0, .int .i64 0, .int .i64 0] 58 (0, 0)) from e3.block hs3)
  have z3 : w2.heap.size ≤ w3.heap.size := hx3.size
  have na4 := lt_of_block ha4
  have nb4 := lt_of_block hb4
  have ns4 := lt_of_block hs4
  have HA4 := hid (show _ = some (Obj.cells #[.int .i64 10, .int .i64 20, .int .i64 10, .int .i64 20, .int .i64 10, .int .i64 20] 56 (0, 0)) from e4.block ha4)
  have HB4 := hid (show _ = some (Obj.cells #[.int .i64 0, .int .i64 0, .int .i64 0, .int .i64 0, .int .i64 0, .int .i64 0] 56 (0, 0)) from e4.block hb4)
  have HS4 := hid (show _ = some (Obj.cells #[.int .i64 0, .int .i64 0, .int .i64 100, .int .i64 1, .int .i64 0, .int .i64 3, .int .i64 0, .int .i64 0, .int .i64 0, .int .i64 0, .int .i64 25, .int .i64 0, .int .i64 100, .int .i64 1, .int .i64 1, .int .i64 3, .int .i64 0, .int .i64 0, .int .i64 0, .int .i64 0] 58 (0, 0)) from e4.block hs4)
  have z4 : w3.heap.size ≤ w4.heap.size := hx4.size
  have na5 := lt_of_block ha5
  have nb5 := lt_of_block hb5
  have ns5 := lt_of_block hs5
  have HA5 := hid (show _ = some (Obj.cells #[.int .i64 10, .int .i64 20, .int .i64 10, .int .i64 20, .int .i64 10, .int .i64 20] 56 (0, 0)) from e5.block ha5)
  have HB5 := hid (show _ = some (Obj.cells #[.int .i64 0, .int .i64 0, .int .i64 0, .int .i64 0, .int .i64 0, .int .i64 0] 56 (0, 0)) from e5.block hb5)
  have HS5 := hid (show _ = some (Obj.cells #[.int .i64 0, .int .i64 0, .int .i64 100, .int .i64 1, .int .i64 0, .int .i64 3, .int .i64 0, .int .i64 0, .int .i64 0, .int .i64 0, .int .i64 25, .int .i64 0, .int .i64 100, .int .i64 1, .int .i64 1, .int .i64 3, .int .i64 0, .int .i64 0, .int .i64 0, .int .i64 0] 58 (0, 0)) from e5.block hs5)
  have z5 : w4.heap.size ≤ w5.heap.size := hx5.size
  have na6 := lt_of_block ha6
  have nb6 := lt_of_block hb6
  have ns6 := lt_of_block hs6
  have HA6 := hid (show _ = some (Obj.cells #[.int .i64 10, .int .i64 20, .int .i64 10, .int .i64 20, .int .i64 10, .int .i64 20] 56 (0, 0)) from e6.block ha6)
  have HB6 := hid (show _ = some (Obj.cells #[.int .i64 0, .int .i64 0, .int .i64 0, .int .i64 0, .int .i64 0, .int .i64 0] 56 (0, 0)) from e6.block hb6)
  have HS6 := hid (show _ = some (Obj.cells #[.int .i64 0, .int .i64 0, .int .i64 100, .int .i64 1, .int .i64 0, .int .i64 3, .int .i64 0, .int .i64 0, .int .i64 0, .int .i64 0, .int .i64 25, .int .i64 0, .int .i64 100, .int .i64 1, .int .i64 1, .int .i64 3, .int .i64 0, .int .i64 0, .int .i64 0, .int .i64 0] 58 (0, 0)) from e6.block hs6)
  have z6 : w5.heap.size ≤ w6.heap.size := hx6.size
  have na7 := lt_of_block ha7
  have nb7 := lt_of_block hb7
  have ns7 := lt_of_block hs7
  have HA7 := hid (show _ = some (Obj.cells #[.int .i64 10, .int .i64 20, .int .i64 10, .int .i64 20, .int .i64 10, .int .i64 20] 56 (0, 0)) from e7.block ha7)
  have HB7 := hid (show _ = some (Obj.cells #[.int .i64 0, .int .i64 0, .int .i64 0, .int .i64 0, .int .i64 0, .int .i64 0] 56 (0, 0)) from e7.block hb7)
  have HS7 := hid (show _ = some (Obj.cells #[.int .i64 0, .int .i64 0, .int .i64 100, .int .i64 1, .int .i64 0, .int .i64 3, .int .i64 0, .int .i64 0, .int .i64 0, .int .i64 0, .int .i64 25, .int .i64 0, .int .i64 100, .int .i64 1, .int .i64 1, .int .i64 3, .int .i64 0, .int .i64 0, .int .i64 0, .int .i64 0] 58 (0, 0)) from e7.block hs7)
  have z7 : w6.heap.size ≤ w7.heap.size := hx7.size
  have na8 := lt_of_block ha8
  have nb8 := lt_of_block hb8
  have ns8 := lt_of_block hs8
  have HA8 := hid (show _ = some (Obj.cells #[.int .i64 10, .int .i64 20, .int .i64 10, .int .i64 20, .int .i64 10, .int .i64 20] 56 (0, 0)) from e8.block ha8)
  have HB8 := hid (show _ = some (Obj.cells #[.int .i64 0, .int .i64 0, .int .i64 0, .int .i64 0, .int .i64 0, .int .i64 0] 56 (0, 0)) from e8.block hb8)
  have HS8 := hid (show _ = some (Obj.cells #[.int .i64 0, .int .i64 0, .int .i64 100, .int .i64 1, .int .i64 0, .int .i64 3, .int .i64 0, .int .i64 0, .int .i64 0, .int .i64 0, .int .i64 25, .int .i64 0, .int .i64 100, .int .i64 1, .int .i64 1, .int .i64 3, .int .i64 0, .int .i64 0, .int .i64 0, .int .i64 0] 58 (0, 0)) from e8.block hs8)
  have z8 : w7.heap.size ≤ w8.heap.size := hx8.size
  have P0 := hid (show a1 ≠ a2 by omega)
  have P1 := hid (show b1 ≠ a2 by omega)
  have P2 := hid (show s1 ≠ a2 by omega)
  have P5 := hid (show a3 ≠ a2 by omega)
  have P6 := hid (show b3 ≠ a2 by omega)
  have P7 := hid (show s3 ≠ a2 by omega)
  have P8 := hid (show a4 ≠ a2 by omega)
  have P9 := hid (show b4 ≠ a2 by omega)
  have P10 := hid (show s4 ≠ a2 by omega)
  have P11 := hid (show a5 ≠ a2 by omega)
  have P12 := hid (show b5 ≠ a2 by omega)
  have P13 := hid (show s5 ≠ a2 by omega)
  have P14 := hid (show a6 ≠ a2 by omega)
  have P15 := hid (show b6 ≠ a2 by omega)
  have P16 := hid (show s6 ≠ a2 by omega)
  have P17 := hid (show a7 ≠ a2 by omega)
  have P18 := hid (show b7 ≠ a2 by omega)
  have P19 := hid (show s7 ≠ a2 by omega)
  have P20 := hid (show a8 ≠ a2 by omega)
  have P21 := hid (show b8 ≠ a2 by omega)
  have P22 := hid (show s8 ≠ a2 by omega)
  have P23 := hid (show a1 ≠ s5 by omega)
  have P24 := hid (show b1 ≠ s5 by omega)
  have P25 := hid (show s1 ≠ s5 by omega)
  have P26 := hid (show a2 ≠ s5 by omega)
  have P27 := hid (show b2 ≠ s5 by omega)
  have P28 := hid (show s2 ≠ s5 by omega)
  have P29 := hid (show a3 ≠ s5 by omega)
  have P30 := hid (show b3 ≠ s5 by omega)
  have P31 := hid (show s3 ≠ s5 by omega)
  have P32 := hid (show a4 ≠ s5 by omega)
  have P33 := hid (show b4 ≠ s5 by omega)
  have P34 := hid (show s4 ≠ s5 by omega)
  have P37 := hid (show a6 ≠ s5 by omega)
  have P38 := hid (show b6 ≠ s5 by omega)
  have P39 := hid (show s6 ≠ s5 by omega)
  have P40 := hid (show a7 ≠ s5 by omega)
  have P41 := hid (show b7 ≠ s5 by omega)
  have P42 := hid (show s7 ≠ s5 by omega)
  have P43 := hid (show a8 ≠ s5 by omega)
  have P44 := hid (show b8 ≠ s5 by omega)
  have P45 := hid (show s8 ≠ s5 by omega)
  have P46 := hid (show a1 ≠ s6 by omega)
  have P47 := hid (show b1 ≠ s6 by omega)
  have P48 := hid (show s1 ≠ s6 by omega)
  have P49 := hid (show a2 ≠ s6 by omega)
  have P50 := hid (show b2 ≠ s6 by omega)
  have P51 := hid (show s2 ≠ s6 by omega)
  have P52 := hid (show a3 ≠ s6 by omega)
  have P53 := hid (show b3 ≠ s6 by omega)
  have P54 := hid (show s3 ≠ s6 by omega)
  have P55 := hid (show a4 ≠ s6 by omega)
  have P56 := hid (show b4 ≠ s6 by omega)
  have P57 := hid (show s4 ≠ s6 by omega)
  have P58 := hid (show a5 ≠ s6 by omega)
  have P59 := hid (show b5 ≠ s6 by omega)
  have P60 := hid (show s5 ≠ s6 by omega)
  have P63 := hid (show a7 ≠ s6 by omega)
  have P64 := hid (show b7 ≠ s6 by omega)
  have P65 := hid (show s7 ≠ s6 by omega)
  have P66 := hid (show a8 ≠ s6 by omega)
  have P67 := hid (show b8 ≠ s6 by omega)
  have P68 := hid (show s8 ≠ s6 by omega)
  have P69 := hid (show a1 ≠ s7 by omega)
  have P70 := hid (show b1 ≠ s7 by omega)
  have P71 := hid (show s1 ≠ s7 by omega)
  have P72 := hid (show a2 ≠ s7 by omega)
  have P73 := hid (show b2 ≠ s7 by omega)
  have P74 := hid (show s2 ≠ s7 by omega)
  have P75 := hid (show a3 ≠ s7 by omega)
  have P76 := hid (show b3 ≠ s7 by omega)
  have P77 := hid (show s3 ≠ s7 by omega)
  have P78 := hid (show a4 ≠ s7 by omega)
  have P79 := hid (show b4 ≠ s7 by omega)
  have P80 := hid (show s4 ≠ s7 by omega)
  have P81 := hid (show a5 ≠ s7 by omega)
  have P82 := hid (show b5 ≠ s7 by omega)
  have P83 := hid (show s5 ≠ s7 by omega)
  have P84 := hid (show a6 ≠ s7 by omega)
  have P85 := hid (show b6 ≠ s7 by omega)
  have P86 := hid (show s6 ≠ s7 by omega)
  have P89 := hid (show a8 ≠ s7 by omega)
  have P90 := hid (show b8 ≠ s7 by omega)
  have P91 := hid (show s8 ≠ s7 by omega)
  have P92 := hid (show a1 ≠ s8 by omega)
  have P93 := hid (show b1 ≠ s8 by omega)
  have P94 := hid (show s1 ≠ s8 by omega)
  have P95 := hid (show a2 ≠ s8 by omega)
  have P96 := hid (show b2 ≠ s8 by omega)
  have P97 := hid (show s2 ≠ s8 by omega)
  have P98 := hid (show a3 ≠ s8 by omega)
  have P99 := hid (show b3 ≠ s8 by omega)
  have P100 := hid (show s3 ≠ s8 by omega)
  have P101 := hid (show a4 ≠ s8 by omega)
  have P102 := hid (show b4 ≠ s8 by omega)
  have P103 := hid (show s4 ≠ s8 by omega)
  have P104 := hid (show a5 ≠ s8 by omega)
  have P105 := hid (show b5 ≠ s8 by omega)
  have P106 := hid (show s5 ≠ s8 by omega)
  have P107 := hid (show a6 ≠ s8 by omega)
  have P108 := hid (show b6 ≠ s8 by omega)
  have P109 := hid (show s6 ≠ s8 by omega)
  have P110 := hid (show a7 ≠ s8 by omega)
  have P111 := hid (show b7 ≠ s8 by omega)
  have P112 := hid (show s7 ≠ s8 by omega)
  have P115 := hid (show a1 ≠ w8.heap.size by omega)
  have P116 := hid (show b1 ≠ w8.heap.size by omega)
  have P117 := hid (show s1 ≠ w8.heap.size by omega)
  have P118 := hid (show a2 ≠ w8.heap.size by omega)
  have P119 := hid (show b2 ≠ w8.heap.size by omega)
  have P120 := hid (show s2 ≠ w8.heap.size by omega)
  have P121 := hid (show a3 ≠ w8.heap.size by omega)
  have P122 := hid (show b3 ≠ w8.heap.size by omega)
  have P123 := hid (show s3 ≠ w8.heap.size by omega)
  have P124 := hid (show a4 ≠ w8.heap.size by omega)
  have P125 := hid (show b4 ≠ w8.heap.size by omega)
  have P126 := hid (show s4 ≠ w8.heap.size by omega)
  have P127 := hid (show a5 ≠ w8.heap.size by omega)
  have P128 := hid (show b5 ≠ w8.heap.size by omega)
  have P129 := hid (show s5 ≠ w8.heap.size by omega)
  have P130 := hid (show a6 ≠ w8.heap.size by omega)
  have P131 := hid (show b6 ≠ w8.heap.size by omega)
  have P132 := hid (show s6 ≠ w8.heap.size by omega)
  have P133 := hid (show a7 ≠ w8.heap.size by omega)
  have P134 := hid (show b7 ≠ w8.heap.size by omega)
  have P135 := hid (show s7 ≠ w8.heap.size by omega)
  have P136 := hid (show a8 ≠ w8.heap.size by omega)
  have P137 := hid (show b8 ≠ w8.heap.size by omega)
  have P138 := hid (show s8 ≠ w8.heap.size by omega)
  have P139 := hid (show w.heap.size ≤ a2 by omega)
  have P140 := hid (show w.heap.size ≤ s5 by omega)
  have P141 := hid (show w.heap.size ≤ s6 by omega)
  have P142 := hid (show w.heap.size ≤ s7 by omega)
  have P143 := hid (show w.heap.size ≤ s8 by omega)
  have P144 := hid (show w.heap.size ≤ w8.heap.size by omega)
  have da1 : a1 ≠ b1 := fun q => by have h1 := ha1; rw [q, hb1] at h1; exact absurd h1 cells_ne
  have db1 : a1 ≠ s1 := fun q => by have h1 := ha1; rw [q, hs1] at h1; exact absurd h1 cells_ne2
  have dc1 : b1 ≠ s1 := fun q => by have h1 := hb1; rw [q, hs1] at h1; exact absurd h1 cells_ne3
  have da2 : a2 ≠ b2 := fun q => by have h1 := ha2; rw [q, hb2] at h1; exact absurd h1 cells_ne
  have db2 : a2 ≠ s2 := fun q => by have h1 := ha2; rw [q, hs2] at h1; exact absurd h1 cells_ne2
  have dc2 : b2 ≠ s2 := fun q => by have h1 := hb2; rw [q, hs2] at h1; exact absurd h1 cells_ne3
  have da3 : a3 ≠ b3 := fun q => by have h1 := ha3; rw [q, hb3] at h1; exact absurd h1 cells_ne
  have db3 : a3 ≠ s3 := fun q => by have h1 := ha3; rw [q, hs3] at h1; exact absurd h1 cells_ne2
  have dc3 : b3 ≠ s3 := fun q => by have h1 := hb3; rw [q, hs3] at h1; exact absurd h1 cells_ne3
  have da4 : a4 ≠ b4 := fun q => by have h1 := ha4; rw [q, hb4] at h1; exact absurd h1 cells_ne
  have db4 : a4 ≠ s4 := fun q => by have h1 := ha4; rw [q, hs4] at h1; exact absurd h1 cells_ne2
  have dc4 : b4 ≠ s4 := fun q => by have h1 := hb4; rw [q, hs4] at h1; exact absurd h1 cells_ne3
  have da5 : a5 ≠ b5 := fun q => by have h1 := ha5; rw [q, hb5] at h1; exact absurd h1 cells_ne
  have db5 : a5 ≠ s5 := fun q => by have h1 := ha5; rw [q, hs5] at h1; exact absurd h1 cells_ne2
  have dc5 : b5 ≠ s5 := fun q => by have h1 := hb5; rw [q, hs5] at h1; exact absurd h1 cells_ne3
  have da6 : a6 ≠ b6 := fun q => by have h1 := ha6; rw [q, hb6] at h1; exact absurd h1 cells_ne
  have db6 : a6 ≠ s6 := fun q => by have h1 := ha6; rw [q, hs6] at h1; exact absurd h1 cells_ne2
  have dc6 : b6 ≠ s6 := fun q => by have h1 := hb6; rw [q, hs6] at h1; exact absurd h1 cells_ne3
  have da7 : a7 ≠ b7 := fun q => by have h1 := ha7; rw [q, hb7] at h1; exact absurd h1 cells_ne
  have db7 : a7 ≠ s7 := fun q => by have h1 := ha7; rw [q, hs7] at h1; exact absurd h1 cells_ne2
  have dc7 : b7 ≠ s7 := fun q => by have h1 := hb7; rw [q, hs7] at h1; exact absurd h1 cells_ne3
  have da8 : a8 ≠ b8 := fun q => by have h1 := ha8; rw [q, hb8] at h1; exact absurd h1 cells_ne
  have db8 : a8 ≠ s8 := fun q => by have h1 := ha8; rw [q, hs8] at h1; exact absurd h1 cells_ne2
  have dc8 : b8 ≠ s8 := fun q => by have h1 := hb8; rw [q, hs8] at h1; exact absurd h1 cells_ne3
  have P3 := hid (show b2 ≠ a2 from Ne.symm da2)
  have P4 := hid (show s2 ≠ a2 from Ne.symm db2)
  have P35 := hid (show a5 ≠ s5 from db5)
  have P36 := hid (show b5 ≠ s5 from dc5)
  have P61 := hid (show a6 ≠ s6 from db6)
  have P62 := hid (show b6 ≠ s6 from dc6)
  have P87 := hid (show a7 ≠ s7 from db7)
  have P88 := hid (show b7 ≠ s7 from dc7)
  have P113 := hid (show a8 ≠ s8 from db8)
  have P114 := hid (show b8 ≠ s8 from dc8)
  have HX := hid e0
  have HG := hid hG
  clear ha1 hb1 hs1 na1 nb1 ns1 da1 db1 dc1 z1 la1 lb1 ls1 e1 ha2 hb2 hs2 na2 nb2 ns2 da2 db2 dc2 z2 la2 lb2 ls2 e2 ha3 hb3 hs3 na3 nb3 ns3 da3 db3 dc3 z3 la3 lb3 ls3 e3 ha4 hb4 hs4 na4 nb4 ns4 da4 db4 dc4 z4 la4 lb4 ls4 e4 ha5 hb5 hs5 na5 nb5 ns5 da5 db5 dc5 z5 la5 lb5 ls5 e5 ha6 hb6 hs6 na6 nb6 ns6 da6 db6 dc6 z6 la6 lb6 ls6 e6 ha7 hb7 hs7 na7 nb7 ns7 da7 db7 dc7 z7 la7 lb7 ls7 e7 ha8 hb8 hs8 na8 nb8 ns8 da8 db8 dc8 z8 la8 lb8 ls8 e8 e0 hxw hG hx1 hx2 hx3 hx4 hx5 hx6 hx7 hx8
  generalize (w8.alloc (.cells #[.slice none 0 0, .slice none 0 0, .int .i64 0, .slice none 0 0, .slice (some ⟨a1, 0, none⟩) 3 3, .slice (some ⟨b1, 0, none⟩) 3 3, .int .i64 5, .slice (some ⟨s1, 0, none⟩) 2 2, .slice (some ⟨a2, 0, none⟩) 3 3, .slice (some ⟨b2, 0, none⟩) 3 3, .int .i64 5, .slice (some ⟨s2, 0, none⟩) 2 2, .slice (some ⟨a3, 0, none⟩) 3 3, .slice (some ⟨b3, 0, none⟩) 3 3, .int .i64 5, .slice (some ⟨s3, 0, none⟩) 2 2, .slice (some ⟨a4, 0, none⟩) 3 3, .slice (some ⟨b4, 0, none⟩) 3 3, .int .i64 5, .slice (some ⟨s4, 0, none⟩) 2 2, .slice (some ⟨a5, 0, none⟩) 3 3, .slice (some ⟨b5, 0, none⟩) 3 3, .int .i64 5, .slice (some ⟨s5, 0, none⟩) 2 2, .slice (some ⟨a6, 0, none⟩) 3 3, .slice (some ⟨b6, 0, none⟩) 3 3, .int .i64 5, .slice (some ⟨s6, 0, none⟩) 2 2, .slice (some ⟨a7, 0, none⟩) 3 3, .slice (some ⟨b7, 0, none⟩) 3 3, .int .i64 5, .slice (some ⟨s7, 0, none⟩) 2 2, .slice (some ⟨a8, 0, none⟩) 3 3, .slice (some ⟨b8, 0, none⟩) 3 3, .int .i64 5, .slice (some ⟨s8, 0, none⟩) 2 2] 40)) = W0 at *
  generalize w8.heap.size = G at *
  have cG := cell_of HG.out
  have fg := free_of HG.out
  gi_upto_region 3 with fail
  have hn := (set_same HG.out 5 (.slice (some ⟨b1, 0, none⟩) 2 3))
  simp only [List.setIfInBounds_toArray, List.set_cons_succ, List.set_cons_zero] at hn
  have HX := hid (Ext.set HX.out P144.out 5 (.slice (some ⟨b1, 0, none⟩) 2 3))
  have HA1 := hid ((set_other (w := W0) P115.out 5 (.slice (some ⟨b1, 0, none⟩) 2 3)).trans HA1.out)
  have HB1 := hid ((set_other (w := W0) P116.out 5 (.slice (some ⟨b1, 0, none⟩) 2 3)).trans HB1.out)
  have HS1 := hid ((set_other (w := W0) P117.out 5 (.slice (some ⟨b1, 0, none⟩) 2 3)).trans HS1.out)
  have HA2 := hid ((set_other (w := W0) P118.out 5 (.slice (some ⟨b1, 0, none⟩) 2 3)).trans HA2.out)
  have HB2 := hid ((set_other (w := W0) P119.out 5 (.slice (some ⟨b1, 0, none⟩) 2 3)).trans HB2.out)
  have HS2 := hid ((set_other (w := W0) P120.out 5 (.slice (some ⟨b1, 0, none⟩) 2 3)).trans HS2.out)
  have HA3 := hid ((set_other (w := W0) P121.out 5 (.slice (some ⟨b1, 0, none⟩) 2 3)).trans HA3.out)
  have HB3 := hid ((set_other (w := W0) P122.out 5 (.slice (some ⟨b1, 0, none⟩) 2 3)).trans HB3.out)
  have HS3 := hid ((set_other (w := W0) P123.out 5 (.slice (some ⟨b1, 0, none⟩) 2 3)).trans HS3.out)
  have HA4 := hid ((set_other (w := W0) P124.out 5 (.slice (some ⟨b1, 0, none⟩) 2 3)).trans HA4.out)
  have HB4 := hid ((set_other (w := W0) P125.out 5 (.slice (some ⟨b1, 0, none⟩) 2 3)).trans HB4.out)
  have HS4 := hid ((set_other (w := W0) P126.out 5 (.slice (some ⟨b1, 0, none⟩) 2 3)).trans HS4.out)
  have HA5 := hid ((set_other (w := W0) P127.out 5 (.slice (some ⟨b1, 0, none⟩) 2 3)).trans HA5.out)
  have HB5 := hid ((set_other (w := W0) P128.out 5 (.slice (some ⟨b1, 0, none⟩) 2 3)).trans HB5.out)
  have HS5 := hid ((set_other (w := W0) P129.out 5 (.slice (some ⟨b1, 0, none⟩) 2 3)).trans HS5.out)
  have HA6 := hid ((set_other (w := W0) P130.out 5 (.slice (some ⟨b1, 0, none⟩) 2 3)).trans HA6.out)
  have HB6 := hid ((set_other (w := W0) P131.out 5 (.slice (some ⟨b1, 0, none⟩) 2 3)).trans HB6.out)
  have HS6 := hid ((set_other (w := W0) P132.out 5 (.slice (some ⟨b1, 0, none⟩) 2 3)).trans HS6.out)
  have HA7 := hid ((set_other (w := W0) P133.out 5 (.slice (some ⟨b1, 0, none⟩) 2 3)).trans HA7.out)
  have HB7 := hid ((set_other (w := W0) P134.out 5 (.slice (some ⟨b1, 0, none⟩) 2 3)).trans HB7.out)
  have HS7 := hid ((set_other (w := W0) P135.out 5 (.slice (some ⟨b1, 0, none⟩) 2 3)).trans HS7.out)
  have HA8 := hid ((set_other (w := W0) P136.out 5 (.slice (some ⟨b1, 0, none⟩) 2 3)).trans HA8.out)
  have HB8 := hid ((set_other (w := W0) P137.out 5 (.slice (some ⟨b1, 0, none⟩) 2 3)).trans HB8.out)
  have HS8 := hid ((set_other (w := W0) P138.out 5 (.slice (some ⟨b1, 0, none⟩) 2 3)).trans HS8.out)
  have HG := hid hn
  clear hn fg cG
  generalize (W0.setCell ⟨G, 5, none⟩ (.slice (some ⟨b1, 0, none⟩) 2 3)) = W1 at *
  have HTO := hid (fun u => to_any 20 10 u)
  refine quiet_wide 6 (by kernel_rfl) (by kernel_rfl) ?_
  simp only [List.take_succ_cons, List.take_zero, List.drop_succ_cons, List.drop_zero]
  have q0 := fun e : Later W1 => cell_of (Ext.block e.grown HG.out)
  repeat (any_goals (first | go_big_quiet_step ((first | (go_at_call 31; with_reducible exact Cal.quiet (HTO.out _)))) | quiet_step ((first | (go_at_call 31; with_reducible exact Cal.quiet (HTO.out _))))))
  refine wpQuiet_nil ?_
  rintro V2 ⟨⟨V2q, hxq⟩, heV2⟩
  obtain rfl : V2 = V2q := heV2
  have hxq : Ext W1 V2 := hxq
  clear q0
  have HX := hid (HX.out.trans hxq)
  have HG := hid (hxq.block HG.out)
  have HA1 := hid (hxq.block HA1.out)
  have HB1 := hid (hxq.block HB1.out)
  have HS1 := hid (hxq.block HS1.out)
  have HA2 := hid (hxq.block HA2.out)
  have HB2 := hid (hxq.block HB2.out)
  have HS2 := hid (hxq.block HS2.out)
  have HA3 := hid (hxq.block HA3.out)
  have HB3 := hid (hxq.block HB3.out)
  have HS3 := hid (hxq.block HS3.out)
  have HA4 := hid (hxq.block HA4.out)
  have HB4 := hid (hxq.block HB4.out)
  have HS4 := hid (hxq.block HS4.out)
  have HA5 := hid (hxq.block HA5.out)
  have HB5 := hid (hxq.block HB5.out)
  have HS5 := hid (hxq.block HS5.out)
  have HA6 := hid (hxq.block HA6.out)
  have HB6 := hid (hxq.block HB6.out)
  have HS6 := hid (hxq.block HS6.out)
  have HA7 := hid (hxq.block HA7.out)
  have HB7 := hid (hxq.block HB7.out)
  have HS7 := hid (hxq.block HS7.out)
  have HA8 := hid (hxq.block HA8.out)
  have HB8 := hid (hxq.block HB8.out)
  have HS8 := hid (hxq.block HS8.out)
  clear hxq HTO
  have cG := cell_of HG.out
  have ca2 := cell_of HA2.out
  have fg := free_of HA2.out
  gi_upto_region 4 with fail
  have hn := (set_same (set_same HA2.out 2 (.int .i64 20)) 3 (.int .i64 10))
  simp only [List.setIfInBounds_toArray, List.set_cons_succ, List.set_cons_zero] at hn
  have HX := hid (Ext.set (Ext.set HX.out P139.out 2 (.int .i64 20)) P139.out 3 (.int .i64 10))
  have HG := hid ((set_other (w := (V2.setCell ⟨a2, 2, none⟩ (.int .i64 20))) (Ne.symm P118.out) 3 (.int .i64 10)).trans ((set_other (w := V2) (Ne.symm P118.out) 2 (.int .i64 20)).trans HG.out))
  have HA1 := hid ((set_other (w := (V2.setCell ⟨a2, 2, none⟩ (.int .i64 20))) P0.out 3 (.int .i64 10)).trans ((set_other (w := V2) P0.out 2 (.int .i64 20)).trans HA1.out))
  have HB1 := hid ((set_other (w := (V2.setCell ⟨a2, 2, none⟩ (.int .i64 20))) P1.out 3 (.int .i64 10)).trans ((set_other (w := V2) P1.out 2 (.int .i64 20)).trans HB1.out))
  have HS1 := hid ((set_other (w := (V2.setCell ⟨a2, 2, none⟩ (.int .i64 20))) P2.out 3 (.int .i64 10)).trans ((set_other (w := V2) P2.out 2 (.int .i64 20)).trans HS1.out))
  have HB2 := hid ((set_other (w := (V2.setCell ⟨a2, 2, none⟩ (.int .i64 20))) P3.out 3 (.int .i64 10)).trans ((set_other (w := V2) P3.out 2 (.int .i64 20)).trans HB2.out))
  have HS2 := hid ((set_other (w := (V2.setCell ⟨a2, 2, none⟩ (.int .i64 20))) P4.out 3 (.int .i64 10)).trans ((set_other (w := V2) P4.out 2 (.int .i64 20)).trans HS2.out))
  have HA3 := hid ((set_other (w := (V2.setCell ⟨a2, 2, none⟩ (.int .i64 20))) P5.out 3 (.int .i64 10)).trans ((set_other (w := V2) P5.out 2 (.int .i64 20)).trans HA3.out))
  have HB3 := hid ((set_other (w := (V2.setCell ⟨a2, 2, none⟩ (.int .i64 20))) P6.out 3 (.int .i64 10)).trans ((set_other (w := V2) P6.out 2 (.int .i64 20)).trans HB3.out))
  have HS3 := hid ((set_other (w := (V2.setCell ⟨a2, 2, none⟩ (.int .i64 20))) P7.out 3 (.int .i64 10)).trans ((set_other (w := V2) P7.out 2 (.int .i64 20)).trans HS3.out))
  have HA4 := hid ((set_other (w := (V2.setCell ⟨a2, 2, none⟩ (.int .i64 20))) P8.out 3 (.int .i64 10)).trans ((set_other (w := V2) P8.out 2 (.int .i64 20)).trans HA4.out))
  have HB4 := hid ((set_other (w := (V2.setCell ⟨a2, 2, none⟩ (.int .i64 20))) P9.out 3 (.int .i64 10)).trans ((set_other (w := V2) P9.out 2 (.int .i64 20)).trans HB4.out))
  have HS4 := hid ((set_other (w := (V2.setCell ⟨a2, 2, none⟩ (.int .i64 20))) P10.out 3 (.int .i64 10)).trans ((set_other (w := V2) P10.out 2 (.int .i64 20)).trans HS4.out))
  have HA5 := hid ((set_other (w := (V2.setCell ⟨a2, 2, none⟩ (.int .i64 20))) P11.out 3 (.int .i64 10)).trans ((set_other (w := V2) P11.out 2 (.int .i64 20)).trans HA5.out))
  have HB5 := hid ((set_other (w := (V2.setCell ⟨a2, 2, none⟩ (.int .i64 20))) P12.out 3 (.int .i64 10)).trans ((set_other (w := V2) P12.out 2 (.int .i64 20)).trans HB5.out))
  have HS5 := hid ((set_other (w := (V2.setCell ⟨a2, 2, none⟩ (.int .i64 20))) P13.out 3 (.int .i64 10)).trans ((set_other (w := V2) P13.out 2 (.int .i64 20)).trans HS5.out))
  have HA6 := hid ((set_other (w := (V2.setCell ⟨a2, 2, none⟩ (.int .i64 20))) P14.out 3 (.int .i64 10)).trans ((set_other (w := V2) P14.out 2 (.int .i64 20)).trans HA6.out))
  have HB6 := hid ((set_other (w := (V2.setCell ⟨a2, 2, none⟩ (.int .i64 20))) P15.out 3 (.int .i64 10)).trans ((set_other (w := V2) P15.out 2 (.int .i64 20)).trans HB6.out))
  have HS6 := hid ((set_other (w := (V2.setCell ⟨a2, 2, none⟩ (.int .i64 20))) P16.out 3 (.int .i64 10)).trans ((set_other (w := V2) P16.out 2 (.int .i64 20)).trans HS6.out))
  have HA7 := hid ((set_other (w := (V2.setCell ⟨a2, 2, none⟩ (.int .i64 20))) P17.out 3 (.int .i64 10)).trans ((set_other (w := V2) P17.out 2 (.int .i64 20)).trans HA7.out))
  have HB7 := hid ((set_other (w := (V2.setCell ⟨a2, 2, none⟩ (.int .i64 20))) P18.out 3 (.int .i64 10)).trans ((set_other (w := V2) P18.out 2 (.int .i64 20)).trans HB7.out))
  have HS7 := hid ((set_other (w := (V2.setCell ⟨a2, 2, none⟩ (.int .i64 20))) P19.out 3 (.int .i64 10)).trans ((set_other (w := V2) P19.out 2 (.int .i64 20)).trans HS7.out))
  have HA8 := hid ((set_other (w := (V2.setCell ⟨a2, 2, none⟩ (.int .i64 20))) P20.out 3 (.int .i64 10)).trans ((set_other (w := V2) P20.out 2 (.int .i64 20)).trans HA8.out))
  have HB8 := hid ((set_other (w := (V2.setCell ⟨a2, 2, none⟩ (.int .i64 20))) P21.out 3 (.int .i64 10)).trans ((set_other (w := V2) P21.out 2 (.int .i64 20)).trans HB8.out))
  have HS8 := hid ((set_other (w := (V2.setCell ⟨a2, 2, none⟩ (.int .i64 20))) P22.out 3 (.int .i64 10)).trans ((set_other (w := V2) P22.out 2 (.int .i64 20)).trans HS8.out))
  have HA2 := hid hn
  clear hn fg cG ca2
  generalize ((V2.setCell ⟨a2, 2, none⟩ (.int .i64 20)).setCell ⟨a2, 3, none⟩ (.int .i64 10)) = W2 at *
  have cG := cell_of HG.out
  have fg := free_of HG.out
  gi_upto_region 5 with fail
  have hn := (set_same HG.out 14 (.int .i64 501))
  simp only [List.setIfInBounds_toArray, List.set_cons_succ, List.set_cons_zero] at hn
  have HX := hid (Ext.set HX.out P144.out 14 (.int .i64 501))
  have HA1 := hid ((set_other (w := W2) P115.out 14 (.int .i64 501)).trans HA1.out)
  have HB1 := hid ((set_other (w := W2) P116.out 14 (.int .i64 501)).trans HB1.out)
  have HS1 := hid ((set_other (w := W2) P117.out 14 (.int .i64 501)).trans HS1.out)
  have HA2 := hid ((set_other (w := W2) P118.out 14 (.int .i64 501)).trans HA2.out)
  have HB2 := hid ((set_other (w := W2) P119.out 14 (.int .i64 501)).trans HB2.out)
  have HS2 := hid ((set_other (w := W2) P120.out 14 (.int .i64 501)).trans HS2.out)
  have HA3 := hid ((set_other (w := W2) P121.out 14 (.int .i64 501)).trans HA3.out)
  have HB3 := hid ((set_other (w := W2) P122.out 14 (.int .i64 501)).trans HB3.out)
  have HS3 := hid ((set_other (w := W2) P123.out 14 (.int .i64 501)).trans HS3.out)
  have HA4 := hid ((set_other (w := W2) P124.out 14 (.int .i64 501)).trans HA4.out)
  have HB4 := hid ((set_other (w := W2) P125.out 14 (.int .i64 501)).trans HB4.out)
  have HS4 := hid ((set_other (w := W2) P126.out 14 (.int .i64 501)).trans HS4.out)
  have HA5 := hid ((set_other (w := W2) P127.out 14 (.int .i64 501)).trans HA5.out)
  have HB5 := hid ((set_other (w := W2) P128.out 14 (.int .i64 501)).trans HB5.out)
  have HS5 := hid ((set_other (w := W2) P129.out 14 (.int .i64 501)).trans HS5.out)
  have HA6 := hid ((set_other (w := W2) P130.out 14 (.int .i64 501)).trans HA6.out)
  have HB6 := hid ((set_other (w := W2) P131.out 14 (.int .i64 501)).trans HB6.out)
  have HS6 := hid ((set_other (w := W2) P132.out 14 (.int .i64 501)).trans HS6.out)
  have HA7 := hid ((set_other (w := W2) P133.out 14 (.int .i64 501)).trans HA7.out)
  have HB7 := hid ((set_other (w := W2) P134.out 14 (.int .i64 501)).trans HB7.out)
  have HS7 := hid ((set_other (w := W2) P135.out 14 (.int .i64 501)).trans HS7.out)
  have HA8 := hid ((set_other (w := W2) P136.out 14 (.int .i64 501)).trans HA8.out)
  have HB8 := hid ((set_other (w := W2) P137.out 14 (.int .i64 501)).trans HB8.out)
  have HS8 := hid ((set_other (w := W2) P138.out 14 (.int .i64 501)).trans HS8.out)
  have HG := hid hn
  clear hn fg cG
  generalize (W2.setCell ⟨G, 14, none⟩ (.int .i64 501)) = W3 at *
  have cG := cell_of HG.out
  have fg := free_of HG.out
  gi_upto_region 6 with fail
  have hn := (set_same HG.out 19 (.slice none 0 0))
  simp only [List.setIfInBounds_toArray, List.set_cons_succ, List.set_cons_zero] at hn
  have HX := hid (Ext.set HX.out P144.out 19 (.slice none 0 0))
  have HA1 := hid ((set_other (w := W3) P115.out 19 (.slice none 0 0)).trans HA1.out)
  have HB1 := hid ((set_other (w := W3) P116.out 19 (.slice none 0 0)).trans HB1.out)
  have HS1 := hid ((set_other (w := W3) P117.out 19 (.slice none 0 0)).trans HS1.out)
  have HA2 := hid ((set_other (w := W3) P118.out 19 (.slice none 0 0)).trans HA2.out)
  have HB2 := hid ((set_other (w := W3) P119.out 19 (.slice none 0 0)).trans HB2.out)
  have HS2 := hid ((set_other (w := W3) P120.out 19 (.slice none 0 0)).trans HS2.out)
  have HA3 := hid ((set_other (w := W3) P121.out 19 (.slice none 0 0)).trans HA3.out)
  have HB3 := hid ((set_other (w := W3) P122.out 19 (.slice none 0 0)).trans HB3.out)
  have HS3 := hid ((set_other (w := W3) P123.out 19 (.slice none 0 0)).trans HS3.out)
  have HA4 := hid ((set_other (w := W3) P124.out 19 (.slice none 0 0)).trans HA4.out)
  have HB4 := hid ((set_other (w := W3) P125.out 19 (.slice none 0 0)).trans HB4.out)
  have HS4 := hid ((set_other (w := W3) P126.out 19 (.slice none 0 0)).trans HS4.out)
  have HA5 := hid ((set_other (w := W3) P127.out 19 (.slice none 0 0)).trans HA5.out)
  have HB5 := hid ((set_other (w := W3) P128.out 19 (.slice none 0 0)).trans HB5.out)
  have HS5 := hid ((set_other (w := W3) P129.out 19 (.slice none 0 0)).trans HS5.out)
  have HA6 := hid ((set_other (w := W3) P130.out 19 (.slice none 0 0)).trans HA6.out)
  have HB6 := hid ((set_other (w := W3) P131.out 19 (.slice none 0 0)).trans HB6.out)
  have HS6 := hid ((set_other (w := W3) P132.out 19 (.slice none 0 0)).trans HS6.out)
  have HA7 := hid ((set_other (w := W3) P133.out 19 (.slice none 0 0)).trans HA7.out)
  have HB7 := hid ((set_other (w := W3) P134.out 19 (.slice none 0 0)).trans HB7.out)
  have HS7 := hid ((set_other (w := W3) P135.out 19 (.slice none 0 0)).trans HS7.out)
  have HA8 := hid ((set_other (w := W3) P136.out 19 (.slice none 0 0)).trans HA8.out)
  have HB8 := hid ((set_other (w := W3) P137.out 19 (.slice none 0 0)).trans HB8.out)
  have HS8 := hid ((set_other (w := W3) P138.out 19 (.slice none 0 0)).trans HS8.out)
  have HG := hid hn
  clear hn fg cG
  generalize (W3.setCell ⟨G, 19, none⟩ (.slice none 0 0)) = W4 at *
  have cG := cell_of HG.out
  have cs5 := cell_of HS5.out
  have fg := free_of HS5.out
  gi_upto_region 7 with fail
  have hn := (set_same HS5.out 3 (.int .i64 2))
  simp only [List.setIfInBounds_toArray, List.set_cons_succ, List.set_cons_zero] at hn
  have HX := hid (Ext.set HX.out P140.out 3 (.int .i64 2))
  have HG := hid ((set_other (w := W4) (Ne.symm P129.out) 3 (.int .i64 2)).trans HG.out)
  have HA1 := hid ((set_other (w := W4) P23.out 3 (.int .i64 2)).trans HA1.out)
  have HB1 := hid ((set_other (w := W4) P24.out 3 (.int .i64 2)).trans HB1.out)
  have HS1 := hid ((set_other (w := W4) P25.out 3 (.int .i64 2)).trans HS1.out)
  have HA2 := hid ((set_other (w := W4) P26.out 3 (.int .i64 2)).trans HA2.out)
  have HB2 := hid ((set_other (w := W4) P27.out 3 (.int .i64 2)).trans HB2.out)
  have HS2 := hid ((set_other (w := W4) P28.out 3 (.int .i64 2)).trans HS2.out)
  have HA3 := hid ((set_other (w := W4) P29.out 3 (.int .i64 2)).trans HA3.out)
  have HB3 := hid ((set_other (w := W4) P30.out 3 (.int .i64 2)).trans HB3.out)
  have HS3 := hid ((set_other (w := W4) P31.out 3 (.int .i64 2)).trans HS3.out)
  have HA4 := hid ((set_other (w := W4) P32.out 3 (.int .i64 2)).trans HA4.out)
  have HB4 := hid ((set_other (w := W4) P33.out 3 (.int .i64 2)).trans HB4.out)
  have HS4 := hid ((set_other (w := W4) P34.out 3 (.int .i64 2)).trans HS4.out)
  have HA5 := hid ((set_other (w := W4) P35.out 3 (.int .i64 2)).trans HA5.out)
  have HB5 := hid ((set_other (w := W4) P36.out 3 (.int .i64 2)).trans HB5.out)
  have HA6 := hid ((set_other (w := W4) P37.out 3 (.int .i64 2)).trans HA6.out)
  have HB6 := hid ((set_other (w := W4) P38.out 3 (.int .i64 2)).trans HB6.out)
  have HS6 := hid ((set_other (w := W4) P39.out 3 (.int .i64 2)).trans HS6.out)
  have HA7 := hid ((set_other (w := W4) P40.out 3 (.int .i64 2)).trans HA7.out)
  have HB7 := hid ((set_other (w := W4) P41.out 3 (.int .i64 2)).trans HB7.out)
  have HS7 := hid ((set_other (w := W4) P42.out 3 (.int .i64 2)).trans HS7.out)
  have HA8 := hid ((set_other (w := W4) P43.out 3 (.int .i64 2)).trans HA8.out)
  have HB8 := hid ((set_other (w := W4) P44.out 3 (.int .i64 2)).trans HB8.out)
  have HS8 := hid ((set_other (w := W4) P45.out 3 (.int .i64 2)).trans HS8.out)
  have HS5 := hid hn
  clear hn fg cG cs5
  generalize (W4.setCell ⟨s5, 3, none⟩ (.int .i64 2)) = W5 at *
  have cG := cell_of HG.out
  have cs6 := cell_of HS6.out
  have fg := free_of HS6.out
  gi_upto_region 8 with fail
  have hn := (set_same HS6.out 14 (.int .i64 3))
  simp only [List.setIfInBounds_toArray, List.set_cons_succ, List.set_cons_zero] at hn
  have HX := hid (Ext.set HX.out P141.out 14 (.int .i64 3))
  have HG := hid ((set_other (w := W5) (Ne.symm P132.out) 14 (.int .i64 3)).trans HG.out)
  have HA1 := hid ((set_other (w := W5) P46.out 14 (.int .i64 3)).trans HA1.out)
  have HB1 := hid ((set_other (w := W5) P47.out 14 (.int .i64 3)).trans HB1.out)
  have HS1 := hid ((set_other (w := W5) P48.out 14 (.int .i64 3)).trans HS1.out)
  have HA2 := hid ((set_other (w := W5) P49.out 14 (.int .i64 3)).trans HA2.out)
  have HB2 := hid ((set_other (w := W5) P50.out 14 (.int .i64 3)).trans HB2.out)
  have HS2 := hid ((set_other (w := W5) P51.out 14 (.int .i64 3)).trans HS2.out)
  have HA3 := hid ((set_other (w := W5) P52.out 14 (.int .i64 3)).trans HA3.out)
  have HB3 := hid ((set_other (w := W5) P53.out 14 (.int .i64 3)).trans HB3.out)
  have HS3 := hid ((set_other (w := W5) P54.out 14 (.int .i64 3)).trans HS3.out)
  have HA4 := hid ((set_other (w := W5) P55.out 14 (.int .i64 3)).trans HA4.out)
  have HB4 := hid ((set_other (w := W5) P56.out 14 (.int .i64 3)).trans HB4.out)
  have HS4 := hid ((set_other (w := W5) P57.out 14 (.int .i64 3)).trans HS4.out)
  have HA5 := hid ((set_other (w := W5) P58.out 14 (.int .i64 3)).trans HA5.out)
  have HB5 := hid ((set_other (w := W5) P59.out 14 (.int .i64 3)).trans HB5.out)
  have HS5 := hid ((set_other (w := W5) P60.out 14 (.int .i64 3)).trans HS5.out)
  have HA6 := hid ((set_other (w := W5) P61.out 14 (.int .i64 3)).trans HA6.out)
  have HB6 := hid ((set_other (w := W5) P62.out 14 (.int .i64 3)).trans HB6.out)
  have HA7 := hid ((set_other (w := W5) P63.out 14 (.int .i64 3)).trans HA7.out)
  have HB7 := hid ((set_other (w := W5) P64.out 14 (.int .i64 3)).trans HB7.out)
  have HS7 := hid ((set_other (w := W5) P65.out 14 (.int .i64 3)).trans HS7.out)
  have HA8 := hid ((set_other (w := W5) P66.out 14 (.int .i64 3)).trans HA8.out)
  have HB8 := hid ((set_other (w := W5) P67.out 14 (.int .i64 3)).trans HB8.out)
  have HS8 := hid ((set_other (w := W5) P68.out 14 (.int .i64 3)).trans HS8.out)
  have HS6 := hid hn
  clear hn fg cG cs6
  generalize (W5.setCell ⟨s6, 14, none⟩ (.int .i64 3)) = W6 at *
  have cG := cell_of HG.out
  have cs7 := cell_of HS7.out
  have fg := free_of HS7.out
  gi_upto_region 9 with fail
  have hn := (set_same HS7.out 15 (.int .i64 0))
  simp only [List.setIfInBounds_toArray, List.set_cons_succ, List.set_cons_zero] at hn
  have HX := hid (Ext.set HX.out P142.out 15 (.int .i64 0))
  have HG := hid ((set_other (w := W6) (Ne.symm P135.out) 15 (.int .i64 0)).trans HG.out)
  have HA1 := hid ((set_other (w := W6) P69.out 15 (.int .i64 0)).trans HA1.out)
  have HB1 := hid ((set_other (w := W6) P70.out 15 (.int .i64 0)).trans HB1.out)
  have HS1 := hid ((set_other (w := W6) P71.out 15 (.int .i64 0)).trans HS1.out)
  have HA2 := hid ((set_other (w := W6) P72.out 15 (.int .i64 0)).trans HA2.out)
  have HB2 := hid ((set_other (w := W6) P73.out 15 (.int .i64 0)).trans HB2.out)
  have HS2 := hid ((set_other (w := W6) P74.out 15 (.int .i64 0)).trans HS2.out)
  have HA3 := hid ((set_other (w := W6) P75.out 15 (.int .i64 0)).trans HA3.out)
  have HB3 := hid ((set_other (w := W6) P76.out 15 (.int .i64 0)).trans HB3.out)
  have HS3 := hid ((set_other (w := W6) P77.out 15 (.int .i64 0)).trans HS3.out)
  have HA4 := hid ((set_other (w := W6) P78.out 15 (.int .i64 0)).trans HA4.out)
  have HB4 := hid ((set_other (w := W6) P79.out 15 (.int .i64 0)).trans HB4.out)
  have HS4 := hid ((set_other (w := W6) P80.out 15 (.int .i64 0)).trans HS4.out)
  have HA5 := hid ((set_other (w := W6) P81.out 15 (.int .i64 0)).trans HA5.out)
  have HB5 := hid ((set_other (w := W6) P82.out 15 (.int .i64 0)).trans HB5.out)
  have HS5 := hid ((set_other (w := W6) P83.out 15 (.int .i64 0)).trans HS5.out)
  have HA6 := hid ((set_other (w := W6) P84.out 15 (.int .i64 0)).trans HA6.out)
  have HB6 := hid ((set_other (w := W6) P85.out 15 (.int .i64 0)).trans HB6.out)
  have HS6 := hid ((set_other (w := W6) P86.out 15 (.int .i64 0)).trans HS6.out)
  have HA7 := hid ((set_other (w := W6) P87.out 15 (.int .i64 0)).trans HA7.out)
  have HB7 := hid ((set_other (w := W6) P88.out 15 (.int .i64 0)).trans HB7.out)
  have HA8 := hid ((set_other (w := W6) P89.out 15 (.int .i64 0)).trans HA8.out)
  have HB8 := hid ((set_other (w := W6) P90.out 15 (.int .i64 0)).trans HB8.out)
  have HS8 := hid ((set_other (w := W6) P91.out 15 (.int .i64 0)).trans HS8.out)
  have HS7 := hid hn
  clear hn fg cG cs7
  generalize (W6.setCell ⟨s7, 15, none⟩ (.int .i64 0)) = W7 at *
  have HTO := hid (fun u => to_any (-51) 0 u)
  refine quiet_wide 7 (by kernel_rfl) (by kernel_rfl) ?_
  simp only [List.take_succ_cons, List.take_zero, List.drop_succ_cons, List.drop_zero]
  have q0 := fun e : Later W7 => cell_of (Ext.block e.grown HG.out)
  repeat (any_goals (first | go_big_quiet_step ((first | (go_at_call 31; with_reducible exact Cal.quiet (HTO.out _)))) | quiet_step ((first | (go_at_call 31; with_reducible exact Cal.quiet (HTO.out _))))))
  refine wpQuiet_nil ?_
  rintro V8 ⟨⟨V8q, hxq⟩, heV8⟩
  obtain rfl : V8 = V8q := heV8
  have hxq : Ext W7 V8 := hxq
  clear q0
  have HX := hid (HX.out.trans hxq)
  have HG := hid (hxq.block HG.out)
  have HA1 := hid (hxq.block HA1.out)
  have HB1 := hid (hxq.block HB1.out)
  have HS1 := hid (hxq.block HS1.out)
  have HA2 := hid (hxq.block HA2.out)
  have HB2 := hid (hxq.block HB2.out)
  have HS2 := hid (hxq.block HS2.out)
  have HA3 := hid (hxq.block HA3.out)
  have HB3 := hid (hxq.block HB3.out)
  have HS3 := hid (hxq.block HS3.out)
  have HA4 := hid (hxq.block HA4.out)
  have HB4 := hid (hxq.block HB4.out)
  have HS4 := hid (hxq.block HS4.out)
  have HA5 := hid (hxq.block HA5.out)
  have HB5 := hid (hxq.block HB5.out)
  have HS5 := hid (hxq.block HS5.out)
  have HA6 := hid (hxq.block HA6.out)
  have HB6 := hid (hxq.block HB6.out)
  have HS6 := hid (hxq.block HS6.out)
  have HA7 := hid (hxq.block HA7.out)
  have HB7 := hid (hxq.block HB7.out)
  have HS7 := hid (hxq.block HS7.out)
  have HA8 := hid (hxq.block HA8.out)
  have HB8 := hid (hxq.block HB8.out)
  have HS8 := hid (hxq.block HS8.out)
  clear hxq HTO
  have cG := cell_of HG.out
  have cs8 := cell_of HS8.out
  have fg := free_of HS8.out
  gi_upto_region 10 with fail
  have hn := (set_same (set_same HS8.out 8 (.int .i64 (-51))) 9 (.int .i64 0))
  simp only [List.setIfInBounds_toArray, List.set_cons_succ, List.set_cons_zero] at hn
  have HX := hid (Ext.set (Ext.set HX.out P143.out 8 (.int .i64 (-51))) P143.out 9 (.int .i64 0))
  have HG := hid ((set_other (w := (V8.setCell ⟨s8, 8, none⟩ (.int .i64 (-51)))) (Ne.symm P138.out) 9 (.int .i64 0)).trans ((set_other (w := V8) (Ne.symm P138.out) 8 (.int .i64 (-51))).trans HG.out))
  have HA1 := hid ((set_other (w := (V8.setCell ⟨s8, 8, none⟩ (.int .i64 (-51)))) P92.out 9 (.int .i64 0)).trans ((set_other (w := V8) P92.out 8 (.int .i64 (-51))).trans HA1.out))
  have HB1 := hid ((set_other (w := (V8.setCell ⟨s8, 8, none⟩ (.int .i64 (-51)))) P93.out 9 (.int .i64 0)).trans ((set_other (w := V8) P93.out 8 (.int .i64 (-51))).trans HB1.out))
  have HS1 := hid ((set_other (w := (V8.setCell ⟨s8, 8, none⟩ (.int .i64 (-51)))) P94.out 9 (.int .i64 0)).trans ((set_other (w := V8) P94.out 8 (.int .i64 (-51))).trans HS1.out))
  have HA2 := hid ((set_other (w := (V8.setCell ⟨s8, 8, none⟩ (.int .i64 (-51)))) P95.out 9 (.int .i64 0)).trans ((set_other (w := V8) P95.out 8 (.int .i64 (-51))).trans HA2.out))
  have HB2 := hid ((set_other (w := (V8.setCell ⟨s8, 8, none⟩ (.int .i64 (-51)))) P96.out 9 (.int .i64 0)).trans ((set_other (w := V8) P96.out 8 (.int .i64 (-51))).trans HB2.out))
  have HS2 := hid ((set_other (w := (V8.setCell ⟨s8, 8, none⟩ (.int .i64 (-51)))) P97.out 9 (.int .i64 0)).trans ((set_other (w := V8) P97.out 8 (.int .i64 (-51))).trans HS2.out))
  have HA3 := hid ((set_other (w := (V8.setCell ⟨s8, 8, none⟩ (.int .i64 (-51)))) P98.out 9 (.int .i64 0)).trans ((set_other (w := V8) P98.out 8 (.int .i64 (-51))).trans HA3.out))
  have HB3 := hid ((set_other (w := (V8.setCell ⟨s8, 8, none⟩ (.int .i64 (-51)))) P99.out 9 (.int .i64 0)).trans ((set_other (w := V8) P99.out 8 (.int .i64 (-51))).trans HB3.out))
  have HS3 := hid ((set_other (w := (V8.setCell ⟨s8, 8, none⟩ (.int .i64 (-51)))) P100.out 9 (.int .i64 0)).trans ((set_other (w := V8) P100.out 8 (.int .i64 (-51))).trans HS3.out))
  have HA4 := hid ((set_other (w := (V8.setCell ⟨s8, 8, none⟩ (.int .i64 (-51)))) P101.out 9 (.int .i64 0)).trans ((set_other (w := V8) P101.out 8 (.int .i64 (-51))).trans HA4.out))
  have HB4 := hid ((set_other (w := (V8.setCell ⟨s8, 8, none⟩ (.int .i64 (-51)))) P102.out 9 (.int .i64 0)).trans ((set_other (w := V8) P102.out 8 (.int .i64 (-51))).trans HB4.out))
  have HS4 := hid ((set_other (w := (V8.setCell ⟨s8, 8, none⟩ (.int .i64 (-51)))) P103.out 9 (.int .i64 0)).trans ((set_other (w := V8) P103.out 8 (.int .i64 (-51))).trans HS4.out))
  have HA5 := hid ((set_other (w := (V8.setCell ⟨s8, 8, none⟩ (.int .i64 (-51)))) P104.out 9 (.int .i64 0)).trans ((set_other (w := V8) P104.out 8 (.int .i64 (-51))).trans HA5.out))
  have HB5 := hid ((set_other (w := (V8.setCell ⟨s8, 8, none⟩ (.int .i64 (-51)))) P105.out 9 (.int .i64 0)).trans ((set_other (w := V8) P105.out 8 (.int .i64 (-51))).trans HB5.out))
  have HS5 := hid ((set_other (w := (V8.setCell ⟨s8, 8, none⟩ (.int .i64 (-51)))) P106.out 9 (.int .i64 0)).trans ((set_other (w := V8) P106.out 8 (.int .i64 (-51))).trans HS5.out))
  have HA6 := hid ((set_other (w := (V8.setCell ⟨s8, 8, none⟩ (.int .i64 (-51)))) P107.out 9 (.int .i64 0)).trans ((set_other (w := V8) P107.out 8 (.int .i64 (-51))).trans HA6.out))
  have HB6 := hid ((set_other (w := (V8.setCell ⟨s8, 8, none⟩ (.int .i64 (-51)))) P108.out 9 (.int .i64 0)).trans ((set_other (w := V8) P108.out 8 (.int .i64 (-51))).trans HB6.out))
  have HS6 := hid ((set_other (w := (V8.setCell ⟨s8, 8, none⟩ (.int .i64 (-51)))) P109.out 9 (.int .i64 0)).trans ((set_other (w := V8) P109.out 8 (.int .i64 (-51))).trans HS6.out))
  have HA7 := hid ((set_other (w := (V8.setCell ⟨s8, 8, none⟩ (.int .i64 (-51)))) P110.out 9 (.int .i64 0)).trans ((set_other (w := V8) P110.out 8 (.int .i64 (-51))).trans HA7.out))
  have HB7 := hid ((set_other (w := (V8.setCell ⟨s8, 8, none⟩ (.int .i64 (-51)))) P111.out 9 (.int .i64 0)).trans ((set_other (w := V8) P111.out 8 (.int .i64 (-51))).trans HB7.out))
  have HS7 := hid ((set_other (w := (V8.setCell ⟨s8, 8, none⟩ (.int .i64 (-51)))) P112.out 9 (.int .i64 0)).trans ((set_other (w := V8) P112.out 8 (.int .i64 (-51))).trans HS7.out))
  have HA8 := hid ((set_other (w := (V8.setCell ⟨s8, 8, none⟩ (.int .i64 (-51)))) P113.out 9 (.int .i64 0)).trans ((set_other (w := V8) P113.out 8 (.int .i64 (-51))).trans HA8.out))
  have HB8 := hid ((set_other (w := (V8.setCell ⟨s8, 8, none⟩ (.int .i64 (-51)))) P114.out 9 (.int .i64 0)).trans ((set_other (w := V8) P114.out 8 (.int .i64 (-51))).trans HB8.out))
  have HS8 := hid hn
  clear hn fg cG cs8
  generalize ((V8.setCell ⟨s8, 8, none⟩ (.int .i64 (-51))).setCell ⟨s8, 9, none⟩ (.int .i64 0)) = W8 at *
  have FL0 : FlAt W8 (.agg #[.slice none 0 0, .slice none 0 0, .int .i64 0, .slice none 0 0]) (knL 0) := ⟨_, _, _, rfl, spans_nil _, spans_nil _, shots_nil _⟩
  have FL1 : FlAt W8 (.agg #[.slice (some ⟨a1, 0, none⟩) 3 3, .slice (some ⟨b1, 0, none⟩) 2 3, .int .i64 5, .slice (some ⟨s1, 0, none⟩) 2 2]) (knL 1) := ⟨_, _, _, rfl, (spans_new 3 HA1.out rfl (by omega) (fun i hi => by rcases three hi with rfl | rfl | rfl <;> exact ⟨rfl, rfl⟩)), ⟨some ⟨b1, 0, none⟩, 3, rfl, (by simp [knL, kn1]), fun i hi => ⟨b1, 0, rfl, lt_of_block HB1.out, by rcases two_c hi with rfl | rfl <;> (rw [cell_of HB1.out]; rfl), by rcases two_c hi with rfl | rfl <;> (rw [cell_of HB1.out]; rfl)⟩⟩, (shots_new 2 HS1.out rfl (by omega) (fun i hi j hj => by rcases two_c hi with rfl | rfl <;> rcases ten_c hj with rfl | rfl | rfl | rfl | rfl | rfl | rfl | rfl | rfl | rfl <;> rfl))⟩
  have FL2 : FlAt W8 (.agg #[.slice (some ⟨a2, 0, none⟩) 3 3, .slice (some ⟨b2, 0, none⟩) 3 3, .int .i64 5, .slice (some ⟨s2, 0, none⟩) 2 2]) (knL 2) := ⟨_, _, _, rfl, (spans_new 3 HA2.out rfl (by omega) (fun i hi => by rcases three hi with rfl | rfl | rfl <;> exact ⟨rfl, rfl⟩)), (spans_new 3 HB2.out rfl (by omega) (fun i hi => by rcases three hi with rfl | rfl | rfl <;> exact ⟨rfl, rfl⟩)), (shots_new 2 HS2.out rfl (by omega) (fun i hi j hj => by rcases two_c hi with rfl | rfl <;> rcases ten_c hj with rfl | rfl | rfl | rfl | rfl | rfl | rfl | rfl | rfl | rfl <;> rfl))⟩
  have FL3 : FlAt W8 (.agg #[.slice (some ⟨a3, 0, none⟩) 3 3, .slice (some ⟨b3, 0, none⟩) 3 3, .int .i64 501, .slice (some ⟨s3, 0, none⟩) 2 2]) (knL 3) := ⟨_, _, _, rfl, (spans_new 3 HA3.out rfl (by omega) (fun i hi => by rcases three hi with rfl | rfl | rfl <;> exact ⟨rfl, rfl⟩)), (spans_new 3 HB3.out rfl (by omega) (fun i hi => by rcases three hi with rfl | rfl | rfl <;> exact ⟨rfl, rfl⟩)), (shots_new 2 HS3.out rfl (by omega) (fun i hi j hj => by rcases two_c hi with rfl | rfl <;> rcases ten_c hj with rfl | rfl | rfl | rfl | rfl | rfl | rfl | rfl | rfl | rfl <;> rfl))⟩
  have FL4 : FlAt W8 (.agg #[.slice (some ⟨a4, 0, none⟩) 3 3, .slice (some ⟨b4, 0, none⟩) 3 3, .int .i64 5, .slice none 0 0]) (knL 4) := ⟨_, _, _, rfl, (spans_new 3 HA4.out rfl (by omega) (fun i hi => by rcases three hi with rfl | rfl | rfl <;> exact ⟨rfl, rfl⟩)), (spans_new 3 HB4.out rfl (by omega) (fun i hi => by rcases three hi with rfl | rfl | rfl <;> exact ⟨rfl, rfl⟩)), shots_nil _⟩
  have FL5 : FlAt W8 (.agg #[.slice (some ⟨a5, 0, none⟩) 3 3, .slice (some ⟨b5, 0, none⟩) 3 3, .int .i64 5, .slice (some ⟨s5, 0, none⟩) 2 2]) (knL 5) := ⟨_, _, _, rfl, (spans_new 3 HA5.out rfl (by omega) (fun i hi => by rcases three hi with rfl | rfl | rfl <;> exact ⟨rfl, rfl⟩)), (spans_new 3 HB5.out rfl (by omega) (fun i hi => by rcases three hi with rfl | rfl | rfl <;> exact ⟨rfl, rfl⟩)), (shots_new 2 HS5.out rfl (by omega) (fun i hi j hj => by rcases two_c hi with rfl | rfl <;> rcases ten_c hj with rfl | rfl | rfl | rfl | rfl | rfl | rfl | rfl | rfl | rfl <;> rfl))⟩
  have FL6 : FlAt W8 (.agg #[.slice (some ⟨a6, 0, none⟩) 3 3, .slice (some ⟨b6, 0, none⟩) 3 3, .int .i64 5, .slice (some ⟨s6, 0, none⟩) 2 2]) (knL 6) := ⟨_, _, _, rfl, (spans_new 3 HA6.out rfl (by omega) (fun i hi => by rcases three hi with rfl | rfl | rfl <;> exact ⟨rfl, rfl⟩)), (spans_new 3 HB6.out rfl (by omega) (fun i hi => by rcases three hi with rfl | rfl | rfl <;> exact ⟨rfl, rfl⟩)), (shots_new 2 HS6.out rfl (by omega) (fun i hi j hj => by rcases two_c hi with rfl | rfl <;> rcases ten_c hj with rfl | rfl | rfl | rfl | rfl | rfl | rfl | rfl | rfl | rfl <;> rfl))⟩
  have FL7 : FlAt W8 (.agg #[.slice (some ⟨a7, 0, none⟩) 3 3, .slice (some ⟨b7, 0, none⟩) 3 3, .int .i64 5, .slice (some ⟨s7, 0, none⟩) 2 2]) (knL 7) := ⟨_, _, _, rfl, (spans_new 3 HA7.out rfl (by omega) (fun i hi => by rcases three hi with rfl | rfl | rfl <;> exact ⟨rfl, rfl⟩)), (spans_new 3 HB7.out rfl (by omega) (fun i hi => by rcases three hi with rfl | rfl | rfl <;> exact ⟨rfl, rfl⟩)), (shots_new 2 HS7.out rfl (by omega) (fun i hi j hj => by rcases two_c hi with rfl | rfl <;> rcases ten_c hj with rfl | rfl | rfl | rfl | rfl | rfl | rfl | rfl | rfl | rfl <;> rfl))⟩
  have FL8 : FlAt W8 (.agg #[.slice (some ⟨a8, 0, none⟩) 3 3, .slice (some ⟨b8, 0, none⟩) 3 3, .int .i64 5, .slice (some ⟨s8, 0, none⟩) 2 2]) (knL 8) := ⟨_, _, _, rfl, (spans_new 3 HA8.out rfl (by omega) (fun i hi => by rcases three hi with rfl | rfl | rfl <;> exact ⟨rfl, rfl⟩)), (spans_new 3 HB8.out rfl (by omega) (fun i hi => by rcases three hi with rfl | rfl | rfl <;> exact ⟨rfl, rfl⟩)), (shots_new 2 HS8.out rfl (by omega) (fun i hi j hj => by rcases two_c hi with rfl | rfl <;> rcases ten_c hj with rfl | rfl | rfl | rfl | rfl | rfl | rfl | rfl | rfl | rfl <;> rfl))⟩
  have HFL : Hid (∀ i, i < 9 → ∃ va vb vg vs : Value, FlAt W8 (.agg #[va, vb, vg, vs]) (knL i) ∧ W8.cell? ⟨G, i * 4, none⟩ = some va ∧ W8.cell? ⟨G, i * 4 + 1, none⟩ = some vb ∧ W8.cell? ⟨G, i * 4 + 2, none⟩ = some vg ∧ W8.cell? ⟨G, i * 4 + 3, none⟩ = some vs) := fun i hi => by
    have hg := HG.out
    rcases nine hi with rfl | rfl | rfl | rfl | rfl | rfl | rfl | rfl | rfl
    · exact ⟨_, _, _, _, FL0, by rw [cell_of hg]; rfl, by rw [cell_of hg]; rfl, by rw [cell_of hg]; rfl, by rw [cell_of hg]; rfl⟩
    · exact ⟨_, _, _, _, FL1, by rw [cell_of hg]; rfl, by rw [cell_of hg]; rfl, by rw [cell_of hg]; rfl, by rw [cell_of hg]; rfl⟩
    · exact ⟨_, _, _, _, FL2, by rw [cell_of hg]; rfl, by rw [cell_of hg]; rfl, by rw [cell_of hg]; rfl, by rw [cell_of hg]; rfl⟩
    · exact ⟨_, _, _, _, FL3, by rw [cell_of hg]; rfl, by rw [cell_of hg]; rfl, by rw [cell_of hg]; rfl, by rw [cell_of hg]; rfl⟩
    · exact ⟨_, _, _, _, FL4, by rw [cell_of hg]; rfl, by rw [cell_of hg]; rfl, by rw [cell_of hg]; rfl, by rw [cell_of hg]; rfl⟩
    · exact ⟨_, _, _, _, FL5, by rw [cell_of hg]; rfl, by rw [cell_of hg]; rfl, by rw [cell_of hg]; rfl, by rw [cell_of hg]; rfl⟩
    · exact ⟨_, _, _, _, FL6, by rw [cell_of hg]; rfl, by rw [cell_of hg]; rfl, by rw [cell_of hg]; rfl, by rw [cell_of hg]; rfl⟩
    · exact ⟨_, _, _, _, FL7, by rw [cell_of hg]; rfl, by rw [cell_of hg]; rfl, by rw [cell_of hg]; rfl, by rw [cell_of hg]; rfl⟩
    · exact ⟨_, _, _, _, FL8, by rw [cell_of hg]; rfl, by rw [cell_of hg]; rfl, by rw [cell_of hg]; rfl, by rw [cell_of hg]; rfl⟩
  have hgl := lt_of_block HG.out
  have HGL := hid hgl
  clear hgl FL0 FL1 FL2 FL3 FL4 FL5 FL6 FL7 FL8 HG HA1 HB1 HS1 HA2 HB2 HS2 HA3 HB3 HS3 HA4 HB4 HS4 HA5 HB5 HS5 HA6 HB6 HS6 HA7 HB7 HS7 HA8 HB8 HS8 P0 P1 P2 P3 P4 P5 P6 P7 P8 P9 P10 P11 P12 P13 P14 P15 P16 P17 P18 P19 P20 P21 P22 P23 P24 P25 P26 P27 P28 P29 P30 P31 P32 P33 P34 P35 P36 P37 P38 P39 P40 P41 P42 P43 P44 P45 P46 P47 P48 P49 P50 P51 P52 P53 P54 P55 P56 P57 P58 P59 P60 P61 P62 P63 P64 P65 P66 P67 P68 P69 P70 P71 P72 P73 P74 P75 P76 P77 P78 P79 P80 P81 P82 P83 P84 P85 P86 P87 P88 P89 P90 P91 P92 P93 P94 P95 P96 P97 P98 P99 P100 P101 P102 P103 P104 P105 P106 P107 P108 P109 P110 P111 P112 P113 P114 P115 P116 P117 P118 P119 P120 P121 P122 P123 P124 P125 P126 P127 P128 P129 P130 P131 P132 P133 P134 P135 P136 P137 P138 P139 P140 P141 P142 P143 P144
  gi_wp2_with fail
  gi_loopw [2] (fun j wr => ∃ i : Nat, i ≤ 9 ∧ j = .int .i64 i ∧ Ext W8 wr) (fun j _ => 9 - (intOf j).toNat)
  case atStart => exact ⟨0, by omega, rfl, Ext.refl _⟩
  case round =>
    obtain ⟨i, hi, rfl, hr⟩ := hrel
    have HR := hid hr
    clear hr
    by_cases hlt : i < 9
    · have hki : (i : Int) < 9 := by omega
      obtain ⟨va, vb, vg, vs, hfl, q0, q1, q2, q3⟩ := HFL.out i hlt
      have hbad := kn_bad hlt
      have HC := hid (fun (u : World) (hu : Ext W8 u) => And.intro ((hu.cell (p := ⟨G, i * 4, none⟩) HGL.out).trans q0) (And.intro ((hu.cell (p := ⟨G, i * 4 + 1, none⟩) HGL.out).trans q1) (And.intro ((hu.cell (p := ⟨G, i * 4 + 2, none⟩) HGL.out).trans q2) ((hu.cell (p := ⟨G, i * 4 + 3, none⟩) HGL.out).trans q3))))
      have H29 := hid (fun (u : World) (hu : Ext W8 u) => Lies_c (knL i) nilT _ _ (-1) 0 u (hfl.mono hu) (nil_tr u))
      have H24 := hid (fun (u : World) (hu : Ext W8 u) => Fouls_c (knL i) nilT _ _ u (hfl.mono hu) (nil_tr u))
      have H28 := hid (fun (u : World) (hu : Ext W8 u) => Apart_c (knL i) _ 0 0 0 u (hfl.mono hu))
      have H21 := hid (fun (u : World) (hu : Ext W8 u) => Can_c (knL i) _ u (hfl.mono hu))
      have H33 := hid (fun (u : World) (hu : Ext W8 u) => Shift_c (knL i) _ (-1) 0 u (hfl.mono hu))
      have H23 := hid (fun (u : World) (hu : Ext W8 u) => Check_c (knL i) _ u (hfl.mono hu))
      rw [(bad_lies hbad nilT (-1) 0).1, (bad_lies hbad nilT (-1) 0).2.1, (bad_lies hbad nilT (-1) 0).2.2] at H29
      rw [(bad_fouls hbad nilT).1, (bad_fouls hbad nilT).2] at H24
      rw [(bad_apart hbad 0 0 0).1, (bad_apart hbad 0 0 0).2.1, (bad_apart hbad 0 0 0).2.2] at H28
      simp only [spnV] at H28
      rw [(can_bad hbad).1, (can_bad hbad).2.1] at H21
      rw [(bad_shift hbad (-1) 0).1, (bad_shift hbad (-1) 0).2] at H33
      rw [(can_bad hbad).2.2] at H23
      clear hfl q0 q1 q2 q3 hbad
      obtain ⟨k0, k1, k2, k3⟩ := HC.out _ HR.out
      gi_upto_region 13 with fail
      clear k0 k1 k2 k3
      obtain ⟨k0, k1, k2, k3⟩ := HC.out _ HR.out
      gi_upto_region 14 with (first | (gi_at_call 29; ((with_reducible refine (H29.out _ HR.out).mono ?_); rintro e w9 ⟨rfl, hx9⟩)) | (refine wpIn_store_fresh (fun _ => trivial) 54 (.tmp 3) (.tmp 130) rfl (W := w9) (c' := #[.int .i64 0, .int .i64 0]) rfl rfl rfl size54 rfl (by kernel_rfl) ?_))
      have hxa : Ext w9 (w9.alloc (.cells #[.int .i64 0, .int .i64 0] 54)) := (Ext.refl _).alloc _
      have HR := hid (HR.out.trans (hx9.trans hxa))
      clear k0 k1 k2 k3 hx9 hxa
      generalize (w9.alloc (.cells #[.int .i64 0, .int .i64 0] 54)) = wb at *
      obtain ⟨k0, k1, k2, k3⟩ := HC.out _ HR.out
      gi_upto_region 15 with (first | (gi_at_call 24; ((with_reducible refine (H24.out _ HR.out).mono ?_); rintro e w9 ⟨rfl, hx9⟩)) | (refine wpIn_store_fresh (fun _ => trivial) 43 (.tmp 5) (.tmp 139) rfl (W := w9) (c' := #[.int .i64 0, .int .i64 0, .int .i64 0]) rfl rfl rfl size43 rfl (by kernel_rfl) ?_))
      have hxa : Ext w9 (w9.alloc (.cells #[.int .i64 0, .int .i64 0, .int .i64 0] 43)) := (Ext.refl _).alloc _
      have HR := hid (HR.out.trans (hx9.trans hxa))
      clear k0 k1 k2 k3 hx9 hxa
      generalize (w9.alloc (.cells #[.int .i64 0, .int .i64 0, .int .i64 0] 43)) = wb at *
      obtain ⟨k0, k1, k2, k3⟩ := HC.out _ HR.out
      gi_upto_region 16 with (first | (gi_at_call 28; ((with_reducible refine (H28.out _ HR.out).mono ?_); rintro e w9 ⟨rfl, hx9⟩)) | (refine wpIn_store_new (t := 56) 56 (.tmp 7) (.tmp 147) rfl (fun _ => trivial) rfl rfl two_new size56 rfl (by kernel_rfl) ?_; intro w7 e1 e2 e3)| (refine wpIn_store_new (t := 56) (old := #[.int .i64 0, .int .i64 0]) 56 (.tmp 8) (.tmp 148) rfl (fun _ => trivial) (g := w9.heap.size + 1) rfl rfl ((e2 _ (by omega)).trans (by have := Ext.new (w := w9.alloc (.cells #[.int .i64 0, .int .i64 0] 56)) (o := .cells #[.int .i64 0, .int .i64 0] 56) (Ext.refl _); rwa [World.size_alloc] at this)) size56 rfl (by kernel_rfl) ?_; intro w8_ e4 e5 e6))
      have hxa : Ext w9 w8_ := e6 w9 (by omega) (e3 w9 (by omega) (((Ext.refl _).alloc _).alloc _))
      have HR := hid (HR.out.trans (hx9.trans hxa))
      clear k0 k1 k2 k3 hx9 hxa e1 e2 e3 e4 e5 e6
      obtain ⟨k0, k1, k2, k3⟩ := HC.out _ HR.out
      gi_upto_region 17 with (first | (gi_at_call 21; ((with_reducible refine (H21.out _ HR.out).mono ?_); rintro e w9 ⟨rfl, hx9⟩)) | (refine wpIn_store_fresh (fun _ => trivial) 43 (.tmp 10) (.tmp 156) rfl (W := w9) (c' := #[.int .i64 0, .int .i64 0, .int .i64 0]) rfl rfl rfl size43 rfl (by kernel_rfl) ?_))
      have hxa : Ext w9 (w9.alloc (.cells #[.int .i64 0, .int .i64 0, .int .i64 0] 43)) := (Ext.refl _).alloc _
      have HR := hid (HR.out.trans (hx9.trans hxa))
      clear k0 k1 k2 k3 hx9 hxa
      generalize (w9.alloc (.cells #[.int .i64 0, .int .i64 0, .int .i64 0] 43)) = wb at *
      obtain ⟨k0, k1, k2, k3⟩ := HC.out _ HR.out
      gi_upto_region 18 with (first | (gi_at_call 33; ((with_reducible refine (H33.out _ HR.out).mono ?_); rintro e w9 ⟨rfl, hx9⟩)) )
      have HR := hid (HR.out.trans hx9)
      clear k0 k1 k2 k3 hx9
      obtain ⟨k0, k1, k2, k3⟩ := HC.out _ HR.out
      gi_wp2_with (gi_at_call 23; ((with_reducible refine (H23.out _ HR.out).mono ?_); rintro e w9 ⟨rfl, hx9⟩))
      go_roundw
      case rel => exact ⟨i + 1, by omega, by go_num, HR.out.trans hx9⟩
      case measure => simp [intOf]; omega
    · obtain rfl : i = 9 := by omega
      have HX := hid (HX.out.trans HR.out)
      clear HR HFL HGL hlt hi
      gi_upto_region 21 with (first | (gi_at_call 41; ((with_reducible refine (tide_any _ _ _ _).mono ?_); rintro e c1 ⟨a2, b2, d2, rfl, hx1, i2, j2, k2⟩; obtain ⟨ya, yc, rfl⟩ := ints3 i2; obtain ⟨za, zc, rfl⟩ := ints2 j2; obtain ⟨xa, xc, rfl⟩ := ints2 k2)) | (refine wpIn_store_fresh (fun _ => trivial) 50 (.tmp 14) (.tmp 193) rfl (W := c1) (c' := #[.slice (some ⟨wr.heap.size, 0, none⟩) 3 3, .slice ya 3 yc, .slice za 2 zc, .slice xa 2 xc]) rfl rfl rfl size50 rfl (by kernel_rfl) ?_))
      have hs : IntsAt (wr.alloc (.cells #[.int .i64 10, .int .i64 10, .int .i64 10] 3)) (.slice (some ⟨wr.heap.size, 0, none⟩) 3 3) [10, 10, 10] := ints_new (w1 := wr.alloc (.cells #[.int .i64 10, .int .i64 10, .int .i64 10] 3)) (w := wr) (xs := [10, 10, 10]) 3 (Ext.new (Ext.refl _)) rfl (by omega) (cs := #[.int .i64 10, .int .i64 10, .int .i64 10]) (fun i hi => by rcases three hi with rfl | rfl | rfl <;> rfl)
      have hxa : Ext wr (wr.alloc (.cells #[.int .i64 10, .int .i64 10, .int .i64 10] 3)) := (Ext.refl _).alloc _
      have hxb : Ext c1 (c1.alloc (.cells #[.slice (some ⟨wr.heap.size, 0, none⟩) 3 3, .slice ya 3 yc, .slice za 2 zc, .slice xa 2 xc] 50)) := (Ext.refl _).alloc _
      have hbb : (c1.alloc (.cells #[.slice (some ⟨wr.heap.size, 0, none⟩) 3 3, .slice ya 3 yc, .slice za 2 zc, .slice xa 2 xc] 50)).heap[c1.heap.size]? = some (.cells #[.slice (some ⟨wr.heap.size, 0, none⟩) 3 3, .slice ya 3 yc, .slice za 2 zc, .slice xa 2 xc] 50 (0, 0)) := Ext.new (Ext.refl _)
      have HS := hid (And.intro (hs.mono hx1) (And.intro i2 j2))
      have HX := hid (HX.out.trans (hxa.trans hx1))
      have HX2 : Hid (Ext c1 (c1.alloc (.cells #[.slice (some ⟨wr.heap.size, 0, none⟩) 3 3, .slice ya 3 yc, .slice za 2 zc, .slice xa 2 xc] 50))) := hxb
      have HBB := hid hbb
      obtain ⟨q1, hq1⟩ : ∃ q, q = wr.heap.size := ⟨_, rfl⟩
      obtain ⟨q2, hq2⟩ : ∃ q, q = c1.heap.size := ⟨_, rfl⟩
      have HQ2 := hid hq2
      rw [← hq1, ← hq2] at HBB
      rw [← hq1] at HS HX2
      rw [← hq1, ← hq2]
      clear hs hxa hxb hbb hx1 i2 j2 k2 hq1 hq2
      generalize (c1.alloc (.cells #[.slice (some ⟨q1, 0, none⟩) 3 3, .slice ya 3 yc, .slice za 2 zc, .slice xa 2 xc] 50)) = c2 at *
      have hxa : Ext c2 (c2.alloc (.cells #[.int .i64 0] 3)) := (Ext.refl _).alloc _
      have c0 := cell_of (hxa.block HBB.out)
      have f0 := free_of (hxa.block HBB.out)
      gi_upto_region 22 with fail
      have hq0 : c2.heap[c2.heap.size]? = none := by simp
      have hbs := set_same (hxa.block HBB.out) 3 (.slice (some ⟨c2.heap.size, 0, none⟩) 1 1)
      simp only [List.setIfInBounds_toArray, List.set_cons_succ, List.set_cons_zero] at hbs
      have hne : c2.heap.size ≠ q2 := by have := lt_of_block HBB.out; omega
      have hbn : ((c2.alloc (.cells #[.int .i64 0] 3)).setCell ⟨q2, 3, none⟩ (.slice (some ⟨c2.heap.size, 0, none⟩) 1 1)).heap[c2.heap.size]? = some (.cells #[.int .i64 0] 3 (0, 0)) := by rw [set_other hne]; exact Ext.new (Ext.refl _)
      have hx1 : Ext c1 ((c2.alloc (.cells #[.int .i64 0] 3)).setCell ⟨q2, 3, none⟩ (.slice (some ⟨c2.heap.size, 0, none⟩) 1 1)) := (HX2.out.trans hxa).set (by have := HQ2.out; omega) 3 _
      have hi4 : IntsAt ((c2.alloc (.cells #[.int .i64 0] 3)).setCell ⟨q2, 3, none⟩ (.slice (some ⟨c2.heap.size, 0, none⟩) 1 1)) (.slice (some ⟨c2.heap.size, 0, none⟩) 1 1) [0] := ints_new (w := c2) 1 hbn rfl (by omega) (fun i hi => by obtain rfl : i = 0 := (by simp at hi; omega); rfl)
      have HTR : Hid (TrAt ((c2.alloc (.cells #[.int .i64 0] 3)).setCell ⟨q2, 3, none⟩ (.slice (some ⟨c2.heap.size, 0, none⟩) 1 1)) (.agg #[.slice (some ⟨q1, 0, none⟩) 3 3, .slice ya 3 yc, .slice za 2 zc, .slice (some ⟨c2.heap.size, 0, none⟩) 1 1]) kT1) := ⟨_, _, _, _, rfl, HS.out.1.mono hx1, HS.out.2.1.mono hx1, HS.out.2.2.mono hx1, hi4⟩
      have HX := hid (HX.out.trans hx1)
      have HBB := hid hbs
      clear hbs hbn hne hx1 hi4 hxa hq0 HX2 HS HQ2 c0 f0
      obtain ⟨q4, hq4⟩ : ∃ q, q = c2.heap.size := ⟨_, rfl⟩
      rw [← hq4] at HTR HX HBB ⊢
      clear hq4
      generalize ((c2.alloc (.cells #[.int .i64 0] 3)).setCell ⟨q2, 3, none⟩ (.slice (some ⟨q4, 0, none⟩) 1 1)) = c3 at *
      refine jj_own 9 [0, 6] (K22 c3) (by kernel_rfl) (by kernel_rfl) (K22_start c3) ?_
      simp only [List.take_succ_cons, List.take_zero, List.drop_succ_cons, List.drop_zero]
      refine jj_inv (by decide) ?_ ?_
      · intro L x u hL hd hJ
        have hcal := hid (fleet_any u)
        have HJ := hid hJ
        clear hJ hd hL
        go_simp
        exact hcal.out.mono fun e w'' ⟨v, he, hx, hq⟩ => ⟨v, he, K22_fleet HJ.out hx (fl_ex hq)⟩
      simp only [Act.put, List.setIfInBounds_toArray, List.set_cons_succ, List.set_cons_zero]
      apply jj_fun (by decide)
      · intro L x u hL hd hJ
        have e0 := cell_of (hJ.1.block HBB.out)
        have HJ := hid hJ
        clear hJ hd hL
        go_simp
        exact ⟨rfl, HJ.out⟩
      simp only [Act.put, List.setIfInBounds_toArray, List.set_cons_succ, List.set_cons_zero]
      refine jj_fun (v := .tuple #[.agg #[.int .i64 0, .int .i64 0], .int .i64 21]) (by decide) ?_ ?_
      · intro L x u hL hd hJ
        have hl : L 0 = true := by first | exact hd.1 rfl | exact hd.2.1 rfl | exact hd.2.2.1 rfl
        have hcal := hid (k22 (x 0) _ u (hJ.2.1 hl hL) (HTR.out.mono hJ.1))
        have HJ := hid hJ
        clear hJ hd hL hl
        go_simp
        exact hcal.out.mono fun e w'' ⟨he, hx'⟩ => ⟨_, he, rfl, K22_lies HJ.out hx'⟩
      simp only [Act.put, List.setIfInBounds_toArray, List.set_cons_succ, List.set_cons_zero]
      apply jj_fun (by decide)
      · intro L x u hL hd hJ
        have hl : L 2 = true := by first | exact hd.1 rfl | exact hd.2.1 rfl
        have HJ : Hid (K22 c3 (updL L 3) x u) := ⟨hJ.1, hJ.2.1, hJ.2.2.1, fun _ => hl, hJ.2.2.2.2⟩
        clear hJ hd hL hl
        go_simp
        exact ⟨rfl, HJ.out⟩
      simp only [Act.put, List.setIfInBounds_toArray, List.set_cons_succ, List.set_cons_zero]
      apply jj_fun (by decide)
      · intro L x u hL hd hJ
        have hl : L 3 = true := by first | exact hd.1 rfl | exact hd.2.1 rfl
        have hl2 := hJ.2.2.2.1 hl
        have HJ : Hid (K22 c3 (updL L 4) x u) := ⟨hJ.1, hJ.2.1, hJ.2.2.1, hJ.2.2.2.1, fun _ => hl2⟩
        clear hJ hd hL hl hl2
        go_simp
        exact ⟨rfl, HJ.out⟩
      simp only [Act.put, List.setIfInBounds_toArray, List.set_cons_succ, List.set_cons_zero]
      apply jj_fun (by decide)
      · intro L x u hL hd hJ
        have HJ := hid hJ
        clear hJ hd hL
        go_simp
        exact ⟨rfl, HJ.out⟩
      simp only [Act.put, List.setIfInBounds_toArray, List.set_cons_succ, List.set_cons_zero]
      refine jj_inv (by decide) ?_ ?_
      · intro L x u hL hd hJ
        have HJ := hid (K22_box hJ)
        clear hJ hd hL
        go_simp
        exact HJ.out
      simp only [Act.put, List.setIfInBounds_toArray, List.set_cons_succ, List.set_cons_zero]
      refine jj_fun (v := undef) (by decide) ?_ ?_
      · intro L x u hL hd hJ
        have hl : L 6 = true := by first | exact hd.1 rfl | exact hd.2.1 rfl | exact hd.2.2.1 rfl
        have hl4 : L 4 = true := by first | exact hd.1 rfl | exact hd.2.1 rfl | exact hd.2.2.1 rfl
        obtain ⟨g, hx8, hg, hb⟩ := hJ.2.2.1 hl
        have HJ := hid (K22_fill hJ hl4 hg hx8 hb)
        have cb := cell_of hb
        have fb := free_of hb
        rw [hx8]
        clear hJ hd hL hb hl hx8 hl4
        go_simp
        exact HJ.out
      simp only [Act.put, List.setIfInBounds_toArray, List.set_cons_succ, List.set_cons_zero]
      apply jj_fun (by decide)
      · intro L x u hL hd hJ
        have HJ := hid hJ
        clear hJ hd hL
        go_simp
        exact ⟨rfl, HJ.out⟩
      simp only [Act.put, List.setIfInBounds_toArray, List.set_cons_succ, List.set_cons_zero]
      refine jj_nil fun L x u hall hJ => ?_
      have HX := hid (HX.out.trans hJ.1)
      clear hJ hall HTR HBB
      generalize x 0 = x0 at *
      generalize x 6 = x6 at *
      clear x L
      obtain ⟨c4, hc4⟩ : ∃ c4, c4 = u := ⟨_, rfl⟩
      rw [← hc4] at HX ⊢
      clear hc4
      gi_upto_region 24 with (first | (gi_at_call 40; ((with_reducible refine (fleet_any _).mono ?_); rintro e f1 ⟨v1, rfl, hx1, hq1⟩)) | (gi_at_call 41; ((with_reducible refine (tide_any _ _ _ _).mono ?_); rintro e f2 ⟨a2, b2, d2, rfl, hx2, i2, j2, k2⟩)) | (gi_at_call 29; have hC := k23 _ (.agg #[.slice (some ⟨f1.heap.size, 0, none⟩) 3 3, a2, b2, d2]) f2 ((fl_ex hq1).mono (((Ext.refl f1).alloc (.cells #[.int .i64 10, .int .i64 10, .int .i64 21] 3)).trans hx2)) ⟨_, _, _, _, rfl, IntsAt.mono (ints_new (w1 := f1.alloc (.cells #[.int .i64 10, .int .i64 10, .int .i64 21] 3)) (w := f1) (xs := [10, 10, 21]) 3 (Ext.new (Ext.refl _)) rfl (by omega) (cs := #[.int .i64 10, .int .i64 10, .int .i64 21]) (fun i hi => by rcases three hi with rfl | rfl | rfl <;> rfl)) hx2, i2, j2, k2⟩; ((with_reducible refine hC.mono ?_); clear hC; rintro e f3 ⟨rfl, hx3⟩)) | (refine wpIn_store_fresh (fun _ => trivial) 54 (.tmp 17) (.tmp 207) rfl (W := f3) (c' := #[.int .i64 0, .int .i64 0]) rfl rfl rfl size54 rfl (by kernel_rfl) ?_))
      have hz : Ext c4 (f3.alloc (.cells #[.int .i64 0, .int .i64 0] 54)) := (((hx1.trans ((Ext.refl f1).alloc (.cells #[.int .i64 10, .int .i64 10, .int .i64 21] 3))).trans hx2).trans hx3).alloc _
      have HX := hid (HX.out.trans hz)
      clear hx1 hx2 hx3 hz hq1 i2 j2 k2
      generalize (f3.alloc (.cells #[.int .i64 0, .int .i64 0] 54)) = d6 at *
      gi_upto_region 25 with (first | (gi_at_call 40; ((with_reducible refine (fleet_any _).mono ?_); rintro e f1 ⟨v1, rfl, hx1, hq1⟩)) | (gi_at_call 41; ((with_reducible refine (tide_any _ _ _ _).mono ?_); rintro e f2 ⟨a2, b2, d2, rfl, hx2, i2, j2, k2⟩)) | (gi_at_call 29; have hC := k24 _ (.agg #[.slice (some ⟨f1.heap.size, 0, none⟩) 3 3, a2, b2, d2]) f2 ((fl_ex hq1).mono (((Ext.refl f1).alloc (.cells #[.int .i64 10, .int .i64 10, .int .i64 10] 3)).trans hx2)) ⟨_, _, _, _, rfl, IntsAt.mono (ints_new (w1 := f1.alloc (.cells #[.int .i64 10, .int .i64 10, .int .i64 10] 3)) (w := f1) (xs := [10, 10, 10]) 3 (Ext.new (Ext.refl _)) rfl (by omega) (cs := #[.int .i64 10, .int .i64 10, .int .i64 10]) (fun i hi => by rcases three hi with rfl | rfl | rfl <;> rfl)) hx2, i2, j2, k2⟩; ((with_reducible refine hC.mono ?_); clear hC; rintro e f3 ⟨rfl, hx3⟩)) | (refine wpIn_store_fresh (fun _ => trivial) 54 (.tmp 19) (.tmp 214) rfl (W := f3) (c' := #[.int .i64 0, .int .i64 0]) rfl rfl rfl size54 rfl (by kernel_rfl) ?_))
      have hz : Ext d6 (f3.alloc (.cells #[.int .i64 0, .int .i64 0] 54)) := (((hx1.trans ((Ext.refl f1).alloc (.cells #[.int .i64 10, .int .i64 10, .int .i64 10] 3))).trans hx2).trans hx3).alloc _
      have HX := hid (HX.out.trans hz)
      clear hx1 hx2 hx3 hz hq1 i2 j2 k2
      generalize (f3.alloc (.cells #[.int .i64 0, .int .i64 0] 54)) = d7 at *
      gi_upto_region 26 with (first | (gi_at_call 40; ((with_reducible refine (fleet_any _).mono ?_); rintro e f1 ⟨v1, rfl, hx1, hq1⟩)) | (gi_at_call 41; ((with_reducible refine (tide_any _ _ _ _).mono ?_); rintro e f2 ⟨a2, b2, d2, rfl, hx2, i2, j2, k2⟩)) | (gi_at_call 29; have hC := k25 _ (.agg #[.slice (some ⟨f1.heap.size, 0, none⟩) 3 3, a2, b2, d2]) f2 ((fl_ex hq1).mono (((Ext.refl f1).alloc (.cells #[.int .i64 10, .int .i64 10, .int .i64 10] 3)).trans hx2)) ⟨_, _, _, _, rfl, IntsAt.mono (ints_new (w1 := f1.alloc (.cells #[.int .i64 10, .int .i64 10, .int .i64 10] 3)) (w := f1) (xs := [10, 10, 10]) 3 (Ext.new (Ext.refl _)) rfl (by omega) (cs := #[.int .i64 10, .int .i64 10, .int .i64 10]) (fun i hi => by rcases three hi with rfl | rfl | rfl <;> rfl)) hx2, i2, j2, k2⟩; ((with_reducible refine hC.mono ?_); clear hC; rintro e f3 ⟨rfl, hx3⟩)) | (refine wpIn_store_fresh (fun _ => trivial) 54 (.tmp 21) (.tmp 221) rfl (W := f3) (c' := #[.int .i64 0, .int .i64 0]) rfl rfl rfl size54 rfl (by kernel_rfl) ?_))
      have hz : Ext d7 (f3.alloc (.cells #[.int .i64 0, .int .i64 0] 54)) := (((hx1.trans ((Ext.refl f1).alloc (.cells #[.int .i64 10, .int .i64 10, .int .i64 10] 3))).trans hx2).trans hx3).alloc _
      have HX := hid (HX.out.trans hz)
      clear hx1 hx2 hx3 hz hq1 i2 j2 k2
      generalize (f3.alloc (.cells #[.int .i64 0, .int .i64 0] 54)) = d8 at *
      gi_upto_region 27 with (first | (gi_at_call 40; ((with_reducible refine (fleet_any _).mono ?_); rintro e f1 ⟨v1, rfl, hx1, hq1⟩)) | (gi_at_call 41; ((with_reducible refine (tide_any _ _ _ _).mono ?_); rintro e f2 ⟨a2, b2, d2, rfl, hx2, i2, j2, k2⟩)) | (gi_at_call 29; have hC := k26 _ (.agg #[.slice (some ⟨f1.heap.size, 0, none⟩) 3 3, a2, b2, d2]) f2 ((fl_ex hq1).mono (((Ext.refl f1).alloc (.cells #[.int .i64 10, .int .i64 10, .int .i64 10] 3)).trans hx2)) ⟨_, _, _, _, rfl, IntsAt.mono (ints_new (w1 := f1.alloc (.cells #[.int .i64 10, .int .i64 10, .int .i64 10] 3)) (w := f1) (xs := [10, 10, 10]) 3 (Ext.new (Ext.refl _)) rfl (by omega) (cs := #[.int .i64 10, .int .i64 10, .int .i64 10]) (fun i hi => by rcases three hi with rfl | rfl | rfl <;> rfl)) hx2, i2, j2, k2⟩; ((with_reducible refine hC.mono ?_); clear hC; rintro e f3 ⟨rfl, hx3⟩)) | (refine wpIn_store_fresh (fun _ => trivial) 54 (.tmp 23) (.tmp 228) rfl (W := f3) (c' := #[.int .i64 0, .int .i64 0]) rfl rfl rfl size54 rfl (by kernel_rfl) ?_))
      have hz : Ext d8 (f3.alloc (.cells #[.int .i64 0, .int .i64 0] 54)) := (((hx1.trans ((Ext.refl f1).alloc (.cells #[.int .i64 10, .int .i64 10, .int .i64 10] 3))).trans hx2).trans hx3).alloc _
      have HX := hid (HX.out.trans hz)
      clear hx1 hx2 hx3 hz hq1 i2 j2 k2
      generalize (f3.alloc (.cells #[.int .i64 0, .int .i64 0] 54)) = d9 at *
      gi_upto_region 28 with (first | (gi_at_call 40; ((with_reducible refine (fleet_any _).mono ?_); rintro e f1 ⟨v1, rfl, hx1, hq1⟩)) | (gi_at_call 41; ((with_reducible refine (tide_any _ _ _ _).mono ?_); rintro e f2 ⟨a2, b2, d2, rfl, hx2, i2, j2, k2⟩)) | (gi_at_call 24; have hC := k27 _ (.agg #[.slice (some ⟨f1.heap.size, 0, none⟩) 3 3, a2, b2, d2]) f2 ((fl_ex hq1).mono (((Ext.refl f1).alloc (.cells #[.int .i64 10, .int .i64 10, .int .i64 10] 3)).trans hx2)) ⟨_, _, _, _, rfl, IntsAt.mono (ints_new (w1 := f1.alloc (.cells #[.int .i64 10, .int .i64 10, .int .i64 10] 3)) (w := f1) (xs := [10, 10, 10]) 3 (Ext.new (Ext.refl _)) rfl (by omega) (cs := #[.int .i64 10, .int .i64 10, .int .i64 10]) (fun i hi => by rcases three hi with rfl | rfl | rfl <;> rfl)) hx2, i2, j2, k2⟩; ((with_reducible refine hC.mono ?_); clear hC; rintro e f3 ⟨rfl, hx3⟩)) | (refine wpIn_store_fresh (fun _ => trivial) 43 (.tmp 25) (.tmp 235) rfl (W := f3) (c' := #[.int .i64 0, .int .i64 0, .int .i64 0]) rfl rfl rfl size43 rfl (by kernel_rfl) ?_))
      have hz : Ext d9 (f3.alloc (.cells #[.int .i64 0, .int .i64 0, .int .i64 0] 43)) := (((hx1.trans ((Ext.refl f1).alloc (.cells #[.int .i64 10, .int .i64 10, .int .i64 10] 3))).trans hx2).trans hx3).alloc _
      have HX := hid (HX.out.trans hz)
      clear hx1 hx2 hx3 hz hq1 i2 j2 k2
      generalize (f3.alloc (.cells #[.int .i64 0, .int .i64 0, .int .i64 0] 43)) = d10 at *
      gi_upto_region 29 with (first | (gi_at_call 40; ((with_reducible refine (fleet_any _).mono ?_); rintro e f1 ⟨v1, rfl, hx1, hq1⟩)) | (gi_at_call 28; ((with_reducible refine (k28 _ _ (fl_ex hq1)).mono ?_); rintro e f2 ⟨rfl, hx2⟩)) | (refine wpIn_store_new (t := 56) 56 (.tmp 27) (.tmp 240) rfl (fun _ => trivial) rfl rfl two_new size56 rfl (by kernel_rfl) ?_; intro g7 e1 e2 e3) | (refine wpIn_store_new (t := 56) (old := #[.int .i64 0, .int .i64 0]) 56 (.tmp 28) (.tmp 241) rfl (fun _ => trivial) (g := f2.heap.size + 1) rfl rfl ((e2 _ (by omega)).trans (by have := Ext.new (w := f2.alloc (.cells #[.int .i64 0, .int .i64 0] 56)) (o := .cells #[.int .i64 0, .int .i64 0] 56) (Ext.refl _); rwa [World.size_alloc] at this)) size56 rfl (by kernel_rfl) ?_; intro g8 e4 e5 e6))
      have hz : Ext f2 g8 := e6 f2 (by omega) (e3 f2 (by omega) (((Ext.refl _).alloc _).alloc _))
      have HX := hid (HX.out.trans ((hx1.trans hx2).trans hz))
      clear hx1 hx2 hz hq1 e1 e2 e3 e4 e5 e6
      obtain ⟨d11, hnx⟩ : ∃ d11, d11 = g8 := ⟨_, rfl⟩
      rw [← hnx] at HX ⊢
      clear hnx
      gi_upto_region 30 with (first | (gi_at_call 40; ((with_reducible refine (fleet_any _).mono ?_); rintro e f1 ⟨v1, rfl, hx1, hq1⟩)) | (gi_at_call 28; ((with_reducible refine (k29 _ _ (fl_ex hq1)).mono ?_); rintro e f2 ⟨rfl, hx2⟩)) | (refine wpIn_store_new (t := 56) 56 (.tmp 30) (.tmp 246) rfl (fun _ => trivial) rfl rfl two_new size56 rfl (by kernel_rfl) ?_; intro g7 e1 e2 e3) | (refine wpIn_store_new (t := 56) (old := #[.int .i64 0, .int .i64 0]) 56 (.tmp 31) (.tmp 247) rfl (fun _ => trivial) (g := f2.heap.size + 1) rfl rfl ((e2 _ (by omega)).trans (by have := Ext.new (w := f2.alloc (.cells #[.int .i64 0, .int .i64 0] 56)) (o := .cells #[.int .i64 0, .int .i64 0] 56) (Ext.refl _); rwa [World.size_alloc] at this)) size56 rfl (by kernel_rfl) ?_; intro g8 e4 e5 e6))
      have hz : Ext f2 g8 := e6 f2 (by omega) (e3 f2 (by omega) (((Ext.refl _).alloc _).alloc _))
      have HX := hid (HX.out.trans ((hx1.trans hx2).trans hz))
      clear hx1 hx2 hz hq1 e1 e2 e3 e4 e5 e6
      obtain ⟨d12, hnx⟩ : ∃ d12, d12 = g8 := ⟨_, rfl⟩
      rw [← hnx] at HX ⊢
      clear hnx
      gi_upto_region 31 with (first | (gi_at_call 42; ((with_reducible refine (distant_any _).mono ?_); rintro e f1 ⟨v1, rfl, hx1, hq1⟩)) | (gi_at_call 21; ((with_reducible refine (k30 _ _ (fl_exd hq1)).mono ?_); rintro e f2 ⟨rfl, hx2⟩)) | (refine wpIn_store_fresh (fun _ => trivial) 43 (.tmp 33) (.tmp 252) rfl (W := f2) (c' := #[.int .i64 0, .int .i64 0, .int .i64 0]) rfl rfl rfl size43 rfl (by kernel_rfl) ?_))
      have HX := hid (HX.out.trans ((hx1.trans hx2).alloc (.cells #[.int .i64 0, .int .i64 0, .int .i64 0] 43)))
      clear hx1 hx2 hq1
      generalize (f2.alloc (.cells #[.int .i64 0, .int .i64 0, .int .i64 0] 43)) = d13 at *
      gi_upto_region 32 with (first | (gi_at_call 40; ((with_reducible refine (fleet_any _).mono ?_); rintro e f1 ⟨v1, rfl, hx1, hq1⟩)) | (gi_at_call 33; ((with_reducible refine (k31 _ _ (fl_ex hq1)).mono ?_); rintro e f2 ⟨rfl, hx2⟩)))
      have HX := hid (HX.out.trans (hx1.trans hx2))
      clear hx1 hx2 hq1
      obtain ⟨d14, hnx⟩ : ∃ d14, d14 = f2 := ⟨_, rfl⟩
      rw [← hnx] at HX ⊢
      clear hnx
      gi_upto_region 33 with (first | (gi_at_call 40; ((with_reducible refine (fleet_any _).mono ?_); rintro e f1 ⟨v1, rfl, hx1, hq1⟩)) | (gi_at_call 33; ((with_reducible refine (k32 _ _ (fl_ex hq1)).mono ?_); rintro e f2 ⟨rfl, hx2⟩)))
      have HX := hid (HX.out.trans (hx1.trans hx2))
      clear hx1 hx2 hq1
      obtain ⟨d15, hnx⟩ : ∃ d15, d15 = f2 := ⟨_, rfl⟩
      rw [← hnx] at HX ⊢
      clear hnx
      have hg1 : (d15.alloc (.cells #[.int .i64 1, .int .i64 0] 86)).heap[d15.heap.size]? = some (.cells #[.int .i64 1, .int .i64 0] 86 (0, 0)) := Ext.new (Ext.refl _)
      have HC := hid (torn_one _ 1 0 _ hg1)
      have hx0 : Ext d15 (d15.alloc (.cells #[.int .i64 1, .int .i64 0] 86)) := (Ext.refl _).alloc _
      clear hg1
      gi_wp2_with (gi_at_call 43; ((with_reducible refine (HC.out).mono ?_); rintro e t1 ⟨s1, rfl, hx1, hq1⟩))
      have HX := hid (HX.out.trans (hx0.trans hx1))
      have HQ1 := hid hq1
      clear HC hx0 hx1 hq1
      have hg1 : (t1.alloc (.cells #[.int .i64 2, .int .i64 3] 86)).heap[t1.heap.size]? = some (.cells #[.int .i64 2, .int .i64 3] 86 (0, 0)) := Ext.new (Ext.refl _)
      have HC := hid (torn_one _ 2 3 _ hg1)
      have hx0 : Ext t1 (t1.alloc (.cells #[.int .i64 2, .int .i64 3] 86)) := (Ext.refl _).alloc _
      clear hg1
      gi_wp2_with (gi_at_call 43; ((with_reducible refine (HC.out).mono ?_); rintro e t2 ⟨s2, rfl, hx1, hq1⟩))
      have HX := hid (HX.out.trans (hx0.trans hx1))
      have HQ1 := hid (HQ1.out.mono (hx0.trans hx1))
      have HQ2 := hid hq1
      clear HC hx0 hx1 hq1
      have hg1 : (t2.alloc (.cells #[.int .i64 1, .int .i64 2] 86)).heap[t2.heap.size]? = some (.cells #[.int .i64 1, .int .i64 2] 86 (0, 0)) := Ext.new (Ext.refl _)
      have HC := hid (torn_one _ 1 2 _ hg1)
      have hx0 : Ext t2 (t2.alloc (.cells #[.int .i64 1, .int .i64 2] 86)) := (Ext.refl _).alloc _
      clear hg1
      gi_wp2_with (gi_at_call 43; ((with_reducible refine (HC.out).mono ?_); rintro e t3 ⟨s3, rfl, hx1, hq1⟩))
      have HX := hid (HX.out.trans (hx0.trans hx1))
      have HQ1 := hid (HQ1.out.mono (hx0.trans hx1))
      have HQ2 := hid (HQ2.out.mono (hx0.trans hx1))
      have HQ3 := hid hq1
      clear HC hx0 hx1 hq1
      have hg1 : (t3.alloc (.cells #[.int .i64 5, .int .i64 8] 86)).heap[t3.heap.size]? = some (.cells #[.int .i64 5, .int .i64 8] 86 (0, 0)) := Ext.new (Ext.refl _)
      have HC := hid (torn_one _ 5 8 _ hg1)
      have hx0 : Ext t3 (t3.alloc (.cells #[.int .i64 5, .int .i64 8] 86)) := (Ext.refl _).alloc _
      clear hg1
      gi_wp2_with (gi_at_call 43; ((with_reducible refine (HC.out).mono ?_); rintro e t4 ⟨s4, rfl, hx1, hq1⟩))
      have HX := hid (HX.out.trans (hx0.trans hx1))
      have HQ1 := hid (HQ1.out.mono (hx0.trans hx1))
      have HQ2 := hid (HQ2.out.mono (hx0.trans hx1))
      have HQ3 := hid (HQ3.out.mono (hx0.trans hx1))
      have HQ4 := hid hq1
      clear HC hx0 hx1 hq1
      have HC := hid (torn_nil t4)
      gi_wp2_with (gi_at_call 43; ((with_reducible refine (HC.out).mono ?_); rintro e t5 ⟨s5, rfl, hx1, hq1⟩))
      have HX := hid (HX.out.trans hx1)
      have HQ1 := hid (HQ1.out.mono hx1)
      have HQ2 := hid (HQ2.out.mono hx1)
      have HQ3 := hid (HQ3.out.mono hx1)
      have HQ4 := hid (HQ4.out.mono hx1)
      have HQ5 := hid hq1
      clear HC hx1 hq1
      have HC := hid (torn_nil t5)
      gi_wp2_with (gi_at_call 43; ((with_reducible refine (HC.out).mono ?_); rintro e t6 ⟨s6, rfl, hx1, hq1⟩))
      have HX := hid (HX.out.trans hx1)
      have HQ1 := hid (HQ1.out.mono hx1)
      have HQ2 := hid (HQ2.out.mono hx1)
      have HQ3 := hid (HQ3.out.mono hx1)
      have HQ4 := hid (HQ4.out.mono hx1)
      have HQ5 := hid (HQ5.out.mono hx1)
      have HQ6 := hid hq1
      clear HC hx1 hq1
      have HC := hid (torn_nil t6)
      gi_upto_region 36 with (gi_at_call 43; ((with_reducible refine (HC.out).mono ?_); rintro e t7 ⟨s7, rfl, hx1, hq1⟩))
      have HX := hid (HX.out.trans hx1)
      have HQ1 := hid (HQ1.out.mono hx1)
      have HQ2 := hid (HQ2.out.mono hx1)
      have HQ3 := hid (HQ3.out.mono hx1)
      have HQ4 := hid (HQ4.out.mono hx1)
      have HQ5 := hid (HQ5.out.mono hx1)
      have HQ6 := hid (HQ6.out.mono hx1)
      have HQ7 := hid hq1
      clear HC hx1 hq1
      have hx0 : Ext t7 (t7.alloc (.cells #[.int .i64 0, .int .i64 0, .slice none 0 0, .int .i64 0, .int .i64 0, .int .i64 3, .int .i64 2, s1, .int .i64 10, .int .i64 3, .int .i64 3, .int .i64 2, s2, .int .i64 10, .int .i64 3, .int .i64 3, .int .i64 2, s3, .int .i64 10, .int .i64 3, .int .i64 3, .int .i64 2, s4, .int .i64 10, .int .i64 3, .int .i64 3, .int .i64 2, s5, .int .i64 10, .int .i64 3, .int .i64 3, .int .i64 2, s6, .int .i64 10, .int .i64 3, .int .i64 3, .int .i64 2, s7, .int .i64 10, .int .i64 3] 24)) := (Ext.refl _).alloc _
      have ht : (t7.alloc (.cells #[.int .i64 0, .int .i64 0, .slice none 0 0, .int .i64 0, .int .i64 0, .int .i64 3, .int .i64 2, s1, .int .i64 10, .int .i64 3, .int .i64 3, .int .i64 2, s2, .int .i64 10, .int .i64 3, .int .i64 3, .int .i64 2, s3, .int .i64 10, .int .i64 3, .int .i64 3, .int .i64 2, s4, .int .i64 10, .int .i64 3, .int .i64 3, .int .i64 2, s5, .int .i64 10, .int .i64 3, .int .i64 3, .int .i64 2, s6, .int .i64 10, .int .i64 3, .int .i64 3, .int .i64 2, s7, .int .i64 10, .int .i64 3] 24)).heap[t7.heap.size]? = some (.cells #[.int .i64 0, .int .i64 0, .slice none 0 0, .int .i64 0, .int .i64 0, .int .i64 3, .int .i64 2, s1, .int .i64 10, .int .i64 3, .int .i64 3, .int .i64 2, s2, .int .i64 10, .int .i64 3, .int .i64 3, .int .i64 2, s3, .int .i64 10, .int .i64 3, .int .i64 3, .int .i64 2, s4, .int .i64 10, .int .i64 3, .int .i64 3, .int .i64 2, s5, .int .i64 10, .int .i64 3, .int .i64 3, .int .i64 2, s6, .int .i64 10, .int .i64 3, .int .i64 3, .int .i64 2, s7, .int .i64 10, .int .i64 3] 24 (0, 0)) := Ext.new (Ext.refl _)
      have HE := hid hx0
      have HT := hid ht
      obtain ⟨G2, hG2⟩ : ∃ q, q = t7.heap.size := ⟨_, rfl⟩
      have HG2 := hid hG2
      rw [← hG2] at HT ⊢
      clear hx0 ht hG2
      generalize (t7.alloc (.cells #[.int .i64 0, .int .i64 0, .slice none 0 0, .int .i64 0, .int .i64 0, .int .i64 3, .int .i64 2, s1, .int .i64 10, .int .i64 3, .int .i64 3, .int .i64 2, s2, .int .i64 10, .int .i64 3, .int .i64 3, .int .i64 2, s3, .int .i64 10, .int .i64 3, .int .i64 3, .int .i64 2, s4, .int .i64 10, .int .i64 3, .int .i64 3, .int .i64 2, s5, .int .i64 10, .int .i64 3, .int .i64 3, .int .i64 2, s6, .int .i64 10, .int .i64 3, .int .i64 3, .int .i64 2, s7, .int .i64 10, .int .i64 3] 24)) = y0 at *
      have c0 := cell_of HT.out
      have f0 := free_of HT.out
      gi_upto_region 37 with fail
      have hn := set_same HT.out 28 (.int .i64 0)
      simp only [List.setIfInBounds_toArray, List.set_cons_succ, List.set_cons_zero] at hn
      have HE := hid (HE.out.set (b := G2) (by have := HG2.out; omega) 28 (.int .i64 0))
      have HT := hid hn
      clear c0 f0 hn
      generalize y0.setCell ⟨G2, 28, none⟩ (.int .i64 0) = y1 at *
      have c0 := cell_of HT.out
      have f0 := free_of HT.out
      gi_upto_region 38 with fail
      have hn := set_same HT.out 34 (.int .i64 101)
      simp only [List.setIfInBounds_toArray, List.set_cons_succ, List.set_cons_zero] at hn
      have HE := hid (HE.out.set (b := G2) (by have := HG2.out; omega) 34 (.int .i64 101))
      have HT := hid hn
      clear c0 f0 hn
      generalize y1.setCell ⟨G2, 34, none⟩ (.int .i64 101) = y2 at *
      have c0 := cell_of HT.out
      have f0 := free_of HT.out
      gi_upto_region 39 with fail
      have hn := set_same HT.out 35 (.int .i64 7)
      simp only [List.setIfInBounds_toArray, List.set_cons_succ, List.set_cons_zero] at hn
      have HE := hid (HE.out.set (b := G2) (by have := HG2.out; omega) 35 (.int .i64 7))
      have HT := hid hn
      clear c0 f0 hn
      generalize y2.setCell ⟨G2, 35, none⟩ (.int .i64 7) = y3 at *
      have TN0 : TnAt y3 (.agg #[.int .i64 0, .int .i64 0, .slice none 0 0, .int .i64 0, .int .i64 0]) (tnL 0) := ⟨.slice none 0 0, rfl, spans_nil _⟩
      have TN1 : TnAt y3 (.agg #[.int .i64 3, .int .i64 2, s1, .int .i64 10, .int .i64 3]) (tnL 1) := ⟨s1, rfl, HQ1.out.mono HE.out⟩
      have TN2 : TnAt y3 (.agg #[.int .i64 3, .int .i64 2, s2, .int .i64 10, .int .i64 3]) (tnL 2) := ⟨s2, rfl, HQ2.out.mono HE.out⟩
      have TN3 : TnAt y3 (.agg #[.int .i64 3, .int .i64 2, s3, .int .i64 10, .int .i64 3]) (tnL 3) := ⟨s3, rfl, HQ3.out.mono HE.out⟩
      have TN4 : TnAt y3 (.agg #[.int .i64 3, .int .i64 2, s4, .int .i64 10, .int .i64 3]) (tnL 4) := ⟨s4, rfl, HQ4.out.mono HE.out⟩
      have TN5 : TnAt y3 (.agg #[.int .i64 3, .int .i64 2, s5, .int .i64 0, .int .i64 3]) (tnL 5) := ⟨s5, rfl, HQ5.out.mono HE.out⟩
      have TN6 : TnAt y3 (.agg #[.int .i64 3, .int .i64 2, s6, .int .i64 10, .int .i64 101]) (tnL 6) := ⟨s6, rfl, HQ6.out.mono HE.out⟩
      have TN7 : TnAt y3 (.agg #[.int .i64 7, .int .i64 2, s7, .int .i64 10, .int .i64 3]) (tnL 7) := ⟨s7, rfl, HQ7.out.mono HE.out⟩
      have HX := hid (HX.out.trans HE.out)
      have HTN : Hid (∀ i, i < 8 → ∃ va vb vs vm vk : Value, TnAt y3 (.agg #[va, vb, vs, vm, vk]) (tnL i) ∧ y3.cell? ⟨G2, i * 5, none⟩ = some va ∧ y3.cell? ⟨G2, i * 5 + 1, none⟩ = some vb ∧ y3.cell? ⟨G2, i * 5 + 2, none⟩ = some vs ∧ y3.cell? ⟨G2, i * 5 + 3, none⟩ = some vm ∧ y3.cell? ⟨G2, i * 5 + 4, none⟩ = some vk) := fun i hi => by
        have hg := HT.out
        rcases eight hi with rfl | rfl | rfl | rfl | rfl | rfl | rfl | rfl
        · exact ⟨_, _, _, _, _, TN0, by rw [cell_of hg]; rfl, by rw [cell_of hg]; rfl, by rw [cell_of hg]; rfl, by rw [cell_of hg]; rfl, by rw [cell_of hg]; rfl⟩
        · exact ⟨_, _, _, _, _, TN1, by rw [cell_of hg]; rfl, by rw [cell_of hg]; rfl, by rw [cell_of hg]; rfl, by rw [cell_of hg]; rfl, by rw [cell_of hg]; rfl⟩
        · exact ⟨_, _, _, _, _, TN2, by rw [cell_of hg]; rfl, by rw [cell_of hg]; rfl, by rw [cell_of hg]; rfl, by rw [cell_of hg]; rfl, by rw [cell_of hg]; rfl⟩
        · exact ⟨_, _, _, _, _, TN3, by rw [cell_of hg]; rfl, by rw [cell_of hg]; rfl, by rw [cell_of hg]; rfl, by rw [cell_of hg]; rfl, by rw [cell_of hg]; rfl⟩
        · exact ⟨_, _, _, _, _, TN4, by rw [cell_of hg]; rfl, by rw [cell_of hg]; rfl, by rw [cell_of hg]; rfl, by rw [cell_of hg]; rfl, by rw [cell_of hg]; rfl⟩
        · exact ⟨_, _, _, _, _, TN5, by rw [cell_of hg]; rfl, by rw [cell_of hg]; rfl, by rw [cell_of hg]; rfl, by rw [cell_of hg]; rfl, by rw [cell_of hg]; rfl⟩
        · exact ⟨_, _, _, _, _, TN6, by rw [cell_of hg]; rfl, by rw [cell_of hg]; rfl, by rw [cell_of hg]; rfl, by rw [cell_of hg]; rfl, by rw [cell_of hg]; rfl⟩
        · exact ⟨_, _, _, _, _, TN7, by rw [cell_of hg]; rfl, by rw [cell_of hg]; rfl, by rw [cell_of hg]; rfl, by rw [cell_of hg]; rfl, by rw [cell_of hg]; rfl⟩
      have HGL := hid (lt_of_block HT.out)
      clear TN0 TN1 TN2 TN3 TN4 TN5 TN6 TN7 HT HE HG2 HQ1 HQ2 HQ3 HQ4 HQ5 HQ6 HQ7
      gi_wp2_with fail
      gi_loopw [40] (fun j wr => ∃ i : Nat, i ≤ 8 ∧ j = .int .i64 i ∧ Ext y3 wr) (fun j _ => 8 - (intOf j).toNat)
      case atStart => exact ⟨0, by omega, rfl, Ext.refl _⟩
      case round =>
        obtain ⟨i, hi, rfl, hr⟩ := hrel
        have HR := hid hr
        clear hr
        by_cases hlt : i < 8
        · have hki : (i : Int) < 8 := by omega
          obtain ⟨va, vb, vs, vm, vk, htn, q0, q1, q2, q3, q4⟩ := HTN.out i hlt
          have hbad := torn_bad (tn_bad hlt) []
          have HC := hid (fun (u : World) (hu : Ext y3 u) => And.intro ((hu.cell (p := ⟨G2, i * 5, none⟩) HGL.out).trans q0) (And.intro ((hu.cell (p := ⟨G2, i * 5 + 1, none⟩) HGL.out).trans q1) (And.intro ((hu.cell (p := ⟨G2, i * 5 + 2, none⟩) HGL.out).trans q2) (And.intro ((hu.cell (p := ⟨G2, i * 5 + 3, none⟩) HGL.out).trans q3) ((hu.cell (p := ⟨G2, i * 5 + 4, none⟩) HGL.out).trans q4)))))
          have H12 := hid (fun (u : World) (hu : Ext y3 u) => IsMend_c (tnL i) _ _ [] u (htn.mono hu) (pieces_nil u))
          have H18 := hid (fun (u : World) (hu : Ext y3 u) => Mend_c (tnL i) _ u (htn.mono hu))
          have H16 := hid (fun (u : World) (hu : Ext y3 u) => Twine_c (tnL i) _ u (htn.mono hu))
          have H14 := hid (fun (u : World) (hu : Ext y3 u) => CheckTorn_c (tnL i) _ u (htn.mono hu))
          rw [hbad.1, hbad.2.2.2.1, hbad.2.2.2.2] at H12
          rw [hbad.2.2.1] at H18
          rw [hbad.1, hbad.2.1] at H16
          rw [hbad.1] at H14
          clear htn q0 q1 q2 q3 q4 hbad
          gi_upto_region 42 with fail
          obtain ⟨k0, k1, k2, k3, k4⟩ := HC.out _ HR.out
          gi_upto_region 43 with (gi_at_call 12; ((with_reducible refine (H12.out _ HR.out).mono ?_); rintro e w9 ⟨rfl, hx9⟩))
          have HR := hid (HR.out.trans hx9)
          clear k0 k1 k2 k3 k4 hx9
          obtain ⟨k0, k1, k2, k3, k4⟩ := HC.out _ HR.out
          gi_upto_region 44 with (gi_at_call 18; ((with_reducible refine (H18.out _ HR.out).mono ?_); rintro e w9 ⟨v9, rfl, hx9, hp9⟩; clear hp9))
          have HR := hid (HR.out.trans hx9)
          clear k0 k1 k2 k3 k4 hx9
          obtain ⟨k0, k1, k2, k3, k4⟩ := HC.out _ HR.out
          gi_upto_region 45 with (gi_at_call 16; ((with_reducible refine (H16.out _ HR.out).mono ?_); rintro e w9 ⟨rfl, hx9⟩))
          have HR := hid (HR.out.trans hx9)
          clear k0 k1 k2 k3 k4 hx9
          obtain ⟨k0, k1, k2, k3, k4⟩ := HC.out _ HR.out
          gi_wp2_with (gi_at_call 14; ((with_reducible refine (H14.out _ HR.out).mono ?_); rintro e w9 ⟨rfl, hx9⟩))
          go_roundw
          case rel => exact ⟨i + 1, by omega, by go_num, HR.out.trans hx9⟩
          case measure => simp [intOf]; omega
        · obtain rfl : i = 8 := by omega
          have HX := hid (HX.out.trans HR.out)
          clear HR HTN HGL hlt hi
          gi_upto_region 48 with fail
          have hxw : Ext wr (((((((((((((((wr.alloc (.cells #[.int .i64 0, .int .i64 1, .int .i64 2] 3)).alloc (.cells #[.slice (some ⟨wr.heap.size, 0, none⟩) 3 3] 41)).alloc (.cells #[.int .i64 0, .int .i64 1, .int .i64 2] 3)).alloc (.cells #[.int .i64 1, .int .i64 4] 3)).alloc (.cells #[.int .i64 1] 3)).alloc (.cells #[.slice (some ⟨wr.heap.size + 1 + 1, 0, none⟩) 3 3, .slice (some ⟨wr.heap.size + 1 + 1 + 1, 0, none⟩) 2 2, .slice (some ⟨wr.heap.size + 1 + 1 + 1 + 1, 0, none⟩) 1 1] 41)).alloc (.cells #[.int .i64 0, .int .i64 1, .int .i64 2, .int .i64 1, .int .i64 4] 3)).alloc (.cells #[.slice (some ⟨wr.heap.size + 1 + 1 + 1 + 1 + 1 + 1, 0, none⟩) 5 5] 41)).alloc (.cells #[.int .i64 0, .int .i64 1, .int .i64 2] 3)).alloc (.cells #[.int .i64 4, .int .i64 3] 3)).alloc (.cells #[.slice (some ⟨wr.heap.size + 1 + 1 + 1 + 1 + 1 + 1 + 1 + 1, 0, none⟩) 3 3, .slice (some ⟨wr.heap.size + 1 + 1 + 1 + 1 + 1 + 1 + 1 + 1 + 1, 0, none⟩) 2 2] 41)).alloc (.cells #[.int .i64 0, .int .i64 1, .int .i64 2] 3)).alloc (.cells #[.int .i64 1, .int .i64 4, .int .i64 1] 3)).alloc (.cells #[.slice (some ⟨wr.heap.size + 1 + 1 + 1 + 1 + 1 + 1 + 1 + 1 + 1 + 1 + 1, 0, none⟩) 3 3, .slice (some ⟨wr.heap.size + 1 + 1 + 1 + 1 + 1 + 1 + 1 + 1 + 1 + 1 + 1 + 1, 0, none⟩) 3 3] 41)).alloc (.cells #[.slice none 0 0, .slice (some ⟨wr.heap.size + 1, 0, none⟩) 1 1, .slice (some ⟨wr.heap.size + 1 + 1 + 1 + 1 + 1, 0, none⟩) 3 3, .slice (some ⟨wr.heap.size + 1 + 1 + 1 + 1 + 1 + 1 + 1, 0, none⟩) 1 1, .slice (some ⟨wr.heap.size + 1 + 1 + 1 + 1 + 1 + 1 + 1 + 1 + 1 + 1, 0, none⟩) 2 2, .slice (some ⟨wr.heap.size + 1 + 1 + 1 + 1 + 1 + 1 + 1 + 1 + 1 + 1 + 1 + 1 + 1, 0, none⟩) 2 2] 25)) := ((((((((((((((((Ext.refl _).alloc _).alloc _).alloc _).alloc _).alloc _).alloc _).alloc _).alloc _).alloc _).alloc _).alloc _).alloc _).alloc _).alloc _).alloc _)
          have hb0 : (((((((((((((((wr.alloc (.cells #[.int .i64 0, .int .i64 1, .int .i64 2] 3)).alloc (.cells #[.slice (some ⟨wr.heap.size, 0, none⟩) 3 3] 41)).alloc (.cells #[.int .i64 0, .int .i64 1, .int .i64 2] 3)).alloc (.cells #[.int .i64 1, .int .i64 4] 3)).alloc (.cells #[.int .i64 1] 3)).alloc (.cells #[.slice (some ⟨wr.heap.size + 1 + 1, 0, none⟩) 3 3, .slice (some ⟨wr.heap.size + 1 + 1 + 1, 0, none⟩) 2 2, .slice (some ⟨wr.heap.size + 1 + 1 + 1 + 1, 0, none⟩) 1 1] 41)).alloc (.cells #[.int .i64 0, .int .i64 1, .int .i64 2, .int .i64 1, .int .i64 4] 3)).alloc (.cells #[.slice (some ⟨wr.heap.size + 1 + 1 + 1 + 1 + 1 + 1, 0, none⟩) 5 5] 41)).alloc (.cells #[.int .i64 0, .int .i64 1, .int .i64 2] 3)).alloc (.cells #[.int .i64 4, .int .i64 3] 3)).alloc (.cells #[.slice (some ⟨wr.heap.size + 1 + 1 + 1 + 1 + 1 + 1 + 1 + 1, 0, none⟩) 3 3, .slice (some ⟨wr.heap.size + 1 + 1 + 1 + 1 + 1 + 1 + 1 + 1 + 1, 0, none⟩) 2 2] 41)).alloc (.cells #[.int .i64 0, .int .i64 1, .int .i64 2] 3)).alloc (.cells #[.int .i64 1, .int .i64 4, .int .i64 1] 3)).alloc (.cells #[.slice (some ⟨wr.heap.size + 1 + 1 + 1 + 1 + 1 + 1 + 1 + 1 + 1 + 1 + 1, 0, none⟩) 3 3, .slice (some ⟨wr.heap.size + 1 + 1 + 1 + 1 + 1 + 1 + 1 + 1 + 1 + 1 + 1 + 1, 0, none⟩) 3 3] 41)).alloc (.cells #[.slice none 0 0, .slice (some ⟨wr.heap.size + 1, 0, none⟩) 1 1, .slice (some ⟨wr.heap.size + 1 + 1 + 1 + 1 + 1, 0, none⟩) 3 3, .slice (some ⟨wr.heap.size + 1 + 1 + 1 + 1 + 1 + 1 + 1, 0, none⟩) 1 1, .slice (some ⟨wr.heap.size + 1 + 1 + 1 + 1 + 1 + 1 + 1 + 1 + 1 + 1, 0, none⟩) 2 2, .slice (some ⟨wr.heap.size + 1 + 1 + 1 + 1 + 1 + 1 + 1 + 1 + 1 + 1 + 1 + 1 + 1, 0, none⟩) 2 2] 25)).heap[wr.heap.size]? = some (.cells #[.int .i64 0, .int .i64 1, .int .i64 2] 3 (0, 0)) := by simp only [alloc_at, World.size_alloc]; (repeat rw [if_neg (by omega)]); first | rfl | rw [if_pos (by omega)] | rw [if_pos trivial]
          have hb1 : (((((((((((((((wr.alloc (.cells #[.int .i64 0, .int .i64 1, .int .i64 2] 3)).alloc (.cells #[.slice (some ⟨wr.heap.size, 0, none⟩) 3 3] 41)).alloc (.cells #[.int .i64 0, .int .i64 1, .int .i64 2] 3)).alloc (.cells #[.int .i64 1, .int .i64 4] 3)).alloc (.cells #[.int .i64 1] 3)).alloc (.cells #[.slice (some ⟨wr.heap.size + 1 + 1, 0, none⟩) 3 3, .slice (some ⟨wr.heap.size + 1 + 1 + 1, 0, none⟩) 2 2, .slice (some ⟨wr.heap.size + 1 + 1 + 1 + 1, 0, none⟩) 1 1] 41)).alloc (.cells #[.int .i64 0, .int .i64 1, .int .i64 2, .int .i64 1, .int .i64 4] 3)).alloc (.cells #[.slice (some ⟨wr.heap.size + 1 + 1 + 1 + 1 + 1 + 1, 0, none⟩) 5 5] 41)).alloc (.cells #[.int .i64 0, .int .i64 1, .int .i64 2] 3)).alloc (.cells #[.int .i64 4, .int .i64 3] 3)).alloc (.cells #[.slice (some ⟨wr.heap.size + 1 + 1 + 1 + 1 + 1 + 1 + 1 + 1, 0, none⟩) 3 3, .slice (some ⟨wr.heap.size + 1 + 1 + 1 + 1 + 1 + 1 + 1 + 1 + 1, 0, none⟩) 2 2] 41)).alloc (.cells #[.int .i64 0, .int .i64 1, .int .i64 2] 3)).alloc (.cells #[.int .i64 1, .int .i64 4, .int .i64 1] 3)).alloc (.cells #[.slice (some ⟨wr.heap.size + 1 + 1 + 1 + 1 + 1 + 1 + 1 + 1 + 1 + 1 + 1, 0, none⟩) 3 3, .slice (some ⟨wr.heap.size + 1 + 1 + 1 + 1 + 1 + 1 + 1 + 1 + 1 + 1 + 1 + 1, 0, none⟩) 3 3] 41)).alloc (.cells #[.slice none 0 0, .slice (some ⟨wr.heap.size + 1, 0, none⟩) 1 1, .slice (some ⟨wr.heap.size + 1 + 1 + 1 + 1 + 1, 0, none⟩) 3 3, .slice (some ⟨wr.heap.size + 1 + 1 + 1 + 1 + 1 + 1 + 1, 0, none⟩) 1 1, .slice (some ⟨wr.heap.size + 1 + 1 + 1 + 1 + 1 + 1 + 1 + 1 + 1 + 1, 0, none⟩) 2 2, .slice (some ⟨wr.heap.size + 1 + 1 + 1 + 1 + 1 + 1 + 1 + 1 + 1 + 1 + 1 + 1 + 1, 0, none⟩) 2 2] 25)).heap[wr.heap.size + 1]? = some (.cells #[.slice (some ⟨wr.heap.size, 0, none⟩) 3 3] 41 (0, 0)) := by simp only [alloc_at, World.size_alloc]; (repeat rw [if_neg (by omega)]); first | rfl | rw [if_pos (by omega)] | rw [if_pos trivial]
          have hb2 : (((((((((((((((wr.alloc (.cells #[.int .i64 0, .int .i64 1, .int .i64 2] 3)).alloc (.cells #[.slice (some ⟨wr.heap.size, 0, none⟩) 3 3] 41)).alloc (.cells #[.int .i64 0, .int .i64 1, .int .i64 2] 3)).alloc (.cells #[.int .i64 1, .int .i64 4] 3)).alloc (.cells #[.int .i64 1] 3)).alloc (.cells #[.slice (some ⟨wr.heap.size + 1 + 1, 0, none⟩) 3 3, .slice (some ⟨wr.heap.size + 1 + 1 + 1, 0, none⟩) 2 2, .slice (some ⟨wr.heap.size + 1 + 1 + 1 + 1, 0, none⟩) 1 1] 41)).alloc (.cells #[.int .i64 0, .int .i64 1, .int .i64 2, .int .i64 1, .int .i64 4] 3)).alloc (.cells #[.slice (some ⟨wr.heap.size + 1 + 1 + 1 + 1 + 1 + 1, 0, none⟩) 5 5] 41)).alloc (.cells #[.int .i64 0, .int .i64 1, .int .i64 2] 3)).alloc (.cells #[.int .i64 4, .int .i64 3] 3)).alloc (.cells #[.slice (some ⟨wr.heap.size + 1 + 1 + 1 + 1 + 1 + 1 + 1 + 1, 0, none⟩) 3 3, .slice (some ⟨wr.heap.size + 1 + 1 + 1 + 1 + 1 + 1 + 1 + 1 + 1, 0, none⟩) 2 2] 41)).alloc (.cells #[.int .i64 0, .int .i64 1, .int .i64 2] 3)).alloc (.cells #[.int .i64 1, .int .i64 4, .int .i64 1] 3)).alloc (.cells #[.slice (some ⟨wr.heap.size + 1 + 1 + 1 + 1 + 1 + 1 + 1 + 1 + 1 + 1 + 1, 0, none⟩) 3 3, .slice (some ⟨wr.heap.size + 1 + 1 + 1 + 1 + 1 + 1 + 1 + 1 + 1 + 1 + 1 + 1, 0, none⟩) 3 3] 41)).alloc (.cells #[.slice none 0 0, .slice (some ⟨wr.heap.size + 1, 0, none⟩) 1 1, .slice (some ⟨wr.heap.size + 1 + 1 + 1 + 1 + 1, 0, none⟩) 3 3, .slice (some ⟨wr.heap.size + 1 + 1 + 1 + 1 + 1 + 1 + 1, 0, none⟩) 1 1, .slice (some ⟨wr.heap.size + 1 + 1 + 1 + 1 + 1 + 1 + 1 + 1 + 1 + 1, 0, none⟩) 2 2, .slice (some ⟨wr.heap.size + 1 + 1 + 1 + 1 + 1 + 1 + 1 + 1 + 1 + 1 + 1 + 1 + 1, 0, none⟩) 2 2] 25)).heap[wr.heap.size + 1 + 1]? = some (.cells #[.int .i64 0, .int .i64 1, .int .i64 2] 3 (0, 0)) := by simp only [alloc_at, World.size_alloc]; (repeat rw [if_neg (by omega)]); first | rfl | rw [if_pos (by omega)] | rw [if_pos trivial]
          have hb3 : (((((((((((((((wr.alloc (.cells #[.int .i64 0, .int .i64 1, .int .i64 2] 3)).alloc (.cells #[.slice (some ⟨wr.heap.size, 0, none⟩) 3 3] 41)).alloc (.cells #[.int .i64 0, .int .i64 1, .int .i64 2] 3)).alloc (.cells #[.int .i64 1, .int .i64 4] 3)).alloc (.cells #[.int .i64 1] 3)).alloc (.cells #[.slice (some ⟨wr.heap.size + 1 + 1, 0, none⟩) 3 3, .slice (some ⟨wr.heap.size + 1 + 1 + 1, 0, none⟩) 2 2, .slice (some ⟨wr.heap.size + 1 + 1 + 1 + 1, 0, none⟩) 1 1] 41)).alloc (.cells #[.int .i64 0, .int .i64 1, .int .i64 2, .int .i64 1, .int .i64 4] 3)).alloc (.cells #[.slice (some ⟨wr.heap.size + 1 + 1 + 1 + 1 + 1 + 1, 0, none⟩) 5 5] 41)).alloc (.cells #[.int .i64 0, .int .i64 1, .int .i64 2] 3)).alloc (.cells #[.int .i64 4, .int .i64 3] 3)).alloc (.cells #[.slice (some ⟨wr.heap.size + 1 + 1 + 1 + 1 + 1 + 1 + 1 + 1, 0, none⟩) 3 3, .slice (some ⟨wr.heap.size + 1 + 1 + 1 + 1 + 1 + 1 + 1 + 1 + 1, 0, none⟩) 2 2] 41)).alloc (.cells #[.int .i64 0, .int .i64 1, .int .i64 2] 3)).alloc (.cells #[.int .i64 1, .int .i64 4, .int .i64 1] 3)).alloc (.cells #[.slice (some ⟨wr.heap.size + 1 + 1 + 1 + 1 + 1 + 1 + 1 + 1 + 1 + 1 + 1, 0, none⟩) 3 3, .slice (some ⟨wr.heap.size + 1 + 1 + 1 + 1 + 1 + 1 + 1 + 1 + 1 + 1 + 1 + 1, 0, none⟩) 3 3] 41)).alloc (.cells #[.slice none 0 0, .slice (some ⟨wr.heap.size + 1, 0, none⟩) 1 1, .slice (some ⟨wr.heap.size + 1 + 1 + 1 + 1 + 1, 0, none⟩) 3 3, .slice (some ⟨wr.heap.size + 1 + 1 + 1 + 1 + 1 + 1 + 1, 0, none⟩) 1 1, .slice (some ⟨wr.heap.size + 1 + 1 + 1 + 1 + 1 + 1 + 1 + 1 + 1 + 1, 0, none⟩) 2 2, .slice (some ⟨wr.heap.size + 1 + 1 + 1 + 1 + 1 + 1 + 1 + 1 + 1 + 1 + 1 + 1 + 1, 0, none⟩) 2 2] 25)).heap[wr.heap.size + 1 + 1 + 1]? = some (.cells #[.int .i64 1, .int .i64 4] 3 (0, 0)) := by simp only [alloc_at, World.size_alloc]; (repeat rw [if_neg (by omega)]); first | rfl | rw [if_pos (by omega)] | rw [if_pos trivial]
          have hb4 : (((((((((((((((wr.alloc (.cells #[.int .i64 0, .int .i64 1, .int .i64 2] 3)).alloc (.cells #[.slice (some ⟨wr.heap.size, 0, none⟩) 3 3] 41)).alloc (.cells #[.int .i64 0, .int .i64 1, .int .i64 2] 3)).alloc (.cells #[.int .i64 1, .int .i64 4] 3)).alloc (.cells #[.int .i64 1] 3)).alloc (.cells #[.slice (some ⟨wr.heap.size + 1 + 1, 0, none⟩) 3 3, .slice (some ⟨wr.heap.size + 1 + 1 + 1, 0, none⟩) 2 2, .slice (some ⟨wr.heap.size + 1 + 1 + 1 + 1, 0, none⟩) 1 1] 41)).alloc (.cells #[.int .i64 0, .int .i64 1, .int .i64 2, .int .i64 1, .int .i64 4] 3)).alloc (.cells #[.slice (some ⟨wr.heap.size + 1 + 1 + 1 + 1 + 1 + 1, 0, none⟩) 5 5] 41)).alloc (.cells #[.int .i64 0, .int .i64 1, .int .i64 2] 3)).alloc (.cells #[.int .i64 4, .int .i64 3] 3)).alloc (.cells #[.slice (some ⟨wr.heap.size + 1 + 1 + 1 + 1 + 1 + 1 + 1 + 1, 0, none⟩) 3 3, .slice (some ⟨wr.heap.size + 1 + 1 + 1 + 1 + 1 + 1 + 1 + 1 + 1, 0, none⟩) 2 2] 41)).alloc (.cells #[.int .i64 0, .int .i64 1, .int .i64 2] 3)).alloc (.cells #[.int .i64 1, .int .i64 4, .int .i64 1] 3)).alloc (.cells #[.slice (some ⟨wr.heap.size + 1 + 1 + 1 + 1 + 1 + 1 + 1 + 1 + 1 + 1 + 1, 0, none⟩) 3 3, .slice (some ⟨wr.heap.size + 1 + 1 + 1 + 1 + 1 + 1 + 1 + 1 + 1 + 1 + 1 + 1, 0, none⟩) 3 3] 41)).alloc (.cells #[.slice none 0 0, .slice (some ⟨wr.heap.size + 1, 0, none⟩) 1 1, .slice (some ⟨wr.heap.size + 1 + 1 + 1 + 1 + 1, 0, none⟩) 3 3, .slice (some ⟨wr.heap.size + 1 + 1 + 1 + 1 + 1 + 1 + 1, 0, none⟩) 1 1, .slice (some ⟨wr.heap.size + 1 + 1 + 1 + 1 + 1 + 1 + 1 + 1 + 1 + 1, 0, none⟩) 2 2, .slice (some ⟨wr.heap.size + 1 + 1 + 1 + 1 + 1 + 1 + 1 + 1 + 1 + 1 + 1 + 1 + 1, 0, none⟩) 2 2] 25)).heap[wr.heap.size + 1 + 1 + 1 + 1]? = some (.cells #[.int .i64 1] 3 (0, 0)) := by simp only [alloc_at, World.size_alloc]; (repeat rw [if_neg (by omega)]); first | rfl | rw [if_pos (by omega)] | rw [if_pos trivial]
          have hb5 : (((((((((((((((wr.alloc (.cells #[.int .i64 0, .int .i64 1, .int .i64 2] 3)).alloc (.cells #[.slice (some ⟨wr.heap.size, 0, none⟩) 3 3] 41)).alloc (.cells #[.int .i64 0, .int .i64 1, .int .i64 2] 3)).alloc (.cells #[.int .i64 1, .int .i64 4] 3)).alloc (.cells #[.int .i64 1] 3)).alloc (.cells #[.slice (some ⟨wr.heap.size + 1 + 1, 0, none⟩) 3 3, .slice (some ⟨wr.heap.size + 1 + 1 + 1, 0, none⟩) 2 2, .slice (some ⟨wr.heap.size + 1 + 1 + 1 + 1, 0, none⟩) 1 1] 41)).alloc (.cells #[.int .i64 0, .int .i64 1, .int .i64 2, .int .i64 1, .int .i64 4] 3)).alloc (.cells #[.slice (some ⟨wr.heap.size + 1 + 1 + 1 + 1 + 1 + 1, 0, none⟩) 5 5] 41)).alloc (.cells #[.int .i64 0, .int .i64 1, .int .i64 2] 3)).alloc (.cells #[.int .i64 4, .int .i64 3] 3)).alloc (.cells #[.slice (some ⟨wr.heap.size + 1 + 1 + 1 + 1 + 1 + 1 + 1 + 1, 0, none⟩) 3 3, .slice (some ⟨wr.heap.size + 1 + 1 + 1 + 1 + 1 + 1 + 1 + 1 + 1, 0, none⟩) 2 2] 41)).alloc (.cells #[.int .i64 0, .int .i64 1, .int .i64 2] 3)).alloc (.cells #[.int .i64 1, .int .i64 4, .int .i64 1] 3)).alloc (.cells #[.slice (some ⟨wr.heap.size + 1 + 1 + 1 + 1 + 1 + 1 + 1 + 1 + 1 + 1 + 1, 0, none⟩) 3 3, .slice (some ⟨wr.heap.size + 1 + 1 + 1 + 1 + 1 + 1 + 1 + 1 + 1 + 1 + 1 + 1, 0, none⟩) 3 3] 41)).alloc (.cells #[.slice none 0 0, .slice (some ⟨wr.heap.size + 1, 0, none⟩) 1 1, .slice (some ⟨wr.heap.size + 1 + 1 + 1 + 1 + 1, 0, none⟩) 3 3, .slice (some ⟨wr.heap.size + 1 + 1 + 1 + 1 + 1 + 1 + 1, 0, none⟩) 1 1, .slice (some ⟨wr.heap.size + 1 + 1 + 1 + 1 + 1 + 1 + 1 + 1 + 1 + 1, 0, none⟩) 2 2, .slice (some ⟨wr.heap.size + 1 + 1 + 1 + 1 + 1 + 1 + 1 + 1 + 1 + 1 + 1 + 1 + 1, 0, none⟩) 2 2] 25)).heap[wr.heap.size + 1 + 1 + 1 + 1 + 1]? = some (.cells #[.slice (some ⟨wr.heap.size + 1 + 1, 0, none⟩) 3 3, .slice (some ⟨wr.heap.size + 1 + 1 + 1, 0, none⟩) 2 2, .slice (some ⟨wr.heap.size + 1 + 1 + 1 + 1, 0, none⟩) 1 1] 41 (0, 0)) := by simp only [alloc_at, World.size_alloc]; (repeat rw [if_neg (by omega)]); first | rfl | rw [if_pos (by omega)] | rw [if_pos trivial]
          have hb6 : (((((((((((((((wr.alloc (.cells #[.int .i64 0, .int .i64 1, .int .i64 2] 3)).alloc (.cells #[.slice (some ⟨wr.heap.size, 0, none⟩) 3 3] 41)).alloc (.cells #[.int .i64 0, .int .i64 1, .int .i64 2] 3)).alloc (.cells #[.int .i64 1, .int .i64 4] 3)).alloc (.cells #[.int .i64 1] 3)).alloc (.cells #[.slice (some ⟨wr.heap.size + 1 + 1, 0, none⟩) 3 3, .slice (some ⟨wr.heap.size + 1 + 1 + 1, 0, none⟩) 2 2, .slice (some ⟨wr.heap.size + 1 + 1 + 1 + 1, 0, none⟩) 1 1] 41)).alloc (.cells #[.int .i64 0, .int .i64 1, .int .i64 2, .int .i64 1, .int .i64 4] 3)).alloc (.cells #[.slice (some ⟨wr.heap.size + 1 + 1 + 1 + 1 + 1 + 1, 0, none⟩) 5 5] 41)).alloc (.cells #[.int .i64 0, .int .i64 1, .int .i64 2] 3)).alloc (.cells #[.int .i64 4, .int .i64 3] 3)).alloc (.cells #[.slice (some ⟨wr.heap.size + 1 + 1 + 1 + 1 + 1 + 1 + 1 + 1, 0, none⟩) 3 3, .slice (some ⟨wr.heap.size + 1 + 1 + 1 + 1 + 1 + 1 + 1 + 1 + 1, 0, none⟩) 2 2] 41)).alloc (.cells #[.int .i64 0, .int .i64 1, .int .i64 2] 3)).alloc (.cells #[.int .i64 1, .int .i64 4, .int .i64 1] 3)).alloc (.cells #[.slice (some ⟨wr.heap.size + 1 + 1 + 1 + 1 + 1 + 1 + 1 + 1 + 1 + 1 + 1, 0, none⟩) 3 3, .slice (some ⟨wr.heap.size + 1 + 1 + 1 + 1 + 1 + 1 + 1 + 1 + 1 + 1 + 1 + 1, 0, none⟩) 3 3] 41)).alloc (.cells #[.slice none 0 0, .slice (some ⟨wr.heap.size + 1, 0, none⟩) 1 1, .slice (some ⟨wr.heap.size + 1 + 1 + 1 + 1 + 1, 0, none⟩) 3 3, .slice (some ⟨wr.heap.size + 1 + 1 + 1 + 1 + 1 + 1 + 1, 0, none⟩) 1 1, .slice (some ⟨wr.heap.size + 1 + 1 + 1 + 1 + 1 + 1 + 1 + 1 + 1 + 1, 0, none⟩) 2 2, .slice (some ⟨wr.heap.size + 1 + 1 + 1 + 1 + 1 + 1 + 1 + 1 + 1 + 1 + 1 + 1 + 1, 0, none⟩) 2 2] 25)).heap[wr.heap.size + 1 + 1 + 1 + 1 + 1 + 1]? = some (.cells #[.int .i64 0, .int .i64 1, .int .i64 2, .int .i64 1, .int .i64 4] 3 (0, 0)) := by simp only [alloc_at, World.size_alloc]; (repeat rw [if_neg (by omega)]); first | rfl | rw [if_pos (by omega)] | rw [if_pos trivial]
          have hb7 : (((((((((((((((wr.alloc (.cells #[.int .i64 0, .int .i64 1, .int .i64 2] 3)).alloc (.cells #[.slice (some ⟨wr.heap.size, 0, none⟩) 3 3] 41)).alloc (.cells #[.int .i64 0, .int .i64 1, .int .i64 2] 3)).alloc (.cells #[.int .i64 1, .int .i64 4] 3)).alloc (.cells #[.int .i64 1] 3)).alloc (.cells #[.slice (some ⟨wr.heap.size + 1 + 1, 0, none⟩) 3 3, .slice (some ⟨wr.heap.size + 1 + 1 + 1, 0, none⟩) 2 2, .slice (some ⟨wr.heap.size + 1 + 1 + 1 + 1, 0, none⟩) 1 1] 41)).alloc (.cells #[.int .i64 0, .int .i64 1, .int .i64 2, .int .i64 1, .int .i64 4] 3)).alloc (.cells #[.slice (some ⟨wr.heap.size + 1 + 1 + 1 + 1 + 1 + 1, 0, none⟩) 5 5] 41)).alloc (.cells #[.int .i64 0, .int .i64 1, .int .i64 2] 3)).alloc (.cells #[.int .i64 4, .int .i64 3] 3)).alloc (.cells #[.slice (some ⟨wr.heap.size + 1 + 1 + 1 + 1 + 1 + 1 + 1 + 1, 0, none⟩) 3 3, .slice (some ⟨wr.heap.size + 1 + 1 + 1 + 1 + 1 + 1 + 1 + 1 + 1, 0, none⟩) 2 2] 41)).alloc (.cells #[.int .i64 0, .int .i64 1, .int .i64 2] 3)).alloc (.cells #[.int .i64 1, .int .i64 4, .int .i64 1] 3)).alloc (.cells #[.slice (some ⟨wr.heap.size + 1 + 1 + 1 + 1 + 1 + 1 + 1 + 1 + 1 + 1 + 1, 0, none⟩) 3 3, .slice (some ⟨wr.heap.size + 1 + 1 + 1 + 1 + 1 + 1 + 1 + 1 + 1 + 1 + 1 + 1, 0, none⟩) 3 3] 41)).alloc (.cells #[.slice none 0 0, .slice (some ⟨wr.heap.size + 1, 0, none⟩) 1 1, .slice (some ⟨wr.heap.size + 1 + 1 + 1 + 1 + 1, 0, none⟩) 3 3, .slice (some ⟨wr.heap.size + 1 + 1 + 1 + 1 + 1 + 1 + 1, 0, none⟩) 1 1, .slice (some ⟨wr.heap.size + 1 + 1 + 1 + 1 + 1 + 1 + 1 + 1 + 1 + 1, 0, none⟩) 2 2, .slice (some ⟨wr.heap.size + 1 + 1 + 1 + 1 + 1 + 1 + 1 + 1 + 1 + 1 + 1 + 1 + 1, 0, none⟩) 2 2] 25)).heap[wr.heap.size + 1 + 1 + 1 + 1 + 1 + 1 + 1]? = some (.cells #[.slice (some ⟨wr.heap.size + 1 + 1 + 1 + 1 + 1 + 1, 0, none⟩) 5 5] 41 (0, 0)) := by simp only [alloc_at, World.size_alloc]; (repeat rw [if_neg (by omega)]); first | rfl | rw [if_pos (by omega)] | rw [if_pos trivial]
          have hb8 : (((((((((((((((wr.alloc (.cells #[.int .i64 0, .int .i64 1, .int .i64 2] 3)).alloc (.cells #[.slice (some ⟨wr.heap.size, 0, none⟩) 3 3] 41)).alloc (.cells #[.int .i64 0, .int .i64 1, .int .i64 2] 3)).alloc (.cells #[.int .i64 1, .int .i64 4] 3)).alloc (.cells #[.int .i64 1] 3)).alloc (.cells #[.slice (some ⟨wr.heap.size + 1 + 1, 0, none⟩) 3 3, .slice (some ⟨wr.heap.size + 1 + 1 + 1, 0, none⟩) 2 2, .slice (some ⟨wr.heap.size + 1 + 1 + 1 + 1, 0, none⟩) 1 1] 41)).alloc (.cells #[.int .i64 0, .int .i64 1, .int .i64 2, .int .i64 1, .int .i64 4] 3)).alloc (.cells #[.slice (some ⟨wr.heap.size + 1 + 1 + 1 + 1 + 1 + 1, 0, none⟩) 5 5] 41)).alloc (.cells #[.int .i64 0, .int .i64 1, .int .i64 2] 3)).alloc (.cells #[.int .i64 4, .int .i64 3] 3)).alloc (.cells #[.slice (some ⟨wr.heap.size + 1 + 1 + 1 + 1 + 1 + 1 + 1 + 1, 0, none⟩) 3 3, .slice (some ⟨wr.heap.size + 1 + 1 + 1 + 1 + 1 + 1 + 1 + 1 + 1, 0, none⟩) 2 2] 41)).alloc (.cells #[.int .i64 0, .int .i64 1, .int .i64 2] 3)).alloc (.cells #[.int .i64 1, .int .i64 4, .int .i64 1] 3)).alloc (.cells #[.slice (some ⟨wr.heap.size + 1 + 1 + 1 + 1 + 1 + 1 + 1 + 1 + 1 + 1 + 1, 0, none⟩) 3 3, .slice (some ⟨wr.heap.size + 1 + 1 + 1 + 1 + 1 + 1 + 1 + 1 + 1 + 1 + 1 + 1, 0, none⟩) 3 3] 41)).alloc (.cells #[.slice none 0 0, .slice (some ⟨wr.heap.size + 1, 0, none⟩) 1 1, .slice (some ⟨wr.heap.size + 1 + 1 + 1 + 1 + 1, 0, none⟩) 3 3, .slice (some ⟨wr.heap.size + 1 + 1 + 1 + 1 + 1 + 1 + 1, 0, none⟩) 1 1, .slice (some ⟨wr.heap.size + 1 + 1 + 1 + 1 + 1 + 1 + 1 + 1 + 1 + 1, 0, none⟩) 2 2, .slice (some ⟨wr.heap.size + 1 + 1 + 1 + 1 + 1 + 1 + 1 + 1 + 1 + 1 + 1 + 1 + 1, 0, none⟩) 2 2] 25)).heap[wr.heap.size + 1 + 1 + 1 + 1 + 1 + 1 + 1 + 1]? = some (.cells #[.int .i64 0, .int .i64 1, .int .i64 2] 3 (0, 0)) := by simp only [alloc_at, World.size_alloc]; (repeat rw [if_neg (by omega)]); first | rfl | rw [if_pos (by omega)] | rw [if_pos trivial]
          have hb9 : (((((((((((((((wr.alloc (.cells #[.int .i64 0, .int .i64 1, .int .i64 2] 3)).alloc (.cells #[.slice (some ⟨wr.heap.size, 0, none⟩) 3 3] 41)).alloc (.cells #[.int .i64 0, .int .i64 1, .int .i64 2] 3)).alloc (.cells #[.int .i64 1, .int .i64 4] 3)).alloc (.cells #[.int .i64 1] 3)).alloc (.cells #[.slice (some ⟨wr.heap.size + 1 + 1, 0, none⟩) 3 3, .slice (some ⟨wr.heap.size + 1 + 1 + 1, 0, none⟩) 2 2, .slice (some ⟨wr.heap.size + 1 + 1 + 1 + 1, 0, none⟩) 1 1] 41)).alloc (.cells #[.int .i64 0, .int .i64 1, .int .i64 2, .int .i64 1, .int .i64 4] 3)).alloc (.cells #[.slice (some ⟨wr.heap.size + 1 + 1 + 1 + 1 + 1 + 1, 0, none⟩) 5 5] 41)).alloc (.cells #[.int .i64 0, .int .i64 1, .int .i64 2] 3)).alloc (.cells #[.int .i64 4, .int .i64 3] 3)).alloc (.cells #[.slice (some ⟨wr.heap.size + 1 + 1 + 1 + 1 + 1 + 1 + 1 + 1, 0, none⟩) 3 3, .slice (some ⟨wr.heap.size + 1 + 1 + 1 + 1 + 1 + 1 + 1 + 1 + 1, 0, none⟩) 2 2] 41)).alloc (.cells #[.int .i64 0, .int .i64 1, .int .i64 2] 3)).alloc (.cells #[.int .i64 1, .int .i64 4, .int .i64 1] 3)).alloc (.cells #[.slice (some ⟨wr.heap.size + 1 + 1 + 1 + 1 + 1 + 1 + 1 + 1 + 1 + 1 + 1, 0, none⟩) 3 3, .slice (some ⟨wr.heap.size + 1 + 1 + 1 + 1 + 1 + 1 + 1 + 1 + 1 + 1 + 1 + 1, 0, none⟩) 3 3] 41)).alloc (.cells #[.slice none 0 0, .slice (some ⟨wr.heap.size + 1, 0, none⟩) 1 1, .slice (some ⟨wr.heap.size + 1 + 1 + 1 + 1 + 1, 0, none⟩) 3 3, .slice (some ⟨wr.heap.size + 1 + 1 + 1 + 1 + 1 + 1 + 1, 0, none⟩) 1 1, .slice (some ⟨wr.heap.size + 1 + 1 + 1 + 1 + 1 + 1 + 1 + 1 + 1 + 1, 0, none⟩) 2 2, .slice (some ⟨wr.heap.size + 1 + 1 + 1 + 1 + 1 + 1 + 1 + 1 + 1 + 1 + 1 + 1 + 1, 0, none⟩) 2 2] 25)).heap[wr.heap.size + 1 + 1 + 1 + 1 + 1 + 1 + 1 + 1 + 1]? = some (.cells #[.int .i64 4, .int .i64 3] 3 (0, 0)) := by simp only [alloc_at, World.size_alloc]; (repeat rw [if_neg (by omega)]); first | rfl | rw [if_pos (by omega)] | rw [if_pos trivial]
          have hb10 : (((((((((((((((wr.alloc (.cells #[.int .i64 0, .int .i64 1, .int .i64 2] 3)).alloc (.cells #[.slice (some ⟨wr.heap.size, 0, none⟩) 3 3] 41)).alloc (.cells #[.int .i64 0, .int .i64 1, .int .i64 2] 3)).alloc (.cells #[.int .i64 1, .int .i64 4] 3)).alloc (.cells #[.int .i64 1] 3)).alloc (.cells #[.slice (some ⟨wr.heap.size + 1 + 1, 0, none⟩) 3 3, .slice (some ⟨wr.heap.size + 1 + 1 + 1, 0, none⟩) 2 2, .slice (some ⟨wr.heap.size + 1 + 1 + 1 + 1, 0, none⟩) 1 1] 41)).alloc (.cells #[.int .i64 0, .int .i64 1, .int .i64 2, .int .i64 1, .int .i64 4] 3)).alloc (.cells #[.slice (some ⟨wr.heap.size + 1 + 1 + 1 + 1 + 1 + 1, 0, none⟩) 5 5] 41)).alloc (.cells #[.int .i64 0, .int .i64 1, .int .i64 2] 3)).alloc (.cells #[.int .i64 4, .int .i64 3] 3)).alloc (.cells #[.slice (some ⟨wr.heap.size + 1 + 1 + 1 + 1 + 1 + 1 + 1 + 1, 0, none⟩) 3 3, .slice (some ⟨wr.heap.size + 1 + 1 + 1 + 1 + 1 + 1 + 1 + 1 + 1, 0, none⟩) 2 2] 41)).alloc (.cells #[.int .i64 0, .int .i64 1, .int .i64 2] 3)).alloc (.cells #[.int .i64 1, .int .i64 4, .int .i64 1] 3)).alloc (.cells #[.slice (some ⟨wr.heap.size + 1 + 1 + 1 + 1 + 1 + 1 + 1 + 1 + 1 + 1 + 1, 0, none⟩) 3 3, .slice (some ⟨wr.heap.size + 1 + 1 + 1 + 1 + 1 + 1 + 1 + 1 + 1 + 1 + 1 + 1, 0, none⟩) 3 3] 41)).alloc (.cells #[.slice none 0 0, .slice (some ⟨wr.heap.size + 1, 0, none⟩) 1 1, .slice (some ⟨wr.heap.size + 1 + 1 + 1 + 1 + 1, 0, none⟩) 3 3, .slice (some ⟨wr.heap.size + 1 + 1 + 1 + 1 + 1 + 1 + 1, 0, none⟩) 1 1, .slice (some ⟨wr.heap.size + 1 + 1 + 1 + 1 + 1 + 1 + 1 + 1 + 1 + 1, 0, none⟩) 2 2, .slice (some ⟨wr.heap.size + 1 + 1 + 1 + 1 + 1 + 1 + 1 + 1 + 1 + 1 + 1 + 1 + 1, 0, none⟩) 2 2] 25)).heap[wr.heap.size + 1 + 1 + 1 + 1 + 1 + 1 + 1 + 1 + 1 + 1]? = some (.cells #[.slice (some ⟨wr.heap.size + 1 + 1 + 1 + 1 + 1 + 1 + 1 + 1, 0, none⟩) 3 3, .slice (some ⟨wr.heap.size + 1 + 1 + 1 + 1 + 1 + 1 + 1 + 1 + 1, 0, none⟩) 2 2] 41 (0, 0)) := by simp only [alloc_at, World.size_alloc]; (repeat rw [if_neg (by omega)]); first | rfl | rw [if_pos (by omega)] | rw [if_pos trivial]
          have hb11 : (((((((((((((((wr.alloc (.cells #[.int .i64 0, .int .i64 1, .int .i64 2] 3)).alloc (.cells #[.slice (some ⟨wr.heap.size, 0, none⟩) 3 3] 41)).alloc (.cells #[.int .i64 0, .int .i64 1, .int .i64 2] 3)).alloc (.cells #[.int .i64 1, .int .i64 4] 3)).alloc (.cells #[.int .i64 1] 3)).alloc (.cells #[.slice (some ⟨wr.heap.size + 1 + 1, 0, none⟩) 3 3, .slice (some ⟨wr.heap.size + 1 + 1 + 1, 0, none⟩) 2 2, .slice (some ⟨wr.heap.size + 1 + 1 + 1 + 1, 0, none⟩) 1 1] 41)).alloc (.cells #[.int .i64 0, .int .i64 1, .int .i64 2, .int .i64 1, .int .i64 4] 3)).alloc (.cells #[.slice (some ⟨wr.heap.size + 1 + 1 + 1 + 1 + 1 + 1, 0, none⟩) 5 5] 41)).alloc (.cells #[.int .i64 0, .int .i64 1, .int .i64 2] 3)).alloc (.cells #[.int .i64 4, .int .i64 3] 3)).alloc (.cells #[.slice (some ⟨wr.heap.size + 1 + 1 + 1 + 1 + 1 + 1 + 1 + 1, 0, none⟩) 3 3, .slice (some ⟨wr.heap.size + 1 + 1 + 1 + 1 + 1 + 1 + 1 + 1 + 1, 0, none⟩) 2 2] 41)).alloc (.cells #[.int .i64 0, .int .i64 1, .int .i64 2] 3)).alloc (.cells #[.int .i64 1, .int .i64 4, .int .i64 1] 3)).alloc (.cells #[.slice (some ⟨wr.heap.size + 1 + 1 + 1 + 1 + 1 + 1 + 1 + 1 + 1 + 1 + 1, 0, none⟩) 3 3, .slice (some ⟨wr.heap.size + 1 + 1 + 1 + 1 + 1 + 1 + 1 + 1 + 1 + 1 + 1 + 1, 0, none⟩) 3 3] 41)).alloc (.cells #[.slice none 0 0, .slice (some ⟨wr.heap.size + 1, 0, none⟩) 1 1, .slice (some ⟨wr.heap.size + 1 + 1 + 1 + 1 + 1, 0, none⟩) 3 3, .slice (some ⟨wr.heap.size + 1 + 1 + 1 + 1 + 1 + 1 + 1, 0, none⟩) 1 1, .slice (some ⟨wr.heap.size + 1 + 1 + 1 + 1 + 1 + 1 + 1 + 1 + 1 + 1, 0, none⟩) 2 2, .slice (some ⟨wr.heap.size + 1 + 1 + 1 + 1 + 1 + 1 + 1 + 1 + 1 + 1 + 1 + 1 + 1, 0, none⟩) 2 2] 25)).heap[wr.heap.size + 1 + 1 + 1 + 1 + 1 + 1 + 1 + 1 + 1 + 1 + 1]? = some (.cells #[.int .i64 0, .int .i64 1, .int .i64 2] 3 (0, 0)) := by simp only [alloc_at, World.size_alloc]; (repeat rw [if_neg (by omega)]); first | rfl | rw [if_pos (by omega)] | rw [if_pos trivial]
          have hb12 : (((((((((((((((wr.alloc (.cells #[.int .i64 0, .int .i64 1, .int .i64 2] 3)).alloc (.cells #[.slice (some ⟨wr.heap.size, 0, none⟩) 3 3] 41)).alloc (.cells #[.int .i64 0, .int .i64 1, .int .i64 2] 3)).alloc (.cells #[.int .i64 1, .int .i64 4] 3)).alloc (.cells #[.int .i64 1] 3)).alloc (.cells #[.slice (some ⟨wr.heap.size + 1 + 1, 0, none⟩) 3 3, .slice (some ⟨wr.heap.size + 1 + 1 + 1, 0, none⟩) 2 2, .slice (some ⟨wr.heap.size + 1 + 1 + 1 + 1, 0, none⟩) 1 1] 41)).alloc (.cells #[.int .i64 0, .int .i64 1, .int .i64 2, .int .i64 1, .int .i64 4] 3)).alloc (.cells #[.slice (some ⟨wr.heap.size + 1 + 1 + 1 + 1 + 1 + 1, 0, none⟩) 5 5] 41)).alloc (.cells #[.int .i64 0, .int .i64 1, .int .i64 2] 3)).alloc (.cells #[.int .i64 4, .int .i64 3] 3)).alloc (.cells #[.slice (some ⟨wr.heap.size + 1 + 1 + 1 + 1 + 1 + 1 + 1 + 1, 0, none⟩) 3 3, .slice (some ⟨wr.heap.size + 1 + 1 + 1 + 1 + 1 + 1 + 1 + 1 + 1, 0, none⟩) 2 2] 41)).alloc (.cells #[.int .i64 0, .int .i64 1, .int .i64 2] 3)).alloc (.cells #[.int .i64 1, .int .i64 4, .int .i64 1] 3)).alloc (.cells #[.slice (some ⟨wr.heap.size + 1 + 1 + 1 + 1 + 1 + 1 + 1 + 1 + 1 + 1 + 1, 0, none⟩) 3 3, .slice (some ⟨wr.heap.size + 1 + 1 + 1 + 1 + 1 + 1 + 1 + 1 + 1 + 1 + 1 + 1, 0, none⟩) 3 3] 41)).alloc (.cells #[.slice none 0 0, .slice (some ⟨wr.heap.size + 1, 0, none⟩) 1 1, .slice (some ⟨wr.heap.size + 1 + 1 + 1 + 1 + 1, 0, none⟩) 3 3, .slice (some ⟨wr.heap.size + 1 + 1 + 1 + 1 + 1 + 1 + 1, 0, none⟩) 1 1, .slice (some ⟨wr.heap.size + 1 + 1 + 1 + 1 + 1 + 1 + 1 + 1 + 1 + 1, 0, none⟩) 2 2, .slice (some ⟨wr.heap.size + 1 + 1 + 1 + 1 + 1 + 1 + 1 + 1 + 1 + 1 + 1 + 1 + 1, 0, none⟩) 2 2] 25)).heap[wr.heap.size + 1 + 1 + 1 + 1 + 1 + 1 + 1 + 1 + 1 + 1 + 1 + 1]? = some (.cells #[.int .i64 1, .int .i64 4, .int .i64 1] 3 (0, 0)) := by simp only [alloc_at, World.size_alloc]; (repeat rw [if_neg (by omega)]); first | rfl | rw [if_pos (by omega)] | rw [if_pos trivial]
          have hb13 : (((((((((((((((wr.alloc (.cells #[.int .i64 0, .int .i64 1, .int .i64 2] 3)).alloc (.cells #[.slice (some ⟨wr.heap.size, 0, none⟩) 3 3] 41)).alloc (.cells #[.int .i64 0, .int .i64 1, .int .i64 2] 3)).alloc (.cells #[.int .i64 1, .int .i64 4] 3)).alloc (.cells #[.int .i64 1] 3)).alloc (.cells #[.slice (some ⟨wr.heap.size + 1 + 1, 0, none⟩) 3 3, .slice (some ⟨wr.heap.size + 1 + 1 + 1, 0, none⟩) 2 2, .slice (some ⟨wr.heap.size + 1 + 1 + 1 + 1, 0, none⟩) 1 1] 41)).alloc (.cells #[.int .i64 0, .int .i64 1, .int .i64 2, .int .i64 1, .int .i64 4] 3)).alloc (.cells #[.slice (some ⟨wr.heap.size + 1 + 1 + 1 + 1 + 1 + 1, 0, none⟩) 5 5] 41)).alloc (.cells #[.int .i64 0, .int .i64 1, .int .i64 2] 3)).alloc (.cells #[.int .i64 4, .int .i64 3] 3)).alloc (.cells #[.slice (some ⟨wr.heap.size + 1 + 1 + 1 + 1 + 1 + 1 + 1 + 1, 0, none⟩) 3 3, .slice (some ⟨wr.heap.size + 1 + 1 + 1 + 1 + 1 + 1 + 1 + 1 + 1, 0, none⟩) 2 2] 41)).alloc (.cells #[.int .i64 0, .int .i64 1, .int .i64 2] 3)).alloc (.cells #[.int .i64 1, .int .i64 4, .int .i64 1] 3)).alloc (.cells #[.slice (some ⟨wr.heap.size + 1 + 1 + 1 + 1 + 1 + 1 + 1 + 1 + 1 + 1 + 1, 0, none⟩) 3 3, .slice (some ⟨wr.heap.size + 1 + 1 + 1 + 1 + 1 + 1 + 1 + 1 + 1 + 1 + 1 + 1, 0, none⟩) 3 3] 41)).alloc (.cells #[.slice none 0 0, .slice (some ⟨wr.heap.size + 1, 0, none⟩) 1 1, .slice (some ⟨wr.heap.size + 1 + 1 + 1 + 1 + 1, 0, none⟩) 3 3, .slice (some ⟨wr.heap.size + 1 + 1 + 1 + 1 + 1 + 1 + 1, 0, none⟩) 1 1, .slice (some ⟨wr.heap.size + 1 + 1 + 1 + 1 + 1 + 1 + 1 + 1 + 1 + 1, 0, none⟩) 2 2, .slice (some ⟨wr.heap.size + 1 + 1 + 1 + 1 + 1 + 1 + 1 + 1 + 1 + 1 + 1 + 1 + 1, 0, none⟩) 2 2] 25)).heap[wr.heap.size + 1 + 1 + 1 + 1 + 1 + 1 + 1 + 1 + 1 + 1 + 1 + 1 + 1]? = some (.cells #[.slice (some ⟨wr.heap.size + 1 + 1 + 1 + 1 + 1 + 1 + 1 + 1 + 1 + 1 + 1, 0, none⟩) 3 3, .slice (some ⟨wr.heap.size + 1 + 1 + 1 + 1 + 1 + 1 + 1 + 1 + 1 + 1 + 1 + 1, 0, none⟩) 3 3] 41 (0, 0)) := by simp only [alloc_at, World.size_alloc]; (repeat rw [if_neg (by omega)]); first | rfl | rw [if_pos (by omega)] | rw [if_pos trivial]
          have hb14 : (((((((((((((((wr.alloc (.cells #[.int .i64 0, .int .i64 1, .int .i64 2] 3)).alloc (.cells #[.slice (some ⟨wr.heap.size, 0, none⟩) 3 3] 41)).alloc (.cells #[.int .i64 0, .int .i64 1, .int .i64 2] 3)).alloc (.cells #[.int .i64 1, .int .i64 4] 3)).alloc (.cells #[.int .i64 1] 3)).alloc (.cells #[.slice (some ⟨wr.heap.size + 1 + 1, 0, none⟩) 3 3, .slice (some ⟨wr.heap.size + 1 + 1 + 1, 0, none⟩) 2 2, .slice (some ⟨wr.heap.size + 1 + 1 + 1 + 1, 0, none⟩) 1 1] 41)).alloc (.cells #[.int .i64 0, .int .i64 1, .int .i64 2, .int .i64 1, .int .i64 4] 3)).alloc (.cells #[.slice (some ⟨wr.heap.size + 1 + 1 + 1 + 1 + 1 + 1, 0, none⟩) 5 5] 41)).alloc (.cells #[.int .i64 0, .int .i64 1, .int .i64 2] 3)).alloc (.cells #[.int .i64 4, .int .i64 3] 3)).alloc (.cells #[.slice (some ⟨wr.heap.size + 1 + 1 + 1 + 1 + 1 + 1 + 1 + 1, 0, none⟩) 3 3, .slice (some ⟨wr.heap.size + 1 + 1 + 1 + 1 + 1 + 1 + 1 + 1 + 1, 0, none⟩) 2 2] 41)).alloc (.cells #[.int .i64 0, .int .i64 1, .int .i64 2] 3)).alloc (.cells #[.int .i64 1, .int .i64 4, .int .i64 1] 3)).alloc (.cells #[.slice (some ⟨wr.heap.size + 1 + 1 + 1 + 1 + 1 + 1 + 1 + 1 + 1 + 1 + 1, 0, none⟩) 3 3, .slice (some ⟨wr.heap.size + 1 + 1 + 1 + 1 + 1 + 1 + 1 + 1 + 1 + 1 + 1 + 1, 0, none⟩) 3 3] 41)).alloc (.cells #[.slice none 0 0, .slice (some ⟨wr.heap.size + 1, 0, none⟩) 1 1, .slice (some ⟨wr.heap.size + 1 + 1 + 1 + 1 + 1, 0, none⟩) 3 3, .slice (some ⟨wr.heap.size + 1 + 1 + 1 + 1 + 1 + 1 + 1, 0, none⟩) 1 1, .slice (some ⟨wr.heap.size + 1 + 1 + 1 + 1 + 1 + 1 + 1 + 1 + 1 + 1, 0, none⟩) 2 2, .slice (some ⟨wr.heap.size + 1 + 1 + 1 + 1 + 1 + 1 + 1 + 1 + 1 + 1 + 1 + 1 + 1, 0, none⟩) 2 2] 25)).heap[wr.heap.size + 1 + 1 + 1 + 1 + 1 + 1 + 1 + 1 + 1 + 1 + 1 + 1 + 1 + 1]? = some (.cells #[.slice none 0 0, .slice (some ⟨wr.heap.size + 1, 0, none⟩) 1 1, .slice (some ⟨wr.heap.size + 1 + 1 + 1 + 1 + 1, 0, none⟩) 3 3, .slice (some ⟨wr.heap.size + 1 + 1 + 1 + 1 + 1 + 1 + 1, 0, none⟩) 1 1, .slice (some ⟨wr.heap.size + 1 + 1 + 1 + 1 + 1 + 1 + 1 + 1 + 1 + 1, 0, none⟩) 2 2, .slice (some ⟨wr.heap.size + 1 + 1 + 1 + 1 + 1 + 1 + 1 + 1 + 1 + 1 + 1 + 1 + 1, 0, none⟩) 2 2] 25 (0, 0)) := by simp only [alloc_at, World.size_alloc]; (repeat rw [if_neg (by omega)]); first | rfl | rw [if_pos (by omega)] | rw [if_pos trivial]
          generalize (((((((((((((((wr.alloc (.cells #[.int .i64 0, .int .i64 1, .int .i64 2] 3)).alloc (.cells #[.slice (some ⟨wr.heap.size, 0, none⟩) 3 3] 41)).alloc (.cells #[.int .i64 0, .int .i64 1, .int .i64 2] 3)).alloc (.cells #[.int .i64 1, .int .i64 4] 3)).alloc (.cells #[.int .i64 1] 3)).alloc (.cells #[.slice (some ⟨wr.heap.size + 1 + 1, 0, none⟩) 3 3, .slice (some ⟨wr.heap.size + 1 + 1 + 1, 0, none⟩) 2 2, .slice (some ⟨wr.heap.size + 1 + 1 + 1 + 1, 0, none⟩) 1 1] 41)).alloc (.cells #[.int .i64 0, .int .i64 1, .int .i64 2, .int .i64 1, .int .i64 4] 3)).alloc (.cells #[.slice (some ⟨wr.heap.size + 1 + 1 + 1 + 1 + 1 + 1, 0, none⟩) 5 5] 41)).alloc (.cells #[.int .i64 0, .int .i64 1, .int .i64 2] 3)).alloc (.cells #[.int .i64 4, .int .i64 3] 3)).alloc (.cells #[.slice (some ⟨wr.heap.size + 1 + 1 + 1 + 1 + 1 + 1 + 1 + 1, 0, none⟩) 3 3, .slice (some ⟨wr.heap.size + 1 + 1 + 1 + 1 + 1 + 1 + 1 + 1 + 1, 0, none⟩) 2 2] 41)).alloc (.cells #[.int .i64 0, .int .i64 1, .int .i64 2] 3)).alloc (.cells #[.int .i64 1, .int .i64 4, .int .i64 1] 3)).alloc (.cells #[.slice (some ⟨wr.heap.size + 1 + 1 + 1 + 1 + 1 + 1 + 1 + 1 + 1 + 1 + 1, 0, none⟩) 3 3, .slice (some ⟨wr.heap.size + 1 + 1 + 1 + 1 + 1 + 1 + 1 + 1 + 1 + 1 + 1 + 1, 0, none⟩) 3 3] 41)).alloc (.cells #[.slice none 0 0, .slice (some ⟨wr.heap.size + 1, 0, none⟩) 1 1, .slice (some ⟨wr.heap.size + 1 + 1 + 1 + 1 + 1, 0, none⟩) 3 3, .slice (some ⟨wr.heap.size + 1 + 1 + 1 + 1 + 1 + 1 + 1, 0, none⟩) 1 1, .slice (some ⟨wr.heap.size + 1 + 1 + 1 + 1 + 1 + 1 + 1 + 1 + 1 + 1, 0, none⟩) 2 2, .slice (some ⟨wr.heap.size + 1 + 1 + 1 + 1 + 1 + 1 + 1 + 1 + 1 + 1 + 1 + 1 + 1, 0, none⟩) 2 2] 25)) = y4 at *
          have i0 : IntsAt y4 (.slice (some ⟨wr.heap.size, 0, none⟩) 3 3) [0, 1, 2] := ints_new (w := wr) 3 hb0 rfl (by omega) (fun i hi => by rcases three hi with rfl | rfl | rfl <;> rfl)
          have i2 : IntsAt y4 (.slice (some ⟨wr.heap.size + 1 + 1, 0, none⟩) 3 3) [0, 1, 2] := ints_new (w := wr) 3 hb2 rfl (by omega) (fun i hi => by rcases three hi with rfl | rfl | rfl <;> rfl)
          have i3 : IntsAt y4 (.slice (some ⟨wr.heap.size + 1 + 1 + 1, 0, none⟩) 2 2) [1, 4] := ints_new (w := wr) 2 hb3 rfl (by omega) (fun i hi => by rcases two_c hi with rfl | rfl <;> rfl)
          have i4 : IntsAt y4 (.slice (some ⟨wr.heap.size + 1 + 1 + 1 + 1, 0, none⟩) 1 1) [1] := ints_new (w := wr) 1 hb4 rfl (by omega) (fun i hi => by obtain rfl : i = 0 := (by simp at hi; omega); rfl)
          have i6 : IntsAt y4 (.slice (some ⟨wr.heap.size + 1 + 1 + 1 + 1 + 1 + 1, 0, none⟩) 5 5) [0, 1, 2, 1, 4] := ints_new (w := wr) 5 hb6 rfl (by omega) (fun i hi => by rcases (by simp at hi; omega : i = 0 ∨ i = 1 ∨ i = 2 ∨ i = 3 ∨ i = 4) with rfl | rfl | rfl | rfl | rfl <;> rfl)
          have i8 : IntsAt y4 (.slice (some ⟨wr.heap.size + 1 + 1 + 1 + 1 + 1 + 1 + 1 + 1, 0, none⟩) 3 3) [0, 1, 2] := ints_new (w := wr) 3 hb8 rfl (by omega) (fun i hi => by rcases three hi with rfl | rfl | rfl <;> rfl)
          have i9 : IntsAt y4 (.slice (some ⟨wr.heap.size + 1 + 1 + 1 + 1 + 1 + 1 + 1 + 1 + 1, 0, none⟩) 2 2) [4, 3] := ints_new (w := wr) 2 hb9 rfl (by omega) (fun i hi => by rcases two_c hi with rfl | rfl <;> rfl)
          have i11 : IntsAt y4 (.slice (some ⟨wr.heap.size + 1 + 1 + 1 + 1 + 1 + 1 + 1 + 1 + 1 + 1 + 1, 0, none⟩) 3 3) [0, 1, 2] := ints_new (w := wr) 3 hb11 rfl (by omega) (fun i hi => by rcases three hi with rfl | rfl | rfl <;> rfl)
          have i12 : IntsAt y4 (.slice (some ⟨wr.heap.size + 1 + 1 + 1 + 1 + 1 + 1 + 1 + 1 + 1 + 1 + 1 + 1, 0, none⟩) 3 3) [1, 4, 1] := ints_new (w := wr) 3 hb12 rfl (by omega) (fun i hi => by rcases three hi with rfl | rfl | rfl <;> rfl)
          have p1 : PiecesAt y4 (.slice (some ⟨wr.heap.size + 1, 0, none⟩) 1 1) (wrL 1) := pieces_new (n := 1) hb1 rfl (by omega) fun i hi => by
            obtain rfl : i = 0 := (by simp [wrL] at hi; omega)
            exact ⟨_, rfl, i0⟩
          have p2 : PiecesAt y4 (.slice (some ⟨wr.heap.size + 1 + 1 + 1 + 1 + 1, 0, none⟩) 3 3) (wrL 2) := pieces_new (n := 3) hb5 rfl (by omega) fun i hi => by
            rcases three hi with rfl | rfl | rfl
            · exact ⟨_, rfl, i2⟩
            · exact ⟨_, rfl, i3⟩
            · exact ⟨_, rfl, i4⟩
          have p3 : PiecesAt y4 (.slice (some ⟨wr.heap.size + 1 + 1 + 1 + 1 + 1 + 1 + 1, 0, none⟩) 1 1) (wrL 3) := pieces_new (n := 1) hb7 rfl (by omega) fun i hi => by
            obtain rfl : i = 0 := (by simp [wrL] at hi; omega)
            exact ⟨_, rfl, i6⟩
          have p4 : PiecesAt y4 (.slice (some ⟨wr.heap.size + 1 + 1 + 1 + 1 + 1 + 1 + 1 + 1 + 1 + 1, 0, none⟩) 2 2) (wrL 4) := pieces_new (n := 2) hb10 rfl (by omega) fun i hi => by
            rcases two_c hi with rfl | rfl
            · exact ⟨_, rfl, i8⟩
            · exact ⟨_, rfl, i9⟩
          have p5 : PiecesAt y4 (.slice (some ⟨wr.heap.size + 1 + 1 + 1 + 1 + 1 + 1 + 1 + 1 + 1 + 1 + 1 + 1 + 1, 0, none⟩) 2 2) (wrL 5) := pieces_new (n := 2) hb13 rfl (by omega) fun i hi => by
            rcases two_c hi with rfl | rfl
            · exact ⟨_, rfl, i11⟩
            · exact ⟨_, rfl, i12⟩
          have HX := hid (HX.out.trans hxw)
          have HWR : Hid (∀ i, i < 6 → ∃ rv : Value, PiecesAt y4 rv (wrL i) ∧ y4.cell? ⟨wr.heap.size + 1 + 1 + 1 + 1 + 1 + 1 + 1 + 1 + 1 + 1 + 1 + 1 + 1 + 1, i, none⟩ = some rv) := fun i hi => by
            rcases six hi with rfl | rfl | rfl | rfl | rfl | rfl
            · exact ⟨_, pieces_nil _, by rw [cell_of hb14]; rfl⟩
            · exact ⟨_, p1, by rw [cell_of hb14]; rfl⟩
            · exact ⟨_, p2, by rw [cell_of hb14]; rfl⟩
            · exact ⟨_, p3, by rw [cell_of hb14]; rfl⟩
            · exact ⟨_, p4, by rw [cell_of hb14]; rfl⟩
            · exact ⟨_, p5, by rw [cell_of hb14]; rfl⟩
          have HGL := hid (lt_of_block hb14)
          clear hxw hb0 hb1 hb2 hb3 hb4 hb5 hb6 hb7 hb8 hb9 hb10 hb11 hb12 hb13 hb14 i0 i2 i3 i4 i6 i8 i9 i11 i12 p1 p2 p3 p4 p5
          obtain ⟨G3, hG3⟩ : ∃ q, q = wr.heap.size + 1 + 1 + 1 + 1 + 1 + 1 + 1 + 1 + 1 + 1 + 1 + 1 + 1 + 1 := ⟨_, rfl⟩
          rw [← hG3] at HWR HGL ⊢
          clear hG3
          gi_wp2_with fail
          gi_loopw [49] (fun j wr => ∃ i : Nat, i ≤ 6 ∧ j = .int .i64 i ∧ Ext y4 wr) (fun j _ => 6 - (intOf j).toNat)
          case atStart => exact ⟨0, by omega, rfl, Ext.refl _⟩
          case round =>
            obtain ⟨i, hi, rfl, hr⟩ := hrel
            have HR := hid hr
            clear hr
            by_cases hlt : i < 6
            · have hki : (i : Int) < 6 := by omega
              obtain ⟨rv, hrp, hrc⟩ := HWR.out i hlt
              have hbad := wr_bad hlt
              have HRC := hid (fun (u : World) (hu : Ext y4 u) => (hu.cell (p := ⟨G3, i, none⟩) HGL.out).trans hrc)
              have HRP := hid (fun (u : World) (hu : Ext y4 u) => hrp.mono hu)
              have HBD := hid hbad
              clear hrp hrc hbad
              gi_wp2_with fail
              refine lex_wide 13 [(0, kTn)] (by kernel_rfl) (by kernel_rfl) (nStab_cons kTn_s nStab_nil) ?_
              simp only [List.take_succ_cons, List.take_zero, List.drop_succ_cons, List.drop_zero]
              refine lex_pred (p := kTn) rfl ?_ ?_
              · intro x u hR hf
                have hcal := hid (torn_nil u)
                clear hR hf
                go_simp
                exact hcal.out.mono fun e w'' ⟨v, he, hx, hs⟩ => ⟨_, he, ⟨v, rfl, hs⟩, hx⟩
              simp only [Act.put, List.setIfInBounds_toArray, List.set_cons_succ, List.set_cons_zero]
              apply lex_fun (rfl : psAt _ _ = none)
              · intro x u hR hf
                clear hR hf
                go_simp
                exact ⟨rfl, Ext.refl _⟩
              simp only [Act.put, List.setIfInBounds_toArray, List.set_cons_succ, List.set_cons_zero]
              apply lex_fun (rfl : psAt _ _ = none)
              · intro x u hR hf
                clear hR hf
                go_simp
                exact ⟨rfl, Ext.refl _⟩
              simp only [Act.put, List.setIfInBounds_toArray, List.set_cons_succ, List.set_cons_zero]
              apply lex_fun (rfl : psAt _ _ = none)
              · intro x u hR hf
                clear hR hf
                go_simp
                exact ⟨rfl, Ext.refl _⟩
              simp only [Act.put, List.setIfInBounds_toArray, List.set_cons_succ, List.set_cons_zero]
              apply lex_fun (rfl : psAt _ _ = none)
              · intro x u hR hf
                have e0 := HRC.out _ (HR.out.trans hR)
                clear hR hf
                go_simp
                exact ⟨rfl, Ext.refl _⟩
              simp only [Act.put, List.setIfInBounds_toArray, List.set_cons_succ, List.set_cons_zero]
              refine lex_fun (v := .tuple #[.int .i64 0, .bool false, .int .i64 0]) (rfl : psAt _ _ = none) ?_ ?_
              · intro x u hR hf
                have h3 : kTn (x 0) u := by first | exact hf.1 rfl | exact hf.2.1 rfl | exact hf.2.2.1 rfl
                have hcal := hid (IsMend_c exN (x 0) rv (wrL i) u h3 (HRP.out _ (HR.out.trans hR)))
                rw [HBD.out.1, HBD.out.2.1, HBD.out.2.2] at hcal
                clear hR hf h3
                go_simp
                exact hcal.out.mono fun e w'' ⟨he, hx'⟩ => ⟨_, he, rfl, hx'⟩
              simp only [Act.put, List.setIfInBounds_toArray, List.set_cons_succ, List.set_cons_zero]
              apply lex_fun (rfl : psAt _ _ = none)
              · intro x u hR hf
                clear hR hf
                go_simp
                exact ⟨rfl, Ext.refl _⟩
              simp only [Act.put, List.setIfInBounds_toArray, List.set_cons_succ, List.set_cons_zero]
              apply lex_fun (rfl : psAt _ _ = none)
              · intro x u hR hf
                clear hR hf
                go_simp
                exact ⟨rfl, Ext.refl _⟩
              simp only [Act.put, List.setIfInBounds_toArray, List.set_cons_succ, List.set_cons_zero]
              apply lex_fun (rfl : psAt _ _ = none)
              · intro x u hR hf
                clear hR hf
                go_simp
                exact ⟨rfl, Ext.refl _⟩
              simp only [Act.put, List.setIfInBounds_toArray, List.set_cons_succ, List.set_cons_zero]
              apply lex_fun (rfl : psAt _ _ = none)
              · intro x u hR hf
                clear hR hf
                go_simp
                exact ⟨rfl, Ext.refl _⟩
              simp only [Act.put, List.setIfInBounds_toArray, List.set_cons_succ, List.set_cons_zero]
              apply lex_fun (rfl : psAt _ _ = none)
              · intro x u hR hf
                clear hR hf
                go_simp
                exact ⟨rfl, Ext.refl _⟩
              simp only [Act.put, List.setIfInBounds_toArray, List.set_cons_succ, List.set_cons_zero]
              apply lex_fun (rfl : psAt _ _ = none)
              · intro x u hR hf
                clear hR hf
                go_simp
                exact ⟨rfl, Ext.refl _⟩
              simp only [Act.put, List.setIfInBounds_toArray, List.set_cons_succ, List.set_cons_zero]
              apply lex_fun (rfl : psAt _ _ = none)
              · intro x u hR hf
                clear hR hf
                go_simp
                exact ⟨rfl, Ext.refl _⟩
              simp only [Act.put, List.setIfInBounds_toArray, List.set_cons_succ, List.set_cons_zero]
              refine lex_nil fun x w7 hE hfacts => ?_
              clear hfacts
              generalize x 0 = x0 at *
              clear x
              have HR := hid (HR.out.trans hE)
              clear hE HRC HRP HBD
              gi_wp2_with fail
              go_roundw
              case rel => exact ⟨i + 1, by omega, by go_num, HR.out⟩
              case measure => simp [intOf]; omega
            · obtain rfl : i = 6 := by omega
              have HX := hid (HX.out.trans HR.out)
              clear HR HWR HGL hlt hi
              gi_upto_region 55 with (first | (gi_at_call 43; ((with_reducible refine (torn_nil _).mono ?_); rintro e m1 ⟨s1, rfl, hx1, hq1⟩; obtain ⟨ya, yc, rfl⟩ : ∃ a c, s1 = .slice a 3 c := spans_form hq1)) | (refine wpIn_store_fresh (fun _ => trivial) 24 (.tmp 53) (.tmp 421) rfl (W := m1) (c' := #[.int .i64 3, .int .i64 2, .slice ya 3 yc, .int .i64 10, .int .i64 3]) rfl rfl rfl size24 rfl (by kernel_rfl) ?_))
              have hbb : (m1.alloc (.cells #[.int .i64 3, .int .i64 2, .slice ya 3 yc, .int .i64 10, .int .i64 3] 24)).heap[m1.heap.size]? = some (.cells #[.int .i64 3, .int .i64 2, .slice ya 3 yc, .int .i64 10, .int .i64 3] 24 (0, 0)) := Ext.new (Ext.refl _)
              have HWM := hid (HX.out.trans hx1).size
              have HX := hid (HX.out.trans (hx1.alloc (.cells #[.int .i64 3, .int .i64 2, .slice ya 3 yc, .int .i64 10, .int .i64 3] 24)))
              have HM := hid ((Ext.refl m1).alloc (.cells #[.int .i64 3, .int .i64 2, .slice ya 3 yc, .int .i64 10, .int .i64 3] 24))
              have HB53 := hid hbb
              obtain ⟨q53, hqq⟩ : ∃ q, q = m1.heap.size := ⟨_, rfl⟩
              have HQQ := hid hqq
              rw [← hqq] at HB53 ⊢
              clear hbb hqq hx1 hq1
              generalize (m1.alloc (.cells #[.int .i64 3, .int .i64 2, .slice ya 3 yc, .int .i64 10, .int .i64 3] 24)) = e1 at *
              have c0 := cell_of HB53.out
              have f0 := free_of HB53.out
              gi_upto_region 56 with fail
              have hn := set_same HB53.out 2 (.slice none 0 0)
              simp only [List.setIfInBounds_toArray, List.set_cons_succ, List.set_cons_zero] at hn
              have HX : Hid (Ext w (e1.setCell ⟨q53, 2, none⟩ (.slice none 0 0))) := (HX.out.set (by have := HQQ.out; have := HWM.out; omega) 2 _)
              have HB53 := hid hn
              clear c0 f0 hn HM HQQ HWM
              generalize (e1.setCell ⟨q53, 2, none⟩ (.slice none 0 0)) = e2 at *
              have HTB := hid (fun (u : World) => (⟨.slice none 0 0, rfl, spans_nil u⟩ : TnAt u (.agg #[.int .i64 3, .int .i64 2, .slice none 0 0, .int .i64 10, .int .i64 3]) exB))
              have H18 := hid (fun (u : World) => Mend_c exB _ u (HTB.out u))
              have H12 := hid (fun (u : World) => IsMend_c exB _ _ [] u (HTB.out u) (pieces_nil u))
              have H16 := hid (fun (u : World) => Twine_c exB _ u (HTB.out u))
              rw [ex_blank.1] at H18
              rw [ex_blank.2.2.2.1, ex_blank.2.2.2.2, ex_blank.2.1] at H12
              rw [ex_blank.2.2.1, ex_blank.2.1] at H16
              have c0 := cell_of HB53.out
              gi_upto_region 57 with (gi_at_call 18; ((with_reducible refine (H18.out _).mono ?_); rintro e e3 ⟨v2, rfl, hx2, hp2⟩))
              have c0 := cell_of (hx2.block HB53.out)
              have HB53 := hid (hx2.block HB53.out)
              have HX := hid (HX.out.trans hx2)
              clear hp2 hx2
              gi_upto_region 58 with (gi_at_call 12; ((with_reducible refine (H12.out _).mono ?_); rintro e e4 ⟨rfl, hx2⟩))
              have c0 := cell_of (hx2.block HB53.out)
              have HB53 := hid (hx2.block HB53.out)
              have HX := hid (HX.out.trans hx2)
              clear hx2
              gi_upto_region 59 with (gi_at_call 16; ((with_reducible refine (H16.out _).mono ?_); rintro e e5 ⟨rfl, hx2⟩))
              have HX := hid (HX.out.trans hx2)
              clear hx2 c0 HB53 H18 H12 H16 HTB
              gi_upto_region 60 with (first | (gi_at_call 43; ((with_reducible refine (torn_nil _).mono ?_); rintro e m1 ⟨s1, rfl, hx1, hq1⟩; obtain ⟨ya, yc, rfl⟩ : ∃ a c, s1 = .slice a 3 c := spans_form hq1)) | (refine wpIn_store_fresh (fun _ => trivial) 24 (.tmp 57) (.tmp 439) rfl (W := m1) (c' := #[.int .i64 3, .int .i64 2, .slice ya 3 yc, .int .i64 10, .int .i64 3]) rfl rfl rfl size24 rfl (by kernel_rfl) ?_))
              have hbb : (m1.alloc (.cells #[.int .i64 3, .int .i64 2, .slice ya 3 yc, .int .i64 10, .int .i64 3] 24)).heap[m1.heap.size]? = some (.cells #[.int .i64 3, .int .i64 2, .slice ya 3 yc, .int .i64 10, .int .i64 3] 24 (0, 0)) := Ext.new (Ext.refl _)
              have HWM := hid (HX.out.trans hx1).size
              have HX := hid (HX.out.trans (hx1.alloc (.cells #[.int .i64 3, .int .i64 2, .slice ya 3 yc, .int .i64 10, .int .i64 3] 24)))
              have HM := hid ((Ext.refl m1).alloc (.cells #[.int .i64 3, .int .i64 2, .slice ya 3 yc, .int .i64 10, .int .i64 3] 24))
              have HB57 := hid hbb
              obtain ⟨q57, hqq⟩ : ∃ q, q = m1.heap.size := ⟨_, rfl⟩
              have HQQ := hid hqq
              rw [← hqq] at HB57 ⊢
              clear hbb hqq hx1 hq1
              generalize (m1.alloc (.cells #[.int .i64 3, .int .i64 2, .slice ya 3 yc, .int .i64 10, .int .i64 3] 24)) = e6 at *
              have hxa : Ext e6 (e6.alloc (.cells #[.int .i64 0, .int .i64 1, .int .i64 1, .int .i64 4, .int .i64 3, .int .i64 4, .int .i64 0, .int .i64 3] 86)) := (Ext.refl _).alloc _
              have c0 := cell_of (hxa.block HB57.out)
              have f0 := free_of (hxa.block HB57.out)
              gi_upto_region 61 with fail
              have hn := set_same (hxa.block HB57.out) 2 (.slice (some ⟨e6.heap.size, 0, none⟩) 4 4)
              simp only [List.setIfInBounds_toArray, List.set_cons_succ, List.set_cons_zero] at hn
              have hne : e6.heap.size ≠ q57 := by have := lt_of_block HB57.out; omega
              have hbn : ((e6.alloc (.cells #[.int .i64 0, .int .i64 1, .int .i64 1, .int .i64 4, .int .i64 3, .int .i64 4, .int .i64 0, .int .i64 3] 86)).setCell ⟨q57, 2, none⟩ (.slice (some ⟨e6.heap.size, 0, none⟩) 4 4)).heap[e6.heap.size]? = some (.cells #[.int .i64 0, .int .i64 1, .int .i64 1, .int .i64 4, .int .i64 3, .int .i64 4, .int .i64 0, .int .i64 3] 86 (0, 0)) := by rw [set_other hne]; exact Ext.new (Ext.refl _)
              have HX : Hid (Ext w ((e6.alloc (.cells #[.int .i64 0, .int .i64 1, .int .i64 1, .int .i64 4, .int .i64 3, .int .i64 4, .int .i64 0, .int .i64 3] 86)).setCell ⟨q57, 2, none⟩ (.slice (some ⟨e6.heap.size, 0, none⟩) 4 4))) := ((HX.out.trans hxa).set (by have := HQQ.out; have := HWM.out; omega) 2 _)
              have HSQ : Hid (SpansAt ((e6.alloc (.cells #[.int .i64 0, .int .i64 1, .int .i64 1, .int .i64 4, .int .i64 3, .int .i64 4, .int .i64 0, .int .i64 3] 86)).setCell ⟨q57, 2, none⟩ (.slice (some ⟨e6.heap.size, 0, none⟩) 4 4)) (.slice (some ⟨e6.heap.size, 0, none⟩) 4 4) [⟨0, 1⟩, ⟨1, 4⟩, ⟨3, 4⟩, ⟨0, 3⟩]) := spans_new (T := 86) 4 hbn rfl (by omega) (fun i hi => by rcases (by simp at hi; omega : i = 0 ∨ i = 1 ∨ i = 2 ∨ i = 3) with rfl | rfl | rfl | rfl <;> exact ⟨rfl, rfl⟩)
              have HB57 := hid hn
              obtain ⟨q60, hq60⟩ : ∃ q, q = e6.heap.size := ⟨_, rfl⟩
              rw [← hq60] at HX HSQ HB57 ⊢
              clear c0 f0 hn HM HQQ HWM hne hbn hxa hq60
              generalize ((e6.alloc (.cells #[.int .i64 0, .int .i64 1, .int .i64 1, .int .i64 4, .int .i64 3, .int .i64 4, .int .i64 0, .int .i64 3] 86)).setCell ⟨q57, 2, none⟩ (.slice (some ⟨q60, 0, none⟩) 4 4)) = e7 at *
              have H16 := hid (Twine_c exQ (.agg #[.int .i64 3, .int .i64 2, .slice (some ⟨q60, 0, none⟩) 4 4, .int .i64 10, .int .i64 3]) e7 ⟨_, rfl, HSQ.out⟩)
              rw [ex_square.1, ex_square.2] at H16
              have c0 := cell_of HB57.out
              gi_upto_region 62 with (gi_at_call 16; ((with_reducible refine (H16.out).mono ?_); rintro e e8 ⟨rfl, hx2⟩))
              have HX := hid (HX.out.trans hx2)
              clear hx2 c0 HB57 H16 HSQ
              gi_upto_region 63 with (first | (gi_at_call 40; ((with_reducible refine (fleet_any _).mono ?_); rintro e f1 ⟨v1, rfl, hx1, hq1⟩)) | (gi_at_call 28; ((with_reducible refine (k62 _ _ (fl_ex hq1)).mono ?_); rintro e f2 ⟨rfl, hx2⟩)) | (refine wpIn_store_new (t := 56) 56 (.tmp 59) (.tmp 454) rfl (fun _ => trivial) rfl rfl two_new size56 rfl (by kernel_rfl) ?_; intro g7 e1 e2 e3) | (refine wpIn_store_new (t := 56) (old := #[.int .i64 0, .int .i64 0]) 56 (.tmp 60) (.tmp 455) rfl (fun _ => trivial) (g := f2.heap.size + 1) rfl rfl ((e2 _ (by omega)).trans (by have := Ext.new (w := f2.alloc (.cells #[.int .i64 0, .int .i64 0] 56)) (o := .cells #[.int .i64 0, .int .i64 0] 56) (Ext.refl _); rwa [World.size_alloc] at this)) size56 rfl (by kernel_rfl) ?_; intro g8 e4 e5 e6))
              have HB59 : Hid (g8.heap[f2.heap.size]? = some (.cells #[.int .i64 (-15), .int .i64 (-5)] 56 (0, 0))) := (e5 _ (by omega)).trans e1
              have HB60 : Hid (g8.heap[f2.heap.size + 1]? = some (.cells #[.int .i64 0, .int .i64 0] 56 (0, 0))) := e4
              have hz : Ext f2 g8 := e6 f2 (by omega) (e3 f2 (by omega) (((Ext.refl _).alloc _).alloc _))
              have HX := hid (HX.out.trans ((hx1.trans hx2).trans hz))
              clear hx1 hx2 hz hq1 e1 e2 e3 e4 e5 e6
              obtain ⟨d16, hnx⟩ : ∃ d16, d16 = g8 := ⟨_, rfl⟩
              rw [← hnx] at HX HB59 HB60 ⊢
              clear hnx
              obtain ⟨q59, hq59⟩ : ∃ q, q = f2.heap.size := ⟨_, rfl⟩
              rw [← hq59] at HB59 HB60 ⊢
              clear hq59
              gi_upto_region 64 with (first | (gi_at_call 40; ((with_reducible refine (fleet_any _).mono ?_); rintro e f1 ⟨v1, rfl, hx1, hq1⟩)) | (gi_at_call 33; ((with_reducible refine (k63 _ _ (fl_ex hq1)).mono ?_); rintro e f3 ⟨rfl, hx2⟩)))
              have HX := hid (HX.out.trans (hx1.trans hx2))
              have HB59 := hid ((hx1.trans hx2).block HB59.out)
              have HB60 := hid ((hx1.trans hx2).block HB60.out)
              clear hx1 hx2 hq1
              have HQ := hid fun e : Later f3 => And.intro (cell_of (Ext.block e.grown HB59.out)) (cell_of (Ext.block e.grown HB60.out))
              have HT1 := hid (fun u => to_any (-15) (-5) u)
              have HT2 := hid (fun u => to_any 0 0 u)
              have q0 := HQ.out
              refine quiet_wide 54 (by kernel_rfl) (by kernel_rfl) ?_
              simp only [List.take_succ_cons, List.take_zero, List.drop_succ_cons, List.drop_zero]
              repeat (any_goals (first | go_big_quiet_step ((first | (go_at_call 31; with_reducible exact Cal.quiet (HT1.out _)) | (go_at_call 31; with_reducible exact Cal.quiet (HT2.out _)))) | quiet_step ((first | (go_at_call 31; with_reducible exact Cal.quiet (HT1.out _)) | (go_at_call 31; with_reducible exact Cal.quiet (HT2.out _))))))
              refine wpQuiet_nil ?_
              rintro w13 ⟨⟨w13q, hx13⟩, hew⟩
              obtain rfl : w13 = w13q := hew
              have hx13 : Ext f3 w13 := hx13
              have HX := hid (HX.out.trans hx13)
              clear q0 HQ HT1 HT2 HB59 HB60 hx13
              gi_wp2_with (gi_at_call 19; ((with_reducible refine (works_any _).mono ?_); rintro e w14 ⟨rfl, hx1⟩))
              go_ret
              exact ⟨rfl, HX.out.trans hx1⟩

end Go.Proofs.Ytmjelgonhpgmbaa
