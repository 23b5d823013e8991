/- Base: the fence that lets all in, what is kept in memory, small laws. -/
import Derived.Test.YtiklblbjnblkfaaProg
import Derived.Test.YtiklblbjnblkfaaDraw
import Derived.RangeFuncNested
import Derived.RangeFuncBound
import Derived.RangeFuncCalls
import Derived.RangeFuncLeaves
import Derived.Shelf.Abstract
import Derived.Shelf.RegionOpen
import Derived.WalkKit
import Derived.WalkSpells
import Derived.WalkLawsBesides
import Derived.OwnWalkIn
import Derived.TacticsInMore
import Derived.LoopNIn
import Derived.LoopIn
import Derived.KernelRfl
set_option linter.unusedSimpArgs false
set_option linter.unusedVariables false
namespace Go.Proofs.Ytiklblbjnblkfaa
open Go Go.RowKit Go.Shelf
attribute [go_sem] Oper.semAt_some Oper.semAt_none gives giveUpon
@[simp, go_sem] theorem wide_fn (f : Nat) : Fence.wide.fn f = True := rfl
@[simp, go_sem] theorem wide_depth : Fence.wide.depth = none := rfl
@[simp, go_sem] theorem wide_round : Fence.wide.round = none := rfl

/-- A call of function f. -/
abbrev Cal (f : Nat) (args : Array Value) (w : World) (R : Ending → World → Prop) : Prop := CallsIn Fence.wide 0 Try.prog f args w R

/-- The world has only grown. -/
abbrev Ext (w w' : World) : Prop := Below w.heap.size w w'
theorem Ext.refl (w : World) : Ext w w := Below.refl _ _
theorem Ext.trans {u v w : World} (h : Ext u v) (k : Ext v w) : Ext u w := Below.trans h (k.mono h.size)
theorem Ext.drawn (w : World) : Ext w { w with drawn := w.drawn + 1 } := (Below.refl _ w).drew
theorem Ext.block {w w' : World} (h : Ext w w') {b : Nat} {o : Obj} (hb : w.heap[b]? = some o) : w'.heap[b]? = some o := by
  rw [Below.block h b (lt_of_block hb)]; exact hb
theorem Ext.alloc {u w : World} (h : Ext u w) (o : Obj) : Ext u (w.alloc o) := Below.alloc h h.size o

theorem mixed : Try.prog.follows .mixedOrders = true := by kernel_rfl


/-- A region that draws its order, in a body of a function, and in a round of a range over a function. -/
theorem quiet_wide {id : Nat} {Q : Exit → Act → World → Prop} {a : Act} {w : World} {l : List Oper} (m : Nat) (hB : headB l.toArray m = true) (hT : tailB l.toArray m = true)
    (h : wpQuiet Try.prog l.toArray (fun w' => ∃ e : Later w, w' = e.1) (fun a' => ∀ w', (∃ e : Later w, w' = e.1) → wpListIn Fence.wide 0 Try.prog l.toArray Q (l.drop m) a' w') (l.take m) a) :
    (Code.region id l.toArray true).wpIn Fence.wide 0 Try.prog Q a w := wpIn_quiet (ro := none) m mixed hB hT h
theorem quiet_round {r : Nat} {id : Nat} {Q : Exit → Act → World → Prop} {a : Act} {w : World} {l : List Oper} (m : Nat) (hB : headB l.toArray m = true) (hT : tailB l.toArray m = true)
    (h : wpQuiet Try.prog l.toArray (fun w' => ∃ e : Later w, w' = e.1) (fun a' => ∀ w', (∃ e : Later w, w' = e.1) → wpListIn (Fence.wide.inRound r) 0 Try.prog l.toArray Q (l.drop m) a' w') (l.take m) a) :
    (Code.region id l.toArray true).wpIn (Fence.wide.inRound r) 0 Try.prog Q a w := wpIn_quiet (ro := some r) m mixed hB hT h
theorem Cal.calls {f : Nat} {args : Array Value} {w : World} {R : Ending → World → Prop} (h : Cal f args w R) : Calls Try.prog f args w R := callsIn_wide.1 h
/-- A contract, met in a world that has grown out of w. -/
theorem Cal.quiet {f : Nat} {args : Array Value} {w : World} {e : Later w} {v : Value} (h : Cal f args e.1 fun x w' => x = .returned v ∧ Ext e.1 w') :
    Calls Try.prog f args e.1 fun x w'' => x = .returned v ∧ ∃ e' : Later w, w'' = e'.1 :=
  h.calls.mono fun _ w'' ⟨hx, hE⟩ => ⟨hx, ⟨w'', Below.trans e.grown (hE.mono e.grown.size)⟩, rfl⟩
theorem Cal.quiet_same {f : Nat} {args : Array Value} {w : World} {e : Later w} {v : Value} (h : Cal f args e.1 fun x w' => x = .returned v ∧ e.1 = w') :
    Calls Try.prog f args e.1 fun x w'' => x = .returned v ∧ ∃ e' : Later w, w'' = e'.1 :=
  h.calls.mono fun _ _ ⟨hx, hE⟩ => ⟨hx, e, hE.symm⟩

/-- The sea in memory. -/
structure SeaV where
  wide : Int
  high : Int
  land : Value
  hours : Int
  drift : Value
  speed : Int
  cm : Value
  asked : Value

def SeaAt (w : World) (b : Nat) (S : SeaV) : Prop :=
  w.heap[b]? = some (.cells #[.int .i64 S.wide, .int .i64 S.high, S.land, .int .i64 S.hours, S.drift, .int .i64 S.speed, S.cm, S.asked] 113 (0, 0))
theorem SeaAt.mono {w w' : World} {b : Nat} {S : SeaV} (h : SeaAt w b S) (hx : Ext w w') : SeaAt w' b S := hx.block h
theorem SeaAt.cells {w : World} {b : Nat} {S : SeaV} (h : SeaAt w b S) :
    w.cell? ⟨b, 0, none⟩ = some (.int .i64 S.wide) ∧ w.cell? ⟨b, 1, none⟩ = some (.int .i64 S.high) ∧ w.cell? ⟨b, 2, none⟩ = some S.land ∧
    w.cell? ⟨b, 3, none⟩ = some (.int .i64 S.hours) ∧ w.cell? ⟨b, 4, none⟩ = some S.drift ∧ w.cell? ⟨b, 5, none⟩ = some (.int .i64 S.speed) ∧
    w.cell? ⟨b, 6, none⟩ = some S.cm ∧ w.cell? ⟨b, 7, none⟩ = some S.asked := by
  unfold SeaAt at h
  simp [World.cell?, h]
theorem SeaAt.lt {w : World} {b : Nat} {S : SeaV} (h : SeaAt w b S) : b < w.heap.size := lt_of_block h

/-- The bounds of a valid sea. -/
structure SeaV.Ok (S : SeaV) : Prop where
  wide : 1 ≤ S.wide ∧ S.wide ≤ 10
  high : 1 ≤ S.high ∧ S.high ≤ 8
  hours : 1 ≤ S.hours ∧ S.hours ≤ 12
  speed : 0 ≤ S.speed ∧ S.speed ≤ 2

def placeV (c r : Int) : Value := .agg #[.int .i64 c, .int .i64 r]

theorem Ext.new {w w1 : World} {o : Obj} (hx : Ext (w.alloc o) w1) : w1.heap[w.heap.size]? = some o :=
  hx.block (by show (w.heap.push o)[w.heap.size]? = some o; simp)
theorem free_of {w : World} {b : Nat} {cs : Array Value} {t : TypeId} (h : w.heap[b]? = some (.cells cs t (0, 0))) (o : Nat) : w.frozen? ⟨b, o, none⟩ = false := by simp [World.frozen?, h]
theorem cell_of {w : World} {b : Nat} {cs : Array Value} {t : TypeId} (h : w.heap[b]? = some (.cells cs t (0, 0))) (o : Nat) : w.cell? ⟨b, o, none⟩ = cs[o]? := by simp [World.cell?, h]

theorem Ext.after {w w1 : World} {o : Obj} (hx : Ext (w.alloc o) w1) : Ext w w1 := ((Ext.refl w).alloc o).trans hx
theorem Ext.set {w w1 : World} (hx : Ext w w1) {b : Nat} (hb : w.heap.size ≤ b) (off : Nat) (v : Value) : Ext w (w1.setCell ⟨b, off, none⟩ v) := Below.setCell hx (p := ⟨b, off, none⟩) hb v

def maxL (x : Int) (xs : List Int) : Int := xs.foldl (fun a b => if a < b then b else a) x
def minL (x : Int) (xs : List Int) : Int := xs.foldl (fun a b => if b < a then b else a) x
theorem maxL_snoc (x : Int) (xs : List Int) (k : Nat) (h : k < xs.length) : maxL x (xs.take (k + 1)) = if maxL x (xs.take k) < xs[k] then xs[k] else maxL x (xs.take k) := by
  rw [List.take_succ_eq_append_getElem h]; unfold maxL; rw [List.foldl_append]; rfl
theorem minL_snoc (x : Int) (xs : List Int) (k : Nat) (h : k < xs.length) : minL x (xs.take (k + 1)) = if xs[k] < minL x (xs.take k) then xs[k] else minL x (xs.take k) := by
  rw [List.take_succ_eq_append_getElem h]; unfold minL; rw [List.foldl_append]; rfl

theorem new_cell {W : World} {n : Nat} (cs : Array Value) (t : TypeId) (hn : W.heap.size = n) (i : Nat) : (W.alloc (.cells cs t)).cell? ⟨n, i, none⟩ = cs[i]? := by
  subst hn; exact cell_of (Ext.new (Ext.refl _)) i

/-- A slice of ints in memory. -/
def IntsAt (w : World) (v : Value) (xs : List Int) : Prop :=
  ∃ a cap, v = .slice a xs.length cap ∧ xs.length ≤ 1000000000000000 ∧ ∀ i (h : i < xs.length), ∃ b off, a = some ⟨b, off, none⟩ ∧ b < w.heap.size ∧ w.cell? ⟨b, off + i, none⟩ = some (.int .i64 xs[i])
theorem IntsAt.mono {w w' : World} {v : Value} {xs : List Int} (h : IntsAt w v xs) (hx : Ext w w') : IntsAt w' v xs := by
  obtain ⟨a, cap, hv, hl, hc⟩ := h
  refine ⟨a, cap, hv, hl, fun i hi => ?_⟩
  obtain ⟨b, off, ha, hb, hcell⟩ := hc i hi
  exact ⟨b, off, ha, Nat.lt_of_lt_of_le hb hx.size, by rw [hx.cell (p := ⟨b, off + i, none⟩) hb]; exact hcell⟩

structure Rep where
  hour : Int
  cell : Int
  far : Int
  there : Bool

structure Step where
  east : Int
  north : Int

/-- A cast: its cell, how far it covers. -/
structure Cst where
  cell : Int
  far : Int

def RepsAt (w : World) (v : Value) (rs : List Rep) : Prop :=
  ∃ a cap, v = .slice a rs.length cap ∧ rs.length ≤ 1000000000000000 ∧ ∀ i (h : i < rs.length), ∃ b off, a = some ⟨b, off, none⟩ ∧ b < w.heap.size ∧
    w.cell? ⟨b, off + i * 4, none⟩ = some (.int .i64 rs[i].hour) ∧ w.cell? ⟨b, off + i * 4 + 1, none⟩ = some (.int .i64 rs[i].cell) ∧
    w.cell? ⟨b, off + i * 4 + 2, none⟩ = some (.int .i64 rs[i].far) ∧ w.cell? ⟨b, off + i * 4 + 3, none⟩ = some (.bool rs[i].there)
theorem RepsAt.mono {w w' : World} {v : Value} {rs : List Rep} (h : RepsAt w v rs) (hx : Ext w w') : RepsAt w' v rs := by
  obtain ⟨a, cap, hv, hl, hc⟩ := h
  refine ⟨a, cap, hv, hl, fun i hi => ?_⟩
  obtain ⟨b, off, ha, hb, h0, h1, h2, h3⟩ := hc i hi
  exact ⟨b, off, ha, Nat.lt_of_lt_of_le hb hx.size, by rw [hx.cell (p := ⟨b, _, none⟩) hb]; exact h0, by rw [hx.cell (p := ⟨b, _, none⟩) hb]; exact h1,
    by rw [hx.cell (p := ⟨b, _, none⟩) hb]; exact h2, by rw [hx.cell (p := ⟨b, _, none⟩) hb]; exact h3⟩

def StepsAt (w : World) (v : Value) (ds : List Step) : Prop :=
  ∃ a cap, v = .slice a ds.length cap ∧ ds.length ≤ 1000000000000000 ∧ ∀ i (h : i < ds.length), ∃ b off, a = some ⟨b, off, none⟩ ∧ b < w.heap.size ∧
    w.cell? ⟨b, off + i * 2, none⟩ = some (.int .i64 ds[i].east) ∧ w.cell? ⟨b, off + i * 2 + 1, none⟩ = some (.int .i64 ds[i].north)
theorem StepsAt.mono {w w' : World} {v : Value} {rs : List Step} (h : StepsAt w v rs) (hx : Ext w w') : StepsAt w' v rs := by
  obtain ⟨a, cap, hv, hl, hc⟩ := h
  refine ⟨a, cap, hv, hl, fun i hi => ?_⟩
  obtain ⟨b, off, ha, hb, h0, h1⟩ := hc i hi
  exact ⟨b, off, ha, Nat.lt_of_lt_of_le hb hx.size, by rw [hx.cell (p := ⟨b, _, none⟩) hb]; exact h0, by rw [hx.cell (p := ⟨b, _, none⟩) hb]; exact h1⟩

def CastsAt (w : World) (v : Value) (ds : List Cst) : Prop :=
  ∃ a cap, v = .slice a ds.length cap ∧ ds.length ≤ 1000000000000000 ∧ ∀ i (h : i < ds.length), ∃ b off, a = some ⟨b, off, none⟩ ∧ b < w.heap.size ∧
    w.cell? ⟨b, off + i * 2, none⟩ = some (.int .i64 ds[i].cell) ∧ w.cell? ⟨b, off + i * 2 + 1, none⟩ = some (.int .i64 ds[i].far)
theorem CastsAt.mono {w w' : World} {v : Value} {rs : List Cst} (h : CastsAt w v rs) (hx : Ext w w') : CastsAt w' v rs := by
  obtain ⟨a, cap, hv, hl, hc⟩ := h
  refine ⟨a, cap, hv, hl, fun i hi => ?_⟩
  obtain ⟨b, off, ha, hb, h0, h1⟩ := hc i hi
  exact ⟨b, off, ha, Nat.lt_of_lt_of_le hb hx.size, by rw [hx.cell (p := ⟨b, _, none⟩) hb]; exact h0, by rw [hx.cell (p := ⟨b, _, none⟩) hb]; exact h1⟩

/-- All of the first n are good. -/
def allTo (good : Nat → Bool) (n : Nat) : Bool := (List.range n).all good
theorem allTo_yes {good : Nat → Bool} {n : Nat} (h : ∀ i, i < n → good i = true) : allTo good n = true := by
  unfold allTo; rw [List.all_eq_true]; exact fun i hi => h i (List.mem_range.1 hi)
theorem allTo_no {good : Nat → Bool} {n k : Nat} (hk : k < n) (h : good k = false) : allTo good n = false := by
  unfold allTo
  cases hh : (List.range n).all good with
  | false => rfl
  | true => have := List.all_eq_true.1 hh k (List.mem_range.2 hk); rw [h] at this; cases this
theorem upTo_succ {good : Nat → Bool} {k : Nat} (h : ∀ i, i < k → good i = true) (hk : good k = true) : ∀ i, i < k + 1 → good i = true := fun i hi => by
  rcases Nat.lt_or_ge i k with h' | h'
  · exact h i h'
  · obtain rfl : i = k := by omega
    exact hk
theorem getD_of {α : Type} {l : List α} {d : α} {i : Nat} (h : i < l.length) : l.getD i d = l[i] := by simp [h]

def inB (n lo hi : Int) : Bool := decide (lo ≤ n) && decide (n ≤ hi)
def landGood (xs : List Int) (cells : Int) (i : Nat) : Bool := inB (xs.getD i 0) 0 (cells - 1) && (i == 0 || decide (xs.getD (i - 1) 0 < xs.getD i 0))
def landB (xs : List Int) (cells : Int) : Bool := allTo (landGood xs cells) xs.length
def driftGood (ds : List Step) (i : Nat) : Bool := inB (ds.getD i ⟨0, 0⟩).east (-2) 2 && inB (ds.getD i ⟨0, 0⟩).north (-2) 2
def driftB (ds : List Step) (steps : Int) : Bool := decide ((ds.length : Int) = steps) && allTo (driftGood ds) ds.length
def repGood (hours cells : Int) (rs : List Rep) (i : Nat) : Bool := inB (rs.getD i ⟨0, 0, 0, false⟩).hour 0 (hours - 1) && inB (rs.getD i ⟨0, 0, 0, false⟩).cell 0 (cells - 1) && inB (rs.getD i ⟨0, 0, 0, false⟩).far 0 9
def repsB (hours cells : Int) (rs : List Rep) : Bool := decide (rs.length ≤ 24) && allTo (repGood hours cells rs) rs.length
def castGood (cells : Int) (ds : List Cst) (i : Nat) : Bool := inB (ds.getD i ⟨0, 0⟩).cell 0 (cells - 1) && inB (ds.getD i ⟨0, 0⟩).far 0 9
def castsB (cells : Int) (ds : List Cst) : Bool := inB ds.length 1 8 && allTo (castGood cells ds) ds.length

theorem hid {p : Prop} (h : p) : Hid p := h
theorem landGood_zero {xs : List Int} {cells : Int} (h : 0 < xs.length) : landGood xs cells 0 = inB xs[0] 0 (cells - 1) := by
  unfold landGood; rw [getD_of h]; simp
theorem landGood_pos {xs : List Int} {cells : Int} {k : Nat} (h : k < xs.length) (hk : k ≠ 0) : landGood xs cells k = (inB xs[k] 0 (cells - 1) && decide (xs[k - 1] < xs[k])) := by
  have hk' : (k == 0) = false := by simpa using hk
  unfold landGood; rw [getD_of h, getD_of (show k - 1 < xs.length by omega), hk', Bool.false_or]
theorem landGood_no {xs : List Int} {cells : Int} {k : Nat} (h : k < xs.length) (hin : inB xs[k] 0 (cells - 1) = false) : landGood xs cells k = false := by
  unfold landGood; rw [getD_of h, hin, Bool.false_and]

theorem driftGood_eq {ds : List Step} {k : Nat} (h : k < ds.length) : driftGood ds k = (inB ds[k].east (-2) 2 && inB ds[k].north (-2) 2) := by
  unfold driftGood; rw [getD_of h]
theorem repGood_eq {hours cells : Int} {rs : List Rep} {k : Nat} (h : k < rs.length) : repGood hours cells rs k = (inB rs[k].hour 0 (hours - 1) && inB rs[k].cell 0 (cells - 1) && inB rs[k].far 0 9) := by
  unfold repGood; rw [getD_of h]
theorem castGood_eq {cells : Int} {ds : List Cst} {k : Nat} (h : k < ds.length) : castGood cells ds k = (inB ds[k].cell 0 (cells - 1) && inB ds[k].far 0 9) := by
  unfold castGood; rw [getD_of h]

/-- A sea as it is handed over: its numbers, its land, its drift. -/
structure SeaD where
  wide : Int
  high : Int
  land : List Int
  hours : Int
  drift : List Step
  speed : Int
def seaB (D : SeaD) : Bool := inB D.wide 1 10 && inB D.high 1 8 && inB D.speed 0 2 && inB D.hours 1 12 && landB D.land (D.wide * D.high) && driftB D.drift (D.hours - 1)
def seaVal (D : SeaD) (lv dv : Value) : Value := .agg #[.int .i64 D.wide, .int .i64 D.high, lv, .int .i64 D.hours, dv, .int .i64 D.speed]
theorem inB_spec {n lo hi : Int} (h : inB n lo hi = true) : lo ≤ n ∧ n ≤ hi := by simpa [inB] using h
theorem mul_bounds {a b : Int} (ha : 1 ≤ a ∧ a ≤ 10) (hb : 1 ≤ b ∧ b ≤ 8) : 1 ≤ a * b ∧ a * b ≤ 80 :=
  ⟨Int.le_trans (by omega : (1 : Int) ≤ 1 * 1) (Int.mul_le_mul ha.1 hb.1 (by omega) (by omega)), Int.le_trans (Int.mul_le_mul ha.2 hb.2 (by omega) (by omega)) (by omega)⟩
end Go.Proofs.Ytiklblbjnblkfaa
