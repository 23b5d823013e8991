/- Base: the fence that lets all in, what is kept in memory, small laws. -/
import Derived.Test.YtfkehbhlagpmcaaProg
import Derived.Test.YtfkehbhlagpmcaaDraw
import Derived.RangeFuncNested
import Derived.RangeFuncBound
import Derived.RangeFuncCalls
import Derived.RangeFuncLeaves
import Derived.Shelf.Abstract
import Derived.Shelf.RegionOpen
import Derived.WalkKit
import Derived.WalkSpells
import Derived.WalkLawsBesides
import Derived.OwnWalkIn
import Derived.TacticsInMore
import Derived.LoopNIn
import Derived.LoopIn
import Derived.KernelRfl
set_option linter.unusedSimpArgs false
set_option linter.unusedVariables false
namespace Go.Proofs.Ytfkehbhlagpmcaa
open Go Go.RowKit Go.Shelf
attribute [go_sem] Oper.semAt_some Oper.semAt_none gives giveUpon
@[simp, go_sem] theorem wide_fn (f : Nat) : Fence.wide.fn f = True := rfl
@[simp, go_sem] theorem wide_depth : Fence.wide.depth = none := rfl
@[simp, go_sem] theorem wide_round : Fence.wide.round = none := rfl

/-- A call of function f. -/
abbrev Cal (f : Nat) (args : Array Value) (w : World) (R : Ending → World → Prop) : Prop := CallsIn Fence.wide 0 Try.prog f args w R

/-- The world has only grown. -/
abbrev Ext (w w' : World) : Prop := Below w.heap.size w w'
theorem Ext.refl (w : World) : Ext w w := Below.refl _ _
theorem Ext.trans {u v w : World} (h : Ext u v) (k : Ext v w) : Ext u w := Below.trans h (k.mono h.size)
theorem Ext.drawn (w : World) : Ext w { w with drawn := w.drawn + 1 } := (Below.refl _ w).drew
theorem Ext.block {w w' : World} (h : Ext w w') {b : Nat} {o : Obj} (hb : w.heap[b]? = some o) : w'.heap[b]? = some o := by
  rw [Below.block h b (lt_of_block hb)]; exact hb
theorem Ext.alloc {u w : World} (h : Ext u w) (o : Obj) : Ext u (w.alloc o) := Below.alloc h h.size o

theorem mixed : Try.prog.follows .mixedOrders = true := by kernel_rfl


/-- A region that draws its order, in a body of a function, and in a round of a range over a function. -/
theorem quiet_wide {id : Nat} {Q : Exit → Act → World → Prop} {a : Act} {w : World} {l : List Oper} (m : Nat) (hB : headB l.toArray m = true) (hT : tailB l.toArray m = true)
    (h : wpQuiet Try.prog l.toArray (fun w' => ∃ e : Later w, w' = e.1) (fun a' => ∀ w', (∃ e : Later w, w' = e.1) → wpListIn Fence.wide 0 Try.prog l.toArray Q (l.drop m) a' w') (l.take m) a) :
    (Code.region id l.toArray true).wpIn Fence.wide 0 Try.prog Q a w := wpIn_quiet (ro := none) m mixed hB hT h
theorem quiet_round {r : Nat} {id : Nat} {Q : Exit → Act → World → Prop} {a : Act} {w : World} {l : List Oper} (m : Nat) (hB : headB l.toArray m = true) (hT : tailB l.toArray m = true)
    (h : wpQuiet Try.prog l.toArray (fun w' => ∃ e : Later w, w' = e.1) (fun a' => ∀ w', (∃ e : Later w, w' = e.1) → wpListIn (Fence.wide.inRound r) 0 Try.prog l.toArray Q (l.drop m) a' w') (l.take m) a) :
    (Code.region id l.toArray true).wpIn (Fence.wide.inRound r) 0 Try.prog Q a w := wpIn_quiet (ro := some r) m mixed hB hT h
theorem Cal.calls {f : Nat} {args : Array Value} {w : World} {R : Ending → World → Prop} (h : Cal f args w R) : Calls Try.prog f args w R := callsIn_wide.1 h
/-- A contract, met in a world that has grown out of w. -/
theorem Cal.quiet {f : Nat} {args : Array Value} {w : World} {e : Later w} {v : Value} (h : Cal f args e.1 fun x w' => x = .returned v ∧ Ext e.1 w') :
    Calls Try.prog f args e.1 fun x w'' => x = .returned v ∧ ∃ e' : Later w, w'' = e'.1 :=
  h.calls.mono fun _ w'' ⟨hx, hE⟩ => ⟨hx, ⟨w'', Below.trans e.grown (hE.mono e.grown.size)⟩, rfl⟩
theorem Cal.quiet_same {f : Nat} {args : Array Value} {w : World} {e : Later w} {v : Value} (h : Cal f args e.1 fun x w' => x = .returned v ∧ e.1 = w') :
    Calls Try.prog f args e.1 fun x w'' => x = .returned v ∧ ∃ e' : Later w, w'' = e'.1 :=
  h.calls.mono fun _ _ ⟨hx, hE⟩ => ⟨hx, e, hE.symm⟩

theorem Ext.new {w w1 : World} {o : Obj} (hx : Ext (w.alloc o) w1) : w1.heap[w.heap.size]? = some o :=
  hx.block (by show (w.heap.push o)[w.heap.size]? = some o; simp)
theorem free_of {w : World} {b : Nat} {cs : Array Value} {t : TypeId} (h : w.heap[b]? = some (.cells cs t (0, 0))) (o : Nat) : w.frozen? ⟨b, o, none⟩ = false := by simp [World.frozen?, h]
theorem cell_of {w : World} {b : Nat} {cs : Array Value} {t : TypeId} (h : w.heap[b]? = some (.cells cs t (0, 0))) (o : Nat) : w.cell? ⟨b, o, none⟩ = cs[o]? := by simp [World.cell?, h]

theorem Ext.after {w w1 : World} {o : Obj} (hx : Ext (w.alloc o) w1) : Ext w w1 := ((Ext.refl w).alloc o).trans hx
theorem Ext.set {w w1 : World} (hx : Ext w w1) {b : Nat} (hb : w.heap.size ≤ b) (off : Nat) (v : Value) : Ext w (w1.setCell ⟨b, off, none⟩ v) := Below.setCell hx (p := ⟨b, off, none⟩) hb v

def maxL (x : Int) (xs : List Int) : Int := xs.foldl (fun a b => if a < b then b else a) x
def minL (x : Int) (xs : List Int) : Int := xs.foldl (fun a b => if b < a then b else a) x
theorem maxL_snoc (x : Int) (xs : List Int) (k : Nat) (h : k < xs.length) : maxL x (xs.take (k + 1)) = if maxL x (xs.take k) < xs[k] then xs[k] else maxL x (xs.take k) := by
  rw [List.take_succ_eq_append_getElem h]; unfold maxL; rw [List.foldl_append]; rfl
theorem minL_snoc (x : Int) (xs : List Int) (k : Nat) (h : k < xs.length) : minL x (xs.take (k + 1)) = if xs[k] < minL x (xs.take k) then xs[k] else minL x (xs.take k) := by
  rw [List.take_succ_eq_append_getElem h]; unfold minL; rw [List.foldl_append]; rfl

theorem new_cell {W : World} {n : Nat} (cs : Array Value) (t : TypeId) (hn : W.heap.size = n) (i : Nat) : (W.alloc (.cells cs t)).cell? ⟨n, i, none⟩ = cs[i]? := by
  subst hn; exact cell_of (Ext.new (Ext.refl _)) i

/-- A slice of ints in memory. -/
def IntsAt (w : World) (v : Value) (xs : List Int) : Prop :=
  ∃ a cap, v = .slice a xs.length cap ∧ (xs.length ≤ cap ∧ xs.length ≤ 1000000000000000) ∧ ∀ i (h : i < xs.length), ∃ b off, a = some ⟨b, off, none⟩ ∧ b < w.heap.size ∧ w.cell? ⟨b, off + i, none⟩ = some (.int .i64 xs[i])
theorem IntsAt.mono {w w' : World} {v : Value} {xs : List Int} (h : IntsAt w v xs) (hx : Ext w w') : IntsAt w' v xs := by
  obtain ⟨a, cap, hv, hl, hc⟩ := h
  refine ⟨a, cap, hv, hl, fun i hi => ?_⟩
  obtain ⟨b, off, ha, hb, hcell⟩ := hc i hi
  exact ⟨b, off, ha, Nat.lt_of_lt_of_le hb hx.size, by rw [hx.cell (p := ⟨b, off + i, none⟩) hb]; exact hcell⟩

/-- All of the first n are good. -/
def allTo (good : Nat → Bool) (n : Nat) : Bool := (List.range n).all good
theorem allTo_yes {good : Nat → Bool} {n : Nat} (h : ∀ i, i < n → good i = true) : allTo good n = true := by
  unfold allTo; rw [List.all_eq_true]; exact fun i hi => h i (List.mem_range.1 hi)
theorem allTo_no {good : Nat → Bool} {n k : Nat} (hk : k < n) (h : good k = false) : allTo good n = false := by
  unfold allTo
  cases hh : (List.range n).all good with
  | false => rfl
  | true => have := List.all_eq_true.1 hh k (List.mem_range.2 hk); rw [h] at this; cases this
theorem upTo_succ {good : Nat → Bool} {k : Nat} (h : ∀ i, i < k → good i = true) (hk : good k = true) : ∀ i, i < k + 1 → good i = true := fun i hi => by
  rcases Nat.lt_or_ge i k with h' | h'
  · exact h i h'
  · obtain rfl : i = k := by omega
    exact hk
theorem getD_of {α : Type} {l : List α} {d : α} {i : Nat} (h : i < l.length) : l.getD i d = l[i] := by simp [h]

def inB (n lo hi : Int) : Bool := decide (lo ≤ n) && decide (n ≤ hi)
theorem hid {p : Prop} (h : p) : Hid p := h
theorem inB_spec {n lo hi : Int} (h : inB n lo hi = true) : lo ≤ n ∧ n ≤ hi := by simpa [inB] using h

theorem two_new {w : World} {o1 o2 : Obj} : ((w.alloc o1).alloc o2).heap[w.heap.size]? = some o1 := (Below.heap_alloc _ _ _ (by simp)).trans (Ext.new (Ext.refl _))
theorem three_new {w : World} {o1 o2 o3 : Obj} : (((w.alloc o1).alloc o2).alloc o3).heap[w.heap.size]? = some o1 := (Below.heap_alloc _ _ _ (by simp; omega)).trans two_new
theorem three_mid {w : World} {o1 o2 o3 : Obj} : (((w.alloc o1).alloc o2).alloc o3).heap[w.heap.size + 1]? = some o2 := by
  have := two_new (w := w.alloc o1) (o1 := o2) (o2 := o3); rwa [World.size_alloc] at this
theorem three_top {w : World} {o1 o2 o3 : Obj} : (((w.alloc o1).alloc o2).alloc o3).heap[w.heap.size + 2]? = some o3 := by
  have := Ext.new (w := (w.alloc o1).alloc o2) (o := o3) (Ext.refl _); rwa [World.size_alloc, World.size_alloc] at this
theorem Later.cells {w : World} {cs : Array Value} {t : TypeId} (e : Later (w.alloc (.cells cs t))) (i : Nat) : e.val.cell? ⟨w.heap.size, i, none⟩ = cs[i]? := cell_of (Ext.new e.grown) i
theorem IntsAt.get {w : World} {a : Option Addr} {n cap : Nat} {xs : List Int} (h : IntsAt w (.slice a n cap) xs) : n = xs.length ∧ (xs.length ≤ cap ∧ xs.length ≤ 1000000000000000) ∧
    ∀ i (h : i < xs.length), ∃ b off, a = some ⟨b, off, none⟩ ∧ b < w.heap.size ∧ w.cell? ⟨b, off + i, none⟩ = some (.int .i64 xs[i]) := by
  obtain ⟨a', cap', hv, hl, hc⟩ := h
  cases hv
  exact ⟨rfl, hl, hc⟩
theorem noGoto_ret {Q : Exit → Act → World → Prop} {a : Act} {w : World} (h : Q .ret a w) : Exit.noGoto Q .ret a w := by unfold Exit.noGoto; exact h
theorem noGoto_end {Q : Exit → Act → World → Prop} {a : Act} {w : World} (h : Q .normal a w) : Exit.noGoto Q .normal a w := by unfold Exit.noGoto; exact h
end Go.Proofs.Ytfkehbhlagpmcaa
