/-
  No cell of these rows narrows 'for every input' (looked for: loops, veiled, ifaces, maps, wideKeys, modest, calm, conditions, laid).
  DERIVED. THE GIVEN ROWS OF THIS SEAT. 3 by the template 'for every input the law returns true; each argument reads behind the call as it read before'; 0 by the template 'total and deterministic' (their statements: YtmjelgonhpgmbaaGreatTotals.lean).
  GIVEN WITH THE SEED: the statements are not yours to turn. If you find one false, say at which input.
  Laid BY PROGRAM, IN A SANDBOX (cutbox-rows.mjs): the forced cells as the released guide's own fill.sh prints them over the translation b1d6f01aebb2d681… (all of the seat's roots in one cut). By AI agents, Wed Nov 11 2026. No macro, syntax, notation, axiom, sorry.
-/
import Derived.Test.YtmjelgonhpgmbaaGreatChecked
import GoSem.Claim
import GoSem.ClaimJoined
import GoSem.ClaimMapViews
import Derived.JoinedTies
import Derived.KernelRfl
namespace Go.Proofs.YtmjelgonhpgmbaaGreat
/- THE CELL 'sum', in the pinned program and in every row, IS THE sha256 OF THE DUMP (.gsa) THAT YtmjelgonhpgmbaaGreatProg.lean LOADS. Nothing in Lean hashes anything: it is a label: what it is worth is what the hold of that sum in a sandbox is worth. -/
noncomputable def Tryz.pinned : Pinned := { name := "ytmjelgonhpgmbaagreat", sum := "b1d6f01aebb2d681286cf420c97a6fb1fff475d978c7fd9224647bd7d9988292", checked := Tryz.checked }
namespace Rows
def none {H : Type} : Left H := { results := [], args := [] }

/-- 'drifterlaw02.NetsLies': WHATEVER THE INPUT: true; the input reads as it did. -/
def netsLiesSpec : ChangeSpec := { name := "netsLies", fn := fun _ => fun
  | [d1, d2, d3] => { results := [.lit (.bool true)], args := [d1, d2, d3] }
  | _ => none }
def netsLiesRow : OpenClaim := { program := "ytmjelgonhpgmbaagreat", sum := "b1d6f01aebb2d681286cf420c97a6fb1fff475d978c7fd9224647bd7d9988292", func := "drifter/drifterlaw02.NetsLies", spec := "netsLies", unfollowed := true, recurses := true, plainKeys := false, apart := false }
def NetsLiesSaid : Prop := netsLiesRow.holds Tryz.pinned (OpenSpec.ofChange netsLiesSpec)

/-- ITS FALSE NEIGHBOUR: 'it returns false'. Refute it at one input. -/
def netsLiesWrong : ChangeSpec := { name := "netsLies", fn := fun _ => fun
  | [d1, d2, d3] => { results := [.lit (.bool false)], args := [d1, d2, d3] }
  | _ => none }
def NetsLiesWrongFalsely : Prop := netsLiesRow.holds Tryz.pinned (OpenSpec.ofChange netsLiesWrong)

/-- 'drifterlaw02.NetsFinds': WHATEVER THE INPUT: true; the input reads as it did. -/
def netsFindsSpec : ChangeSpec := { name := "netsFinds", fn := fun _ => fun
  | [d1, d2] => { results := [.lit (.bool true)], args := [d1, d2] }
  | _ => none }
def netsFindsRow : OpenClaim := { program := "ytmjelgonhpgmbaagreat", sum := "b1d6f01aebb2d681286cf420c97a6fb1fff475d978c7fd9224647bd7d9988292", func := "drifter/drifterlaw02.NetsFinds", spec := "netsFinds", unfollowed := true, recurses := true, plainKeys := false, apart := false }
def NetsFindsSaid : Prop := netsFindsRow.holds Tryz.pinned (OpenSpec.ofChange netsFindsSpec)

/-- ITS FALSE NEIGHBOUR: 'it returns false'. Refute it at one input. -/
def netsFindsWrong : ChangeSpec := { name := "netsFinds", fn := fun _ => fun
  | [d1, d2] => { results := [.lit (.bool false)], args := [d1, d2] }
  | _ => none }
def NetsFindsWrongFalsely : Prop := netsFindsRow.holds Tryz.pinned (OpenSpec.ofChange netsFindsWrong)

/-- 'drifterlaw02.NetsShifts': WHATEVER THE INPUT: true; the input reads as it did. -/
def netsShiftsSpec : ChangeSpec := { name := "netsShifts", fn := fun _ => fun
  | [d1, d2] => { results := [.lit (.bool true)], args := [d1, d2] }
  | _ => none }
def netsShiftsRow : OpenClaim := { program := "ytmjelgonhpgmbaagreat", sum := "b1d6f01aebb2d681286cf420c97a6fb1fff475d978c7fd9224647bd7d9988292", func := "drifter/drifterlaw02.NetsShifts", spec := "netsShifts", unfollowed := true, recurses := true, plainKeys := false, apart := false }
def NetsShiftsSaid : Prop := netsShiftsRow.holds Tryz.pinned (OpenSpec.ofChange netsShiftsSpec)

/-- ITS FALSE NEIGHBOUR: 'it returns false'. Refute it at one input. -/
def netsShiftsWrong : ChangeSpec := { name := "netsShifts", fn := fun _ => fun
  | [d1, d2] => { results := [.lit (.bool false)], args := [d1, d2] }
  | _ => none }
def NetsShiftsWrongFalsely : Prop := netsShiftsRow.holds Tryz.pinned (OpenSpec.ofChange netsShiftsWrong)

/- THE SECOND FORM. 'bulk': how many values and letters a reading holds, each counted each time it is reached (what is shared counts as often as it is met; a slice's spare places count too). A statement '..UptoSaid' is the law's where the arguments, and the package variables that the reading takes, are together of bulk at most 1048576: NARROWER than '..Said'. Prove '..Said' where nothing that the law and all that it calls make is longer than what came in: it says more and counts as full. Else prove '..UptoSaid'. A law counts once. -/
mutual
def uptoBulk {H : Type} : DataW H → Nat
  | .lit (.string bytes) => bytes.length + 1
  | .lit _ => 1
  | .nil => 1
  | .ptr d => uptoBulk d + 1
  | .slice elems spare => uptoBulkAll elems + uptoBulkAll spare + 1
  | .agg parts => uptoBulkAll parts + 1
  | .iface _ d => uptoBulk d + 1
  | .map entries => uptoBulkEntries entries + 1
  | .held _ => 1
def uptoBulkAll {H : Type} : List (DataW H) → Nat
  | [] => 0
  | d :: r => uptoBulk d + uptoBulkAll r
def uptoBulkEntries {H : Type} : List (Lit × DataW H) → Nat
  | [] => 0
  | x :: r => uptoBulkEntry x + uptoBulkEntries r
def uptoBulkEntry {H : Type} : Lit × DataW H → Nat
  | (.string bytes, d) => bytes.length + uptoBulk d + 1
  | (_, d) => uptoBulk d + 1
 end
def uptoSmall : (H : Type) → List (DataW H) → Bool := fun _ ds => decide (uptoBulkAll ds ≤ 1048576)
def OpenSpec.upto (s : _root_.Go.ChangeSpec) : _root_.Go.OpenSpec := { _root_.Go.OpenSpec.ofChange s with cond := some uptoSmall }

/-- 'drifterlaw02.NetsLies', WHERE WHAT IT READS IS OF BULK AT MOST 1048576: true; the input reads as it did. -/
def netsLiesUptoRow : OpenClaim := { program := "ytmjelgonhpgmbaagreat", sum := "b1d6f01aebb2d681286cf420c97a6fb1fff475d978c7fd9224647bd7d9988292", func := "drifter/drifterlaw02.NetsLies", spec := "netsLies", unfollowed := true, recurses := true, plainKeys := false, apart := false, narrowed := true }
def NetsLiesUptoSaid : Prop := netsLiesUptoRow.holds Tryz.pinned (OpenSpec.upto netsLiesSpec)

/-- 'drifterlaw02.NetsFinds', WHERE WHAT IT READS IS OF BULK AT MOST 1048576: true; the input reads as it did. -/
def netsFindsUptoRow : OpenClaim := { program := "ytmjelgonhpgmbaagreat", sum := "b1d6f01aebb2d681286cf420c97a6fb1fff475d978c7fd9224647bd7d9988292", func := "drifter/drifterlaw02.NetsFinds", spec := "netsFinds", unfollowed := true, recurses := true, plainKeys := false, apart := false, narrowed := true }
def NetsFindsUptoSaid : Prop := netsFindsUptoRow.holds Tryz.pinned (OpenSpec.upto netsFindsSpec)

/-- 'drifterlaw02.NetsShifts', WHERE WHAT IT READS IS OF BULK AT MOST 1048576: true; the input reads as it did. -/
def netsShiftsUptoRow : OpenClaim := { program := "ytmjelgonhpgmbaagreat", sum := "b1d6f01aebb2d681286cf420c97a6fb1fff475d978c7fd9224647bd7d9988292", func := "drifter/drifterlaw02.NetsShifts", spec := "netsShifts", unfollowed := true, recurses := true, plainKeys := false, apart := false, narrowed := true }
def NetsShiftsUptoSaid : Prop := netsShiftsUptoRow.holds Tryz.pinned (OpenSpec.upto netsShiftsSpec)

end Rows
end Go.Proofs.YtmjelgonhpgmbaaGreat
