/-
  No cell of these rows narrows 'for every input' (looked for: loops, veiled, ifaces, maps, wideKeys, modest, calm, conditions, laid).
  DERIVED. THE GIVEN ROWS OF THIS SEAT. 9 by the template 'for every input the law returns true; each argument reads behind the call as it read before'; 0 by the template 'total and deterministic' (their statements: YtmjelgonhpgmbaaTotals.lean).
  GIVEN WITH THE SEED: the statements are not yours to turn. If you find one false, say at which input.
  Laid BY PROGRAM, IN A SANDBOX (cutbox-rows.mjs): the forced cells as the released guide's own fill.sh prints them over the translation 054c4f2267054eb0… (all of the seat's roots in one cut). By AI agents, Wed Nov 11 2026. No macro, syntax, notation, axiom, sorry.
-/
import Derived.Test.YtmjelgonhpgmbaaChecked
import GoSem.Claim
import GoSem.ClaimJoined
import GoSem.ClaimMapViews
import Derived.JoinedTies
import Derived.KernelRfl
namespace Go.Proofs.Ytmjelgonhpgmbaa
/- THE CELL 'sum', in the pinned program and in every row, IS THE sha256 OF THE DUMP (.gsa) THAT YtmjelgonhpgmbaaProg.lean LOADS. Nothing in Lean hashes anything: it is a label: what it is worth is what the hold of that sum in a sandbox is worth. -/
noncomputable def Try.pinned : Pinned := { name := "ytmjelgonhpgmbaa", sum := "054c4f2267054eb007f5c97b056a24139f715f32957a30e389a9bb1104a1b009", checked := Try.checked }
namespace Rows
def none {H : Type} : Left H := { results := [], args := [] }

/-- 'drifterlaw02.NetsMends': WHATEVER THE INPUT: true; the input reads as it did. -/
def netsMendsSpec : ChangeSpec := { name := "netsMends", fn := fun _ => fun
  | [d1, d2] => { results := [.lit (.bool true)], args := [d1, d2] }
  | _ => none }
def netsMendsRow : OpenClaim := { program := "ytmjelgonhpgmbaa", sum := "054c4f2267054eb007f5c97b056a24139f715f32957a30e389a9bb1104a1b009", func := "drifter/drifterlaw02.NetsMends", spec := "netsMends", unfollowed := true, recurses := true, plainKeys := false, apart := false }
def NetsMendsSaid : Prop := netsMendsRow.holds Try.pinned (OpenSpec.ofChange netsMendsSpec)

/-- ITS FALSE NEIGHBOUR: 'it returns false'. Refute it at one input. -/
def netsMendsWrong : ChangeSpec := { name := "netsMends", fn := fun _ => fun
  | [d1, d2] => { results := [.lit (.bool false)], args := [d1, d2] }
  | _ => none }
def NetsMendsWrongFalsely : Prop := netsMendsRow.holds Try.pinned (OpenSpec.ofChange netsMendsWrong)

/-- 'drifterlaw02.NetsSafe': WHATEVER THE INPUT: true; the input reads as it did. -/
def netsSafeSpec : ChangeSpec := { name := "netsSafe", fn := fun _ => fun
  | [d1, d2] => { results := [.lit (.bool true)], args := [d1, d2] }
  | _ => none }
def netsSafeRow : OpenClaim := { program := "ytmjelgonhpgmbaa", sum := "054c4f2267054eb007f5c97b056a24139f715f32957a30e389a9bb1104a1b009", func := "drifter/drifterlaw02.NetsSafe", spec := "netsSafe", unfollowed := true, recurses := true, plainKeys := false, apart := false }
def NetsSafeSaid : Prop := netsSafeRow.holds Try.pinned (OpenSpec.ofChange netsSafeSpec)

/-- ITS FALSE NEIGHBOUR: 'it returns false'. Refute it at one input. -/
def netsSafeWrong : ChangeSpec := { name := "netsSafe", fn := fun _ => fun
  | [d1, d2] => { results := [.lit (.bool false)], args := [d1, d2] }
  | _ => none }
def NetsSafeWrongFalsely : Prop := netsSafeRow.holds Try.pinned (OpenSpec.ofChange netsSafeWrong)

/-- 'drifterlaw02.NetsBetween': WHATEVER THE INPUT: true; the input reads as it did. -/
def netsBetweenSpec : ChangeSpec := { name := "netsBetween", fn := fun _ => fun
  | [d1, d2, d3] => { results := [.lit (.bool true)], args := [d1, d2, d3] }
  | _ => none }
def netsBetweenRow : OpenClaim := { program := "ytmjelgonhpgmbaa", sum := "054c4f2267054eb007f5c97b056a24139f715f32957a30e389a9bb1104a1b009", func := "drifter/drifterlaw02.NetsBetween", spec := "netsBetween", unfollowed := true, recurses := true, plainKeys := false, apart := false }
def NetsBetweenSaid : Prop := netsBetweenRow.holds Try.pinned (OpenSpec.ofChange netsBetweenSpec)

/-- ITS FALSE NEIGHBOUR: 'it returns false'. Refute it at one input. -/
def netsBetweenWrong : ChangeSpec := { name := "netsBetween", fn := fun _ => fun
  | [d1, d2, d3] => { results := [.lit (.bool false)], args := [d1, d2, d3] }
  | _ => none }
def NetsBetweenWrongFalsely : Prop := netsBetweenRow.holds Try.pinned (OpenSpec.ofChange netsBetweenWrong)

/-- 'drifterlaw02.NetsCarried': WHATEVER THE INPUT: true; the input reads as it did. -/
def netsCarriedSpec : ChangeSpec := { name := "netsCarried", fn := fun _ => fun
  | [d1, d2, d3] => { results := [.lit (.bool true)], args := [d1, d2, d3] }
  | _ => none }
def netsCarriedRow : OpenClaim := { program := "ytmjelgonhpgmbaa", sum := "054c4f2267054eb007f5c97b056a24139f715f32957a30e389a9bb1104a1b009", func := "drifter/drifterlaw02.NetsCarried", spec := "netsCarried", unfollowed := true, recurses := true, plainKeys := false, apart := false }
def NetsCarriedSaid : Prop := netsCarriedRow.holds Try.pinned (OpenSpec.ofChange netsCarriedSpec)

/-- ITS FALSE NEIGHBOUR: 'it returns false'. Refute it at one input. -/
def netsCarriedWrong : ChangeSpec := { name := "netsCarried", fn := fun _ => fun
  | [d1, d2, d3] => { results := [.lit (.bool false)], args := [d1, d2, d3] }
  | _ => none }
def NetsCarriedWrongFalsely : Prop := netsCarriedRow.holds Try.pinned (OpenSpec.ofChange netsCarriedWrong)

/-- 'drifterlaw02.NetsShifted': WHATEVER THE INPUT: true; the input reads as it did. -/
def netsShiftedSpec : ChangeSpec := { name := "netsShifted", fn := fun _ => fun
  | [d1, d2] => { results := [.lit (.bool true)], args := [d1, d2] }
  | _ => none }
def netsShiftedRow : OpenClaim := { program := "ytmjelgonhpgmbaa", sum := "054c4f2267054eb007f5c97b056a24139f715f32957a30e389a9bb1104a1b009", func := "drifter/drifterlaw02.NetsShifted", spec := "netsShifted", unfollowed := true, recurses := true, plainKeys := false, apart := false }
def NetsShiftedSaid : Prop := netsShiftedRow.holds Try.pinned (OpenSpec.ofChange netsShiftedSpec)

/-- ITS FALSE NEIGHBOUR: 'it returns false'. Refute it at one input. -/
def netsShiftedWrong : ChangeSpec := { name := "netsShifted", fn := fun _ => fun
  | [d1, d2] => { results := [.lit (.bool false)], args := [d1, d2] }
  | _ => none }
def NetsShiftedWrongFalsely : Prop := netsShiftedRow.holds Try.pinned (OpenSpec.ofChange netsShiftedWrong)

/-- 'drifterlaw02.NetsFewer': WHATEVER THE INPUT: true; the input reads as it did. -/
def netsFewerSpec : ChangeSpec := { name := "netsFewer", fn := fun _ => fun
  | [d1, d2] => { results := [.lit (.bool true)], args := [d1, d2] }
  | _ => none }
def netsFewerRow : OpenClaim := { program := "ytmjelgonhpgmbaa", sum := "054c4f2267054eb007f5c97b056a24139f715f32957a30e389a9bb1104a1b009", func := "drifter/drifterlaw02.NetsFewer", spec := "netsFewer", unfollowed := true, recurses := true, plainKeys := false, apart := false }
def NetsFewerSaid : Prop := netsFewerRow.holds Try.pinned (OpenSpec.ofChange netsFewerSpec)

/-- ITS FALSE NEIGHBOUR: 'it returns false'. Refute it at one input. -/
def netsFewerWrong : ChangeSpec := { name := "netsFewer", fn := fun _ => fun
  | [d1, d2] => { results := [.lit (.bool false)], args := [d1, d2] }
  | _ => none }
def NetsFewerWrongFalsely : Prop := netsFewerRow.holds Try.pinned (OpenSpec.ofChange netsFewerWrong)

/-- 'drifterlaw02.NetsMoved': WHATEVER THE INPUT: true; the input reads as it did. -/
def netsMovedSpec : ChangeSpec := { name := "netsMoved", fn := fun _ => fun
  | [d1, d2, d3] => { results := [.lit (.bool true)], args := [d1, d2, d3] }
  | _ => none }
def netsMovedRow : OpenClaim := { program := "ytmjelgonhpgmbaa", sum := "054c4f2267054eb007f5c97b056a24139f715f32957a30e389a9bb1104a1b009", func := "drifter/drifterlaw02.NetsMoved", spec := "netsMoved", unfollowed := true, recurses := true, plainKeys := false, apart := false }
def NetsMovedSaid : Prop := netsMovedRow.holds Try.pinned (OpenSpec.ofChange netsMovedSpec)

/-- ITS FALSE NEIGHBOUR: 'it returns false'. Refute it at one input. -/
def netsMovedWrong : ChangeSpec := { name := "netsMoved", fn := fun _ => fun
  | [d1, d2, d3] => { results := [.lit (.bool false)], args := [d1, d2, d3] }
  | _ => none }
def NetsMovedWrongFalsely : Prop := netsMovedRow.holds Try.pinned (OpenSpec.ofChange netsMovedWrong)

/-- 'drifterlaw02.NetsTwine': WHATEVER THE INPUT: true; the input reads as it did. -/
def netsTwineSpec : ChangeSpec := { name := "netsTwine", fn := fun _ => fun
  | [d1, d2] => { results := [.lit (.bool true)], args := [d1, d2] }
  | _ => none }
def netsTwineRow : OpenClaim := { program := "ytmjelgonhpgmbaa", sum := "054c4f2267054eb007f5c97b056a24139f715f32957a30e389a9bb1104a1b009", func := "drifter/drifterlaw02.NetsTwine", spec := "netsTwine", unfollowed := true, recurses := true, plainKeys := false, apart := false }
def NetsTwineSaid : Prop := netsTwineRow.holds Try.pinned (OpenSpec.ofChange netsTwineSpec)

/-- ITS FALSE NEIGHBOUR: 'it returns false'. Refute it at one input. -/
def netsTwineWrong : ChangeSpec := { name := "netsTwine", fn := fun _ => fun
  | [d1, d2] => { results := [.lit (.bool false)], args := [d1, d2] }
  | _ => none }
def NetsTwineWrongFalsely : Prop := netsTwineRow.holds Try.pinned (OpenSpec.ofChange netsTwineWrong)

/-- 'drifterlaw02.NetsKnown': WHATEVER THE INPUT: true; the input reads as it did. -/
def netsKnownSpec : ChangeSpec := { name := "netsKnown", fn := fun _ => fun
  | [] => { results := [.lit (.bool true)], args := [] }
  | _ => none }
def netsKnownRow : OpenClaim := { program := "ytmjelgonhpgmbaa", sum := "054c4f2267054eb007f5c97b056a24139f715f32957a30e389a9bb1104a1b009", func := "drifter/drifterlaw02.NetsKnown", spec := "netsKnown", unfollowed := true, recurses := true, plainKeys := false, apart := false }
def NetsKnownSaid : Prop := netsKnownRow.holds Try.pinned (OpenSpec.ofChange netsKnownSpec)

/-- ITS FALSE NEIGHBOUR: 'it returns false'. Refute it at one input. -/
def netsKnownWrong : ChangeSpec := { name := "netsKnown", fn := fun _ => fun
  | [] => { results := [.lit (.bool false)], args := [] }
  | _ => none }
def NetsKnownWrongFalsely : Prop := netsKnownRow.holds Try.pinned (OpenSpec.ofChange netsKnownWrong)

/- THE SECOND FORM. 'bulk': how many values and letters a reading holds, each counted each time it is reached (what is shared counts as often as it is met; a slice's spare places count too). A statement '..UptoSaid' is the law's where the arguments, and the package variables that the reading takes, are together of bulk at most 1048576: NARROWER than '..Said'. Prove '..Said' where nothing that the law and all that it calls make is longer than what came in: it says more and counts as full. Else prove '..UptoSaid'. A law counts once. -/
mutual
def uptoBulk {H : Type} : DataW H → Nat
  | .lit (.string bytes) => bytes.length + 1
  | .lit _ => 1
  | .nil => 1
  | .ptr d => uptoBulk d + 1
  | .slice elems spare => uptoBulkAll elems + uptoBulkAll spare + 1
  | .agg parts => uptoBulkAll parts + 1
  | .iface _ d => uptoBulk d + 1
  | .map entries => uptoBulkEntries entries + 1
  | .held _ => 1
def uptoBulkAll {H : Type} : List (DataW H) → Nat
  | [] => 0
  | d :: r => uptoBulk d + uptoBulkAll r
def uptoBulkEntries {H : Type} : List (Lit × DataW H) → Nat
  | [] => 0
  | x :: r => uptoBulkEntry x + uptoBulkEntries r
def uptoBulkEntry {H : Type} : Lit × DataW H → Nat
  | (.string bytes, d) => bytes.length + uptoBulk d + 1
  | (_, d) => uptoBulk d + 1
 end
def uptoSmall : (H : Type) → List (DataW H) → Bool := fun _ ds => decide (uptoBulkAll ds ≤ 1048576)
def OpenSpec.upto (s : _root_.Go.ChangeSpec) : _root_.Go.OpenSpec := { _root_.Go.OpenSpec.ofChange s with cond := some uptoSmall }

/-- 'drifterlaw02.NetsMends', WHERE WHAT IT READS IS OF BULK AT MOST 1048576: true; the input reads as it did. -/
def netsMendsUptoRow : OpenClaim := { program := "ytmjelgonhpgmbaa", sum := "054c4f2267054eb007f5c97b056a24139f715f32957a30e389a9bb1104a1b009", func := "drifter/drifterlaw02.NetsMends", spec := "netsMends", unfollowed := true, recurses := true, plainKeys := false, apart := false, narrowed := true }
def NetsMendsUptoSaid : Prop := netsMendsUptoRow.holds Try.pinned (OpenSpec.upto netsMendsSpec)

/-- 'drifterlaw02.NetsSafe', WHERE WHAT IT READS IS OF BULK AT MOST 1048576: true; the input reads as it did. -/
def netsSafeUptoRow : OpenClaim := { program := "ytmjelgonhpgmbaa", sum := "054c4f2267054eb007f5c97b056a24139f715f32957a30e389a9bb1104a1b009", func := "drifter/drifterlaw02.NetsSafe", spec := "netsSafe", unfollowed := true, recurses := true, plainKeys := false, apart := false, narrowed := true }
def NetsSafeUptoSaid : Prop := netsSafeUptoRow.holds Try.pinned (OpenSpec.upto netsSafeSpec)

/-- 'drifterlaw02.NetsBetween', WHERE WHAT IT READS IS OF BULK AT MOST 1048576: true; the input reads as it did. -/
def netsBetweenUptoRow : OpenClaim := { program := "ytmjelgonhpgmbaa", sum := "054c4f2267054eb007f5c97b056a24139f715f32957a30e389a9bb1104a1b009", func := "drifter/drifterlaw02.NetsBetween", spec := "netsBetween", unfollowed := true, recurses := true, plainKeys := false, apart := false, narrowed := true }
def NetsBetweenUptoSaid : Prop := netsBetweenUptoRow.holds Try.pinned (OpenSpec.upto netsBetweenSpec)

/-- 'drifterlaw02.NetsCarried', WHERE WHAT IT READS IS OF BULK AT MOST 1048576: true; the input reads as it did. -/
def netsCarriedUptoRow : OpenClaim := { program := "ytmjelgonhpgmbaa", sum := "054c4f2267054eb007f5c97b056a24139f715f32957a30e389a9bb1104a1b009", func := "drifter/drifterlaw02.NetsCarried", spec := "netsCarried", unfollowed := true, recurses := true, plainKeys := false, apart := false, narrowed := true }
def NetsCarriedUptoSaid : Prop := netsCarriedUptoRow.holds Try.pinned (OpenSpec.upto netsCarriedSpec)

/-- 'drifterlaw02.NetsShifted', WHERE WHAT IT READS IS OF BULK AT MOST 1048576: true; the input reads as it did. -/
def netsShiftedUptoRow : OpenClaim := { program := "ytmjelgonhpgmbaa", sum := "054c4f2267054eb007f5c97b056a24139f715f32957a30e389a9bb1104a1b009", func := "drifter/drifterlaw02.NetsShifted", spec := "netsShifted", unfollowed := true, recurses := true, plainKeys := false, apart := false, narrowed := true }
def NetsShiftedUptoSaid : Prop := netsShiftedUptoRow.holds Try.pinned (OpenSpec.upto netsShiftedSpec)

/-- 'drifterlaw02.NetsFewer', WHERE WHAT IT READS IS OF BULK AT MOST 1048576: true; the input reads as it did. -/
def netsFewerUptoRow : OpenClaim := { program := "ytmjelgonhpgmbaa", sum := "054c4f2267054eb007f5c97b056a24139f715f32957a30e389a9bb1104a1b009", func := "drifter/drifterlaw02.NetsFewer", spec := "netsFewer", unfollowed := true, recurses := true, plainKeys := false, apart := false, narrowed := true }
def NetsFewerUptoSaid : Prop := netsFewerUptoRow.holds Try.pinned (OpenSpec.upto netsFewerSpec)

/-- 'drifterlaw02.NetsMoved', WHERE WHAT IT READS IS OF BULK AT MOST 1048576: true; the input reads as it did. -/
def netsMovedUptoRow : OpenClaim := { program := "ytmjelgonhpgmbaa", sum := "054c4f2267054eb007f5c97b056a24139f715f32957a30e389a9bb1104a1b009", func := "drifter/drifterlaw02.NetsMoved", spec := "netsMoved", unfollowed := true, recurses := true, plainKeys := false, apart := false, narrowed := true }
def NetsMovedUptoSaid : Prop := netsMovedUptoRow.holds Try.pinned (OpenSpec.upto netsMovedSpec)

/-- 'drifterlaw02.NetsTwine', WHERE WHAT IT READS IS OF BULK AT MOST 1048576: true; the input reads as it did. -/
def netsTwineUptoRow : OpenClaim := { program := "ytmjelgonhpgmbaa", sum := "054c4f2267054eb007f5c97b056a24139f715f32957a30e389a9bb1104a1b009", func := "drifter/drifterlaw02.NetsTwine", spec := "netsTwine", unfollowed := true, recurses := true, plainKeys := false, apart := false, narrowed := true }
def NetsTwineUptoSaid : Prop := netsTwineUptoRow.holds Try.pinned (OpenSpec.upto netsTwineSpec)

/-- 'drifterlaw02.NetsKnown', WHERE WHAT IT READS IS OF BULK AT MOST 1048576: true; the input reads as it did. -/
def netsKnownUptoRow : OpenClaim := { program := "ytmjelgonhpgmbaa", sum := "054c4f2267054eb007f5c97b056a24139f715f32957a30e389a9bb1104a1b009", func := "drifter/drifterlaw02.NetsKnown", spec := "netsKnown", unfollowed := true, recurses := true, plainKeys := false, apart := false, narrowed := true }
def NetsKnownUptoSaid : Prop := netsKnownUptoRow.holds Try.pinned (OpenSpec.upto netsKnownSpec)

end Rows
end Go.Proofs.Ytmjelgonhpgmbaa
