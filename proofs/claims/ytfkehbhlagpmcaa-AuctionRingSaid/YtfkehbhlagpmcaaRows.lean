/-
  No cell of these rows narrows 'for every input' (looked for: loops, veiled, ifaces, maps, wideKeys, modest, calm, conditions, laid).
  DERIVED. THE GIVEN ROWS OF THIS SEAT. 12 by the template 'for every input the law returns true; each argument reads behind the call as it read before'; 0 by the template 'total and deterministic' (their statements: YtfkehbhlagpmcaaTotals.lean).
  GIVEN WITH THE SEED: the statements are not yours to turn. If you find one false, say at which input.
  Laid BY PROGRAM, IN A SANDBOX (cutbox-rows.mjs): the forced cells as the released guide's own fill.sh prints them over the translation 586c7a962d214772… (all of the seat's roots in one cut). By AI agents, Wed Nov 11 2026. No macro, syntax, notation, axiom, sorry.
-/
import Derived.Test.YtfkehbhlagpmcaaChecked
import GoSem.Claim
import GoSem.ClaimJoined
import GoSem.ClaimMapViews
import Derived.JoinedTies
import Derived.KernelRfl
namespace Go.Proofs.Ytfkehbhlagpmcaa
/- THE CELL 'sum', in the pinned program and in every row, IS THE sha256 OF THE DUMP (.gsa) THAT YtfkehbhlagpmcaaProg.lean LOADS. Nothing in Lean hashes anything: it is a label: what it is worth is what the hold of that sum in a sandbox is worth. -/
noncomputable def Try.pinned : Pinned := { name := "ytfkehbhlagpmcaa", sum := "586c7a962d214772b66ab4d2c81aca4edb81580a1ca8963095b80fcbd1de949a", checked := Try.checked }
namespace Rows
def none {H : Type} : Left H := { results := [], args := [] }

/-- 'drifterlaw04.AuctionSells': WHATEVER THE INPUT: true; the input reads as it did. -/
def auctionSellsSpec : ChangeSpec := { name := "auctionSells", fn := fun _ => fun
  | [d] => { results := [.lit (.bool true)], args := [d] }
  | _ => none }
def auctionSellsRow : OpenClaim := { program := "ytfkehbhlagpmcaa", sum := "586c7a962d214772b66ab4d2c81aca4edb81580a1ca8963095b80fcbd1de949a", func := "drifter/drifterlaw04.AuctionSells", spec := "auctionSells", unfollowed := true, recurses := true, plainKeys := false, apart := false }
def AuctionSellsSaid : Prop := auctionSellsRow.holds Try.pinned (OpenSpec.ofChange auctionSellsSpec)

/-- ITS FALSE NEIGHBOUR: 'it returns false'. Refute it at one input. -/
def auctionSellsWrong : ChangeSpec := { name := "auctionSells", fn := fun _ => fun
  | [d] => { results := [.lit (.bool false)], args := [d] }
  | _ => none }
def AuctionSellsWrongFalsely : Prop := auctionSellsRow.holds Try.pinned (OpenSpec.ofChange auctionSellsWrong)

/-- 'drifterlaw04.AuctionGains': WHATEVER THE INPUT: true; the input reads as it did. -/
def auctionGainsSpec : ChangeSpec := { name := "auctionGains", fn := fun _ => fun
  | [d1, d2, d3] => { results := [.lit (.bool true)], args := [d1, d2, d3] }
  | _ => none }
def auctionGainsRow : OpenClaim := { program := "ytfkehbhlagpmcaa", sum := "586c7a962d214772b66ab4d2c81aca4edb81580a1ca8963095b80fcbd1de949a", func := "drifter/drifterlaw04.AuctionGains", spec := "auctionGains", unfollowed := true, recurses := true, plainKeys := false, apart := false }
def AuctionGainsSaid : Prop := auctionGainsRow.holds Try.pinned (OpenSpec.ofChange auctionGainsSpec)

/-- ITS FALSE NEIGHBOUR: 'it returns false'. Refute it at one input. -/
def auctionGainsWrong : ChangeSpec := { name := "auctionGains", fn := fun _ => fun
  | [d1, d2, d3] => { results := [.lit (.bool false)], args := [d1, d2, d3] }
  | _ => none }
def AuctionGainsWrongFalsely : Prop := auctionGainsRow.holds Try.pinned (OpenSpec.ofChange auctionGainsWrong)

/-- 'drifterlaw04.AuctionCalls': WHATEVER THE INPUT: true; the input reads as it did. -/
def auctionCallsSpec : ChangeSpec := { name := "auctionCalls", fn := fun _ => fun
  | [d1, d2, d3] => { results := [.lit (.bool true)], args := [d1, d2, d3] }
  | _ => none }
def auctionCallsRow : OpenClaim := { program := "ytfkehbhlagpmcaa", sum := "586c7a962d214772b66ab4d2c81aca4edb81580a1ca8963095b80fcbd1de949a", func := "drifter/drifterlaw04.AuctionCalls", spec := "auctionCalls", unfollowed := true, recurses := true, plainKeys := false, apart := false }
def AuctionCallsSaid : Prop := auctionCallsRow.holds Try.pinned (OpenSpec.ofChange auctionCallsSpec)

/-- ITS FALSE NEIGHBOUR: 'it returns false'. Refute it at one input. -/
def auctionCallsWrong : ChangeSpec := { name := "auctionCalls", fn := fun _ => fun
  | [d1, d2, d3] => { results := [.lit (.bool false)], args := [d1, d2, d3] }
  | _ => none }
def AuctionCallsWrongFalsely : Prop := auctionCallsRow.holds Try.pinned (OpenSpec.ofChange auctionCallsWrong)

/-- 'drifterlaw04.AuctionLots': WHATEVER THE INPUT: true; the input reads as it did. -/
def auctionLotsSpec : ChangeSpec := { name := "auctionLots", fn := fun _ => fun
  | [d1, d2] => { results := [.lit (.bool true)], args := [d1, d2] }
  | _ => none }
def auctionLotsRow : OpenClaim := { program := "ytfkehbhlagpmcaa", sum := "586c7a962d214772b66ab4d2c81aca4edb81580a1ca8963095b80fcbd1de949a", func := "drifter/drifterlaw04.AuctionLots", spec := "auctionLots", unfollowed := true, recurses := true, plainKeys := false, apart := false }
def AuctionLotsSaid : Prop := auctionLotsRow.holds Try.pinned (OpenSpec.ofChange auctionLotsSpec)

/-- ITS FALSE NEIGHBOUR: 'it returns false'. Refute it at one input. -/
def auctionLotsWrong : ChangeSpec := { name := "auctionLots", fn := fun _ => fun
  | [d1, d2] => { results := [.lit (.bool false)], args := [d1, d2] }
  | _ => none }
def AuctionLotsWrongFalsely : Prop := auctionLotsRow.holds Try.pinned (OpenSpec.ofChange auctionLotsWrong)

/-- 'drifterlaw04.AuctionBest': WHATEVER THE INPUT: true; the input reads as it did. -/
def auctionBestSpec : ChangeSpec := { name := "auctionBest", fn := fun _ => fun
  | [d1, d2] => { results := [.lit (.bool true)], args := [d1, d2] }
  | _ => none }
def auctionBestRow : OpenClaim := { program := "ytfkehbhlagpmcaa", sum := "586c7a962d214772b66ab4d2c81aca4edb81580a1ca8963095b80fcbd1de949a", func := "drifter/drifterlaw04.AuctionBest", spec := "auctionBest", unfollowed := true, recurses := true, plainKeys := false, apart := false }
def AuctionBestSaid : Prop := auctionBestRow.holds Try.pinned (OpenSpec.ofChange auctionBestSpec)

/-- ITS FALSE NEIGHBOUR: 'it returns false'. Refute it at one input. -/
def auctionBestWrong : ChangeSpec := { name := "auctionBest", fn := fun _ => fun
  | [d1, d2] => { results := [.lit (.bool false)], args := [d1, d2] }
  | _ => none }
def AuctionBestWrongFalsely : Prop := auctionBestRow.holds Try.pinned (OpenSpec.ofChange auctionBestWrong)

/-- 'drifterlaw04.AuctionTrue': WHATEVER THE INPUT: true; the input reads as it did. -/
def auctionTrueSpec : ChangeSpec := { name := "auctionTrue", fn := fun _ => fun
  | [d1, d2, d3] => { results := [.lit (.bool true)], args := [d1, d2, d3] }
  | _ => none }
def auctionTrueRow : OpenClaim := { program := "ytfkehbhlagpmcaa", sum := "586c7a962d214772b66ab4d2c81aca4edb81580a1ca8963095b80fcbd1de949a", func := "drifter/drifterlaw04.AuctionTrue", spec := "auctionTrue", unfollowed := true, recurses := true, plainKeys := false, apart := false }
def AuctionTrueSaid : Prop := auctionTrueRow.holds Try.pinned (OpenSpec.ofChange auctionTrueSpec)

/-- ITS FALSE NEIGHBOUR: 'it returns false'. Refute it at one input. -/
def auctionTrueWrong : ChangeSpec := { name := "auctionTrue", fn := fun _ => fun
  | [d1, d2, d3] => { results := [.lit (.bool false)], args := [d1, d2, d3] }
  | _ => none }
def AuctionTrueWrongFalsely : Prop := auctionTrueRow.holds Try.pinned (OpenSpec.ofChange auctionTrueWrong)

/-- 'drifterlaw04.AuctionRing': WHATEVER THE INPUT: true; the input reads as it did. -/
def auctionRingSpec : ChangeSpec := { name := "auctionRing", fn := fun _ => fun
  | [d1, d2, d3] => { results := [.lit (.bool true)], args := [d1, d2, d3] }
  | _ => none }
def auctionRingRow : OpenClaim := { program := "ytfkehbhlagpmcaa", sum := "586c7a962d214772b66ab4d2c81aca4edb81580a1ca8963095b80fcbd1de949a", func := "drifter/drifterlaw04.AuctionRing", spec := "auctionRing", unfollowed := true, recurses := true, plainKeys := false, apart := false }
def AuctionRingSaid : Prop := auctionRingRow.holds Try.pinned (OpenSpec.ofChange auctionRingSpec)

/-- ITS FALSE NEIGHBOUR: 'it returns false'. Refute it at one input. -/
def auctionRingWrong : ChangeSpec := { name := "auctionRing", fn := fun _ => fun
  | [d1, d2, d3] => { results := [.lit (.bool false)], args := [d1, d2, d3] }
  | _ => none }
def AuctionRingWrongFalsely : Prop := auctionRingRow.holds Try.pinned (OpenSpec.ofChange auctionRingWrong)

/-- 'drifterlaw04.AuctionPays': WHATEVER THE INPUT: true; the input reads as it did. -/
def auctionPaysSpec : ChangeSpec := { name := "auctionPays", fn := fun _ => fun
  | [d1, d2] => { results := [.lit (.bool true)], args := [d1, d2] }
  | _ => none }
def auctionPaysRow : OpenClaim := { program := "ytfkehbhlagpmcaa", sum := "586c7a962d214772b66ab4d2c81aca4edb81580a1ca8963095b80fcbd1de949a", func := "drifter/drifterlaw04.AuctionPays", spec := "auctionPays", unfollowed := true, recurses := true, plainKeys := false, apart := false }
def AuctionPaysSaid : Prop := auctionPaysRow.holds Try.pinned (OpenSpec.ofChange auctionPaysSpec)

/-- ITS FALSE NEIGHBOUR: 'it returns false'. Refute it at one input. -/
def auctionPaysWrong : ChangeSpec := { name := "auctionPays", fn := fun _ => fun
  | [d1, d2] => { results := [.lit (.bool false)], args := [d1, d2] }
  | _ => none }
def AuctionPaysWrongFalsely : Prop := auctionPaysRow.holds Try.pinned (OpenSpec.ofChange auctionPaysWrong)

/-- 'drifterlaw04.AuctionClock': WHATEVER THE INPUT: true; the input reads as it did. -/
def auctionClockSpec : ChangeSpec := { name := "auctionClock", fn := fun _ => fun
  | [d1, d2] => { results := [.lit (.bool true)], args := [d1, d2] }
  | _ => none }
def auctionClockRow : OpenClaim := { program := "ytfkehbhlagpmcaa", sum := "586c7a962d214772b66ab4d2c81aca4edb81580a1ca8963095b80fcbd1de949a", func := "drifter/drifterlaw04.AuctionClock", spec := "auctionClock", unfollowed := true, recurses := true, plainKeys := false, apart := false }
def AuctionClockSaid : Prop := auctionClockRow.holds Try.pinned (OpenSpec.ofChange auctionClockSpec)

/-- ITS FALSE NEIGHBOUR: 'it returns false'. Refute it at one input. -/
def auctionClockWrong : ChangeSpec := { name := "auctionClock", fn := fun _ => fun
  | [d1, d2] => { results := [.lit (.bool false)], args := [d1, d2] }
  | _ => none }
def AuctionClockWrongFalsely : Prop := auctionClockRow.holds Try.pinned (OpenSpec.ofChange auctionClockWrong)

/-- 'drifterlaw04.AuctionMore': WHATEVER THE INPUT: true; the input reads as it did. -/
def auctionMoreSpec : ChangeSpec := { name := "auctionMore", fn := fun _ => fun
  | [d1, d2] => { results := [.lit (.bool true)], args := [d1, d2] }
  | _ => none }
def auctionMoreRow : OpenClaim := { program := "ytfkehbhlagpmcaa", sum := "586c7a962d214772b66ab4d2c81aca4edb81580a1ca8963095b80fcbd1de949a", func := "drifter/drifterlaw04.AuctionMore", spec := "auctionMore", unfollowed := true, recurses := true, plainKeys := false, apart := false }
def AuctionMoreSaid : Prop := auctionMoreRow.holds Try.pinned (OpenSpec.ofChange auctionMoreSpec)

/-- ITS FALSE NEIGHBOUR: 'it returns false'. Refute it at one input. -/
def auctionMoreWrong : ChangeSpec := { name := "auctionMore", fn := fun _ => fun
  | [d1, d2] => { results := [.lit (.bool false)], args := [d1, d2] }
  | _ => none }
def AuctionMoreWrongFalsely : Prop := auctionMoreRow.holds Try.pinned (OpenSpec.ofChange auctionMoreWrong)

/-- 'drifterlaw04.AuctionFewest': WHATEVER THE INPUT: true; the input reads as it did. -/
def auctionFewestSpec : ChangeSpec := { name := "auctionFewest", fn := fun _ => fun
  | [d1, d2] => { results := [.lit (.bool true)], args := [d1, d2] }
  | _ => none }
def auctionFewestRow : OpenClaim := { program := "ytfkehbhlagpmcaa", sum := "586c7a962d214772b66ab4d2c81aca4edb81580a1ca8963095b80fcbd1de949a", func := "drifter/drifterlaw04.AuctionFewest", spec := "auctionFewest", unfollowed := true, recurses := true, plainKeys := false, apart := false }
def AuctionFewestSaid : Prop := auctionFewestRow.holds Try.pinned (OpenSpec.ofChange auctionFewestSpec)

/-- ITS FALSE NEIGHBOUR: 'it returns false'. Refute it at one input. -/
def auctionFewestWrong : ChangeSpec := { name := "auctionFewest", fn := fun _ => fun
  | [d1, d2] => { results := [.lit (.bool false)], args := [d1, d2] }
  | _ => none }
def AuctionFewestWrongFalsely : Prop := auctionFewestRow.holds Try.pinned (OpenSpec.ofChange auctionFewestWrong)

/-- 'drifterlaw04.AuctionKnown': WHATEVER THE INPUT: true; the input reads as it did. -/
def auctionKnownSpec : ChangeSpec := { name := "auctionKnown", fn := fun _ => fun
  | [] => { results := [.lit (.bool true)], args := [] }
  | _ => none }
def auctionKnownRow : OpenClaim := { program := "ytfkehbhlagpmcaa", sum := "586c7a962d214772b66ab4d2c81aca4edb81580a1ca8963095b80fcbd1de949a", func := "drifter/drifterlaw04.AuctionKnown", spec := "auctionKnown", unfollowed := true, recurses := true, plainKeys := false, apart := false }
def AuctionKnownSaid : Prop := auctionKnownRow.holds Try.pinned (OpenSpec.ofChange auctionKnownSpec)

/-- ITS FALSE NEIGHBOUR: 'it returns false'. Refute it at one input. -/
def auctionKnownWrong : ChangeSpec := { name := "auctionKnown", fn := fun _ => fun
  | [] => { results := [.lit (.bool false)], args := [] }
  | _ => none }
def AuctionKnownWrongFalsely : Prop := auctionKnownRow.holds Try.pinned (OpenSpec.ofChange auctionKnownWrong)

/- THE SECOND FORM. 'bulk': how many values and letters a reading holds, each counted each time it is reached (what is shared counts as often as it is met; a slice's spare places count too). A statement '..UptoSaid' is the law's where the arguments, and the package variables that the reading takes, are together of bulk at most 1048576: NARROWER than '..Said'. Prove '..Said' where nothing that the law and all that it calls make is longer than what came in: it says more and counts as full. Else prove '..UptoSaid'. A law counts once. -/
mutual
def uptoBulk {H : Type} : DataW H → Nat
  | .lit (.string bytes) => bytes.length + 1
  | .lit _ => 1
  | .nil => 1
  | .ptr d => uptoBulk d + 1
  | .slice elems spare => uptoBulkAll elems + uptoBulkAll spare + 1
  | .agg parts => uptoBulkAll parts + 1
  | .iface _ d => uptoBulk d + 1
  | .map entries => uptoBulkEntries entries + 1
  | .held _ => 1
def uptoBulkAll {H : Type} : List (DataW H) → Nat
  | [] => 0
  | d :: r => uptoBulk d + uptoBulkAll r
def uptoBulkEntries {H : Type} : List (Lit × DataW H) → Nat
  | [] => 0
  | x :: r => uptoBulkEntry x + uptoBulkEntries r
def uptoBulkEntry {H : Type} : Lit × DataW H → Nat
  | (.string bytes, d) => bytes.length + uptoBulk d + 1
  | (_, d) => uptoBulk d + 1
 end
def uptoSmall : (H : Type) → List (DataW H) → Bool := fun _ ds => decide (uptoBulkAll ds ≤ 1048576)
def OpenSpec.upto (s : _root_.Go.ChangeSpec) : _root_.Go.OpenSpec := { _root_.Go.OpenSpec.ofChange s with cond := some uptoSmall }

/-- 'drifterlaw04.AuctionSells', WHERE WHAT IT READS IS OF BULK AT MOST 1048576: true; the input reads as it did. -/
def auctionSellsUptoRow : OpenClaim := { program := "ytfkehbhlagpmcaa", sum := "586c7a962d214772b66ab4d2c81aca4edb81580a1ca8963095b80fcbd1de949a", func := "drifter/drifterlaw04.AuctionSells", spec := "auctionSells", unfollowed := true, recurses := true, plainKeys := false, apart := false, narrowed := true }
def AuctionSellsUptoSaid : Prop := auctionSellsUptoRow.holds Try.pinned (OpenSpec.upto auctionSellsSpec)

/-- 'drifterlaw04.AuctionGains', WHERE WHAT IT READS IS OF BULK AT MOST 1048576: true; the input reads as it did. -/
def auctionGainsUptoRow : OpenClaim := { program := "ytfkehbhlagpmcaa", sum := "586c7a962d214772b66ab4d2c81aca4edb81580a1ca8963095b80fcbd1de949a", func := "drifter/drifterlaw04.AuctionGains", spec := "auctionGains", unfollowed := true, recurses := true, plainKeys := false, apart := false, narrowed := true }
def AuctionGainsUptoSaid : Prop := auctionGainsUptoRow.holds Try.pinned (OpenSpec.upto auctionGainsSpec)

/-- 'drifterlaw04.AuctionCalls', WHERE WHAT IT READS IS OF BULK AT MOST 1048576: true; the input reads as it did. -/
def auctionCallsUptoRow : OpenClaim := { program := "ytfkehbhlagpmcaa", sum := "586c7a962d214772b66ab4d2c81aca4edb81580a1ca8963095b80fcbd1de949a", func := "drifter/drifterlaw04.AuctionCalls", spec := "auctionCalls", unfollowed := true, recurses := true, plainKeys := false, apart := false, narrowed := true }
def AuctionCallsUptoSaid : Prop := auctionCallsUptoRow.holds Try.pinned (OpenSpec.upto auctionCallsSpec)

/-- 'drifterlaw04.AuctionLots', WHERE WHAT IT READS IS OF BULK AT MOST 1048576: true; the input reads as it did. -/
def auctionLotsUptoRow : OpenClaim := { program := "ytfkehbhlagpmcaa", sum := "586c7a962d214772b66ab4d2c81aca4edb81580a1ca8963095b80fcbd1de949a", func := "drifter/drifterlaw04.AuctionLots", spec := "auctionLots", unfollowed := true, recurses := true, plainKeys := false, apart := false, narrowed := true }
def AuctionLotsUptoSaid : Prop := auctionLotsUptoRow.holds Try.pinned (OpenSpec.upto auctionLotsSpec)

/-- 'drifterlaw04.AuctionBest', WHERE WHAT IT READS IS OF BULK AT MOST 1048576: true; the input reads as it did. -/
def auctionBestUptoRow : OpenClaim := { program := "ytfkehbhlagpmcaa", sum := "586c7a962d214772b66ab4d2c81aca4edb81580a1ca8963095b80fcbd1de949a", func := "drifter/drifterlaw04.AuctionBest", spec := "auctionBest", unfollowed := true, recurses := true, plainKeys := false, apart := false, narrowed := true }
def AuctionBestUptoSaid : Prop := auctionBestUptoRow.holds Try.pinned (OpenSpec.upto auctionBestSpec)

/-- 'drifterlaw04.AuctionTrue', WHERE WHAT IT READS IS OF BULK AT MOST 1048576: true; the input reads as it did. -/
def auctionTrueUptoRow : OpenClaim := { program := "ytfkehbhlagpmcaa", sum := "586c7a962d214772b66ab4d2c81aca4edb81580a1ca8963095b80fcbd1de949a", func := "drifter/drifterlaw04.AuctionTrue", spec := "auctionTrue", unfollowed := true, recurses := true, plainKeys := false, apart := false, narrowed := true }
def AuctionTrueUptoSaid : Prop := auctionTrueUptoRow.holds Try.pinned (OpenSpec.upto auctionTrueSpec)

/-- 'drifterlaw04.AuctionRing', WHERE WHAT IT READS IS OF BULK AT MOST 1048576: true; the input reads as it did. -/
def auctionRingUptoRow : OpenClaim := { program := "ytfkehbhlagpmcaa", sum := "586c7a962d214772b66ab4d2c81aca4edb81580a1ca8963095b80fcbd1de949a", func := "drifter/drifterlaw04.AuctionRing", spec := "auctionRing", unfollowed := true, recurses := true, plainKeys := false, apart := false, narrowed := true }
def AuctionRingUptoSaid : Prop := auctionRingUptoRow.holds Try.pinned (OpenSpec.upto auctionRingSpec)

/-- 'drifterlaw04.AuctionPays', WHERE WHAT IT READS IS OF BULK AT MOST 1048576: true; the input reads as it did. -/
def auctionPaysUptoRow : OpenClaim := { program := "ytfkehbhlagpmcaa", sum := "586c7a962d214772b66ab4d2c81aca4edb81580a1ca8963095b80fcbd1de949a", func := "drifter/drifterlaw04.AuctionPays", spec := "auctionPays", unfollowed := true, recurses := true, plainKeys := false, apart := false, narrowed := true }
def AuctionPaysUptoSaid : Prop := auctionPaysUptoRow.holds Try.pinned (OpenSpec.upto auctionPaysSpec)

/-- 'drifterlaw04.AuctionClock', WHERE WHAT IT READS IS OF BULK AT MOST 1048576: true; the input reads as it did. -/
def auctionClockUptoRow : OpenClaim := { program := "ytfkehbhlagpmcaa", sum := "586c7a962d214772b66ab4d2c81aca4edb81580a1ca8963095b80fcbd1de949a", func := "drifter/drifterlaw04.AuctionClock", spec := "auctionClock", unfollowed := true, recurses := true, plainKeys := false, apart := false, narrowed := true }
def AuctionClockUptoSaid : Prop := auctionClockUptoRow.holds Try.pinned (OpenSpec.upto auctionClockSpec)

/-- 'drifterlaw04.AuctionMore', WHERE WHAT IT READS IS OF BULK AT MOST 1048576: true; the input reads as it did. -/
def auctionMoreUptoRow : OpenClaim := { program := "ytfkehbhlagpmcaa", sum := "586c7a962d214772b66ab4d2c81aca4edb81580a1ca8963095b80fcbd1de949a", func := "drifter/drifterlaw04.AuctionMore", spec := "auctionMore", unfollowed := true, recurses := true, plainKeys := false, apart := false, narrowed := true }
def AuctionMoreUptoSaid : Prop := auctionMoreUptoRow.holds Try.pinned (OpenSpec.upto auctionMoreSpec)

/-- 'drifterlaw04.AuctionFewest', WHERE WHAT IT READS IS OF BULK AT MOST 1048576: true; the input reads as it did. -/
def auctionFewestUptoRow : OpenClaim := { program := "ytfkehbhlagpmcaa", sum := "586c7a962d214772b66ab4d2c81aca4edb81580a1ca8963095b80fcbd1de949a", func := "drifter/drifterlaw04.AuctionFewest", spec := "auctionFewest", unfollowed := true, recurses := true, plainKeys := false, apart := false, narrowed := true }
def AuctionFewestUptoSaid : Prop := auctionFewestUptoRow.holds Try.pinned (OpenSpec.upto auctionFewestSpec)

/-- 'drifterlaw04.AuctionKnown', WHERE WHAT IT READS IS OF BULK AT MOST 1048576: true; the input reads as it did. -/
def auctionKnownUptoRow : OpenClaim := { program := "ytfkehbhlagpmcaa", sum := "586c7a962d214772b66ab4d2c81aca4edb81580a1ca8963095b80fcbd1de949a", func := "drifter/drifterlaw04.AuctionKnown", spec := "auctionKnown", unfollowed := true, recurses := true, plainKeys := false, apart := false, narrowed := true }
def AuctionKnownUptoSaid : Prop := auctionKnownUptoRow.holds Try.pinned (OpenSpec.upto auctionKnownSpec)

end Rows
end Go.Proofs.Ytfkehbhlagpmcaa
