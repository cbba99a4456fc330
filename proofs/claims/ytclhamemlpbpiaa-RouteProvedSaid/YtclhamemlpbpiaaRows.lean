/-
  No cell of these rows narrows 'for every input' (looked for: loops, veiled, ifaces, maps, wideKeys, modest, calm, conditions, laid).
  DERIVED. THE GIVEN ROWS OF THIS SEAT. 6 by the template 'for every input the law returns true; each argument reads behind the call as it read before'; 0 by the template 'total and deterministic' (their statements: YtclhamemlpbpiaaTotals.lean).
  GIVEN WITH THE SEED: the statements are not yours to turn. If you find one false, say at which input.
  Laid BY PROGRAM, IN A SANDBOX (cutbox-rows.mjs): the forced cells as the released guide's own fill.sh prints them over the translation 905e59b59e5629fc… (all of the seat's roots in one cut). By AI agents, Wed Nov 11 2026. No macro, syntax, notation, axiom, sorry.
-/
import Derived.Test.YtclhamemlpbpiaaChecked
import GoSem.Claim
import GoSem.ClaimJoined
import GoSem.ClaimMapViews
import Derived.JoinedTies
import Derived.KernelRfl
namespace Go.Proofs.Ytclhamemlpbpiaa
/- THE CELL 'sum', in the pinned program and in every row, IS THE sha256 OF THE DUMP (.gsa) THAT YtclhamemlpbpiaaProg.lean LOADS. Nothing in Lean hashes anything: it is a label: what it is worth is what the hold of that sum in a sandbox is worth. -/
noncomputable def Try.pinned : Pinned := { name := "ytclhamemlpbpiaa", sum := "905e59b59e5629fcb451d4162be41b9cb6b2ceaf11f084a9c543b5e6aa0fb598", checked := Try.checked }
namespace Rows
def none {H : Type} : Left H := { results := [], args := [] }

/-- 'corrodylaw05.RouteWays': WHATEVER THE INPUT: true; the input reads as it did. -/
def routeWaysSpec : ChangeSpec := { name := "routeWays", fn := fun _ => fun
  | [d1, d2, d3] => { results := [.lit (.bool true)], args := [d1, d2, d3] }
  | _ => none }
def routeWaysRow : OpenClaim := { program := "ytclhamemlpbpiaa", sum := "905e59b59e5629fcb451d4162be41b9cb6b2ceaf11f084a9c543b5e6aa0fb598", func := "corrody/corrodylaw05.RouteWays", spec := "routeWays", unfollowed := true, recurses := true, apart := false }
def RouteWaysSaid : Prop := routeWaysRow.holds Try.pinned (OpenSpec.ofChange routeWaysSpec)

/-- ITS FALSE NEIGHBOUR: 'it returns false'. Refute it at one input. -/
def routeWaysWrong : ChangeSpec := { name := "routeWays", fn := fun _ => fun
  | [d1, d2, d3] => { results := [.lit (.bool false)], args := [d1, d2, d3] }
  | _ => none }
def RouteWaysWrongFalsely : Prop := routeWaysRow.holds Try.pinned (OpenSpec.ofChange routeWaysWrong)

/-- 'corrodylaw05.RouteShown': WHATEVER THE INPUT: true; the input reads as it did. -/
def routeShownSpec : ChangeSpec := { name := "routeShown", fn := fun _ => fun
  | [d1, d2, d3] => { results := [.lit (.bool true)], args := [d1, d2, d3] }
  | _ => none }
def routeShownRow : OpenClaim := { program := "ytclhamemlpbpiaa", sum := "905e59b59e5629fcb451d4162be41b9cb6b2ceaf11f084a9c543b5e6aa0fb598", func := "corrody/corrodylaw05.RouteShown", spec := "routeShown", unfollowed := true, recurses := true, apart := false }
def RouteShownSaid : Prop := routeShownRow.holds Try.pinned (OpenSpec.ofChange routeShownSpec)

/-- ITS FALSE NEIGHBOUR: 'it returns false'. Refute it at one input. -/
def routeShownWrong : ChangeSpec := { name := "routeShown", fn := fun _ => fun
  | [d1, d2, d3] => { results := [.lit (.bool false)], args := [d1, d2, d3] }
  | _ => none }
def RouteShownWrongFalsely : Prop := routeShownRow.holds Try.pinned (OpenSpec.ofChange routeShownWrong)

/-- 'corrodylaw05.RoutePotentials': WHATEVER THE INPUT: true; the input reads as it did. -/
def routePotentialsSpec : ChangeSpec := { name := "routePotentials", fn := fun _ => fun
  | [d1, d2] => { results := [.lit (.bool true)], args := [d1, d2] }
  | _ => none }
def routePotentialsRow : OpenClaim := { program := "ytclhamemlpbpiaa", sum := "905e59b59e5629fcb451d4162be41b9cb6b2ceaf11f084a9c543b5e6aa0fb598", func := "corrody/corrodylaw05.RoutePotentials", spec := "routePotentials", unfollowed := true, recurses := true, apart := false }
def RoutePotentialsSaid : Prop := routePotentialsRow.holds Try.pinned (OpenSpec.ofChange routePotentialsSpec)

/-- ITS FALSE NEIGHBOUR: 'it returns false'. Refute it at one input. -/
def routePotentialsWrong : ChangeSpec := { name := "routePotentials", fn := fun _ => fun
  | [d1, d2] => { results := [.lit (.bool false)], args := [d1, d2] }
  | _ => none }
def RoutePotentialsWrongFalsely : Prop := routePotentialsRow.holds Try.pinned (OpenSpec.ofChange routePotentialsWrong)

/-- 'corrodylaw05.RouteMoatChecks': WHATEVER THE INPUT: true; the input reads as it did. -/
def routeMoatChecksSpec : ChangeSpec := { name := "routeMoatChecks", fn := fun _ => fun
  | [d1, d2, d3] => { results := [.lit (.bool true)], args := [d1, d2, d3] }
  | _ => none }
def routeMoatChecksRow : OpenClaim := { program := "ytclhamemlpbpiaa", sum := "905e59b59e5629fcb451d4162be41b9cb6b2ceaf11f084a9c543b5e6aa0fb598", func := "corrody/corrodylaw05.RouteMoatChecks", spec := "routeMoatChecks", unfollowed := true, recurses := true, apart := false }
def RouteMoatChecksSaid : Prop := routeMoatChecksRow.holds Try.pinned (OpenSpec.ofChange routeMoatChecksSpec)

/-- ITS FALSE NEIGHBOUR: 'it returns false'. Refute it at one input. -/
def routeMoatChecksWrong : ChangeSpec := { name := "routeMoatChecks", fn := fun _ => fun
  | [d1, d2, d3] => { results := [.lit (.bool false)], args := [d1, d2, d3] }
  | _ => none }
def RouteMoatChecksWrongFalsely : Prop := routeMoatChecksRow.holds Try.pinned (OpenSpec.ofChange routeMoatChecksWrong)

/-- 'corrodylaw05.RouteProved': WHATEVER THE INPUT: true; the input reads as it did. -/
def routeProvedSpec : ChangeSpec := { name := "routeProved", fn := fun _ => fun
  | [d1, d2, d3, d4, d5] => { results := [.lit (.bool true)], args := [d1, d2, d3, d4, d5] }
  | _ => none }
def routeProvedRow : OpenClaim := { program := "ytclhamemlpbpiaa", sum := "905e59b59e5629fcb451d4162be41b9cb6b2ceaf11f084a9c543b5e6aa0fb598", func := "corrody/corrodylaw05.RouteProved", spec := "routeProved", unfollowed := true, recurses := true, apart := false }
def RouteProvedSaid : Prop := routeProvedRow.holds Try.pinned (OpenSpec.ofChange routeProvedSpec)

/-- ITS FALSE NEIGHBOUR: 'it returns false'. Refute it at one input. -/
def routeProvedWrong : ChangeSpec := { name := "routeProved", fn := fun _ => fun
  | [d1, d2, d3, d4, d5] => { results := [.lit (.bool false)], args := [d1, d2, d3, d4, d5] }
  | _ => none }
def RouteProvedWrongFalsely : Prop := routeProvedRow.holds Try.pinned (OpenSpec.ofChange routeProvedWrong)

/-- 'corrodylaw05.RouteMetric': WHATEVER THE INPUT: true; the input reads as it did. -/
def routeMetricSpec : ChangeSpec := { name := "routeMetric", fn := fun _ => fun
  | [d] => { results := [.lit (.bool true)], args := [d] }
  | _ => none }
def routeMetricRow : OpenClaim := { program := "ytclhamemlpbpiaa", sum := "905e59b59e5629fcb451d4162be41b9cb6b2ceaf11f084a9c543b5e6aa0fb598", func := "corrody/corrodylaw05.RouteMetric", spec := "routeMetric", unfollowed := true, recurses := true, apart := false }
def RouteMetricSaid : Prop := routeMetricRow.holds Try.pinned (OpenSpec.ofChange routeMetricSpec)

/-- ITS FALSE NEIGHBOUR: 'it returns false'. Refute it at one input. -/
def routeMetricWrong : ChangeSpec := { name := "routeMetric", fn := fun _ => fun
  | [d] => { results := [.lit (.bool false)], args := [d] }
  | _ => none }
def RouteMetricWrongFalsely : Prop := routeMetricRow.holds Try.pinned (OpenSpec.ofChange routeMetricWrong)

/- THE SECOND FORM. 'bulk': how many values and letters a reading holds, each counted each time it is reached (what is shared counts as often as it is met; a slice's spare places count too). A statement '..UptoSaid' is the law's where the arguments, and the package variables that the reading takes, are together of bulk at most 1048576: NARROWER than '..Said'. Prove '..Said' where nothing that the law and all that it calls make is longer than what came in: it says more and counts as full. Else prove '..UptoSaid'. A law counts once. -/
mutual
def uptoBulk {H : Type} : DataW H → Nat
  | .lit (.string bytes) => bytes.length + 1
  | .lit _ => 1
  | .nil => 1
  | .ptr d => uptoBulk d + 1
  | .slice elems spare => uptoBulkAll elems + uptoBulkAll spare + 1
  | .agg parts => uptoBulkAll parts + 1
  | .iface _ d => uptoBulk d + 1
  | .map entries => uptoBulkEntries entries + 1
  | .held _ => 1
def uptoBulkAll {H : Type} : List (DataW H) → Nat
  | [] => 0
  | d :: r => uptoBulk d + uptoBulkAll r
def uptoBulkEntries {H : Type} : List (Lit × DataW H) → Nat
  | [] => 0
  | x :: r => uptoBulkEntry x + uptoBulkEntries r
def uptoBulkEntry {H : Type} : Lit × DataW H → Nat
  | (.string bytes, d) => bytes.length + uptoBulk d + 1
  | (_, d) => uptoBulk d + 1
 end
def uptoSmall : (H : Type) → List (DataW H) → Bool := fun _ ds => decide (uptoBulkAll ds ≤ 1048576)
def OpenSpec.upto (s : _root_.Go.ChangeSpec) : _root_.Go.OpenSpec := { _root_.Go.OpenSpec.ofChange s with cond := some uptoSmall }

/-- 'corrodylaw05.RouteWays', WHERE WHAT IT READS IS OF BULK AT MOST 1048576: true; the input reads as it did. -/
def routeWaysUptoRow : OpenClaim := { program := "ytclhamemlpbpiaa", sum := "905e59b59e5629fcb451d4162be41b9cb6b2ceaf11f084a9c543b5e6aa0fb598", func := "corrody/corrodylaw05.RouteWays", spec := "routeWays", unfollowed := true, recurses := true, apart := false, narrowed := true }
def RouteWaysUptoSaid : Prop := routeWaysUptoRow.holds Try.pinned (OpenSpec.upto routeWaysSpec)

/-- 'corrodylaw05.RouteShown', WHERE WHAT IT READS IS OF BULK AT MOST 1048576: true; the input reads as it did. -/
def routeShownUptoRow : OpenClaim := { program := "ytclhamemlpbpiaa", sum := "905e59b59e5629fcb451d4162be41b9cb6b2ceaf11f084a9c543b5e6aa0fb598", func := "corrody/corrodylaw05.RouteShown", spec := "routeShown", unfollowed := true, recurses := true, apart := false, narrowed := true }
def RouteShownUptoSaid : Prop := routeShownUptoRow.holds Try.pinned (OpenSpec.upto routeShownSpec)

/-- 'corrodylaw05.RoutePotentials', WHERE WHAT IT READS IS OF BULK AT MOST 1048576: true; the input reads as it did. -/
def routePotentialsUptoRow : OpenClaim := { program := "ytclhamemlpbpiaa", sum := "905e59b59e5629fcb451d4162be41b9cb6b2ceaf11f084a9c543b5e6aa0fb598", func := "corrody/corrodylaw05.RoutePotentials", spec := "routePotentials", unfollowed := true, recurses := true, apart := false, narrowed := true }
def RoutePotentialsUptoSaid : Prop := routePotentialsUptoRow.holds Try.pinned (OpenSpec.upto routePotentialsSpec)

/-- 'corrodylaw05.RouteMoatChecks', WHERE WHAT IT READS IS OF BULK AT MOST 1048576: true; the input reads as it did. -/
def routeMoatChecksUptoRow : OpenClaim := { program := "ytclhamemlpbpiaa", sum := "905e59b59e5629fcb451d4162be41b9cb6b2ceaf11f084a9c543b5e6aa0fb598", func := "corrody/corrodylaw05.RouteMoatChecks", spec := "routeMoatChecks", unfollowed := true, recurses := true, apart := false, narrowed := true }
def RouteMoatChecksUptoSaid : Prop := routeMoatChecksUptoRow.holds Try.pinned (OpenSpec.upto routeMoatChecksSpec)

/-- 'corrodylaw05.RouteProved', WHERE WHAT IT READS IS OF BULK AT MOST 1048576: true; the input reads as it did. -/
def routeProvedUptoRow : OpenClaim := { program := "ytclhamemlpbpiaa", sum := "905e59b59e5629fcb451d4162be41b9cb6b2ceaf11f084a9c543b5e6aa0fb598", func := "corrody/corrodylaw05.RouteProved", spec := "routeProved", unfollowed := true, recurses := true, apart := false, narrowed := true }
def RouteProvedUptoSaid : Prop := routeProvedUptoRow.holds Try.pinned (OpenSpec.upto routeProvedSpec)

/-- 'corrodylaw05.RouteMetric', WHERE WHAT IT READS IS OF BULK AT MOST 1048576: true; the input reads as it did. -/
def routeMetricUptoRow : OpenClaim := { program := "ytclhamemlpbpiaa", sum := "905e59b59e5629fcb451d4162be41b9cb6b2ceaf11f084a9c543b5e6aa0fb598", func := "corrody/corrodylaw05.RouteMetric", spec := "routeMetric", unfollowed := true, recurses := true, apart := false, narrowed := true }
def RouteMetricUptoSaid : Prop := routeMetricUptoRow.holds Try.pinned (OpenSpec.upto routeMetricSpec)

end Rows
end Go.Proofs.Ytclhamemlpbpiaa
