/-
  No cell of these rows narrows 'for every input' (looked for: loops, veiled, ifaces, maps, wideKeys, modest, calm, conditions, laid).
  DERIVED. THE GIVEN ROWS OF THIS SEAT. 14 by the template 'for every input the law returns true; each argument reads behind the call as it read before'; 0 by the template 'total and deterministic' (their statements: YtiigcjcolpmafaaTotals.lean).
  GIVEN WITH THE SEED: the statements are not yours to turn. If you find one false, say at which input.
  Laid BY PROGRAM, IN A SANDBOX (cutbox-rows.mjs): the forced cells as the released guide's own fill.sh prints them over the translation 78fc81f72caf6ce4… (all of the seat's roots in one cut). By AI agents, Wed Nov 11 2026. No macro, syntax, notation, axiom, sorry.
-/
import Derived.Test.YtiigcjcolpmafaaChecked
import GoSem.Claim
import GoSem.ClaimJoined
import GoSem.ClaimMapViews
import Derived.JoinedTies
import Derived.KernelRfl
namespace Go.Proofs.Ytiigcjcolpmafaa
/- THE CELL 'sum', in the pinned program and in every row, IS THE sha256 OF THE DUMP (.gsa) THAT YtiigcjcolpmafaaProg.lean LOADS. Nothing in Lean hashes anything: it is a label: what it is worth is what the hold of that sum in a sandbox is worth. -/
noncomputable def Try.pinned : Pinned := { name := "ytiigcjcolpmafaa", sum := "78fc81f72caf6ce4bf5f6fa1ff4220a8e602dbba8a97ff5fa94bc0e76c05d811", checked := Try.checked }
namespace Rows
def none {H : Type} : Left H := { results := [], args := [] }

/-- 'corrodylaw02.TurnsMore': WHATEVER THE INPUT: true; the input reads as it did. -/
def turnsMoreSpec : ChangeSpec := { name := "turnsMore", fn := fun _ => fun
  | [d1, d2] => { results := [.lit (.bool true)], args := [d1, d2] }
  | _ => none }
def turnsMoreRow : OpenClaim := { program := "ytiigcjcolpmafaa", sum := "78fc81f72caf6ce4bf5f6fa1ff4220a8e602dbba8a97ff5fa94bc0e76c05d811", func := "corrody/corrodylaw02.TurnsMore", spec := "turnsMore", unfollowed := true, recurses := true, apart := false }
def TurnsMoreSaid : Prop := turnsMoreRow.holds Try.pinned (OpenSpec.ofChange turnsMoreSpec)

/-- ITS FALSE NEIGHBOUR: 'it returns false'. Refute it at one input. -/
def turnsMoreWrong : ChangeSpec := { name := "turnsMore", fn := fun _ => fun
  | [d1, d2] => { results := [.lit (.bool false)], args := [d1, d2] }
  | _ => none }
def TurnsMoreWrongFalsely : Prop := turnsMoreRow.holds Try.pinned (OpenSpec.ofChange turnsMoreWrong)

/-- 'corrodylaw02.TurnsBest': WHATEVER THE INPUT: true; the input reads as it did. -/
def turnsBestSpec : ChangeSpec := { name := "turnsBest", fn := fun _ => fun
  | [d] => { results := [.lit (.bool true)], args := [d] }
  | _ => none }
def turnsBestRow : OpenClaim := { program := "ytiigcjcolpmafaa", sum := "78fc81f72caf6ce4bf5f6fa1ff4220a8e602dbba8a97ff5fa94bc0e76c05d811", func := "corrody/corrodylaw02.TurnsBest", spec := "turnsBest", unfollowed := true, recurses := true, apart := false }
def TurnsBestSaid : Prop := turnsBestRow.holds Try.pinned (OpenSpec.ofChange turnsBestSpec)

/-- ITS FALSE NEIGHBOUR: 'it returns false'. Refute it at one input. -/
def turnsBestWrong : ChangeSpec := { name := "turnsBest", fn := fun _ => fun
  | [d] => { results := [.lit (.bool false)], args := [d] }
  | _ => none }
def TurnsBestWrongFalsely : Prop := turnsBestRow.holds Try.pinned (OpenSpec.ofChange turnsBestWrong)

/-- 'corrodylaw02.TurnsChains': WHATEVER THE INPUT: true; the input reads as it did. -/
def turnsChainsSpec : ChangeSpec := { name := "turnsChains", fn := fun _ => fun
  | [d1, d2] => { results := [.lit (.bool true)], args := [d1, d2] }
  | _ => none }
def turnsChainsRow : OpenClaim := { program := "ytiigcjcolpmafaa", sum := "78fc81f72caf6ce4bf5f6fa1ff4220a8e602dbba8a97ff5fa94bc0e76c05d811", func := "corrody/corrodylaw02.TurnsChains", spec := "turnsChains", unfollowed := true, recurses := true, apart := false }
def TurnsChainsSaid : Prop := turnsChainsRow.holds Try.pinned (OpenSpec.ofChange turnsChainsSpec)

/-- ITS FALSE NEIGHBOUR: 'it returns false'. Refute it at one input. -/
def turnsChainsWrong : ChangeSpec := { name := "turnsChains", fn := fun _ => fun
  | [d1, d2] => { results := [.lit (.bool false)], args := [d1, d2] }
  | _ => none }
def TurnsChainsWrongFalsely : Prop := turnsChainsRow.holds Try.pinned (OpenSpec.ofChange turnsChainsWrong)

/-- 'corrodylaw02.TurnsHonest': WHATEVER THE INPUT: true; the input reads as it did. -/
def turnsHonestSpec : ChangeSpec := { name := "turnsHonest", fn := fun _ => fun
  | [d1, d2, d3] => { results := [.lit (.bool true)], args := [d1, d2, d3] }
  | _ => none }
def turnsHonestRow : OpenClaim := { program := "ytiigcjcolpmafaa", sum := "78fc81f72caf6ce4bf5f6fa1ff4220a8e602dbba8a97ff5fa94bc0e76c05d811", func := "corrody/corrodylaw02.TurnsHonest", spec := "turnsHonest", unfollowed := true, recurses := true, apart := false }
def TurnsHonestSaid : Prop := turnsHonestRow.holds Try.pinned (OpenSpec.ofChange turnsHonestSpec)

/-- ITS FALSE NEIGHBOUR: 'it returns false'. Refute it at one input. -/
def turnsHonestWrong : ChangeSpec := { name := "turnsHonest", fn := fun _ => fun
  | [d1, d2, d3] => { results := [.lit (.bool false)], args := [d1, d2, d3] }
  | _ => none }
def TurnsHonestWrongFalsely : Prop := turnsHonestRow.holds Try.pinned (OpenSpec.ofChange turnsHonestWrong)

/-- 'corrodylaw02.TurnsSides': WHATEVER THE INPUT: true; the input reads as it did. -/
def turnsSidesSpec : ChangeSpec := { name := "turnsSides", fn := fun _ => fun
  | [d] => { results := [.lit (.bool true)], args := [d] }
  | _ => none }
def turnsSidesRow : OpenClaim := { program := "ytiigcjcolpmafaa", sum := "78fc81f72caf6ce4bf5f6fa1ff4220a8e602dbba8a97ff5fa94bc0e76c05d811", func := "corrody/corrodylaw02.TurnsSides", spec := "turnsSides", unfollowed := true, recurses := true, apart := false }
def TurnsSidesSaid : Prop := turnsSidesRow.holds Try.pinned (OpenSpec.ofChange turnsSidesSpec)

/-- ITS FALSE NEIGHBOUR: 'it returns false'. Refute it at one input. -/
def turnsSidesWrong : ChangeSpec := { name := "turnsSides", fn := fun _ => fun
  | [d] => { results := [.lit (.bool false)], args := [d] }
  | _ => none }
def TurnsSidesWrongFalsely : Prop := turnsSidesRow.holds Try.pinned (OpenSpec.ofChange turnsSidesWrong)

/-- 'corrodylaw02.TurnsPlaces': WHATEVER THE INPUT: true; the input reads as it did. -/
def turnsPlacesSpec : ChangeSpec := { name := "turnsPlaces", fn := fun _ => fun
  | [d] => { results := [.lit (.bool true)], args := [d] }
  | _ => none }
def turnsPlacesRow : OpenClaim := { program := "ytiigcjcolpmafaa", sum := "78fc81f72caf6ce4bf5f6fa1ff4220a8e602dbba8a97ff5fa94bc0e76c05d811", func := "corrody/corrodylaw02.TurnsPlaces", spec := "turnsPlaces", unfollowed := true, recurses := true, apart := false }
def TurnsPlacesSaid : Prop := turnsPlacesRow.holds Try.pinned (OpenSpec.ofChange turnsPlacesSpec)

/-- ITS FALSE NEIGHBOUR: 'it returns false'. Refute it at one input. -/
def turnsPlacesWrong : ChangeSpec := { name := "turnsPlaces", fn := fun _ => fun
  | [d] => { results := [.lit (.bool false)], args := [d] }
  | _ => none }
def TurnsPlacesWrongFalsely : Prop := turnsPlacesRow.holds Try.pinned (OpenSpec.ofChange turnsPlacesWrong)

/-- 'corrodylaw02.TurnsLattice': WHATEVER THE INPUT: true; the input reads as it did. -/
def turnsLatticeSpec : ChangeSpec := { name := "turnsLattice", fn := fun _ => fun
  | [d1, d2, d3, d4] => { results := [.lit (.bool true)], args := [d1, d2, d3, d4] }
  | _ => none }
def turnsLatticeRow : OpenClaim := { program := "ytiigcjcolpmafaa", sum := "78fc81f72caf6ce4bf5f6fa1ff4220a8e602dbba8a97ff5fa94bc0e76c05d811", func := "corrody/corrodylaw02.TurnsLattice", spec := "turnsLattice", unfollowed := true, recurses := true, apart := false }
def TurnsLatticeSaid : Prop := turnsLatticeRow.holds Try.pinned (OpenSpec.ofChange turnsLatticeSpec)

/-- ITS FALSE NEIGHBOUR: 'it returns false'. Refute it at one input. -/
def turnsLatticeWrong : ChangeSpec := { name := "turnsLattice", fn := fun _ => fun
  | [d1, d2, d3, d4] => { results := [.lit (.bool false)], args := [d1, d2, d3, d4] }
  | _ => none }
def TurnsLatticeWrongFalsely : Prop := turnsLatticeRow.holds Try.pinned (OpenSpec.ofChange turnsLatticeWrong)

/-- 'corrodylaw02.TurnsStable': WHATEVER THE INPUT: true; the input reads as it did. -/
def turnsStableSpec : ChangeSpec := { name := "turnsStable", fn := fun _ => fun
  | [d1, d2] => { results := [.lit (.bool true)], args := [d1, d2] }
  | _ => none }
def turnsStableRow : OpenClaim := { program := "ytiigcjcolpmafaa", sum := "78fc81f72caf6ce4bf5f6fa1ff4220a8e602dbba8a97ff5fa94bc0e76c05d811", func := "corrody/corrodylaw02.TurnsStable", spec := "turnsStable", unfollowed := true, recurses := true, apart := false }
def TurnsStableSaid : Prop := turnsStableRow.holds Try.pinned (OpenSpec.ofChange turnsStableSpec)

/-- ITS FALSE NEIGHBOUR: 'it returns false'. Refute it at one input. -/
def turnsStableWrong : ChangeSpec := { name := "turnsStable", fn := fun _ => fun
  | [d1, d2] => { results := [.lit (.bool false)], args := [d1, d2] }
  | _ => none }
def TurnsStableWrongFalsely : Prop := turnsStableRow.holds Try.pinned (OpenSpec.ofChange turnsStableWrong)

/-- 'corrodylaw02.TurnsLies': WHATEVER THE INPUT: true; the input reads as it did. -/
def turnsLiesSpec : ChangeSpec := { name := "turnsLies", fn := fun _ => fun
  | [d1, d2] => { results := [.lit (.bool true)], args := [d1, d2] }
  | _ => none }
def turnsLiesRow : OpenClaim := { program := "ytiigcjcolpmafaa", sum := "78fc81f72caf6ce4bf5f6fa1ff4220a8e602dbba8a97ff5fa94bc0e76c05d811", func := "corrody/corrodylaw02.TurnsLies", spec := "turnsLies", unfollowed := true, recurses := true, apart := false }
def TurnsLiesSaid : Prop := turnsLiesRow.holds Try.pinned (OpenSpec.ofChange turnsLiesSpec)

/-- ITS FALSE NEIGHBOUR: 'it returns false'. Refute it at one input. -/
def turnsLiesWrong : ChangeSpec := { name := "turnsLies", fn := fun _ => fun
  | [d1, d2] => { results := [.lit (.bool false)], args := [d1, d2] }
  | _ => none }
def TurnsLiesWrongFalsely : Prop := turnsLiesRow.holds Try.pinned (OpenSpec.ofChange turnsLiesWrong)

/-- 'corrodylaw02.TurnsCovers': WHATEVER THE INPUT: true; the input reads as it did. -/
def turnsCoversSpec : ChangeSpec := { name := "turnsCovers", fn := fun _ => fun
  | [d] => { results := [.lit (.bool true)], args := [d] }
  | _ => none }
def turnsCoversRow : OpenClaim := { program := "ytiigcjcolpmafaa", sum := "78fc81f72caf6ce4bf5f6fa1ff4220a8e602dbba8a97ff5fa94bc0e76c05d811", func := "corrody/corrodylaw02.TurnsCovers", spec := "turnsCovers", unfollowed := true, recurses := true, apart := false }
def TurnsCoversSaid : Prop := turnsCoversRow.holds Try.pinned (OpenSpec.ofChange turnsCoversSpec)

/-- ITS FALSE NEIGHBOUR: 'it returns false'. Refute it at one input. -/
def turnsCoversWrong : ChangeSpec := { name := "turnsCovers", fn := fun _ => fun
  | [d] => { results := [.lit (.bool false)], args := [d] }
  | _ => none }
def TurnsCoversWrongFalsely : Prop := turnsCoversRow.holds Try.pinned (OpenSpec.ofChange turnsCoversWrong)

/-- 'corrodylaw02.TurnsMiddle': WHATEVER THE INPUT: true; the input reads as it did. -/
def turnsMiddleSpec : ChangeSpec := { name := "turnsMiddle", fn := fun _ => fun
  | [d1, d2] => { results := [.lit (.bool true)], args := [d1, d2] }
  | _ => none }
def turnsMiddleRow : OpenClaim := { program := "ytiigcjcolpmafaa", sum := "78fc81f72caf6ce4bf5f6fa1ff4220a8e602dbba8a97ff5fa94bc0e76c05d811", func := "corrody/corrodylaw02.TurnsMiddle", spec := "turnsMiddle", unfollowed := true, recurses := true, apart := false }
def TurnsMiddleSaid : Prop := turnsMiddleRow.holds Try.pinned (OpenSpec.ofChange turnsMiddleSpec)

/-- ITS FALSE NEIGHBOUR: 'it returns false'. Refute it at one input. -/
def turnsMiddleWrong : ChangeSpec := { name := "turnsMiddle", fn := fun _ => fun
  | [d1, d2] => { results := [.lit (.bool false)], args := [d1, d2] }
  | _ => none }
def TurnsMiddleWrongFalsely : Prop := turnsMiddleRow.holds Try.pinned (OpenSpec.ofChange turnsMiddleWrong)

/-- 'corrodylaw02.TurnsJoins': WHATEVER THE INPUT: true; the input reads as it did. -/
def turnsJoinsSpec : ChangeSpec := { name := "turnsJoins", fn := fun _ => fun
  | [d1, d2, d3] => { results := [.lit (.bool true)], args := [d1, d2, d3] }
  | _ => none }
def turnsJoinsRow : OpenClaim := { program := "ytiigcjcolpmafaa", sum := "78fc81f72caf6ce4bf5f6fa1ff4220a8e602dbba8a97ff5fa94bc0e76c05d811", func := "corrody/corrodylaw02.TurnsJoins", spec := "turnsJoins", unfollowed := true, recurses := true, apart := false }
def TurnsJoinsSaid : Prop := turnsJoinsRow.holds Try.pinned (OpenSpec.ofChange turnsJoinsSpec)

/-- ITS FALSE NEIGHBOUR: 'it returns false'. Refute it at one input. -/
def turnsJoinsWrong : ChangeSpec := { name := "turnsJoins", fn := fun _ => fun
  | [d1, d2, d3] => { results := [.lit (.bool false)], args := [d1, d2, d3] }
  | _ => none }
def TurnsJoinsWrongFalsely : Prop := turnsJoinsRow.holds Try.pinned (OpenSpec.ofChange turnsJoinsWrong)

/-- 'corrodylaw02.TurnsEnds': WHATEVER THE INPUT: true; the input reads as it did. -/
def turnsEndsSpec : ChangeSpec := { name := "turnsEnds", fn := fun _ => fun
  | [d] => { results := [.lit (.bool true)], args := [d] }
  | _ => none }
def turnsEndsRow : OpenClaim := { program := "ytiigcjcolpmafaa", sum := "78fc81f72caf6ce4bf5f6fa1ff4220a8e602dbba8a97ff5fa94bc0e76c05d811", func := "corrody/corrodylaw02.TurnsEnds", spec := "turnsEnds", unfollowed := true, recurses := true, apart := false }
def TurnsEndsSaid : Prop := turnsEndsRow.holds Try.pinned (OpenSpec.ofChange turnsEndsSpec)

/-- ITS FALSE NEIGHBOUR: 'it returns false'. Refute it at one input. -/
def turnsEndsWrong : ChangeSpec := { name := "turnsEnds", fn := fun _ => fun
  | [d] => { results := [.lit (.bool false)], args := [d] }
  | _ => none }
def TurnsEndsWrongFalsely : Prop := turnsEndsRow.holds Try.pinned (OpenSpec.ofChange turnsEndsWrong)

/-- 'corrodylaw02.TurnsBlocks': WHATEVER THE INPUT: true; the input reads as it did. -/
def turnsBlocksSpec : ChangeSpec := { name := "turnsBlocks", fn := fun _ => fun
  | [d1, d2] => { results := [.lit (.bool true)], args := [d1, d2] }
  | _ => none }
def turnsBlocksRow : OpenClaim := { program := "ytiigcjcolpmafaa", sum := "78fc81f72caf6ce4bf5f6fa1ff4220a8e602dbba8a97ff5fa94bc0e76c05d811", func := "corrody/corrodylaw02.TurnsBlocks", spec := "turnsBlocks", unfollowed := true, recurses := true, apart := false }
def TurnsBlocksSaid : Prop := turnsBlocksRow.holds Try.pinned (OpenSpec.ofChange turnsBlocksSpec)

/-- ITS FALSE NEIGHBOUR: 'it returns false'. Refute it at one input. -/
def turnsBlocksWrong : ChangeSpec := { name := "turnsBlocks", fn := fun _ => fun
  | [d1, d2] => { results := [.lit (.bool false)], args := [d1, d2] }
  | _ => none }
def TurnsBlocksWrongFalsely : Prop := turnsBlocksRow.holds Try.pinned (OpenSpec.ofChange turnsBlocksWrong)

/- THE SECOND FORM. 'bulk': how many values and letters a reading holds, each counted each time it is reached (what is shared counts as often as it is met; a slice's spare places count too). A statement '..UptoSaid' is the law's where the arguments, and the package variables that the reading takes, are together of bulk at most 1048576: NARROWER than '..Said'. Prove '..Said' where nothing that the law and all that it calls make is longer than what came in: it says more and counts as full. Else prove '..UptoSaid'. A law counts once. -/
mutual
def uptoBulk {H : Type} : DataW H → Nat
  | .lit (.string bytes) => bytes.length + 1
  | .lit _ => 1
  | .nil => 1
  | .ptr d => uptoBulk d + 1
  | .slice elems spare => uptoBulkAll elems + uptoBulkAll spare + 1
  | .agg parts => uptoBulkAll parts + 1
  | .iface _ d => uptoBulk d + 1
  | .map entries => uptoBulkEntries entries + 1
  | .held _ => 1
def uptoBulkAll {H : Type} : List (DataW H) → Nat
  | [] => 0
  | d :: r => uptoBulk d + uptoBulkAll r
def uptoBulkEntries {H : Type} : List (Lit × DataW H) → Nat
  | [] => 0
  | x :: r => uptoBulkEntry x + uptoBulkEntries r
def uptoBulkEntry {H : Type} : Lit × DataW H → Nat
  | (.string bytes, d) => bytes.length + uptoBulk d + 1
  | (_, d) => uptoBulk d + 1
 end
def uptoSmall : (H : Type) → List (DataW H) → Bool := fun _ ds => decide (uptoBulkAll ds ≤ 1048576)
def OpenSpec.upto (s : _root_.Go.ChangeSpec) : _root_.Go.OpenSpec := { _root_.Go.OpenSpec.ofChange s with cond := some uptoSmall }

/-- 'corrodylaw02.TurnsMore', WHERE WHAT IT READS IS OF BULK AT MOST 1048576: true; the input reads as it did. -/
def turnsMoreUptoRow : OpenClaim := { program := "ytiigcjcolpmafaa", sum := "78fc81f72caf6ce4bf5f6fa1ff4220a8e602dbba8a97ff5fa94bc0e76c05d811", func := "corrody/corrodylaw02.TurnsMore", spec := "turnsMore", unfollowed := true, recurses := true, apart := false, narrowed := true }
def TurnsMoreUptoSaid : Prop := turnsMoreUptoRow.holds Try.pinned (OpenSpec.upto turnsMoreSpec)

/-- 'corrodylaw02.TurnsBest', WHERE WHAT IT READS IS OF BULK AT MOST 1048576: true; the input reads as it did. -/
def turnsBestUptoRow : OpenClaim := { program := "ytiigcjcolpmafaa", sum := "78fc81f72caf6ce4bf5f6fa1ff4220a8e602dbba8a97ff5fa94bc0e76c05d811", func := "corrody/corrodylaw02.TurnsBest", spec := "turnsBest", unfollowed := true, recurses := true, apart := false, narrowed := true }
def TurnsBestUptoSaid : Prop := turnsBestUptoRow.holds Try.pinned (OpenSpec.upto turnsBestSpec)

/-- 'corrodylaw02.TurnsChains', WHERE WHAT IT READS IS OF BULK AT MOST 1048576: true; the input reads as it did. -/
def turnsChainsUptoRow : OpenClaim := { program := "ytiigcjcolpmafaa", sum := "78fc81f72caf6ce4bf5f6fa1ff4220a8e602dbba8a97ff5fa94bc0e76c05d811", func := "corrody/corrodylaw02.TurnsChains", spec := "turnsChains", unfollowed := true, recurses := true, apart := false, narrowed := true }
def TurnsChainsUptoSaid : Prop := turnsChainsUptoRow.holds Try.pinned (OpenSpec.upto turnsChainsSpec)

/-- 'corrodylaw02.TurnsHonest', WHERE WHAT IT READS IS OF BULK AT MOST 1048576: true; the input reads as it did. -/
def turnsHonestUptoRow : OpenClaim := { program := "ytiigcjcolpmafaa", sum := "78fc81f72caf6ce4bf5f6fa1ff4220a8e602dbba8a97ff5fa94bc0e76c05d811", func := "corrody/corrodylaw02.TurnsHonest", spec := "turnsHonest", unfollowed := true, recurses := true, apart := false, narrowed := true }
def TurnsHonestUptoSaid : Prop := turnsHonestUptoRow.holds Try.pinned (OpenSpec.upto turnsHonestSpec)

/-- 'corrodylaw02.TurnsSides', WHERE WHAT IT READS IS OF BULK AT MOST 1048576: true; the input reads as it did. -/
def turnsSidesUptoRow : OpenClaim := { program := "ytiigcjcolpmafaa", sum := "78fc81f72caf6ce4bf5f6fa1ff4220a8e602dbba8a97ff5fa94bc0e76c05d811", func := "corrody/corrodylaw02.TurnsSides", spec := "turnsSides", unfollowed := true, recurses := true, apart := false, narrowed := true }
def TurnsSidesUptoSaid : Prop := turnsSidesUptoRow.holds Try.pinned (OpenSpec.upto turnsSidesSpec)

/-- 'corrodylaw02.TurnsPlaces', WHERE WHAT IT READS IS OF BULK AT MOST 1048576: true; the input reads as it did. -/
def turnsPlacesUptoRow : OpenClaim := { program := "ytiigcjcolpmafaa", sum := "78fc81f72caf6ce4bf5f6fa1ff4220a8e602dbba8a97ff5fa94bc0e76c05d811", func := "corrody/corrodylaw02.TurnsPlaces", spec := "turnsPlaces", unfollowed := true, recurses := true, apart := false, narrowed := true }
def TurnsPlacesUptoSaid : Prop := turnsPlacesUptoRow.holds Try.pinned (OpenSpec.upto turnsPlacesSpec)

/-- 'corrodylaw02.TurnsLattice', WHERE WHAT IT READS IS OF BULK AT MOST 1048576: true; the input reads as it did. -/
def turnsLatticeUptoRow : OpenClaim := { program := "ytiigcjcolpmafaa", sum := "78fc81f72caf6ce4bf5f6fa1ff4220a8e602dbba8a97ff5fa94bc0e76c05d811", func := "corrody/corrodylaw02.TurnsLattice", spec := "turnsLattice", unfollowed := true, recurses := true, apart := false, narrowed := true }
def TurnsLatticeUptoSaid : Prop := turnsLatticeUptoRow.holds Try.pinned (OpenSpec.upto turnsLatticeSpec)

/-- 'corrodylaw02.TurnsStable', WHERE WHAT IT READS IS OF BULK AT MOST 1048576: true; the input reads as it did. -/
def turnsStableUptoRow : OpenClaim := { program := "ytiigcjcolpmafaa", sum := "78fc81f72caf6ce4bf5f6fa1ff4220a8e602dbba8a97ff5fa94bc0e76c05d811", func := "corrody/corrodylaw02.TurnsStable", spec := "turnsStable", unfollowed := true, recurses := true, apart := false, narrowed := true }
def TurnsStableUptoSaid : Prop := turnsStableUptoRow.holds Try.pinned (OpenSpec.upto turnsStableSpec)

/-- 'corrodylaw02.TurnsLies', WHERE WHAT IT READS IS OF BULK AT MOST 1048576: true; the input reads as it did. -/
def turnsLiesUptoRow : OpenClaim := { program := "ytiigcjcolpmafaa", sum := "78fc81f72caf6ce4bf5f6fa1ff4220a8e602dbba8a97ff5fa94bc0e76c05d811", func := "corrody/corrodylaw02.TurnsLies", spec := "turnsLies", unfollowed := true, recurses := true, apart := false, narrowed := true }
def TurnsLiesUptoSaid : Prop := turnsLiesUptoRow.holds Try.pinned (OpenSpec.upto turnsLiesSpec)

/-- 'corrodylaw02.TurnsCovers', WHERE WHAT IT READS IS OF BULK AT MOST 1048576: true; the input reads as it did. -/
def turnsCoversUptoRow : OpenClaim := { program := "ytiigcjcolpmafaa", sum := "78fc81f72caf6ce4bf5f6fa1ff4220a8e602dbba8a97ff5fa94bc0e76c05d811", func := "corrody/corrodylaw02.TurnsCovers", spec := "turnsCovers", unfollowed := true, recurses := true, apart := false, narrowed := true }
def TurnsCoversUptoSaid : Prop := turnsCoversUptoRow.holds Try.pinned (OpenSpec.upto turnsCoversSpec)

/-- 'corrodylaw02.TurnsMiddle', WHERE WHAT IT READS IS OF BULK AT MOST 1048576: true; the input reads as it did. -/
def turnsMiddleUptoRow : OpenClaim := { program := "ytiigcjcolpmafaa", sum := "78fc81f72caf6ce4bf5f6fa1ff4220a8e602dbba8a97ff5fa94bc0e76c05d811", func := "corrody/corrodylaw02.TurnsMiddle", spec := "turnsMiddle", unfollowed := true, recurses := true, apart := false, narrowed := true }
def TurnsMiddleUptoSaid : Prop := turnsMiddleUptoRow.holds Try.pinned (OpenSpec.upto turnsMiddleSpec)

/-- 'corrodylaw02.TurnsJoins', WHERE WHAT IT READS IS OF BULK AT MOST 1048576: true; the input reads as it did. -/
def turnsJoinsUptoRow : OpenClaim := { program := "ytiigcjcolpmafaa", sum := "78fc81f72caf6ce4bf5f6fa1ff4220a8e602dbba8a97ff5fa94bc0e76c05d811", func := "corrody/corrodylaw02.TurnsJoins", spec := "turnsJoins", unfollowed := true, recurses := true, apart := false, narrowed := true }
def TurnsJoinsUptoSaid : Prop := turnsJoinsUptoRow.holds Try.pinned (OpenSpec.upto turnsJoinsSpec)

/-- 'corrodylaw02.TurnsEnds', WHERE WHAT IT READS IS OF BULK AT MOST 1048576: true; the input reads as it did. -/
def turnsEndsUptoRow : OpenClaim := { program := "ytiigcjcolpmafaa", sum := "78fc81f72caf6ce4bf5f6fa1ff4220a8e602dbba8a97ff5fa94bc0e76c05d811", func := "corrody/corrodylaw02.TurnsEnds", spec := "turnsEnds", unfollowed := true, recurses := true, apart := false, narrowed := true }
def TurnsEndsUptoSaid : Prop := turnsEndsUptoRow.holds Try.pinned (OpenSpec.upto turnsEndsSpec)

/-- 'corrodylaw02.TurnsBlocks', WHERE WHAT IT READS IS OF BULK AT MOST 1048576: true; the input reads as it did. -/
def turnsBlocksUptoRow : OpenClaim := { program := "ytiigcjcolpmafaa", sum := "78fc81f72caf6ce4bf5f6fa1ff4220a8e602dbba8a97ff5fa94bc0e76c05d811", func := "corrody/corrodylaw02.TurnsBlocks", spec := "turnsBlocks", unfollowed := true, recurses := true, apart := false, narrowed := true }
def TurnsBlocksUptoSaid : Prop := turnsBlocksUptoRow.holds Try.pinned (OpenSpec.upto turnsBlocksSpec)

end Rows
end Go.Proofs.Ytiigcjcolpmafaa
