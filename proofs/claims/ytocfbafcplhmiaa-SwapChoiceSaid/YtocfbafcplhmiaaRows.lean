/-
  No cell of these rows narrows 'for every input' (looked for: loops, veiled, ifaces, maps, wideKeys, modest, calm, conditions, laid).
  DERIVED. THE GIVEN ROWS OF THIS SEAT. 16 by the template 'for every input the law returns true; each argument reads behind the call as it read before'; 0 by the template 'total and deterministic' (their statements: YtocfbafcplhmiaaTotals.lean).
  GIVEN WITH THE SEED: the statements are not yours to turn. If you find one false, say at which input.
  Laid BY PROGRAM, IN A SANDBOX (cutbox-rows.mjs): the forced cells as the released guide's own fill.sh prints them over the translation 4295c8d991e9b9d5… (all of the seat's roots in one cut). By AI agents, Wed Nov 11 2026. No macro, syntax, notation, axiom, sorry.
-/
import Derived.Test.YtocfbafcplhmiaaChecked
import GoSem.Claim
import GoSem.ClaimJoined
import GoSem.ClaimMapViews
import Derived.JoinedTies
import Derived.KernelRfl
namespace Go.Proofs.Ytocfbafcplhmiaa
/- THE CELL 'sum', in the pinned program and in every row, IS THE sha256 OF THE DUMP (.gsa) THAT YtocfbafcplhmiaaProg.lean LOADS. Nothing in Lean hashes anything: it is a label: what it is worth is what the hold of that sum in a sandbox is worth. -/
noncomputable def Try.pinned : Pinned := { name := "ytocfbafcplhmiaa", sum := "4295c8d991e9b9d5a36d0876fc7bccab7515bb907d34c48edee63da617371495", checked := Try.checked }
namespace Rows
def none {H : Type} : Left H := { results := [], args := [] }

/-- 'corrodylaw08.SwapFirst': WHATEVER THE INPUT: true; the input reads as it did. -/
def swapFirstSpec : ChangeSpec := { name := "swapFirst", fn := fun _ => fun
  | [d1, d2] => { results := [.lit (.bool true)], args := [d1, d2] }
  | _ => none }
def swapFirstRow : OpenClaim := { program := "ytocfbafcplhmiaa", sum := "4295c8d991e9b9d5a36d0876fc7bccab7515bb907d34c48edee63da617371495", func := "corrody/corrodylaw08.SwapFirst", spec := "swapFirst", unfollowed := true, recurses := true, apart := false }
def SwapFirstSaid : Prop := swapFirstRow.holds Try.pinned (OpenSpec.ofChange swapFirstSpec)

/-- ITS FALSE NEIGHBOUR: 'it returns false'. Refute it at one input. -/
def swapFirstWrong : ChangeSpec := { name := "swapFirst", fn := fun _ => fun
  | [d1, d2] => { results := [.lit (.bool false)], args := [d1, d2] }
  | _ => none }
def SwapFirstWrongFalsely : Prop := swapFirstRow.holds Try.pinned (OpenSpec.ofChange swapFirstWrong)

/-- 'corrodylaw08.SwapAgain': WHATEVER THE INPUT: true; the input reads as it did. -/
def swapAgainSpec : ChangeSpec := { name := "swapAgain", fn := fun _ => fun
  | [d] => { results := [.lit (.bool true)], args := [d] }
  | _ => none }
def swapAgainRow : OpenClaim := { program := "ytocfbafcplhmiaa", sum := "4295c8d991e9b9d5a36d0876fc7bccab7515bb907d34c48edee63da617371495", func := "corrody/corrodylaw08.SwapAgain", spec := "swapAgain", unfollowed := true, recurses := true, apart := false }
def SwapAgainSaid : Prop := swapAgainRow.holds Try.pinned (OpenSpec.ofChange swapAgainSpec)

/-- ITS FALSE NEIGHBOUR: 'it returns false'. Refute it at one input. -/
def swapAgainWrong : ChangeSpec := { name := "swapAgain", fn := fun _ => fun
  | [d] => { results := [.lit (.bool false)], args := [d] }
  | _ => none }
def SwapAgainWrongFalsely : Prop := swapAgainRow.holds Try.pinned (OpenSpec.ofChange swapAgainWrong)

/-- 'corrodylaw08.SwapChoice': WHATEVER THE INPUT: true; the input reads as it did. -/
def swapChoiceSpec : ChangeSpec := { name := "swapChoice", fn := fun _ => fun
  | [d1, d2] => { results := [.lit (.bool true)], args := [d1, d2] }
  | _ => none }
def swapChoiceRow : OpenClaim := { program := "ytocfbafcplhmiaa", sum := "4295c8d991e9b9d5a36d0876fc7bccab7515bb907d34c48edee63da617371495", func := "corrody/corrodylaw08.SwapChoice", spec := "swapChoice", unfollowed := true, recurses := true, apart := false }
def SwapChoiceSaid : Prop := swapChoiceRow.holds Try.pinned (OpenSpec.ofChange swapChoiceSpec)

/-- ITS FALSE NEIGHBOUR: 'it returns false'. Refute it at one input. -/
def swapChoiceWrong : ChangeSpec := { name := "swapChoice", fn := fun _ => fun
  | [d1, d2] => { results := [.lit (.bool false)], args := [d1, d2] }
  | _ => none }
def SwapChoiceWrongFalsely : Prop := swapChoiceRow.holds Try.pinned (OpenSpec.ofChange swapChoiceWrong)

/-- 'corrodylaw08.SwapNames': WHATEVER THE INPUT: true; the input reads as it did. -/
def swapNamesSpec : ChangeSpec := { name := "swapNames", fn := fun _ => fun
  | [d1, d2] => { results := [.lit (.bool true)], args := [d1, d2] }
  | _ => none }
def swapNamesRow : OpenClaim := { program := "ytocfbafcplhmiaa", sum := "4295c8d991e9b9d5a36d0876fc7bccab7515bb907d34c48edee63da617371495", func := "corrody/corrodylaw08.SwapNames", spec := "swapNames", unfollowed := true, recurses := true, apart := false }
def SwapNamesSaid : Prop := swapNamesRow.holds Try.pinned (OpenSpec.ofChange swapNamesSpec)

/-- ITS FALSE NEIGHBOUR: 'it returns false'. Refute it at one input. -/
def swapNamesWrong : ChangeSpec := { name := "swapNames", fn := fun _ => fun
  | [d1, d2] => { results := [.lit (.bool false)], args := [d1, d2] }
  | _ => none }
def SwapNamesWrongFalsely : Prop := swapNamesRow.holds Try.pinned (OpenSpec.ofChange swapNamesWrong)

/-- 'corrodylaw08.SwapRounds': WHATEVER THE INPUT: true; the input reads as it did. -/
def swapRoundsSpec : ChangeSpec := { name := "swapRounds", fn := fun _ => fun
  | [d] => { results := [.lit (.bool true)], args := [d] }
  | _ => none }
def swapRoundsRow : OpenClaim := { program := "ytocfbafcplhmiaa", sum := "4295c8d991e9b9d5a36d0876fc7bccab7515bb907d34c48edee63da617371495", func := "corrody/corrodylaw08.SwapRounds", spec := "swapRounds", unfollowed := true, recurses := true, apart := false }
def SwapRoundsSaid : Prop := swapRoundsRow.holds Try.pinned (OpenSpec.ofChange swapRoundsSpec)

/-- ITS FALSE NEIGHBOUR: 'it returns false'. Refute it at one input. -/
def swapRoundsWrong : ChangeSpec := { name := "swapRounds", fn := fun _ => fun
  | [d] => { results := [.lit (.bool false)], args := [d] }
  | _ => none }
def SwapRoundsWrongFalsely : Prop := swapRoundsRow.holds Try.pinned (OpenSpec.ofChange swapRoundsWrong)

/-- 'corrodylaw08.SwapEqual': WHATEVER THE INPUT: true; the input reads as it did. -/
def swapEqualSpec : ChangeSpec := { name := "swapEqual", fn := fun _ => fun
  | [d] => { results := [.lit (.bool true)], args := [d] }
  | _ => none }
def swapEqualRow : OpenClaim := { program := "ytocfbafcplhmiaa", sum := "4295c8d991e9b9d5a36d0876fc7bccab7515bb907d34c48edee63da617371495", func := "corrody/corrodylaw08.SwapEqual", spec := "swapEqual", unfollowed := true, recurses := true, apart := false }
def SwapEqualSaid : Prop := swapEqualRow.holds Try.pinned (OpenSpec.ofChange swapEqualSpec)

/-- ITS FALSE NEIGHBOUR: 'it returns false'. Refute it at one input. -/
def swapEqualWrong : ChangeSpec := { name := "swapEqual", fn := fun _ => fun
  | [d] => { results := [.lit (.bool false)], args := [d] }
  | _ => none }
def SwapEqualWrongFalsely : Prop := swapEqualRow.holds Try.pinned (OpenSpec.ofChange swapEqualWrong)

/-- 'corrodylaw08.SwapHonest': WHATEVER THE INPUT: true; the input reads as it did. -/
def swapHonestSpec : ChangeSpec := { name := "swapHonest", fn := fun _ => fun
  | [d1, d2, d3] => { results := [.lit (.bool true)], args := [d1, d2, d3] }
  | _ => none }
def swapHonestRow : OpenClaim := { program := "ytocfbafcplhmiaa", sum := "4295c8d991e9b9d5a36d0876fc7bccab7515bb907d34c48edee63da617371495", func := "corrody/corrodylaw08.SwapHonest", spec := "swapHonest", unfollowed := true, recurses := true, apart := false }
def SwapHonestSaid : Prop := swapHonestRow.holds Try.pinned (OpenSpec.ofChange swapHonestSpec)

/-- ITS FALSE NEIGHBOUR: 'it returns false'. Refute it at one input. -/
def swapHonestWrong : ChangeSpec := { name := "swapHonest", fn := fun _ => fun
  | [d1, d2, d3] => { results := [.lit (.bool false)], args := [d1, d2, d3] }
  | _ => none }
def SwapHonestWrongFalsely : Prop := swapHonestRow.holds Try.pinned (OpenSpec.ofChange swapHonestWrong)

/-- 'corrodylaw08.SwapOwn': WHATEVER THE INPUT: true; the input reads as it did. -/
def swapOwnSpec : ChangeSpec := { name := "swapOwn", fn := fun _ => fun
  | [d] => { results := [.lit (.bool true)], args := [d] }
  | _ => none }
def swapOwnRow : OpenClaim := { program := "ytocfbafcplhmiaa", sum := "4295c8d991e9b9d5a36d0876fc7bccab7515bb907d34c48edee63da617371495", func := "corrody/corrodylaw08.SwapOwn", spec := "swapOwn", unfollowed := true, recurses := true, apart := false }
def SwapOwnSaid : Prop := swapOwnRow.holds Try.pinned (OpenSpec.ofChange swapOwnSpec)

/-- ITS FALSE NEIGHBOUR: 'it returns false'. Refute it at one input. -/
def swapOwnWrong : ChangeSpec := { name := "swapOwn", fn := fun _ => fun
  | [d] => { results := [.lit (.bool false)], args := [d] }
  | _ => none }
def SwapOwnWrongFalsely : Prop := swapOwnRow.holds Try.pinned (OpenSpec.ofChange swapOwnWrong)

/-- 'corrodylaw08.SwapPareto': WHATEVER THE INPUT: true; the input reads as it did. -/
def swapParetoSpec : ChangeSpec := { name := "swapPareto", fn := fun _ => fun
  | [d1, d2] => { results := [.lit (.bool true)], args := [d1, d2] }
  | _ => none }
def swapParetoRow : OpenClaim := { program := "ytocfbafcplhmiaa", sum := "4295c8d991e9b9d5a36d0876fc7bccab7515bb907d34c48edee63da617371495", func := "corrody/corrodylaw08.SwapPareto", spec := "swapPareto", unfollowed := true, recurses := true, apart := false }
def SwapParetoSaid : Prop := swapParetoRow.holds Try.pinned (OpenSpec.ofChange swapParetoSpec)

/-- ITS FALSE NEIGHBOUR: 'it returns false'. Refute it at one input. -/
def swapParetoWrong : ChangeSpec := { name := "swapPareto", fn := fun _ => fun
  | [d1, d2] => { results := [.lit (.bool false)], args := [d1, d2] }
  | _ => none }
def SwapParetoWrongFalsely : Prop := swapParetoRow.holds Try.pinned (OpenSpec.ofChange swapParetoWrong)

/-- 'corrodylaw08.SwapCore': WHATEVER THE INPUT: true; the input reads as it did. -/
def swapCoreSpec : ChangeSpec := { name := "swapCore", fn := fun _ => fun
  | [d1, d2] => { results := [.lit (.bool true)], args := [d1, d2] }
  | _ => none }
def swapCoreRow : OpenClaim := { program := "ytocfbafcplhmiaa", sum := "4295c8d991e9b9d5a36d0876fc7bccab7515bb907d34c48edee63da617371495", func := "corrody/corrodylaw08.SwapCore", spec := "swapCore", unfollowed := true, recurses := true, apart := false }
def SwapCoreSaid : Prop := swapCoreRow.holds Try.pinned (OpenSpec.ofChange swapCoreSpec)

/-- ITS FALSE NEIGHBOUR: 'it returns false'. Refute it at one input. -/
def swapCoreWrong : ChangeSpec := { name := "swapCore", fn := fun _ => fun
  | [d1, d2] => { results := [.lit (.bool false)], args := [d1, d2] }
  | _ => none }
def SwapCoreWrongFalsely : Prop := swapCoreRow.holds Try.pinned (OpenSpec.ofChange swapCoreWrong)

/-- 'corrodylaw08.SwapLies': WHATEVER THE INPUT: true; the input reads as it did. -/
def swapLiesSpec : ChangeSpec := { name := "swapLies", fn := fun _ => fun
  | [d1, d2, d3] => { results := [.lit (.bool true)], args := [d1, d2, d3] }
  | _ => none }
def swapLiesRow : OpenClaim := { program := "ytocfbafcplhmiaa", sum := "4295c8d991e9b9d5a36d0876fc7bccab7515bb907d34c48edee63da617371495", func := "corrody/corrodylaw08.SwapLies", spec := "swapLies", unfollowed := true, recurses := true, apart := false }
def SwapLiesSaid : Prop := swapLiesRow.holds Try.pinned (OpenSpec.ofChange swapLiesSpec)

/-- ITS FALSE NEIGHBOUR: 'it returns false'. Refute it at one input. -/
def swapLiesWrong : ChangeSpec := { name := "swapLies", fn := fun _ => fun
  | [d1, d2, d3] => { results := [.lit (.bool false)], args := [d1, d2, d3] }
  | _ => none }
def SwapLiesWrongFalsely : Prop := swapLiesRow.holds Try.pinned (OpenSpec.ofChange swapLiesWrong)

/-- 'corrodylaw08.SwapGiven': WHATEVER THE INPUT: true; the input reads as it did. -/
def swapGivenSpec : ChangeSpec := { name := "swapGiven", fn := fun _ => fun
  | [d] => { results := [.lit (.bool true)], args := [d] }
  | _ => none }
def swapGivenRow : OpenClaim := { program := "ytocfbafcplhmiaa", sum := "4295c8d991e9b9d5a36d0876fc7bccab7515bb907d34c48edee63da617371495", func := "corrody/corrodylaw08.SwapGiven", spec := "swapGiven", unfollowed := true, recurses := true, apart := false }
def SwapGivenSaid : Prop := swapGivenRow.holds Try.pinned (OpenSpec.ofChange swapGivenSpec)

/-- ITS FALSE NEIGHBOUR: 'it returns false'. Refute it at one input. -/
def swapGivenWrong : ChangeSpec := { name := "swapGiven", fn := fun _ => fun
  | [d] => { results := [.lit (.bool false)], args := [d] }
  | _ => none }
def SwapGivenWrongFalsely : Prop := swapGivenRow.holds Try.pinned (OpenSpec.ofChange swapGivenWrong)

/-- 'corrodylaw08.SwapChances': WHATEVER THE INPUT: true; the input reads as it did. -/
def swapChancesSpec : ChangeSpec := { name := "swapChances", fn := fun _ => fun
  | [d1, d2] => { results := [.lit (.bool true)], args := [d1, d2] }
  | _ => none }
def swapChancesRow : OpenClaim := { program := "ytocfbafcplhmiaa", sum := "4295c8d991e9b9d5a36d0876fc7bccab7515bb907d34c48edee63da617371495", func := "corrody/corrodylaw08.SwapChances", spec := "swapChances", unfollowed := true, recurses := true, apart := false }
def SwapChancesSaid : Prop := swapChancesRow.holds Try.pinned (OpenSpec.ofChange swapChancesSpec)

/-- ITS FALSE NEIGHBOUR: 'it returns false'. Refute it at one input. -/
def swapChancesWrong : ChangeSpec := { name := "swapChances", fn := fun _ => fun
  | [d1, d2] => { results := [.lit (.bool false)], args := [d1, d2] }
  | _ => none }
def SwapChancesWrongFalsely : Prop := swapChancesRow.holds Try.pinned (OpenSpec.ofChange swapChancesWrong)

/-- 'corrodylaw08.SwapBetter': WHATEVER THE INPUT: true; the input reads as it did. -/
def swapBetterSpec : ChangeSpec := { name := "swapBetter", fn := fun _ => fun
  | [d1, d2] => { results := [.lit (.bool true)], args := [d1, d2] }
  | _ => none }
def swapBetterRow : OpenClaim := { program := "ytocfbafcplhmiaa", sum := "4295c8d991e9b9d5a36d0876fc7bccab7515bb907d34c48edee63da617371495", func := "corrody/corrodylaw08.SwapBetter", spec := "swapBetter", unfollowed := true, recurses := true, apart := false }
def SwapBetterSaid : Prop := swapBetterRow.holds Try.pinned (OpenSpec.ofChange swapBetterSpec)

/-- ITS FALSE NEIGHBOUR: 'it returns false'. Refute it at one input. -/
def swapBetterWrong : ChangeSpec := { name := "swapBetter", fn := fun _ => fun
  | [d1, d2] => { results := [.lit (.bool false)], args := [d1, d2] }
  | _ => none }
def SwapBetterWrongFalsely : Prop := swapBetterRow.holds Try.pinned (OpenSpec.ofChange swapBetterWrong)

/-- 'corrodylaw08.SwapObjects': WHATEVER THE INPUT: true; the input reads as it did. -/
def swapObjectsSpec : ChangeSpec := { name := "swapObjects", fn := fun _ => fun
  | [d1, d2] => { results := [.lit (.bool true)], args := [d1, d2] }
  | _ => none }
def swapObjectsRow : OpenClaim := { program := "ytocfbafcplhmiaa", sum := "4295c8d991e9b9d5a36d0876fc7bccab7515bb907d34c48edee63da617371495", func := "corrody/corrodylaw08.SwapObjects", spec := "swapObjects", unfollowed := true, recurses := true, apart := false }
def SwapObjectsSaid : Prop := swapObjectsRow.holds Try.pinned (OpenSpec.ofChange swapObjectsSpec)

/-- ITS FALSE NEIGHBOUR: 'it returns false'. Refute it at one input. -/
def swapObjectsWrong : ChangeSpec := { name := "swapObjects", fn := fun _ => fun
  | [d1, d2] => { results := [.lit (.bool false)], args := [d1, d2] }
  | _ => none }
def SwapObjectsWrongFalsely : Prop := swapObjectsRow.holds Try.pinned (OpenSpec.ofChange swapObjectsWrong)

/-- 'corrodylaw08.SwapTrades': WHATEVER THE INPUT: true; the input reads as it did. -/
def swapTradesSpec : ChangeSpec := { name := "swapTrades", fn := fun _ => fun
  | [d] => { results := [.lit (.bool true)], args := [d] }
  | _ => none }
def swapTradesRow : OpenClaim := { program := "ytocfbafcplhmiaa", sum := "4295c8d991e9b9d5a36d0876fc7bccab7515bb907d34c48edee63da617371495", func := "corrody/corrodylaw08.SwapTrades", spec := "swapTrades", unfollowed := true, recurses := true, apart := false }
def SwapTradesSaid : Prop := swapTradesRow.holds Try.pinned (OpenSpec.ofChange swapTradesSpec)

/-- ITS FALSE NEIGHBOUR: 'it returns false'. Refute it at one input. -/
def swapTradesWrong : ChangeSpec := { name := "swapTrades", fn := fun _ => fun
  | [d] => { results := [.lit (.bool false)], args := [d] }
  | _ => none }
def SwapTradesWrongFalsely : Prop := swapTradesRow.holds Try.pinned (OpenSpec.ofChange swapTradesWrong)

/- THE SECOND FORM. 'bulk': how many values and letters a reading holds, each counted each time it is reached (what is shared counts as often as it is met; a slice's spare places count too). A statement '..UptoSaid' is the law's where the arguments, and the package variables that the reading takes, are together of bulk at most 1048576: NARROWER than '..Said'. Prove '..Said' where nothing that the law and all that it calls make is longer than what came in: it says more and counts as full. Else prove '..UptoSaid'. A law counts once. -/
mutual
def uptoBulk {H : Type} : DataW H → Nat
  | .lit (.string bytes) => bytes.length + 1
  | .lit _ => 1
  | .nil => 1
  | .ptr d => uptoBulk d + 1
  | .slice elems spare => uptoBulkAll elems + uptoBulkAll spare + 1
  | .agg parts => uptoBulkAll parts + 1
  | .iface _ d => uptoBulk d + 1
  | .map entries => uptoBulkEntries entries + 1
  | .held _ => 1
def uptoBulkAll {H : Type} : List (DataW H) → Nat
  | [] => 0
  | d :: r => uptoBulk d + uptoBulkAll r
def uptoBulkEntries {H : Type} : List (Lit × DataW H) → Nat
  | [] => 0
  | x :: r => uptoBulkEntry x + uptoBulkEntries r
def uptoBulkEntry {H : Type} : Lit × DataW H → Nat
  | (.string bytes, d) => bytes.length + uptoBulk d + 1
  | (_, d) => uptoBulk d + 1
 end
def uptoSmall : (H : Type) → List (DataW H) → Bool := fun _ ds => decide (uptoBulkAll ds ≤ 1048576)
def OpenSpec.upto (s : _root_.Go.ChangeSpec) : _root_.Go.OpenSpec := { _root_.Go.OpenSpec.ofChange s with cond := some uptoSmall }

/-- 'corrodylaw08.SwapFirst', WHERE WHAT IT READS IS OF BULK AT MOST 1048576: true; the input reads as it did. -/
def swapFirstUptoRow : OpenClaim := { program := "ytocfbafcplhmiaa", sum := "4295c8d991e9b9d5a36d0876fc7bccab7515bb907d34c48edee63da617371495", func := "corrody/corrodylaw08.SwapFirst", spec := "swapFirst", unfollowed := true, recurses := true, apart := false, narrowed := true }
def SwapFirstUptoSaid : Prop := swapFirstUptoRow.holds Try.pinned (OpenSpec.upto swapFirstSpec)

/-- 'corrodylaw08.SwapAgain', WHERE WHAT IT READS IS OF BULK AT MOST 1048576: true; the input reads as it did. -/
def swapAgainUptoRow : OpenClaim := { program := "ytocfbafcplhmiaa", sum := "4295c8d991e9b9d5a36d0876fc7bccab7515bb907d34c48edee63da617371495", func := "corrody/corrodylaw08.SwapAgain", spec := "swapAgain", unfollowed := true, recurses := true, apart := false, narrowed := true }
def SwapAgainUptoSaid : Prop := swapAgainUptoRow.holds Try.pinned (OpenSpec.upto swapAgainSpec)

/-- 'corrodylaw08.SwapChoice', WHERE WHAT IT READS IS OF BULK AT MOST 1048576: true; the input reads as it did. -/
def swapChoiceUptoRow : OpenClaim := { program := "ytocfbafcplhmiaa", sum := "4295c8d991e9b9d5a36d0876fc7bccab7515bb907d34c48edee63da617371495", func := "corrody/corrodylaw08.SwapChoice", spec := "swapChoice", unfollowed := true, recurses := true, apart := false, narrowed := true }
def SwapChoiceUptoSaid : Prop := swapChoiceUptoRow.holds Try.pinned (OpenSpec.upto swapChoiceSpec)

/-- 'corrodylaw08.SwapNames', WHERE WHAT IT READS IS OF BULK AT MOST 1048576: true; the input reads as it did. -/
def swapNamesUptoRow : OpenClaim := { program := "ytocfbafcplhmiaa", sum := "4295c8d991e9b9d5a36d0876fc7bccab7515bb907d34c48edee63da617371495", func := "corrody/corrodylaw08.SwapNames", spec := "swapNames", unfollowed := true, recurses := true, apart := false, narrowed := true }
def SwapNamesUptoSaid : Prop := swapNamesUptoRow.holds Try.pinned (OpenSpec.upto swapNamesSpec)

/-- 'corrodylaw08.SwapRounds', WHERE WHAT IT READS IS OF BULK AT MOST 1048576: true; the input reads as it did. -/
def swapRoundsUptoRow : OpenClaim := { program := "ytocfbafcplhmiaa", sum := "4295c8d991e9b9d5a36d0876fc7bccab7515bb907d34c48edee63da617371495", func := "corrody/corrodylaw08.SwapRounds", spec := "swapRounds", unfollowed := true, recurses := true, apart := false, narrowed := true }
def SwapRoundsUptoSaid : Prop := swapRoundsUptoRow.holds Try.pinned (OpenSpec.upto swapRoundsSpec)

/-- 'corrodylaw08.SwapEqual', WHERE WHAT IT READS IS OF BULK AT MOST 1048576: true; the input reads as it did. -/
def swapEqualUptoRow : OpenClaim := { program := "ytocfbafcplhmiaa", sum := "4295c8d991e9b9d5a36d0876fc7bccab7515bb907d34c48edee63da617371495", func := "corrody/corrodylaw08.SwapEqual", spec := "swapEqual", unfollowed := true, recurses := true, apart := false, narrowed := true }
def SwapEqualUptoSaid : Prop := swapEqualUptoRow.holds Try.pinned (OpenSpec.upto swapEqualSpec)

/-- 'corrodylaw08.SwapHonest', WHERE WHAT IT READS IS OF BULK AT MOST 1048576: true; the input reads as it did. -/
def swapHonestUptoRow : OpenClaim := { program := "ytocfbafcplhmiaa", sum := "4295c8d991e9b9d5a36d0876fc7bccab7515bb907d34c48edee63da617371495", func := "corrody/corrodylaw08.SwapHonest", spec := "swapHonest", unfollowed := true, recurses := true, apart := false, narrowed := true }
def SwapHonestUptoSaid : Prop := swapHonestUptoRow.holds Try.pinned (OpenSpec.upto swapHonestSpec)

/-- 'corrodylaw08.SwapOwn', WHERE WHAT IT READS IS OF BULK AT MOST 1048576: true; the input reads as it did. -/
def swapOwnUptoRow : OpenClaim := { program := "ytocfbafcplhmiaa", sum := "4295c8d991e9b9d5a36d0876fc7bccab7515bb907d34c48edee63da617371495", func := "corrody/corrodylaw08.SwapOwn", spec := "swapOwn", unfollowed := true, recurses := true, apart := false, narrowed := true }
def SwapOwnUptoSaid : Prop := swapOwnUptoRow.holds Try.pinned (OpenSpec.upto swapOwnSpec)

/-- 'corrodylaw08.SwapPareto', WHERE WHAT IT READS IS OF BULK AT MOST 1048576: true; the input reads as it did. -/
def swapParetoUptoRow : OpenClaim := { program := "ytocfbafcplhmiaa", sum := "4295c8d991e9b9d5a36d0876fc7bccab7515bb907d34c48edee63da617371495", func := "corrody/corrodylaw08.SwapPareto", spec := "swapPareto", unfollowed := true, recurses := true, apart := false, narrowed := true }
def SwapParetoUptoSaid : Prop := swapParetoUptoRow.holds Try.pinned (OpenSpec.upto swapParetoSpec)

/-- 'corrodylaw08.SwapCore', WHERE WHAT IT READS IS OF BULK AT MOST 1048576: true; the input reads as it did. -/
def swapCoreUptoRow : OpenClaim := { program := "ytocfbafcplhmiaa", sum := "4295c8d991e9b9d5a36d0876fc7bccab7515bb907d34c48edee63da617371495", func := "corrody/corrodylaw08.SwapCore", spec := "swapCore", unfollowed := true, recurses := true, apart := false, narrowed := true }
def SwapCoreUptoSaid : Prop := swapCoreUptoRow.holds Try.pinned (OpenSpec.upto swapCoreSpec)

/-- 'corrodylaw08.SwapLies', WHERE WHAT IT READS IS OF BULK AT MOST 1048576: true; the input reads as it did. -/
def swapLiesUptoRow : OpenClaim := { program := "ytocfbafcplhmiaa", sum := "4295c8d991e9b9d5a36d0876fc7bccab7515bb907d34c48edee63da617371495", func := "corrody/corrodylaw08.SwapLies", spec := "swapLies", unfollowed := true, recurses := true, apart := false, narrowed := true }
def SwapLiesUptoSaid : Prop := swapLiesUptoRow.holds Try.pinned (OpenSpec.upto swapLiesSpec)

/-- 'corrodylaw08.SwapGiven', WHERE WHAT IT READS IS OF BULK AT MOST 1048576: true; the input reads as it did. -/
def swapGivenUptoRow : OpenClaim := { program := "ytocfbafcplhmiaa", sum := "4295c8d991e9b9d5a36d0876fc7bccab7515bb907d34c48edee63da617371495", func := "corrody/corrodylaw08.SwapGiven", spec := "swapGiven", unfollowed := true, recurses := true, apart := false, narrowed := true }
def SwapGivenUptoSaid : Prop := swapGivenUptoRow.holds Try.pinned (OpenSpec.upto swapGivenSpec)

/-- 'corrodylaw08.SwapChances', WHERE WHAT IT READS IS OF BULK AT MOST 1048576: true; the input reads as it did. -/
def swapChancesUptoRow : OpenClaim := { program := "ytocfbafcplhmiaa", sum := "4295c8d991e9b9d5a36d0876fc7bccab7515bb907d34c48edee63da617371495", func := "corrody/corrodylaw08.SwapChances", spec := "swapChances", unfollowed := true, recurses := true, apart := false, narrowed := true }
def SwapChancesUptoSaid : Prop := swapChancesUptoRow.holds Try.pinned (OpenSpec.upto swapChancesSpec)

/-- 'corrodylaw08.SwapBetter', WHERE WHAT IT READS IS OF BULK AT MOST 1048576: true; the input reads as it did. -/
def swapBetterUptoRow : OpenClaim := { program := "ytocfbafcplhmiaa", sum := "4295c8d991e9b9d5a36d0876fc7bccab7515bb907d34c48edee63da617371495", func := "corrody/corrodylaw08.SwapBetter", spec := "swapBetter", unfollowed := true, recurses := true, apart := false, narrowed := true }
def SwapBetterUptoSaid : Prop := swapBetterUptoRow.holds Try.pinned (OpenSpec.upto swapBetterSpec)

/-- 'corrodylaw08.SwapObjects', WHERE WHAT IT READS IS OF BULK AT MOST 1048576: true; the input reads as it did. -/
def swapObjectsUptoRow : OpenClaim := { program := "ytocfbafcplhmiaa", sum := "4295c8d991e9b9d5a36d0876fc7bccab7515bb907d34c48edee63da617371495", func := "corrody/corrodylaw08.SwapObjects", spec := "swapObjects", unfollowed := true, recurses := true, apart := false, narrowed := true }
def SwapObjectsUptoSaid : Prop := swapObjectsUptoRow.holds Try.pinned (OpenSpec.upto swapObjectsSpec)

/-- 'corrodylaw08.SwapTrades', WHERE WHAT IT READS IS OF BULK AT MOST 1048576: true; the input reads as it did. -/
def swapTradesUptoRow : OpenClaim := { program := "ytocfbafcplhmiaa", sum := "4295c8d991e9b9d5a36d0876fc7bccab7515bb907d34c48edee63da617371495", func := "corrody/corrodylaw08.SwapTrades", spec := "swapTrades", unfollowed := true, recurses := true, apart := false, narrowed := true }
def SwapTradesUptoSaid : Prop := swapTradesUptoRow.holds Try.pinned (OpenSpec.upto swapTradesSpec)

end Rows
end Go.Proofs.Ytocfbafcplhmiaa
