/-
  No cell of these rows narrows 'for every input' (looked for: loops, veiled, ifaces, maps, wideKeys, modest, calm, conditions, laid).
  DERIVED. THE GIVEN ROWS OF THIS SEAT. 7 by the template 'for every input the law returns true; each argument reads behind the call as it read before'; 0 by the template 'total and deterministic' (their statements: YtnobbklnnkpdfaaTotals.lean).
  GIVEN WITH THE SEED: the statements are not yours to turn. If you find one false, say at which input.
  Laid BY PROGRAM, IN A SANDBOX (cutbox-rows.mjs): the forced cells as the released guide's own fill.sh prints them over the translation 1ee883503fad9dee… (all of the seat's roots in one cut). By AI agents, Wed Nov 11 2026. No macro, syntax, notation, axiom, sorry.
-/
import Derived.Test.YtnobbklnnkpdfaaChecked
import GoSem.Claim
import GoSem.ClaimJoined
import GoSem.ClaimMapViews
import Derived.JoinedTies
import Derived.KernelRfl
namespace Go.Proofs.Ytnobbklnnkpdfaa
/- THE CELL 'sum', in the pinned program and in every row, IS THE sha256 OF THE DUMP (.gsa) THAT YtnobbklnnkpdfaaProg.lean LOADS. Nothing in Lean hashes anything: it is a label: what it is worth is what the hold of that sum in a sandbox is worth. -/
noncomputable def Try.pinned : Pinned := { name := "ytnobbklnnkpdfaa", sum := "1ee883503fad9dee3518d00666b65f6f4b9ec7804170e04ea345732d6e7a553b", checked := Try.checked }
namespace Rows
def none {H : Type} : Left H := { results := [], args := [] }

/-- 'corrodylaw03.VoteLied': WHATEVER THE INPUT: true; the input reads as it did. -/
def voteLiedSpec : ChangeSpec := { name := "voteLied", fn := fun _ => fun
  | [d1, d2] => { results := [.lit (.bool true)], args := [d1, d2] }
  | _ => none }
def voteLiedRow : OpenClaim := { program := "ytnobbklnnkpdfaa", sum := "1ee883503fad9dee3518d00666b65f6f4b9ec7804170e04ea345732d6e7a553b", func := "corrody/corrodylaw03.VoteLied", spec := "voteLied", unfollowed := true, recurses := true, apart := false }
def VoteLiedSaid : Prop := voteLiedRow.holds Try.pinned (OpenSpec.ofChange voteLiedSpec)

/-- ITS FALSE NEIGHBOUR: 'it returns false'. Refute it at one input. -/
def voteLiedWrong : ChangeSpec := { name := "voteLied", fn := fun _ => fun
  | [d1, d2] => { results := [.lit (.bool false)], args := [d1, d2] }
  | _ => none }
def VoteLiedWrongFalsely : Prop := voteLiedRow.holds Try.pinned (OpenSpec.ofChange voteLiedWrong)

/-- 'corrodylaw03.VoteWins': WHATEVER THE INPUT: true; the input reads as it did. -/
def voteWinsSpec : ChangeSpec := { name := "voteWins", fn := fun _ => fun
  | [d1, d2] => { results := [.lit (.bool true)], args := [d1, d2] }
  | _ => none }
def voteWinsRow : OpenClaim := { program := "ytnobbklnnkpdfaa", sum := "1ee883503fad9dee3518d00666b65f6f4b9ec7804170e04ea345732d6e7a553b", func := "corrody/corrodylaw03.VoteWins", spec := "voteWins", unfollowed := true, recurses := true, apart := false }
def VoteWinsSaid : Prop := voteWinsRow.holds Try.pinned (OpenSpec.ofChange voteWinsSpec)

/-- ITS FALSE NEIGHBOUR: 'it returns false'. Refute it at one input. -/
def voteWinsWrong : ChangeSpec := { name := "voteWins", fn := fun _ => fun
  | [d1, d2] => { results := [.lit (.bool false)], args := [d1, d2] }
  | _ => none }
def VoteWinsWrongFalsely : Prop := voteWinsRow.holds Try.pinned (OpenSpec.ofChange voteWinsWrong)

/-- 'corrodylaw03.VotePaths': WHATEVER THE INPUT: true; the input reads as it did. -/
def votePathsSpec : ChangeSpec := { name := "votePaths", fn := fun _ => fun
  | [d1, d2, d3] => { results := [.lit (.bool true)], args := [d1, d2, d3] }
  | _ => none }
def votePathsRow : OpenClaim := { program := "ytnobbklnnkpdfaa", sum := "1ee883503fad9dee3518d00666b65f6f4b9ec7804170e04ea345732d6e7a553b", func := "corrody/corrodylaw03.VotePaths", spec := "votePaths", unfollowed := true, recurses := true, apart := false }
def VotePathsSaid : Prop := votePathsRow.holds Try.pinned (OpenSpec.ofChange votePathsSpec)

/-- ITS FALSE NEIGHBOUR: 'it returns false'. Refute it at one input. -/
def votePathsWrong : ChangeSpec := { name := "votePaths", fn := fun _ => fun
  | [d1, d2, d3] => { results := [.lit (.bool false)], args := [d1, d2, d3] }
  | _ => none }
def VotePathsWrongFalsely : Prop := votePathsRow.holds Try.pinned (OpenSpec.ofChange votePathsWrong)

/-- 'corrodylaw03.VoteWidths': WHATEVER THE INPUT: true; the input reads as it did. -/
def voteWidthsSpec : ChangeSpec := { name := "voteWidths", fn := fun _ => fun
  | [d1, d2, d3] => { results := [.lit (.bool true)], args := [d1, d2, d3] }
  | _ => none }
def voteWidthsRow : OpenClaim := { program := "ytnobbklnnkpdfaa", sum := "1ee883503fad9dee3518d00666b65f6f4b9ec7804170e04ea345732d6e7a553b", func := "corrody/corrodylaw03.VoteWidths", spec := "voteWidths", unfollowed := true, recurses := true, apart := false }
def VoteWidthsSaid : Prop := voteWidthsRow.holds Try.pinned (OpenSpec.ofChange voteWidthsSpec)

/-- ITS FALSE NEIGHBOUR: 'it returns false'. Refute it at one input. -/
def voteWidthsWrong : ChangeSpec := { name := "voteWidths", fn := fun _ => fun
  | [d1, d2, d3] => { results := [.lit (.bool false)], args := [d1, d2, d3] }
  | _ => none }
def VoteWidthsWrongFalsely : Prop := voteWidthsRow.holds Try.pinned (OpenSpec.ofChange voteWidthsWrong)

/-- 'corrodylaw03.VotePeaks': WHATEVER THE INPUT: true; the input reads as it did. -/
def votePeaksSpec : ChangeSpec := { name := "votePeaks", fn := fun _ => fun
  | [d] => { results := [.lit (.bool true)], args := [d] }
  | _ => none }
def votePeaksRow : OpenClaim := { program := "ytnobbklnnkpdfaa", sum := "1ee883503fad9dee3518d00666b65f6f4b9ec7804170e04ea345732d6e7a553b", func := "corrody/corrodylaw03.VotePeaks", spec := "votePeaks", unfollowed := true, recurses := true, apart := false }
def VotePeaksSaid : Prop := votePeaksRow.holds Try.pinned (OpenSpec.ofChange votePeaksSpec)

/-- ITS FALSE NEIGHBOUR: 'it returns false'. Refute it at one input. -/
def votePeaksWrong : ChangeSpec := { name := "votePeaks", fn := fun _ => fun
  | [d] => { results := [.lit (.bool false)], args := [d] }
  | _ => none }
def VotePeaksWrongFalsely : Prop := votePeaksRow.holds Try.pinned (OpenSpec.ofChange votePeaksWrong)

/-- 'corrodylaw03.VoteAxes': WHATEVER THE INPUT: true; the input reads as it did. -/
def voteAxesSpec : ChangeSpec := { name := "voteAxes", fn := fun _ => fun
  | [d] => { results := [.lit (.bool true)], args := [d] }
  | _ => none }
def voteAxesRow : OpenClaim := { program := "ytnobbklnnkpdfaa", sum := "1ee883503fad9dee3518d00666b65f6f4b9ec7804170e04ea345732d6e7a553b", func := "corrody/corrodylaw03.VoteAxes", spec := "voteAxes", unfollowed := true, recurses := true, apart := false }
def VoteAxesSaid : Prop := voteAxesRow.holds Try.pinned (OpenSpec.ofChange voteAxesSpec)

/-- ITS FALSE NEIGHBOUR: 'it returns false'. Refute it at one input. -/
def voteAxesWrong : ChangeSpec := { name := "voteAxes", fn := fun _ => fun
  | [d] => { results := [.lit (.bool false)], args := [d] }
  | _ => none }
def VoteAxesWrongFalsely : Prop := voteAxesRow.holds Try.pinned (OpenSpec.ofChange voteAxesWrong)

/-- 'corrodylaw03.VoteNames': WHATEVER THE INPUT: true; the input reads as it did. -/
def voteNamesSpec : ChangeSpec := { name := "voteNames", fn := fun _ => fun
  | [d1, d2] => { results := [.lit (.bool true)], args := [d1, d2] }
  | _ => none }
def voteNamesRow : OpenClaim := { program := "ytnobbklnnkpdfaa", sum := "1ee883503fad9dee3518d00666b65f6f4b9ec7804170e04ea345732d6e7a553b", func := "corrody/corrodylaw03.VoteNames", spec := "voteNames", unfollowed := true, recurses := true, apart := false }
def VoteNamesSaid : Prop := voteNamesRow.holds Try.pinned (OpenSpec.ofChange voteNamesSpec)

/-- ITS FALSE NEIGHBOUR: 'it returns false'. Refute it at one input. -/
def voteNamesWrong : ChangeSpec := { name := "voteNames", fn := fun _ => fun
  | [d1, d2] => { results := [.lit (.bool false)], args := [d1, d2] }
  | _ => none }
def VoteNamesWrongFalsely : Prop := voteNamesRow.holds Try.pinned (OpenSpec.ofChange voteNamesWrong)

/- THE SECOND FORM. 'bulk': how many values and letters a reading holds, each counted each time it is reached (what is shared counts as often as it is met; a slice's spare places count too). A statement '..UptoSaid' is the law's where the arguments, and the package variables that the reading takes, are together of bulk at most 1048576: NARROWER than '..Said'. Prove '..Said' where nothing that the law and all that it calls make is longer than what came in: it says more and counts as full. Else prove '..UptoSaid'. A law counts once. -/
mutual
def uptoBulk {H : Type} : DataW H → Nat
  | .lit (.string bytes) => bytes.length + 1
  | .lit _ => 1
  | .nil => 1
  | .ptr d => uptoBulk d + 1
  | .slice elems spare => uptoBulkAll elems + uptoBulkAll spare + 1
  | .agg parts => uptoBulkAll parts + 1
  | .iface _ d => uptoBulk d + 1
  | .map entries => uptoBulkEntries entries + 1
  | .held _ => 1
def uptoBulkAll {H : Type} : List (DataW H) → Nat
  | [] => 0
  | d :: r => uptoBulk d + uptoBulkAll r
def uptoBulkEntries {H : Type} : List (Lit × DataW H) → Nat
  | [] => 0
  | x :: r => uptoBulkEntry x + uptoBulkEntries r
def uptoBulkEntry {H : Type} : Lit × DataW H → Nat
  | (.string bytes, d) => bytes.length + uptoBulk d + 1
  | (_, d) => uptoBulk d + 1
 end
def uptoSmall : (H : Type) → List (DataW H) → Bool := fun _ ds => decide (uptoBulkAll ds ≤ 1048576)
def OpenSpec.upto (s : _root_.Go.ChangeSpec) : _root_.Go.OpenSpec := { _root_.Go.OpenSpec.ofChange s with cond := some uptoSmall }

/-- 'corrodylaw03.VoteLied', WHERE WHAT IT READS IS OF BULK AT MOST 1048576: true; the input reads as it did. -/
def voteLiedUptoRow : OpenClaim := { program := "ytnobbklnnkpdfaa", sum := "1ee883503fad9dee3518d00666b65f6f4b9ec7804170e04ea345732d6e7a553b", func := "corrody/corrodylaw03.VoteLied", spec := "voteLied", unfollowed := true, recurses := true, apart := false, narrowed := true }
def VoteLiedUptoSaid : Prop := voteLiedUptoRow.holds Try.pinned (OpenSpec.upto voteLiedSpec)

/-- 'corrodylaw03.VoteWins', WHERE WHAT IT READS IS OF BULK AT MOST 1048576: true; the input reads as it did. -/
def voteWinsUptoRow : OpenClaim := { program := "ytnobbklnnkpdfaa", sum := "1ee883503fad9dee3518d00666b65f6f4b9ec7804170e04ea345732d6e7a553b", func := "corrody/corrodylaw03.VoteWins", spec := "voteWins", unfollowed := true, recurses := true, apart := false, narrowed := true }
def VoteWinsUptoSaid : Prop := voteWinsUptoRow.holds Try.pinned (OpenSpec.upto voteWinsSpec)

/-- 'corrodylaw03.VotePaths', WHERE WHAT IT READS IS OF BULK AT MOST 1048576: true; the input reads as it did. -/
def votePathsUptoRow : OpenClaim := { program := "ytnobbklnnkpdfaa", sum := "1ee883503fad9dee3518d00666b65f6f4b9ec7804170e04ea345732d6e7a553b", func := "corrody/corrodylaw03.VotePaths", spec := "votePaths", unfollowed := true, recurses := true, apart := false, narrowed := true }
def VotePathsUptoSaid : Prop := votePathsUptoRow.holds Try.pinned (OpenSpec.upto votePathsSpec)

/-- 'corrodylaw03.VoteWidths', WHERE WHAT IT READS IS OF BULK AT MOST 1048576: true; the input reads as it did. -/
def voteWidthsUptoRow : OpenClaim := { program := "ytnobbklnnkpdfaa", sum := "1ee883503fad9dee3518d00666b65f6f4b9ec7804170e04ea345732d6e7a553b", func := "corrody/corrodylaw03.VoteWidths", spec := "voteWidths", unfollowed := true, recurses := true, apart := false, narrowed := true }
def VoteWidthsUptoSaid : Prop := voteWidthsUptoRow.holds Try.pinned (OpenSpec.upto voteWidthsSpec)

/-- 'corrodylaw03.VotePeaks', WHERE WHAT IT READS IS OF BULK AT MOST 1048576: true; the input reads as it did. -/
def votePeaksUptoRow : OpenClaim := { program := "ytnobbklnnkpdfaa", sum := "1ee883503fad9dee3518d00666b65f6f4b9ec7804170e04ea345732d6e7a553b", func := "corrody/corrodylaw03.VotePeaks", spec := "votePeaks", unfollowed := true, recurses := true, apart := false, narrowed := true }
def VotePeaksUptoSaid : Prop := votePeaksUptoRow.holds Try.pinned (OpenSpec.upto votePeaksSpec)

/-- 'corrodylaw03.VoteAxes', WHERE WHAT IT READS IS OF BULK AT MOST 1048576: true; the input reads as it did. -/
def voteAxesUptoRow : OpenClaim := { program := "ytnobbklnnkpdfaa", sum := "1ee883503fad9dee3518d00666b65f6f4b9ec7804170e04ea345732d6e7a553b", func := "corrody/corrodylaw03.VoteAxes", spec := "voteAxes", unfollowed := true, recurses := true, apart := false, narrowed := true }
def VoteAxesUptoSaid : Prop := voteAxesUptoRow.holds Try.pinned (OpenSpec.upto voteAxesSpec)

/-- 'corrodylaw03.VoteNames', WHERE WHAT IT READS IS OF BULK AT MOST 1048576: true; the input reads as it did. -/
def voteNamesUptoRow : OpenClaim := { program := "ytnobbklnnkpdfaa", sum := "1ee883503fad9dee3518d00666b65f6f4b9ec7804170e04ea345732d6e7a553b", func := "corrody/corrodylaw03.VoteNames", spec := "voteNames", unfollowed := true, recurses := true, apart := false, narrowed := true }
def VoteNamesUptoSaid : Prop := voteNamesUptoRow.holds Try.pinned (OpenSpec.upto voteNamesSpec)

end Rows
end Go.Proofs.Ytnobbklnnkpdfaa
