/-
  No cell of these rows narrows 'for every input' (looked for: loops, veiled, ifaces, maps, wideKeys, modest, calm, conditions, laid).
  DERIVED. THE GIVEN ROWS OF THIS SEAT. 3 by the template 'for every input the law returns true; each argument reads behind the call as it read before'; 0 by the template 'total and deterministic' (their statements: YtghkcdldkbencabTotals.lean).
  GIVEN WITH THE SEED: the statements are not yours to turn. If you find one false, say at which input.
  Laid BY PROGRAM, IN A SANDBOX (cutbox-rows.mjs): the forced cells as the released guide's own fill.sh prints them over the translation 6675b292272f298e… (all of the seat's roots in one cut). By AI agents, Wed Nov 11 2026. No macro, syntax, notation, axiom, sorry.
-/
import Derived.Test.YtghkcdldkbencabChecked
import GoSem.Claim
import GoSem.ClaimJoined
import GoSem.ClaimMapViews
import Derived.JoinedTies
import Derived.KernelRfl
namespace Go.Proofs.Ytghkcdldkbencab
/- THE CELL 'sum', in the pinned program and in every row, IS THE sha256 OF THE DUMP (.gsa) THAT YtghkcdldkbencabProg.lean LOADS. Nothing in Lean hashes anything: it is a label: what it is worth is what the hold of that sum in a sandbox is worth. -/
noncomputable def Try.pinned : Pinned := { name := "ytghkcdldkbencab", sum := "6675b292272f298e6e6f391d5ef5542b0a91be28357ca493f46366f22e82f85f", checked := Try.checked }
namespace Rows
def none {H : Type} : Left H := { results := [], args := [] }

/-- 'corrodylaw01.SplitTwo': WHATEVER THE INPUT: true; the input reads as it did. -/
def splitTwoSpec : ChangeSpec := { name := "splitTwo", fn := fun _ => fun
  | [d] => { results := [.lit (.bool true)], args := [d] }
  | _ => none }
def splitTwoRow : OpenClaim := { program := "ytghkcdldkbencab", sum := "6675b292272f298e6e6f391d5ef5542b0a91be28357ca493f46366f22e82f85f", func := "corrody/corrodylaw01.SplitTwo", spec := "splitTwo", unfollowed := true, recurses := true, apart := false }
def SplitTwoSaid : Prop := splitTwoRow.holds Try.pinned (OpenSpec.ofChange splitTwoSpec)

/-- ITS FALSE NEIGHBOUR: 'it returns false'. Refute it at one input. -/
def splitTwoWrong : ChangeSpec := { name := "splitTwo", fn := fun _ => fun
  | [d] => { results := [.lit (.bool false)], args := [d] }
  | _ => none }
def SplitTwoWrongFalsely : Prop := splitTwoRow.holds Try.pinned (OpenSpec.ofChange splitTwoWrong)

/-- 'corrodylaw01.SplitScaled': WHATEVER THE INPUT: true; the input reads as it did. -/
def splitScaledSpec : ChangeSpec := { name := "splitScaled", fn := fun _ => fun
  | [d1, d2, d3, d4] => { results := [.lit (.bool true)], args := [d1, d2, d3, d4] }
  | _ => none }
def splitScaledRow : OpenClaim := { program := "ytghkcdldkbencab", sum := "6675b292272f298e6e6f391d5ef5542b0a91be28357ca493f46366f22e82f85f", func := "corrody/corrodylaw01.SplitScaled", spec := "splitScaled", unfollowed := true, recurses := true, apart := false }
def SplitScaledSaid : Prop := splitScaledRow.holds Try.pinned (OpenSpec.ofChange splitScaledSpec)

/-- ITS FALSE NEIGHBOUR: 'it returns false'. Refute it at one input. -/
def splitScaledWrong : ChangeSpec := { name := "splitScaled", fn := fun _ => fun
  | [d1, d2, d3, d4] => { results := [.lit (.bool false)], args := [d1, d2, d3, d4] }
  | _ => none }
def SplitScaledWrongFalsely : Prop := splitScaledRow.holds Try.pinned (OpenSpec.ofChange splitScaledWrong)

/-- 'corrodylaw01.SplitLow': WHATEVER THE INPUT: true; the input reads as it did. -/
def splitLowSpec : ChangeSpec := { name := "splitLow", fn := fun _ => fun
  | [d1, d2] => { results := [.lit (.bool true)], args := [d1, d2] }
  | _ => none }
def splitLowRow : OpenClaim := { program := "ytghkcdldkbencab", sum := "6675b292272f298e6e6f391d5ef5542b0a91be28357ca493f46366f22e82f85f", func := "corrody/corrodylaw01.SplitLow", spec := "splitLow", unfollowed := true, recurses := true, apart := false }
def SplitLowSaid : Prop := splitLowRow.holds Try.pinned (OpenSpec.ofChange splitLowSpec)

/-- ITS FALSE NEIGHBOUR: 'it returns false'. Refute it at one input. -/
def splitLowWrong : ChangeSpec := { name := "splitLow", fn := fun _ => fun
  | [d1, d2] => { results := [.lit (.bool false)], args := [d1, d2] }
  | _ => none }
def SplitLowWrongFalsely : Prop := splitLowRow.holds Try.pinned (OpenSpec.ofChange splitLowWrong)

/- THE SECOND FORM. 'bulk': how many values and letters a reading holds, each counted each time it is reached (what is shared counts as often as it is met; a slice's spare places count too). A statement '..UptoSaid' is the law's where the arguments, and the package variables that the reading takes, are together of bulk at most 1048576: NARROWER than '..Said'. Prove '..Said' where nothing that the law and all that it calls make is longer than what came in: it says more and counts as full. Else prove '..UptoSaid'. A law counts once. -/
mutual
def uptoBulk {H : Type} : DataW H → Nat
  | .lit (.string bytes) => bytes.length + 1
  | .lit _ => 1
  | .nil => 1
  | .ptr d => uptoBulk d + 1
  | .slice elems spare => uptoBulkAll elems + uptoBulkAll spare + 1
  | .agg parts => uptoBulkAll parts + 1
  | .iface _ d => uptoBulk d + 1
  | .map entries => uptoBulkEntries entries + 1
  | .held _ => 1
def uptoBulkAll {H : Type} : List (DataW H) → Nat
  | [] => 0
  | d :: r => uptoBulk d + uptoBulkAll r
def uptoBulkEntries {H : Type} : List (Lit × DataW H) → Nat
  | [] => 0
  | x :: r => uptoBulkEntry x + uptoBulkEntries r
def uptoBulkEntry {H : Type} : Lit × DataW H → Nat
  | (.string bytes, d) => bytes.length + uptoBulk d + 1
  | (_, d) => uptoBulk d + 1
 end
def uptoSmall : (H : Type) → List (DataW H) → Bool := fun _ ds => decide (uptoBulkAll ds ≤ 1048576)
def OpenSpec.upto (s : _root_.Go.ChangeSpec) : _root_.Go.OpenSpec := { _root_.Go.OpenSpec.ofChange s with cond := some uptoSmall }

/-- 'corrodylaw01.SplitTwo', WHERE WHAT IT READS IS OF BULK AT MOST 1048576: true; the input reads as it did. -/
def splitTwoUptoRow : OpenClaim := { program := "ytghkcdldkbencab", sum := "6675b292272f298e6e6f391d5ef5542b0a91be28357ca493f46366f22e82f85f", func := "corrody/corrodylaw01.SplitTwo", spec := "splitTwo", unfollowed := true, recurses := true, apart := false, narrowed := true }
def SplitTwoUptoSaid : Prop := splitTwoUptoRow.holds Try.pinned (OpenSpec.upto splitTwoSpec)

/-- 'corrodylaw01.SplitScaled', WHERE WHAT IT READS IS OF BULK AT MOST 1048576: true; the input reads as it did. -/
def splitScaledUptoRow : OpenClaim := { program := "ytghkcdldkbencab", sum := "6675b292272f298e6e6f391d5ef5542b0a91be28357ca493f46366f22e82f85f", func := "corrody/corrodylaw01.SplitScaled", spec := "splitScaled", unfollowed := true, recurses := true, apart := false, narrowed := true }
def SplitScaledUptoSaid : Prop := splitScaledUptoRow.holds Try.pinned (OpenSpec.upto splitScaledSpec)

/-- 'corrodylaw01.SplitLow', WHERE WHAT IT READS IS OF BULK AT MOST 1048576: true; the input reads as it did. -/
def splitLowUptoRow : OpenClaim := { program := "ytghkcdldkbencab", sum := "6675b292272f298e6e6f391d5ef5542b0a91be28357ca493f46366f22e82f85f", func := "corrody/corrodylaw01.SplitLow", spec := "splitLow", unfollowed := true, recurses := true, apart := false, narrowed := true }
def SplitLowUptoSaid : Prop := splitLowUptoRow.holds Try.pinned (OpenSpec.upto splitLowSpec)

end Rows
end Go.Proofs.Ytghkcdldkbencab
