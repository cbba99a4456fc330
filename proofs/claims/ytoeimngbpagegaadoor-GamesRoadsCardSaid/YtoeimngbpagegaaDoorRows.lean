/-
  NARROWER THAN 'FOR EVERY INPUT', by the rows' own cells (each row's printed sentence says how): GamesCore: laid · GamesChecks: laid · GamesShapley: laid · GamesConcave: laid · GamesRoads: laid · GamesObjects: laid · GamesEither: laid · GamesFair: laid · GamesAverage: laid · GamesConvex: laid · GamesSerial: laid · GamesObjecting: laid · GamesNames: laid · GamesTimes: laid · GamesPlus: laid.
  DERIVED. THE GIVEN ROWS OF THIS SEAT. 15 by the template 'for every input the law returns true; each argument reads behind the call as it read before'; 0 by the template 'total and deterministic' (their statements: YtoeimngbpagegaaDoorTotals.lean).
  GIVEN WITH THE SEED: the statements are not yours to turn. If you find one false, say at which input.
  Laid BY PROGRAM, IN A SANDBOX (cutbox-rows.mjs): the forced cells as the released guide's own fill.sh prints them over the translation 9ef23a2c5c2f08f9… (all of the seat's roots in one cut). By AI agents, Wed Nov 11 2026. No macro, syntax, notation, axiom, sorry.
-/
import Derived.Test.YtoeimngbpagegaaDoorChecked
import GoSem.Claim
import GoSem.ClaimJoined
import GoSem.ClaimMapViews
import Derived.JoinedTies
import Derived.KernelRfl
namespace Go.Proofs.YtoeimngbpagegaaDoor
/- THE CELL 'sum', in the pinned program and in every row, IS THE sha256 OF THE DUMP (.gsa) THAT YtoeimngbpagegaaDoorProg.lean LOADS. Nothing in Lean hashes anything: it is a label: what it is worth is what the hold of that sum in a sandbox is worth. -/
noncomputable def Tryd.pinned : Pinned := { name := "ytoeimngbpagegaadoor", sum := "9ef23a2c5c2f08f9955ac227de02406e171d47122022bacbaaef02acb82c2292", checked := Tryd.checked }
namespace Rows
def none {H : Type} : Left H := { results := [], args := [] }

/- WHAT THE LISTED PACKAGE-LEVEL VARIABLES READ AS WHEN THE CALL BEGINS. Each datum BY PROGRAM (the guide's laid-datum.mjs) off the statement by which the dump's own 'gosem.cut.vars' lays the variable. In a bare row this is a premise. The card (YtoeimngbpagegaaDoorCards.lean) ties it to the program's text. -/
def laid_math_bits_deBruijn32tab {H : Type} : DataW H := .agg [.lit (.int .u8 0), .lit (.int .u8 1), .lit (.int .u8 28), .lit (.int .u8 2), .lit (.int .u8 29), .lit (.int .u8 14), .lit (.int .u8 24), .lit (.int .u8 3), .lit (.int .u8 30), .lit (.int .u8 22), .lit (.int .u8 20), .lit (.int .u8 15), .lit (.int .u8 25), .lit (.int .u8 17), .lit (.int .u8 4), .lit (.int .u8 8), .lit (.int .u8 31), .lit (.int .u8 27), .lit (.int .u8 13), .lit (.int .u8 23), .lit (.int .u8 21), .lit (.int .u8 19), .lit (.int .u8 16), .lit (.int .u8 7), .lit (.int .u8 26), .lit (.int .u8 12), .lit (.int .u8 18), .lit (.int .u8 6), .lit (.int .u8 11), .lit (.int .u8 5), .lit (.int .u8 10), .lit (.int .u8 9)]
def laid_math_bits_deBruijn64tab {H : Type} : DataW H := .agg [.lit (.int .u8 0), .lit (.int .u8 1), .lit (.int .u8 56), .lit (.int .u8 2), .lit (.int .u8 57), .lit (.int .u8 49), .lit (.int .u8 28), .lit (.int .u8 3), .lit (.int .u8 61), .lit (.int .u8 58), .lit (.int .u8 42), .lit (.int .u8 50), .lit (.int .u8 38), .lit (.int .u8 29), .lit (.int .u8 17), .lit (.int .u8 4), .lit (.int .u8 62), .lit (.int .u8 47), .lit (.int .u8 59), .lit (.int .u8 36), .lit (.int .u8 45), .lit (.int .u8 43), .lit (.int .u8 51), .lit (.int .u8 22), .lit (.int .u8 53), .lit (.int .u8 39), .lit (.int .u8 33), .lit (.int .u8 30), .lit (.int .u8 24), .lit (.int .u8 18), .lit (.int .u8 12), .lit (.int .u8 5), .lit (.int .u8 63), .lit (.int .u8 55), .lit (.int .u8 48), .lit (.int .u8 27), .lit (.int .u8 60), .lit (.int .u8 41), .lit (.int .u8 37), .lit (.int .u8 16), .lit (.int .u8 46), .lit (.int .u8 35), .lit (.int .u8 44), .lit (.int .u8 21), .lit (.int .u8 52), .lit (.int .u8 32), .lit (.int .u8 23), .lit (.int .u8 11), .lit (.int .u8 54), .lit (.int .u8 26), .lit (.int .u8 40), .lit (.int .u8 15), .lit (.int .u8 34), .lit (.int .u8 20), .lit (.int .u8 31), .lit (.int .u8 10), .lit (.int .u8 25), .lit (.int .u8 14), .lit (.int .u8 19), .lit (.int .u8 9), .lit (.int .u8 13), .lit (.int .u8 8), .lit (.int .u8 7), .lit (.int .u8 6)]

/-- 'corrodylaw07.GamesCore': WHATEVER THE INPUT: true; the input reads as it did. -/
def gamesCoreSpec : ChangeSpec := { name := "gamesCore", fn := fun _ => fun
  | [d] => { results := [.lit (.bool true)], args := [d] }
  | _ => none }
def gamesCoreRow : OpenClaim := { program := "ytoeimngbpagegaadoor", sum := "9ef23a2c5c2f08f9955ac227de02406e171d47122022bacbaaef02acb82c2292", func := "corrody/corrodylaw07.GamesCore", spec := "gamesCore", unfollowed := true, recurses := true, named := ["math/bits.deBruijn32tab", "math/bits.deBruijn64tab"], apart := false, laid := [("math/bits.deBruijn32tab", laid_math_bits_deBruijn32tab), ("math/bits.deBruijn64tab", laid_math_bits_deBruijn64tab)] }
def GamesCoreSaid : Prop := gamesCoreRow.holds Tryd.pinned (OpenSpec.ofChange gamesCoreSpec)

/-- ITS FALSE NEIGHBOUR: 'it returns false'. Refute it at one input. -/
def gamesCoreWrong : ChangeSpec := { name := "gamesCore", fn := fun _ => fun
  | [d] => { results := [.lit (.bool false)], args := [d] }
  | _ => none }
def GamesCoreWrongFalsely : Prop := gamesCoreRow.holds Tryd.pinned (OpenSpec.ofChange gamesCoreWrong)

/-- 'corrodylaw07.GamesChecks': WHATEVER THE INPUT: true; the input reads as it did. -/
def gamesChecksSpec : ChangeSpec := { name := "gamesChecks", fn := fun _ => fun
  | [d1, d2, d3] => { results := [.lit (.bool true)], args := [d1, d2, d3] }
  | _ => none }
def gamesChecksRow : OpenClaim := { program := "ytoeimngbpagegaadoor", sum := "9ef23a2c5c2f08f9955ac227de02406e171d47122022bacbaaef02acb82c2292", func := "corrody/corrodylaw07.GamesChecks", spec := "gamesChecks", unfollowed := true, recurses := true, named := ["math/bits.deBruijn32tab", "math/bits.deBruijn64tab"], apart := false, laid := [("math/bits.deBruijn32tab", laid_math_bits_deBruijn32tab), ("math/bits.deBruijn64tab", laid_math_bits_deBruijn64tab)] }
def GamesChecksSaid : Prop := gamesChecksRow.holds Tryd.pinned (OpenSpec.ofChange gamesChecksSpec)

/-- ITS FALSE NEIGHBOUR: 'it returns false'. Refute it at one input. -/
def gamesChecksWrong : ChangeSpec := { name := "gamesChecks", fn := fun _ => fun
  | [d1, d2, d3] => { results := [.lit (.bool false)], args := [d1, d2, d3] }
  | _ => none }
def GamesChecksWrongFalsely : Prop := gamesChecksRow.holds Tryd.pinned (OpenSpec.ofChange gamesChecksWrong)

/-- 'corrodylaw07.GamesShapley': WHATEVER THE INPUT: true; the input reads as it did. -/
def gamesShapleySpec : ChangeSpec := { name := "gamesShapley", fn := fun _ => fun
  | [d1, d2] => { results := [.lit (.bool true)], args := [d1, d2] }
  | _ => none }
def gamesShapleyRow : OpenClaim := { program := "ytoeimngbpagegaadoor", sum := "9ef23a2c5c2f08f9955ac227de02406e171d47122022bacbaaef02acb82c2292", func := "corrody/corrodylaw07.GamesShapley", spec := "gamesShapley", unfollowed := true, recurses := true, named := ["math/bits.deBruijn32tab", "math/bits.deBruijn64tab"], apart := false, laid := [("math/bits.deBruijn32tab", laid_math_bits_deBruijn32tab), ("math/bits.deBruijn64tab", laid_math_bits_deBruijn64tab)] }
def GamesShapleySaid : Prop := gamesShapleyRow.holds Tryd.pinned (OpenSpec.ofChange gamesShapleySpec)

/-- ITS FALSE NEIGHBOUR: 'it returns false'. Refute it at one input. -/
def gamesShapleyWrong : ChangeSpec := { name := "gamesShapley", fn := fun _ => fun
  | [d1, d2] => { results := [.lit (.bool false)], args := [d1, d2] }
  | _ => none }
def GamesShapleyWrongFalsely : Prop := gamesShapleyRow.holds Tryd.pinned (OpenSpec.ofChange gamesShapleyWrong)

/-- 'corrodylaw07.GamesConcave': WHATEVER THE INPUT: true; the input reads as it did. -/
def gamesConcaveSpec : ChangeSpec := { name := "gamesConcave", fn := fun _ => fun
  | [d] => { results := [.lit (.bool true)], args := [d] }
  | _ => none }
def gamesConcaveRow : OpenClaim := { program := "ytoeimngbpagegaadoor", sum := "9ef23a2c5c2f08f9955ac227de02406e171d47122022bacbaaef02acb82c2292", func := "corrody/corrodylaw07.GamesConcave", spec := "gamesConcave", unfollowed := true, recurses := true, named := ["math/bits.deBruijn32tab", "math/bits.deBruijn64tab"], apart := false, laid := [("math/bits.deBruijn32tab", laid_math_bits_deBruijn32tab), ("math/bits.deBruijn64tab", laid_math_bits_deBruijn64tab)] }
def GamesConcaveSaid : Prop := gamesConcaveRow.holds Tryd.pinned (OpenSpec.ofChange gamesConcaveSpec)

/-- ITS FALSE NEIGHBOUR: 'it returns false'. Refute it at one input. -/
def gamesConcaveWrong : ChangeSpec := { name := "gamesConcave", fn := fun _ => fun
  | [d] => { results := [.lit (.bool false)], args := [d] }
  | _ => none }
def GamesConcaveWrongFalsely : Prop := gamesConcaveRow.holds Tryd.pinned (OpenSpec.ofChange gamesConcaveWrong)

/-- 'corrodylaw07.GamesRoads': WHATEVER THE INPUT: true; the input reads as it did. -/
def gamesRoadsSpec : ChangeSpec := { name := "gamesRoads", fn := fun _ => fun
  | [d] => { results := [.lit (.bool true)], args := [d] }
  | _ => none }
def gamesRoadsRow : OpenClaim := { program := "ytoeimngbpagegaadoor", sum := "9ef23a2c5c2f08f9955ac227de02406e171d47122022bacbaaef02acb82c2292", func := "corrody/corrodylaw07.GamesRoads", spec := "gamesRoads", unfollowed := true, recurses := true, named := ["math/bits.deBruijn32tab", "math/bits.deBruijn64tab"], apart := false, laid := [("math/bits.deBruijn32tab", laid_math_bits_deBruijn32tab), ("math/bits.deBruijn64tab", laid_math_bits_deBruijn64tab)] }
def GamesRoadsSaid : Prop := gamesRoadsRow.holds Tryd.pinned (OpenSpec.ofChange gamesRoadsSpec)

/-- ITS FALSE NEIGHBOUR: 'it returns false'. Refute it at one input. -/
def gamesRoadsWrong : ChangeSpec := { name := "gamesRoads", fn := fun _ => fun
  | [d] => { results := [.lit (.bool false)], args := [d] }
  | _ => none }
def GamesRoadsWrongFalsely : Prop := gamesRoadsRow.holds Tryd.pinned (OpenSpec.ofChange gamesRoadsWrong)

/-- 'corrodylaw07.GamesObjects': WHATEVER THE INPUT: true; the input reads as it did. -/
def gamesObjectsSpec : ChangeSpec := { name := "gamesObjects", fn := fun _ => fun
  | [d1, d2] => { results := [.lit (.bool true)], args := [d1, d2] }
  | _ => none }
def gamesObjectsRow : OpenClaim := { program := "ytoeimngbpagegaadoor", sum := "9ef23a2c5c2f08f9955ac227de02406e171d47122022bacbaaef02acb82c2292", func := "corrody/corrodylaw07.GamesObjects", spec := "gamesObjects", unfollowed := true, recurses := true, named := ["math/bits.deBruijn32tab", "math/bits.deBruijn64tab"], apart := false, laid := [("math/bits.deBruijn32tab", laid_math_bits_deBruijn32tab), ("math/bits.deBruijn64tab", laid_math_bits_deBruijn64tab)] }
def GamesObjectsSaid : Prop := gamesObjectsRow.holds Tryd.pinned (OpenSpec.ofChange gamesObjectsSpec)

/-- ITS FALSE NEIGHBOUR: 'it returns false'. Refute it at one input. -/
def gamesObjectsWrong : ChangeSpec := { name := "gamesObjects", fn := fun _ => fun
  | [d1, d2] => { results := [.lit (.bool false)], args := [d1, d2] }
  | _ => none }
def GamesObjectsWrongFalsely : Prop := gamesObjectsRow.holds Tryd.pinned (OpenSpec.ofChange gamesObjectsWrong)

/-- 'corrodylaw07.GamesEither': WHATEVER THE INPUT: true; the input reads as it did. -/
def gamesEitherSpec : ChangeSpec := { name := "gamesEither", fn := fun _ => fun
  | [d1, d2, d3] => { results := [.lit (.bool true)], args := [d1, d2, d3] }
  | _ => none }
def gamesEitherRow : OpenClaim := { program := "ytoeimngbpagegaadoor", sum := "9ef23a2c5c2f08f9955ac227de02406e171d47122022bacbaaef02acb82c2292", func := "corrody/corrodylaw07.GamesEither", spec := "gamesEither", unfollowed := true, recurses := true, named := ["math/bits.deBruijn32tab", "math/bits.deBruijn64tab"], apart := false, laid := [("math/bits.deBruijn32tab", laid_math_bits_deBruijn32tab), ("math/bits.deBruijn64tab", laid_math_bits_deBruijn64tab)] }
def GamesEitherSaid : Prop := gamesEitherRow.holds Tryd.pinned (OpenSpec.ofChange gamesEitherSpec)

/-- ITS FALSE NEIGHBOUR: 'it returns false'. Refute it at one input. -/
def gamesEitherWrong : ChangeSpec := { name := "gamesEither", fn := fun _ => fun
  | [d1, d2, d3] => { results := [.lit (.bool false)], args := [d1, d2, d3] }
  | _ => none }
def GamesEitherWrongFalsely : Prop := gamesEitherRow.holds Tryd.pinned (OpenSpec.ofChange gamesEitherWrong)

/-- 'corrodylaw07.GamesFair': WHATEVER THE INPUT: true; the input reads as it did. -/
def gamesFairSpec : ChangeSpec := { name := "gamesFair", fn := fun _ => fun
  | [d1, d2] => { results := [.lit (.bool true)], args := [d1, d2] }
  | _ => none }
def gamesFairRow : OpenClaim := { program := "ytoeimngbpagegaadoor", sum := "9ef23a2c5c2f08f9955ac227de02406e171d47122022bacbaaef02acb82c2292", func := "corrody/corrodylaw07.GamesFair", spec := "gamesFair", unfollowed := true, recurses := true, named := ["math/bits.deBruijn32tab", "math/bits.deBruijn64tab"], apart := false, laid := [("math/bits.deBruijn32tab", laid_math_bits_deBruijn32tab), ("math/bits.deBruijn64tab", laid_math_bits_deBruijn64tab)] }
def GamesFairSaid : Prop := gamesFairRow.holds Tryd.pinned (OpenSpec.ofChange gamesFairSpec)

/-- ITS FALSE NEIGHBOUR: 'it returns false'. Refute it at one input. -/
def gamesFairWrong : ChangeSpec := { name := "gamesFair", fn := fun _ => fun
  | [d1, d2] => { results := [.lit (.bool false)], args := [d1, d2] }
  | _ => none }
def GamesFairWrongFalsely : Prop := gamesFairRow.holds Tryd.pinned (OpenSpec.ofChange gamesFairWrong)

/-- 'corrodylaw07.GamesAverage': WHATEVER THE INPUT: true; the input reads as it did. -/
def gamesAverageSpec : ChangeSpec := { name := "gamesAverage", fn := fun _ => fun
  | [d] => { results := [.lit (.bool true)], args := [d] }
  | _ => none }
def gamesAverageRow : OpenClaim := { program := "ytoeimngbpagegaadoor", sum := "9ef23a2c5c2f08f9955ac227de02406e171d47122022bacbaaef02acb82c2292", func := "corrody/corrodylaw07.GamesAverage", spec := "gamesAverage", unfollowed := true, recurses := true, named := ["math/bits.deBruijn32tab", "math/bits.deBruijn64tab"], apart := false, laid := [("math/bits.deBruijn32tab", laid_math_bits_deBruijn32tab), ("math/bits.deBruijn64tab", laid_math_bits_deBruijn64tab)] }
def GamesAverageSaid : Prop := gamesAverageRow.holds Tryd.pinned (OpenSpec.ofChange gamesAverageSpec)

/-- ITS FALSE NEIGHBOUR: 'it returns false'. Refute it at one input. -/
def gamesAverageWrong : ChangeSpec := { name := "gamesAverage", fn := fun _ => fun
  | [d] => { results := [.lit (.bool false)], args := [d] }
  | _ => none }
def GamesAverageWrongFalsely : Prop := gamesAverageRow.holds Tryd.pinned (OpenSpec.ofChange gamesAverageWrong)

/-- 'corrodylaw07.GamesConvex': WHATEVER THE INPUT: true; the input reads as it did. -/
def gamesConvexSpec : ChangeSpec := { name := "gamesConvex", fn := fun _ => fun
  | [d1, d2] => { results := [.lit (.bool true)], args := [d1, d2] }
  | _ => none }
def gamesConvexRow : OpenClaim := { program := "ytoeimngbpagegaadoor", sum := "9ef23a2c5c2f08f9955ac227de02406e171d47122022bacbaaef02acb82c2292", func := "corrody/corrodylaw07.GamesConvex", spec := "gamesConvex", unfollowed := true, recurses := true, named := ["math/bits.deBruijn32tab", "math/bits.deBruijn64tab"], apart := false, laid := [("math/bits.deBruijn32tab", laid_math_bits_deBruijn32tab), ("math/bits.deBruijn64tab", laid_math_bits_deBruijn64tab)] }
def GamesConvexSaid : Prop := gamesConvexRow.holds Tryd.pinned (OpenSpec.ofChange gamesConvexSpec)

/-- ITS FALSE NEIGHBOUR: 'it returns false'. Refute it at one input. -/
def gamesConvexWrong : ChangeSpec := { name := "gamesConvex", fn := fun _ => fun
  | [d1, d2] => { results := [.lit (.bool false)], args := [d1, d2] }
  | _ => none }
def GamesConvexWrongFalsely : Prop := gamesConvexRow.holds Tryd.pinned (OpenSpec.ofChange gamesConvexWrong)

/-- 'corrodylaw07.GamesSerial': WHATEVER THE INPUT: true; the input reads as it did. -/
def gamesSerialSpec : ChangeSpec := { name := "gamesSerial", fn := fun _ => fun
  | [d] => { results := [.lit (.bool true)], args := [d] }
  | _ => none }
def gamesSerialRow : OpenClaim := { program := "ytoeimngbpagegaadoor", sum := "9ef23a2c5c2f08f9955ac227de02406e171d47122022bacbaaef02acb82c2292", func := "corrody/corrodylaw07.GamesSerial", spec := "gamesSerial", unfollowed := true, recurses := true, named := ["math/bits.deBruijn32tab", "math/bits.deBruijn64tab"], apart := false, laid := [("math/bits.deBruijn32tab", laid_math_bits_deBruijn32tab), ("math/bits.deBruijn64tab", laid_math_bits_deBruijn64tab)] }
def GamesSerialSaid : Prop := gamesSerialRow.holds Tryd.pinned (OpenSpec.ofChange gamesSerialSpec)

/-- ITS FALSE NEIGHBOUR: 'it returns false'. Refute it at one input. -/
def gamesSerialWrong : ChangeSpec := { name := "gamesSerial", fn := fun _ => fun
  | [d] => { results := [.lit (.bool false)], args := [d] }
  | _ => none }
def GamesSerialWrongFalsely : Prop := gamesSerialRow.holds Tryd.pinned (OpenSpec.ofChange gamesSerialWrong)

/-- 'corrodylaw07.GamesObjecting': WHATEVER THE INPUT: true; the input reads as it did. -/
def gamesObjectingSpec : ChangeSpec := { name := "gamesObjecting", fn := fun _ => fun
  | [d1, d2] => { results := [.lit (.bool true)], args := [d1, d2] }
  | _ => none }
def gamesObjectingRow : OpenClaim := { program := "ytoeimngbpagegaadoor", sum := "9ef23a2c5c2f08f9955ac227de02406e171d47122022bacbaaef02acb82c2292", func := "corrody/corrodylaw07.GamesObjecting", spec := "gamesObjecting", unfollowed := true, recurses := true, named := ["math/bits.deBruijn32tab", "math/bits.deBruijn64tab"], apart := false, laid := [("math/bits.deBruijn32tab", laid_math_bits_deBruijn32tab), ("math/bits.deBruijn64tab", laid_math_bits_deBruijn64tab)] }
def GamesObjectingSaid : Prop := gamesObjectingRow.holds Tryd.pinned (OpenSpec.ofChange gamesObjectingSpec)

/-- ITS FALSE NEIGHBOUR: 'it returns false'. Refute it at one input. -/
def gamesObjectingWrong : ChangeSpec := { name := "gamesObjecting", fn := fun _ => fun
  | [d1, d2] => { results := [.lit (.bool false)], args := [d1, d2] }
  | _ => none }
def GamesObjectingWrongFalsely : Prop := gamesObjectingRow.holds Tryd.pinned (OpenSpec.ofChange gamesObjectingWrong)

/-- 'corrodylaw07.GamesNames': WHATEVER THE INPUT: true; the input reads as it did. -/
def gamesNamesSpec : ChangeSpec := { name := "gamesNames", fn := fun _ => fun
  | [d1, d2] => { results := [.lit (.bool true)], args := [d1, d2] }
  | _ => none }
def gamesNamesRow : OpenClaim := { program := "ytoeimngbpagegaadoor", sum := "9ef23a2c5c2f08f9955ac227de02406e171d47122022bacbaaef02acb82c2292", func := "corrody/corrodylaw07.GamesNames", spec := "gamesNames", unfollowed := true, recurses := true, named := ["math/bits.deBruijn32tab", "math/bits.deBruijn64tab"], apart := false, laid := [("math/bits.deBruijn32tab", laid_math_bits_deBruijn32tab), ("math/bits.deBruijn64tab", laid_math_bits_deBruijn64tab)] }
def GamesNamesSaid : Prop := gamesNamesRow.holds Tryd.pinned (OpenSpec.ofChange gamesNamesSpec)

/-- ITS FALSE NEIGHBOUR: 'it returns false'. Refute it at one input. -/
def gamesNamesWrong : ChangeSpec := { name := "gamesNames", fn := fun _ => fun
  | [d1, d2] => { results := [.lit (.bool false)], args := [d1, d2] }
  | _ => none }
def GamesNamesWrongFalsely : Prop := gamesNamesRow.holds Tryd.pinned (OpenSpec.ofChange gamesNamesWrong)

/-- 'corrodylaw07.GamesTimes': WHATEVER THE INPUT: true; the input reads as it did. -/
def gamesTimesSpec : ChangeSpec := { name := "gamesTimes", fn := fun _ => fun
  | [d1, d2] => { results := [.lit (.bool true)], args := [d1, d2] }
  | _ => none }
def gamesTimesRow : OpenClaim := { program := "ytoeimngbpagegaadoor", sum := "9ef23a2c5c2f08f9955ac227de02406e171d47122022bacbaaef02acb82c2292", func := "corrody/corrodylaw07.GamesTimes", spec := "gamesTimes", unfollowed := true, recurses := true, named := ["math/bits.deBruijn32tab", "math/bits.deBruijn64tab"], apart := false, laid := [("math/bits.deBruijn32tab", laid_math_bits_deBruijn32tab), ("math/bits.deBruijn64tab", laid_math_bits_deBruijn64tab)] }
def GamesTimesSaid : Prop := gamesTimesRow.holds Tryd.pinned (OpenSpec.ofChange gamesTimesSpec)

/-- ITS FALSE NEIGHBOUR: 'it returns false'. Refute it at one input. -/
def gamesTimesWrong : ChangeSpec := { name := "gamesTimes", fn := fun _ => fun
  | [d1, d2] => { results := [.lit (.bool false)], args := [d1, d2] }
  | _ => none }
def GamesTimesWrongFalsely : Prop := gamesTimesRow.holds Tryd.pinned (OpenSpec.ofChange gamesTimesWrong)

/-- 'corrodylaw07.GamesPlus': WHATEVER THE INPUT: true; the input reads as it did. -/
def gamesPlusSpec : ChangeSpec := { name := "gamesPlus", fn := fun _ => fun
  | [d1, d2] => { results := [.lit (.bool true)], args := [d1, d2] }
  | _ => none }
def gamesPlusRow : OpenClaim := { program := "ytoeimngbpagegaadoor", sum := "9ef23a2c5c2f08f9955ac227de02406e171d47122022bacbaaef02acb82c2292", func := "corrody/corrodylaw07.GamesPlus", spec := "gamesPlus", unfollowed := true, recurses := true, named := ["math/bits.deBruijn32tab", "math/bits.deBruijn64tab"], apart := false, laid := [("math/bits.deBruijn32tab", laid_math_bits_deBruijn32tab), ("math/bits.deBruijn64tab", laid_math_bits_deBruijn64tab)] }
def GamesPlusSaid : Prop := gamesPlusRow.holds Tryd.pinned (OpenSpec.ofChange gamesPlusSpec)

/-- ITS FALSE NEIGHBOUR: 'it returns false'. Refute it at one input. -/
def gamesPlusWrong : ChangeSpec := { name := "gamesPlus", fn := fun _ => fun
  | [d1, d2] => { results := [.lit (.bool false)], args := [d1, d2] }
  | _ => none }
def GamesPlusWrongFalsely : Prop := gamesPlusRow.holds Tryd.pinned (OpenSpec.ofChange gamesPlusWrong)

/- THE SECOND FORM. 'bulk': how many values and letters a reading holds, each counted each time it is reached (what is shared counts as often as it is met; a slice's spare places count too). A statement '..UptoSaid' is the law's where the arguments, and the package variables that the reading takes, are together of bulk at most 1048576: NARROWER than '..Said'. Prove '..Said' where nothing that the law and all that it calls make is longer than what came in: it says more and counts as full. Else prove '..UptoSaid'. A law counts once. -/
mutual
def uptoBulk {H : Type} : DataW H → Nat
  | .lit (.string bytes) => bytes.length + 1
  | .lit _ => 1
  | .nil => 1
  | .ptr d => uptoBulk d + 1
  | .slice elems spare => uptoBulkAll elems + uptoBulkAll spare + 1
  | .agg parts => uptoBulkAll parts + 1
  | .iface _ d => uptoBulk d + 1
  | .map entries => uptoBulkEntries entries + 1
  | .held _ => 1
def uptoBulkAll {H : Type} : List (DataW H) → Nat
  | [] => 0
  | d :: r => uptoBulk d + uptoBulkAll r
def uptoBulkEntries {H : Type} : List (Lit × DataW H) → Nat
  | [] => 0
  | x :: r => uptoBulkEntry x + uptoBulkEntries r
def uptoBulkEntry {H : Type} : Lit × DataW H → Nat
  | (.string bytes, d) => bytes.length + uptoBulk d + 1
  | (_, d) => uptoBulk d + 1
 end
def uptoSmall : (H : Type) → List (DataW H) → Bool := fun _ ds => decide (uptoBulkAll ds ≤ 1048576)
def OpenSpec.upto (s : _root_.Go.ChangeSpec) : _root_.Go.OpenSpec := { _root_.Go.OpenSpec.ofChange s with cond := some uptoSmall }

/-- 'corrodylaw07.GamesCore', WHERE WHAT IT READS IS OF BULK AT MOST 1048576: true; the input reads as it did. -/
def gamesCoreUptoRow : OpenClaim := { program := "ytoeimngbpagegaadoor", sum := "9ef23a2c5c2f08f9955ac227de02406e171d47122022bacbaaef02acb82c2292", func := "corrody/corrodylaw07.GamesCore", spec := "gamesCore", unfollowed := true, recurses := true, named := ["math/bits.deBruijn32tab", "math/bits.deBruijn64tab"], apart := false, laid := [("math/bits.deBruijn32tab", laid_math_bits_deBruijn32tab), ("math/bits.deBruijn64tab", laid_math_bits_deBruijn64tab)], narrowed := true }
def GamesCoreUptoSaid : Prop := gamesCoreUptoRow.holds Tryd.pinned (OpenSpec.upto gamesCoreSpec)

/-- 'corrodylaw07.GamesChecks', WHERE WHAT IT READS IS OF BULK AT MOST 1048576: true; the input reads as it did. -/
def gamesChecksUptoRow : OpenClaim := { program := "ytoeimngbpagegaadoor", sum := "9ef23a2c5c2f08f9955ac227de02406e171d47122022bacbaaef02acb82c2292", func := "corrody/corrodylaw07.GamesChecks", spec := "gamesChecks", unfollowed := true, recurses := true, named := ["math/bits.deBruijn32tab", "math/bits.deBruijn64tab"], apart := false, laid := [("math/bits.deBruijn32tab", laid_math_bits_deBruijn32tab), ("math/bits.deBruijn64tab", laid_math_bits_deBruijn64tab)], narrowed := true }
def GamesChecksUptoSaid : Prop := gamesChecksUptoRow.holds Tryd.pinned (OpenSpec.upto gamesChecksSpec)

/-- 'corrodylaw07.GamesShapley', WHERE WHAT IT READS IS OF BULK AT MOST 1048576: true; the input reads as it did. -/
def gamesShapleyUptoRow : OpenClaim := { program := "ytoeimngbpagegaadoor", sum := "9ef23a2c5c2f08f9955ac227de02406e171d47122022bacbaaef02acb82c2292", func := "corrody/corrodylaw07.GamesShapley", spec := "gamesShapley", unfollowed := true, recurses := true, named := ["math/bits.deBruijn32tab", "math/bits.deBruijn64tab"], apart := false, laid := [("math/bits.deBruijn32tab", laid_math_bits_deBruijn32tab), ("math/bits.deBruijn64tab", laid_math_bits_deBruijn64tab)], narrowed := true }
def GamesShapleyUptoSaid : Prop := gamesShapleyUptoRow.holds Tryd.pinned (OpenSpec.upto gamesShapleySpec)

/-- 'corrodylaw07.GamesConcave', WHERE WHAT IT READS IS OF BULK AT MOST 1048576: true; the input reads as it did. -/
def gamesConcaveUptoRow : OpenClaim := { program := "ytoeimngbpagegaadoor", sum := "9ef23a2c5c2f08f9955ac227de02406e171d47122022bacbaaef02acb82c2292", func := "corrody/corrodylaw07.GamesConcave", spec := "gamesConcave", unfollowed := true, recurses := true, named := ["math/bits.deBruijn32tab", "math/bits.deBruijn64tab"], apart := false, laid := [("math/bits.deBruijn32tab", laid_math_bits_deBruijn32tab), ("math/bits.deBruijn64tab", laid_math_bits_deBruijn64tab)], narrowed := true }
def GamesConcaveUptoSaid : Prop := gamesConcaveUptoRow.holds Tryd.pinned (OpenSpec.upto gamesConcaveSpec)

/-- 'corrodylaw07.GamesRoads', WHERE WHAT IT READS IS OF BULK AT MOST 1048576: true; the input reads as it did. -/
def gamesRoadsUptoRow : OpenClaim := { program := "ytoeimngbpagegaadoor", sum := "9ef23a2c5c2f08f9955ac227de02406e171d47122022bacbaaef02acb82c2292", func := "corrody/corrodylaw07.GamesRoads", spec := "gamesRoads", unfollowed := true, recurses := true, named := ["math/bits.deBruijn32tab", "math/bits.deBruijn64tab"], apart := false, laid := [("math/bits.deBruijn32tab", laid_math_bits_deBruijn32tab), ("math/bits.deBruijn64tab", laid_math_bits_deBruijn64tab)], narrowed := true }
def GamesRoadsUptoSaid : Prop := gamesRoadsUptoRow.holds Tryd.pinned (OpenSpec.upto gamesRoadsSpec)

/-- 'corrodylaw07.GamesObjects', WHERE WHAT IT READS IS OF BULK AT MOST 1048576: true; the input reads as it did. -/
def gamesObjectsUptoRow : OpenClaim := { program := "ytoeimngbpagegaadoor", sum := "9ef23a2c5c2f08f9955ac227de02406e171d47122022bacbaaef02acb82c2292", func := "corrody/corrodylaw07.GamesObjects", spec := "gamesObjects", unfollowed := true, recurses := true, named := ["math/bits.deBruijn32tab", "math/bits.deBruijn64tab"], apart := false, laid := [("math/bits.deBruijn32tab", laid_math_bits_deBruijn32tab), ("math/bits.deBruijn64tab", laid_math_bits_deBruijn64tab)], narrowed := true }
def GamesObjectsUptoSaid : Prop := gamesObjectsUptoRow.holds Tryd.pinned (OpenSpec.upto gamesObjectsSpec)

/-- 'corrodylaw07.GamesEither', WHERE WHAT IT READS IS OF BULK AT MOST 1048576: true; the input reads as it did. -/
def gamesEitherUptoRow : OpenClaim := { program := "ytoeimngbpagegaadoor", sum := "9ef23a2c5c2f08f9955ac227de02406e171d47122022bacbaaef02acb82c2292", func := "corrody/corrodylaw07.GamesEither", spec := "gamesEither", unfollowed := true, recurses := true, named := ["math/bits.deBruijn32tab", "math/bits.deBruijn64tab"], apart := false, laid := [("math/bits.deBruijn32tab", laid_math_bits_deBruijn32tab), ("math/bits.deBruijn64tab", laid_math_bits_deBruijn64tab)], narrowed := true }
def GamesEitherUptoSaid : Prop := gamesEitherUptoRow.holds Tryd.pinned (OpenSpec.upto gamesEitherSpec)

/-- 'corrodylaw07.GamesFair', WHERE WHAT IT READS IS OF BULK AT MOST 1048576: true; the input reads as it did. -/
def gamesFairUptoRow : OpenClaim := { program := "ytoeimngbpagegaadoor", sum := "9ef23a2c5c2f08f9955ac227de02406e171d47122022bacbaaef02acb82c2292", func := "corrody/corrodylaw07.GamesFair", spec := "gamesFair", unfollowed := true, recurses := true, named := ["math/bits.deBruijn32tab", "math/bits.deBruijn64tab"], apart := false, laid := [("math/bits.deBruijn32tab", laid_math_bits_deBruijn32tab), ("math/bits.deBruijn64tab", laid_math_bits_deBruijn64tab)], narrowed := true }
def GamesFairUptoSaid : Prop := gamesFairUptoRow.holds Tryd.pinned (OpenSpec.upto gamesFairSpec)

/-- 'corrodylaw07.GamesAverage', WHERE WHAT IT READS IS OF BULK AT MOST 1048576: true; the input reads as it did. -/
def gamesAverageUptoRow : OpenClaim := { program := "ytoeimngbpagegaadoor", sum := "9ef23a2c5c2f08f9955ac227de02406e171d47122022bacbaaef02acb82c2292", func := "corrody/corrodylaw07.GamesAverage", spec := "gamesAverage", unfollowed := true, recurses := true, named := ["math/bits.deBruijn32tab", "math/bits.deBruijn64tab"], apart := false, laid := [("math/bits.deBruijn32tab", laid_math_bits_deBruijn32tab), ("math/bits.deBruijn64tab", laid_math_bits_deBruijn64tab)], narrowed := true }
def GamesAverageUptoSaid : Prop := gamesAverageUptoRow.holds Tryd.pinned (OpenSpec.upto gamesAverageSpec)

/-- 'corrodylaw07.GamesConvex', WHERE WHAT IT READS IS OF BULK AT MOST 1048576: true; the input reads as it did. -/
def gamesConvexUptoRow : OpenClaim := { program := "ytoeimngbpagegaadoor", sum := "9ef23a2c5c2f08f9955ac227de02406e171d47122022bacbaaef02acb82c2292", func := "corrody/corrodylaw07.GamesConvex", spec := "gamesConvex", unfollowed := true, recurses := true, named := ["math/bits.deBruijn32tab", "math/bits.deBruijn64tab"], apart := false, laid := [("math/bits.deBruijn32tab", laid_math_bits_deBruijn32tab), ("math/bits.deBruijn64tab", laid_math_bits_deBruijn64tab)], narrowed := true }
def GamesConvexUptoSaid : Prop := gamesConvexUptoRow.holds Tryd.pinned (OpenSpec.upto gamesConvexSpec)

/-- 'corrodylaw07.GamesSerial', WHERE WHAT IT READS IS OF BULK AT MOST 1048576: true; the input reads as it did. -/
def gamesSerialUptoRow : OpenClaim := { program := "ytoeimngbpagegaadoor", sum := "9ef23a2c5c2f08f9955ac227de02406e171d47122022bacbaaef02acb82c2292", func := "corrody/corrodylaw07.GamesSerial", spec := "gamesSerial", unfollowed := true, recurses := true, named := ["math/bits.deBruijn32tab", "math/bits.deBruijn64tab"], apart := false, laid := [("math/bits.deBruijn32tab", laid_math_bits_deBruijn32tab), ("math/bits.deBruijn64tab", laid_math_bits_deBruijn64tab)], narrowed := true }
def GamesSerialUptoSaid : Prop := gamesSerialUptoRow.holds Tryd.pinned (OpenSpec.upto gamesSerialSpec)

/-- 'corrodylaw07.GamesObjecting', WHERE WHAT IT READS IS OF BULK AT MOST 1048576: true; the input reads as it did. -/
def gamesObjectingUptoRow : OpenClaim := { program := "ytoeimngbpagegaadoor", sum := "9ef23a2c5c2f08f9955ac227de02406e171d47122022bacbaaef02acb82c2292", func := "corrody/corrodylaw07.GamesObjecting", spec := "gamesObjecting", unfollowed := true, recurses := true, named := ["math/bits.deBruijn32tab", "math/bits.deBruijn64tab"], apart := false, laid := [("math/bits.deBruijn32tab", laid_math_bits_deBruijn32tab), ("math/bits.deBruijn64tab", laid_math_bits_deBruijn64tab)], narrowed := true }
def GamesObjectingUptoSaid : Prop := gamesObjectingUptoRow.holds Tryd.pinned (OpenSpec.upto gamesObjectingSpec)

/-- 'corrodylaw07.GamesNames', WHERE WHAT IT READS IS OF BULK AT MOST 1048576: true; the input reads as it did. -/
def gamesNamesUptoRow : OpenClaim := { program := "ytoeimngbpagegaadoor", sum := "9ef23a2c5c2f08f9955ac227de02406e171d47122022bacbaaef02acb82c2292", func := "corrody/corrodylaw07.GamesNames", spec := "gamesNames", unfollowed := true, recurses := true, named := ["math/bits.deBruijn32tab", "math/bits.deBruijn64tab"], apart := false, laid := [("math/bits.deBruijn32tab", laid_math_bits_deBruijn32tab), ("math/bits.deBruijn64tab", laid_math_bits_deBruijn64tab)], narrowed := true }
def GamesNamesUptoSaid : Prop := gamesNamesUptoRow.holds Tryd.pinned (OpenSpec.upto gamesNamesSpec)

/-- 'corrodylaw07.GamesTimes', WHERE WHAT IT READS IS OF BULK AT MOST 1048576: true; the input reads as it did. -/
def gamesTimesUptoRow : OpenClaim := { program := "ytoeimngbpagegaadoor", sum := "9ef23a2c5c2f08f9955ac227de02406e171d47122022bacbaaef02acb82c2292", func := "corrody/corrodylaw07.GamesTimes", spec := "gamesTimes", unfollowed := true, recurses := true, named := ["math/bits.deBruijn32tab", "math/bits.deBruijn64tab"], apart := false, laid := [("math/bits.deBruijn32tab", laid_math_bits_deBruijn32tab), ("math/bits.deBruijn64tab", laid_math_bits_deBruijn64tab)], narrowed := true }
def GamesTimesUptoSaid : Prop := gamesTimesUptoRow.holds Tryd.pinned (OpenSpec.upto gamesTimesSpec)

/-- 'corrodylaw07.GamesPlus', WHERE WHAT IT READS IS OF BULK AT MOST 1048576: true; the input reads as it did. -/
def gamesPlusUptoRow : OpenClaim := { program := "ytoeimngbpagegaadoor", sum := "9ef23a2c5c2f08f9955ac227de02406e171d47122022bacbaaef02acb82c2292", func := "corrody/corrodylaw07.GamesPlus", spec := "gamesPlus", unfollowed := true, recurses := true, named := ["math/bits.deBruijn32tab", "math/bits.deBruijn64tab"], apart := false, laid := [("math/bits.deBruijn32tab", laid_math_bits_deBruijn32tab), ("math/bits.deBruijn64tab", laid_math_bits_deBruijn64tab)], narrowed := true }
def GamesPlusUptoSaid : Prop := gamesPlusUptoRow.holds Tryd.pinned (OpenSpec.upto gamesPlusSpec)

end Rows
end Go.Proofs.YtoeimngbpagegaaDoor
