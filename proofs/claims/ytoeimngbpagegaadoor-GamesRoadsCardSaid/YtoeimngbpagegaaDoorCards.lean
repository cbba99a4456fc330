/-
  DERIVED. GIVEN WITH THE SEED: THE CARDS: each row of YtoeimngbpagegaaDoorRows.lean that lists a variable, with what it lists TIED to the program's text (the seventh form; the later family's looks); each row that meets fmt, with fmt's text TOLD by the authors' own Lean function (tested against real Go, not proved from fmt's source: count such statements apart). THE CARD IS WHAT COUNTS. Prove the row's statement (the work); the ties are given (YtoeimngbpagegaaDoorTie.lean); close each card by the builder's one call (the guide's Derived/Test/ToyasCard.lean, 'card_holds'). Laid BY PROGRAM, IN A SANDBOX (cutbox-door.mjs). By AI agents, Wed Nov 11 2026. No macro, syntax, notation, axiom, sorry.
-/
import Derived.Test.YtoeimngbpagegaaDoorRows
import GoSem.ClaimSeven
namespace Go.Proofs.YtoeimngbpagegaaDoor
namespace Rows

/-- THE TIED CARD OF 'corrodylaw07.GamesCore'. -/
def gamesCoreCard : Claim7 := { stood := { row := gamesCoreRow, standIns := [], harness := (true, "60390741db25c97f8ca118d7794315f5bf25dce052707f76e5a3c945a38a89ef"), looks := false }, kinds := [], alts := [], laidByText := true, laidKinds := [.data, .data], laidTests := true, laidLooks := .later }
def GamesCoreCardSaid : Prop := Claim7.holds Tryd.pinned (.plain (OpenSpec.ofChange gamesCoreSpec)) gamesCoreCard

/-- THE TIED CARD OF 'corrodylaw07.GamesChecks'. -/
def gamesChecksCard : Claim7 := { stood := { row := gamesChecksRow, standIns := [], harness := (true, "60390741db25c97f8ca118d7794315f5bf25dce052707f76e5a3c945a38a89ef"), looks := false }, kinds := [], alts := [], laidByText := true, laidKinds := [.data, .data], laidTests := true, laidLooks := .later }
def GamesChecksCardSaid : Prop := Claim7.holds Tryd.pinned (.plain (OpenSpec.ofChange gamesChecksSpec)) gamesChecksCard

/-- THE TIED CARD OF 'corrodylaw07.GamesShapley'. -/
def gamesShapleyCard : Claim7 := { stood := { row := gamesShapleyRow, standIns := [], harness := (true, "60390741db25c97f8ca118d7794315f5bf25dce052707f76e5a3c945a38a89ef"), looks := false }, kinds := [], alts := [], laidByText := true, laidKinds := [.data, .data], laidTests := true, laidLooks := .later }
def GamesShapleyCardSaid : Prop := Claim7.holds Tryd.pinned (.plain (OpenSpec.ofChange gamesShapleySpec)) gamesShapleyCard

/-- THE TIED CARD OF 'corrodylaw07.GamesConcave'. -/
def gamesConcaveCard : Claim7 := { stood := { row := gamesConcaveRow, standIns := [], harness := (true, "60390741db25c97f8ca118d7794315f5bf25dce052707f76e5a3c945a38a89ef"), looks := false }, kinds := [], alts := [], laidByText := true, laidKinds := [.data, .data], laidTests := true, laidLooks := .later }
def GamesConcaveCardSaid : Prop := Claim7.holds Tryd.pinned (.plain (OpenSpec.ofChange gamesConcaveSpec)) gamesConcaveCard

/-- THE TIED CARD OF 'corrodylaw07.GamesRoads'. -/
def gamesRoadsCard : Claim7 := { stood := { row := gamesRoadsRow, standIns := [], harness := (true, "60390741db25c97f8ca118d7794315f5bf25dce052707f76e5a3c945a38a89ef"), looks := false }, kinds := [], alts := [], laidByText := true, laidKinds := [.data, .data], laidTests := true, laidLooks := .later }
def GamesRoadsCardSaid : Prop := Claim7.holds Tryd.pinned (.plain (OpenSpec.ofChange gamesRoadsSpec)) gamesRoadsCard

/-- THE TIED CARD OF 'corrodylaw07.GamesObjects'. -/
def gamesObjectsCard : Claim7 := { stood := { row := gamesObjectsRow, standIns := [], harness := (true, "60390741db25c97f8ca118d7794315f5bf25dce052707f76e5a3c945a38a89ef"), looks := false }, kinds := [], alts := [], laidByText := true, laidKinds := [.data, .data], laidTests := true, laidLooks := .later }
def GamesObjectsCardSaid : Prop := Claim7.holds Tryd.pinned (.plain (OpenSpec.ofChange gamesObjectsSpec)) gamesObjectsCard

/-- THE TIED CARD OF 'corrodylaw07.GamesEither'. -/
def gamesEitherCard : Claim7 := { stood := { row := gamesEitherRow, standIns := [], harness := (true, "60390741db25c97f8ca118d7794315f5bf25dce052707f76e5a3c945a38a89ef"), looks := false }, kinds := [], alts := [], laidByText := true, laidKinds := [.data, .data], laidTests := true, laidLooks := .later }
def GamesEitherCardSaid : Prop := Claim7.holds Tryd.pinned (.plain (OpenSpec.ofChange gamesEitherSpec)) gamesEitherCard

/-- THE TIED CARD OF 'corrodylaw07.GamesFair'. -/
def gamesFairCard : Claim7 := { stood := { row := gamesFairRow, standIns := [], harness := (true, "60390741db25c97f8ca118d7794315f5bf25dce052707f76e5a3c945a38a89ef"), looks := false }, kinds := [], alts := [], laidByText := true, laidKinds := [.data, .data], laidTests := true, laidLooks := .later }
def GamesFairCardSaid : Prop := Claim7.holds Tryd.pinned (.plain (OpenSpec.ofChange gamesFairSpec)) gamesFairCard

/-- THE TIED CARD OF 'corrodylaw07.GamesAverage'. -/
def gamesAverageCard : Claim7 := { stood := { row := gamesAverageRow, standIns := [], harness := (true, "60390741db25c97f8ca118d7794315f5bf25dce052707f76e5a3c945a38a89ef"), looks := false }, kinds := [], alts := [], laidByText := true, laidKinds := [.data, .data], laidTests := true, laidLooks := .later }
def GamesAverageCardSaid : Prop := Claim7.holds Tryd.pinned (.plain (OpenSpec.ofChange gamesAverageSpec)) gamesAverageCard

/-- THE TIED CARD OF 'corrodylaw07.GamesConvex'. -/
def gamesConvexCard : Claim7 := { stood := { row := gamesConvexRow, standIns := [], harness := (true, "60390741db25c97f8ca118d7794315f5bf25dce052707f76e5a3c945a38a89ef"), looks := false }, kinds := [], alts := [], laidByText := true, laidKinds := [.data, .data], laidTests := true, laidLooks := .later }
def GamesConvexCardSaid : Prop := Claim7.holds Tryd.pinned (.plain (OpenSpec.ofChange gamesConvexSpec)) gamesConvexCard

/-- THE TIED CARD OF 'corrodylaw07.GamesSerial'. -/
def gamesSerialCard : Claim7 := { stood := { row := gamesSerialRow, standIns := [], harness := (true, "60390741db25c97f8ca118d7794315f5bf25dce052707f76e5a3c945a38a89ef"), looks := false }, kinds := [], alts := [], laidByText := true, laidKinds := [.data, .data], laidTests := true, laidLooks := .later }
def GamesSerialCardSaid : Prop := Claim7.holds Tryd.pinned (.plain (OpenSpec.ofChange gamesSerialSpec)) gamesSerialCard

/-- THE TIED CARD OF 'corrodylaw07.GamesObjecting'. -/
def gamesObjectingCard : Claim7 := { stood := { row := gamesObjectingRow, standIns := [], harness := (true, "60390741db25c97f8ca118d7794315f5bf25dce052707f76e5a3c945a38a89ef"), looks := false }, kinds := [], alts := [], laidByText := true, laidKinds := [.data, .data], laidTests := true, laidLooks := .later }
def GamesObjectingCardSaid : Prop := Claim7.holds Tryd.pinned (.plain (OpenSpec.ofChange gamesObjectingSpec)) gamesObjectingCard

/-- THE TIED CARD OF 'corrodylaw07.GamesNames'. -/
def gamesNamesCard : Claim7 := { stood := { row := gamesNamesRow, standIns := [], harness := (true, "60390741db25c97f8ca118d7794315f5bf25dce052707f76e5a3c945a38a89ef"), looks := false }, kinds := [], alts := [], laidByText := true, laidKinds := [.data, .data], laidTests := true, laidLooks := .later }
def GamesNamesCardSaid : Prop := Claim7.holds Tryd.pinned (.plain (OpenSpec.ofChange gamesNamesSpec)) gamesNamesCard

/-- THE TIED CARD OF 'corrodylaw07.GamesTimes'. -/
def gamesTimesCard : Claim7 := { stood := { row := gamesTimesRow, standIns := [], harness := (true, "60390741db25c97f8ca118d7794315f5bf25dce052707f76e5a3c945a38a89ef"), looks := false }, kinds := [], alts := [], laidByText := true, laidKinds := [.data, .data], laidTests := true, laidLooks := .later }
def GamesTimesCardSaid : Prop := Claim7.holds Tryd.pinned (.plain (OpenSpec.ofChange gamesTimesSpec)) gamesTimesCard

/-- THE TIED CARD OF 'corrodylaw07.GamesPlus'. -/
def gamesPlusCard : Claim7 := { stood := { row := gamesPlusRow, standIns := [], harness := (true, "60390741db25c97f8ca118d7794315f5bf25dce052707f76e5a3c945a38a89ef"), looks := false }, kinds := [], alts := [], laidByText := true, laidKinds := [.data, .data], laidTests := true, laidLooks := .later }
def GamesPlusCardSaid : Prop := Claim7.holds Tryd.pinned (.plain (OpenSpec.ofChange gamesPlusSpec)) gamesPlusCard

/-- THE SECOND FORM's CARD OF 'corrodylaw07.GamesCore'. -/
def gamesCoreUptoCard : Claim7 := { stood := { row := gamesCoreUptoRow, standIns := [], harness := (true, "60390741db25c97f8ca118d7794315f5bf25dce052707f76e5a3c945a38a89ef"), looks := false }, kinds := [], alts := [], laidByText := true, laidKinds := [.data, .data], laidTests := true, laidLooks := .later }
def GamesCoreUptoCardSaid : Prop := Claim7.holds Tryd.pinned (.plain (OpenSpec.upto gamesCoreSpec)) gamesCoreUptoCard

/-- THE SECOND FORM's CARD OF 'corrodylaw07.GamesChecks'. -/
def gamesChecksUptoCard : Claim7 := { stood := { row := gamesChecksUptoRow, standIns := [], harness := (true, "60390741db25c97f8ca118d7794315f5bf25dce052707f76e5a3c945a38a89ef"), looks := false }, kinds := [], alts := [], laidByText := true, laidKinds := [.data, .data], laidTests := true, laidLooks := .later }
def GamesChecksUptoCardSaid : Prop := Claim7.holds Tryd.pinned (.plain (OpenSpec.upto gamesChecksSpec)) gamesChecksUptoCard

/-- THE SECOND FORM's CARD OF 'corrodylaw07.GamesShapley'. -/
def gamesShapleyUptoCard : Claim7 := { stood := { row := gamesShapleyUptoRow, standIns := [], harness := (true, "60390741db25c97f8ca118d7794315f5bf25dce052707f76e5a3c945a38a89ef"), looks := false }, kinds := [], alts := [], laidByText := true, laidKinds := [.data, .data], laidTests := true, laidLooks := .later }
def GamesShapleyUptoCardSaid : Prop := Claim7.holds Tryd.pinned (.plain (OpenSpec.upto gamesShapleySpec)) gamesShapleyUptoCard

/-- THE SECOND FORM's CARD OF 'corrodylaw07.GamesConcave'. -/
def gamesConcaveUptoCard : Claim7 := { stood := { row := gamesConcaveUptoRow, standIns := [], harness := (true, "60390741db25c97f8ca118d7794315f5bf25dce052707f76e5a3c945a38a89ef"), looks := false }, kinds := [], alts := [], laidByText := true, laidKinds := [.data, .data], laidTests := true, laidLooks := .later }
def GamesConcaveUptoCardSaid : Prop := Claim7.holds Tryd.pinned (.plain (OpenSpec.upto gamesConcaveSpec)) gamesConcaveUptoCard

/-- THE SECOND FORM's CARD OF 'corrodylaw07.GamesRoads'. -/
def gamesRoadsUptoCard : Claim7 := { stood := { row := gamesRoadsUptoRow, standIns := [], harness := (true, "60390741db25c97f8ca118d7794315f5bf25dce052707f76e5a3c945a38a89ef"), looks := false }, kinds := [], alts := [], laidByText := true, laidKinds := [.data, .data], laidTests := true, laidLooks := .later }
def GamesRoadsUptoCardSaid : Prop := Claim7.holds Tryd.pinned (.plain (OpenSpec.upto gamesRoadsSpec)) gamesRoadsUptoCard

/-- THE SECOND FORM's CARD OF 'corrodylaw07.GamesObjects'. -/
def gamesObjectsUptoCard : Claim7 := { stood := { row := gamesObjectsUptoRow, standIns := [], harness := (true, "60390741db25c97f8ca118d7794315f5bf25dce052707f76e5a3c945a38a89ef"), looks := false }, kinds := [], alts := [], laidByText := true, laidKinds := [.data, .data], laidTests := true, laidLooks := .later }
def GamesObjectsUptoCardSaid : Prop := Claim7.holds Tryd.pinned (.plain (OpenSpec.upto gamesObjectsSpec)) gamesObjectsUptoCard

/-- THE SECOND FORM's CARD OF 'corrodylaw07.GamesEither'. -/
def gamesEitherUptoCard : Claim7 := { stood := { row := gamesEitherUptoRow, standIns := [], harness := (true, "60390741db25c97f8ca118d7794315f5bf25dce052707f76e5a3c945a38a89ef"), looks := false }, kinds := [], alts := [], laidByText := true, laidKinds := [.data, .data], laidTests := true, laidLooks := .later }
def GamesEitherUptoCardSaid : Prop := Claim7.holds Tryd.pinned (.plain (OpenSpec.upto gamesEitherSpec)) gamesEitherUptoCard

/-- THE SECOND FORM's CARD OF 'corrodylaw07.GamesFair'. -/
def gamesFairUptoCard : Claim7 := { stood := { row := gamesFairUptoRow, standIns := [], harness := (true, "60390741db25c97f8ca118d7794315f5bf25dce052707f76e5a3c945a38a89ef"), looks := false }, kinds := [], alts := [], laidByText := true, laidKinds := [.data, .data], laidTests := true, laidLooks := .later }
def GamesFairUptoCardSaid : Prop := Claim7.holds Tryd.pinned (.plain (OpenSpec.upto gamesFairSpec)) gamesFairUptoCard

/-- THE SECOND FORM's CARD OF 'corrodylaw07.GamesAverage'. -/
def gamesAverageUptoCard : Claim7 := { stood := { row := gamesAverageUptoRow, standIns := [], harness := (true, "60390741db25c97f8ca118d7794315f5bf25dce052707f76e5a3c945a38a89ef"), looks := false }, kinds := [], alts := [], laidByText := true, laidKinds := [.data, .data], laidTests := true, laidLooks := .later }
def GamesAverageUptoCardSaid : Prop := Claim7.holds Tryd.pinned (.plain (OpenSpec.upto gamesAverageSpec)) gamesAverageUptoCard

/-- THE SECOND FORM's CARD OF 'corrodylaw07.GamesConvex'. -/
def gamesConvexUptoCard : Claim7 := { stood := { row := gamesConvexUptoRow, standIns := [], harness := (true, "60390741db25c97f8ca118d7794315f5bf25dce052707f76e5a3c945a38a89ef"), looks := false }, kinds := [], alts := [], laidByText := true, laidKinds := [.data, .data], laidTests := true, laidLooks := .later }
def GamesConvexUptoCardSaid : Prop := Claim7.holds Tryd.pinned (.plain (OpenSpec.upto gamesConvexSpec)) gamesConvexUptoCard

/-- THE SECOND FORM's CARD OF 'corrodylaw07.GamesSerial'. -/
def gamesSerialUptoCard : Claim7 := { stood := { row := gamesSerialUptoRow, standIns := [], harness := (true, "60390741db25c97f8ca118d7794315f5bf25dce052707f76e5a3c945a38a89ef"), looks := false }, kinds := [], alts := [], laidByText := true, laidKinds := [.data, .data], laidTests := true, laidLooks := .later }
def GamesSerialUptoCardSaid : Prop := Claim7.holds Tryd.pinned (.plain (OpenSpec.upto gamesSerialSpec)) gamesSerialUptoCard

/-- THE SECOND FORM's CARD OF 'corrodylaw07.GamesObjecting'. -/
def gamesObjectingUptoCard : Claim7 := { stood := { row := gamesObjectingUptoRow, standIns := [], harness := (true, "60390741db25c97f8ca118d7794315f5bf25dce052707f76e5a3c945a38a89ef"), looks := false }, kinds := [], alts := [], laidByText := true, laidKinds := [.data, .data], laidTests := true, laidLooks := .later }
def GamesObjectingUptoCardSaid : Prop := Claim7.holds Tryd.pinned (.plain (OpenSpec.upto gamesObjectingSpec)) gamesObjectingUptoCard

/-- THE SECOND FORM's CARD OF 'corrodylaw07.GamesNames'. -/
def gamesNamesUptoCard : Claim7 := { stood := { row := gamesNamesUptoRow, standIns := [], harness := (true, "60390741db25c97f8ca118d7794315f5bf25dce052707f76e5a3c945a38a89ef"), looks := false }, kinds := [], alts := [], laidByText := true, laidKinds := [.data, .data], laidTests := true, laidLooks := .later }
def GamesNamesUptoCardSaid : Prop := Claim7.holds Tryd.pinned (.plain (OpenSpec.upto gamesNamesSpec)) gamesNamesUptoCard

/-- THE SECOND FORM's CARD OF 'corrodylaw07.GamesTimes'. -/
def gamesTimesUptoCard : Claim7 := { stood := { row := gamesTimesUptoRow, standIns := [], harness := (true, "60390741db25c97f8ca118d7794315f5bf25dce052707f76e5a3c945a38a89ef"), looks := false }, kinds := [], alts := [], laidByText := true, laidKinds := [.data, .data], laidTests := true, laidLooks := .later }
def GamesTimesUptoCardSaid : Prop := Claim7.holds Tryd.pinned (.plain (OpenSpec.upto gamesTimesSpec)) gamesTimesUptoCard

/-- THE SECOND FORM's CARD OF 'corrodylaw07.GamesPlus'. -/
def gamesPlusUptoCard : Claim7 := { stood := { row := gamesPlusUptoRow, standIns := [], harness := (true, "60390741db25c97f8ca118d7794315f5bf25dce052707f76e5a3c945a38a89ef"), looks := false }, kinds := [], alts := [], laidByText := true, laidKinds := [.data, .data], laidTests := true, laidLooks := .later }
def GamesPlusUptoCardSaid : Prop := Claim7.holds Tryd.pinned (.plain (OpenSpec.upto gamesPlusSpec)) gamesPlusUptoCard
end Rows
end Go.Proofs.YtoeimngbpagegaaDoor
