/- Disagreement, whole. -/
import Derived.Test.YtnobbklnnkpdfaaDa
namespace Go.Proofs.Ytnobbklnnkpdfaa
open Go.RowKit


end Go.Proofs.Ytnobbklnnkpdfaa
