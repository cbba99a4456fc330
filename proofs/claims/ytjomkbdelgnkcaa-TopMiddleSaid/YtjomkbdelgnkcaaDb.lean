/- Disagreement, whole. -/
import Derived.Test.YtjomkbdelgnkcaaDa
namespace Go.Proofs.Ytjomkbdelgnkcaa
open Go.RowKit


end Go.Proofs.Ytjomkbdelgnkcaa
