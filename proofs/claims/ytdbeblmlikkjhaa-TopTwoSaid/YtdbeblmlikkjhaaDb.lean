/- Disagreement, whole. -/
import Derived.Test.YtdbeblmlikkjhaaDa
namespace Go.Proofs.Ytdbeblmlikkjhaa
open Go.RowKit


end Go.Proofs.Ytdbeblmlikkjhaa
