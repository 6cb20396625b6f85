/- What the document's own answers for reading are: its reader, a block of three cells. -/
import Derived.Test.YtmohegglclgcbaaReadI
import Derived.Test.YtmohegglclgcbaaCodecN
import Derived.Deep.QuietTactic
import Derived.BigQuiet
namespace Go.Proofs.Ytmohegglclgcbaa
open Go.RowKit
theorem bs_part (l : List UInt8) (i j : Nat) : (bs l).extract i j = bs ((l.take j).drop i) := by
  apply ByteArray.ext
  simp only [ByteArray.data_extract]
  apply Array.ext'
  simp [bs, List.drop_take]

end Go.Proofs.Ytmohegglclgcbaa
