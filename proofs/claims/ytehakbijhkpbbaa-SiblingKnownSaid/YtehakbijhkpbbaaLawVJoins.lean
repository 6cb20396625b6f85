/- VectorJoins: what the law's call answers. Of any vectors and dot. No condition but that the numbers have their bits. -/
import Derived.Test.YtehakbijhkpbbaaVecN
namespace Go.Proofs.Ytehakbijhkpbbaa
open Go.RowKit

theorem fNext (f : Nat → Nat) (r : Nat) (hf : Fit8 f) (hr : r < 256) : Ans 12 #[.agg (vv f), .int .u8 r] (.tuple #[.agg (vv (nextS8 f r).1), .agg (dv (nextS8 f r).2.1.1 (nextS8 f r).2.1.2), .int .i64 (nextS8 f r).2.2]) :=
  Lib.hid fun w => next_any8 f r w hf hr
end Go.Proofs.Ytehakbijhkpbbaa

