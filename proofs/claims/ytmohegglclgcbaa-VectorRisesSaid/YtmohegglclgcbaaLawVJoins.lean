/- VectorJoins: what the law's call answers. Of any vectors and dot. No condition but that the numbers have their bits. -/
import Derived.Test.YtmohegglclgcbaaVecN
namespace Go.Proofs.Ytmohegglclgcbaa
open Go.RowKit

theorem eq8_self (f : Nat → Nat) : eq8 f f = true := (eq8_iff f f).2 fun _ _ => rfl
theorem fNext (f : Nat → Nat) (r : Nat) (hf : Fit8 f) (hr : r < 256) : Ans 13 #[.agg (vv f), .int .u8 r] (.tuple #[.agg (vv (nextS8 f r).1), .agg (dv (nextS8 f r).2.1.1 (nextS8 f r).2.1.2), .int .i64 (nextS8 f r).2.2]) :=
  Lib.hid fun w => next_any8 f r w hf hr
theorem fAwake : Ans 15 #[] (.bool true) := Lib.hid fun w => vawake_any w

end Go.Proofs.Ytmohegglclgcbaa
