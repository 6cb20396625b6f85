/- What the document's own answers for reading are: its reader's numbers. -/
import Derived.Test.YtmohegglclgcbaaRefR
import Derived.IntWalk
namespace Go.Proofs.Ytmohegglclgcbaa
open Go.RowKit

theorem numS_cons (c : UInt8) (r : List UInt8) : numS 1 (c :: r) 0 = (c.toNat, r, 0) := by
  unfold numS nextS
  rw [if_pos (by simp)]
  simp [beN]
theorem numS_nil : numS 1 [] 0 = (0, [], 10) := rfl
end Go.Proofs.Ytmohegglclgcbaa
