/- Plain words on joins, on how vectors stand to each other, and on what is next. Of no program. -/
import Derived.Test.YtmdmkcofafhlcaaVecB
namespace Go.Proofs.Ytmdmkcofafhlcaa
open Go.RowKit

theorem jn8_at (f g : Nat → Nat) (k : Nat) : jn8 f g k = max (f k) (g k) := rfl
theorem has_join (f g : Nat → Nat) (r n : Nat) : has8 (jn8 f g) r n = (has8 f r n || has8 g r n) := by
  unfold has8
  cases okD r n with
  | false => simp
  | true =>
    simp only [Bool.true_and]
    rw [Bool.eq_iff_iff, Bool.or_eq_true, decide_eq_true_eq, decide_eq_true_eq, decide_eq_true_eq, jn8_at]
    omega
end Go.Proofs.Ytmdmkcofafhlcaa

