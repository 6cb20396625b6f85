/- What the readings of fixed numbers do. -/
import Derived.Test.YtehakbijhkpbbaaCodecR
import Derived.Test.YtehakbijhkpbbaaConv
namespace Go.Proofs.Ytehakbijhkpbbaa
open Go.RowKit
theorem Row.u8 {w : World} {g n cap : Nat} {s : List UInt8} (h : Row w 1 (.slice (some ⟨g, 0, none⟩) n cap) s.length (u8s s)) (k : Nat) (hk : k < s.length) : w.cell? ⟨g, k, none⟩ = some (.int .u8 s[k].toNat) := by
  rcases h.2 with ⟨hv, _⟩ | ⟨g', cap', hv, _, _, _, h4, _⟩
  · cases hv
  · cases hv
    rw [h4 k (by simpa using hk), u8s_get s k hk]
end Go.Proofs.Ytehakbijhkpbbaa

