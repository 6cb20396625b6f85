/- The law's own small calls: some of the chapter's answers. -/
import Derived.Test.YtehakbijhkpbbaaCodecX
namespace Go.Proofs.Ytehakbijhkpbbaa
open Go.RowKit

theorem Frm.new {w w1 w2 : World} {X Y : Nat → Prop} (h : Frm X w w1) (h' : Frm Y w1 w2) (hy : ∀ k, Y k → w.heap.size ≤ k) : Frm X w w2 := h.next h' fun k hk hY => by have := hy k hY; omega

end Go.Proofs.Ytehakbijhkpbbaa

