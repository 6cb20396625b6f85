/- The law's own small calls: some of the chapter's answers. -/
import Derived.Test.YtlajfmpgodcbmaaCodecX
namespace Go.Proofs.Ytlajfmpgodcbmaa
open Go.RowKit

set_option maxHeartbeats 400000 in
theorem read_any (l : List UInt8) (w : World) (hl : l.length ≤ 140737488355328) :
    Calls Try.prog 23 #[.string (bs l)] w fun e w' => e = .returned (.pointer (some ⟨w.heap.size, 0, none⟩)) ∧ Rd w' w.heap.size l 0 ∧ Frm (fun _ => False) w w' := by
  go_enter Try.func23, Try.ntmps23
  go_wp2
  go_ret
  exact ⟨rfl, ⟨Blk.alloc w _ _, hl, by omega⟩, (Frm.refl _ w).alloc _⟩

theorem Frm.new {w w1 w2 : World} {X Y : Nat → Prop} (h : Frm X w w1) (h' : Frm Y w1 w2) (hy : ∀ k, Y k → w.heap.size ≤ k) : Frm X w w2 := h.next h' fun k hk hY => by have := hy k hY; omega

end Go.Proofs.Ytlajfmpgodcbmaa
