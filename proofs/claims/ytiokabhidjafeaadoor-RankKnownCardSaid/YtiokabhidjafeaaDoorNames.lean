/- What path.parts and slices.Values give to a range over them. No condition. -/
import Derived.Test.YtiokabhidjafeaaDoorName
import Derived.Test.YtiokabhidjafeaaDoorStrs
import Derived.Test.YtiokabhidjafeaaDoorRound
import Derived.RangeFuncNested
import Derived.RangeFuncBound
import Derived.RangeFuncCalls
import Derived.RangeFuncLeaves
import Derived.Shelf.Abstract
import Derived.Shelf.RegionOpen
import Derived.OwnWalkIn
import Derived.TacticsInMore
import Derived.LoopNIn
import Derived.LoopIn
import Derived.Test.YtiokabhidjafeaaDoorCodecV
import Derived.Test.YtiokabhidjafeaaDoorRow
import Derived.RangeFuncOwn
section
namespace Go.Proofs.YtiokabhidjafeaaDoor
open Go.RowKit Go.Shelf
attribute [local go_sem] Oper.semAt_some

/-- What a round leaves as it lay. -/
def kept (n : Nat) (W W' : World) : Prop := ∀ k, k < n → W'.heap[k]? = W.heap[k]?
theorem kept.refl (n : Nat) (W : World) : kept n W W := fun _ _ => rfl
theorem kept.trans {n : Nat} {A B C : World} (h : kept n A B) (h2 : kept n B C) : kept n A C := fun k hk => (h2 k hk).trans (h k hk)
theorem kept.put {n : Nat} {w : World} (hn : n ≤ w.heap.size) (W : World) (l : Nat) (o o' : Obj) (hl : w.heap.size ≤ l) (_ : W.heap[l]? = some o) (_ : o.isCells = false) (_ : o.isWalk = false) : kept n W (W.putObj l o') := fun _ hk => World.putObj_heap_other (by omega)
end Go.Proofs.YtiokabhidjafeaaDoor
end
section
namespace Go.Proofs.YtiokabhidjafeaaDoor
open Go.RowKit
theorem Row.isCells {w : World} {size n : Nat} {v : Value} {xs : List Value} (h : Row w size v n xs) : ∀ k o, v.ownBlock = some k → w.heap[k]? = some o → o.isCells = true := by
  intro k o hk ho
  obtain ⟨o', ho', hc⟩ := h.isC k hk
  rw [ho] at ho'
  cases ho'
  exact hc
end Go.Proofs.YtiokabhidjafeaaDoor
end
section
namespace Go.Proofs.YtiokabhidjafeaaDoor
open Go.RowKit Go.Shelf
attribute [local go_sem] Oper.semAt_some

theorem Strs.one (w : World) (s : List UInt8) : Strs (w.alloc (.cells #[.string (bs s)] 9)) (.slice (some ⟨w.heap.size, 0, none⟩) 1 1) [s] := by
  refine ⟨rfl, _, 1, rfl, Nat.le_refl _, by decide, .inr ⟨_, 0, rfl, by simp, fun j hj => ?_⟩⟩
  obtain rfl : j = 0 := by simp at hj; omega
  exact (Blk.alloc w 9 #[.string (bs s)]).cell 0 rfl
end Go.Proofs.YtiokabhidjafeaaDoor
end
