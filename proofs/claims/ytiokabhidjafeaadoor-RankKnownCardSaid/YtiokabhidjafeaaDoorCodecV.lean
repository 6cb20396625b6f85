/- What turns by the book-keeping of ranges over functions. Of no program. No condition. -/
import Derived.Test.YtiokabhidjafeaaDoorRow
import Derived.RangeFuncNested
import Derived.RangeFuncOwn
import Derived.OwnWalkIn
import Derived.Test.YtiokabhidjafeaaDoorFrm
import Derived.Test.YtiokabhidjafeaaDoorRows
import Derived.WalkKit
import Derived.WalkSpells
import Derived.WalkLawsBesides
import Derived.Lib.Strings
import Derived.Test.YtiokabhidjafeaaDoorConv
import Derived.Test.YtiokabhidjafeaaDoorRound
import Derived.RangeFuncBound
import Derived.RangeFuncCalls
import Derived.RangeFuncLeaves
import Derived.Shelf.Abstract
import Derived.Shelf.RegionOpen
import Derived.TacticsInMore
import Derived.LoopNIn
import Derived.LoopIn
section
namespace Go.Proofs.YtiokabhidjafeaaDoor
open Go.RowKit
theorem Blk.turned {W W' : World} {b : Nat} {t : TypeId} {cs : Array Value} {row : Option Nat} (h : Blk W b t cs) (hg : W.grownBy W' row) (hr : ∀ r, row = some r → ∃ o : Obj, W.heap[r]? = some o ∧ o.isCells = false) : Blk W' b t cs := by
  refine (hg.block b h.lt fun e => ?_).trans h
  obtain ⟨o, ho, hc⟩ := hr b e.symm
  rw [h] at ho
  cases ho
  cases hc
theorem Frm.turned {X : Nat → Prop} {w W W' : World} {B : Nat} {row : Option Nat} (h : Frm X w W) (hB : w.heap.size ≤ B) (hg : W.grownBy W' row) (hr : ∀ r, row = some r → B ≤ r ∧ ∃ o : Obj, W.heap[r]? = some o ∧ o.isCells = false) : Frm X w W' :=
  h.grown hg fun k hk e => by have := (hr k e).1; omega
theorem Frm.others {X : Nat → Prop} {w w' : World} (h : Frm X w w') (hx : ∀ k o, X k → w.heap[k]? = some o → o.isCells = true) : KeepsOthers w w' :=
  ⟨h.size, fun k o hk ho => by
    refine (h.block k (Array.getElem?_eq_some_iff.1 hk).1 fun hX => ?_).trans hk
    rw [hx k o hX hk] at ho; cases ho⟩
theorem Blk.isCells {w : World} {b : Nat} {t : TypeId} {cs : Array Value} (h : Blk w b t cs) : ∀ k o, k = b → w.heap[k]? = some o → o.isCells = true := by
  rintro k o rfl ho
  rw [h] at ho
  cases ho
  rfl
end Go.Proofs.YtiokabhidjafeaaDoor
end
section
namespace Go.Proofs.YtiokabhidjafeaaDoor
open Go.RowKit
theorem Frm.one (b i : Nat) (u : Value) (w : World) : Frm (· = b) w (w.setCell ⟨b, i, none⟩ u) := (Frm.refl (· = b) w).setCell (p := ⟨b, i, none⟩) (fun _ => rfl) u
end Go.Proofs.YtiokabhidjafeaaDoor
end
section
namespace Go.Proofs.YtiokabhidjafeaaDoor
open Go.RowKit
theorem Row.u8 {w : World} {g n cap : Nat} {s : List UInt8} (h : Row w 1 (.slice (some ⟨g, 0, none⟩) n cap) s.length (u8s s)) (k : Nat) (hk : k < s.length) : w.cell? ⟨g, k, none⟩ = some (.int .u8 s[k].toNat) := by
  rcases h.2 with ⟨hv, _⟩ | ⟨g', cap', hv, _, _, _, h4, _⟩
  · cases hv
  · cases hv
    rw [h4 k (by simpa using hk), u8s_get s k hk]
end Go.Proofs.YtiokabhidjafeaaDoor
end
section
namespace Go.Proofs.YtiokabhidjafeaaDoor
open Go.RowKit Go.Shelf
attribute [local go_sem] Oper.semAt_some

def wrong (l : List UInt8) (x : Fin l.length) : Prop := (x.val = 4 ∧ 15 < l[x.val].toNat) ∨ (0 < x.val ∧ l[x.val].toNat = 0)
/-! What is read, in plain words. -/
end Go.Proofs.YtiokabhidjafeaaDoor
end
