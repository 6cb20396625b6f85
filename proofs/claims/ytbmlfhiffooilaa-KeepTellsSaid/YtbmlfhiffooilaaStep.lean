/- A whole row that is stored into a block that is known, in a region that draws. Of no function of the program. No condition. -/
import Derived.Test.YtbmlfhiffooilaaLate
import Derived.Test.YtbmlfhiffooilaaFrm
import Derived.Laws.Tables
namespace Go.Proofs.Ytbmlfhiffooilaa
open Go.RowKit

theorem row_step {ops : Array Oper} {Q : Exit → Act → World → Prop} {K : Act → World → Prop} {i : Nat} {o : Oper} {a : Act} {w : World} (hi : ops[i]? = some o) (hg : o.guard = none) (hd : o.dst = none) (t : TypeId) (x y : Operand) (ho : o.op = .store t x y)
    (b : Nat) (cs old : Array Value) (hx : a.eval x = .pointer (some ⟨b, 0, none⟩)) (hy : a.eval y = .agg cs) (h1 : Blk w b t old) (h2 : old.size = cs.size) (h3 : (Try.prog.info? t).map (·.size) = some cs.size) (h4 : cs.all (·.oneCell') = true)
    (h : ∀ w', Blk w' b t cs → Frm (· = b) w w' → w'.heap.size = w.heap.size → K a w') : wpOp Try.prog ops Q i K a w := by
  unfold wpOp
  simp only [hi]
  rw [if_pos (by unfold Region.wanted; rw [hg])]
  refine .inl ?_
  refine wp_store_row t x y ho b cs hx hy t old h1 h3 h2 h4 ?_
  rw [hd]
  refine h _ ?_ ?_ ?_
  · simp only [Blk] at h1
    simp only [Blk, World.setRow, Array.getElem?_modify]
    simp [h1]
  · refine ⟨rfl, rfl, rfl, by simp [World.setRow], fun k _ hk => ?_⟩
    simp only [World.setRow, Array.getElem?_modify]
    rw [if_neg (fun e => hk e.symm)]
  · simp [World.setRow]
end Go.Proofs.Ytbmlfhiffooilaa
