/- What turns by the book-keeping of ranges over functions. Of no program. No condition. -/
import Derived.Test.YtiokabhidjafeaaDoorRow
import Derived.RangeFuncNested
import Derived.RangeFuncOwn
import Derived.OwnWalkIn
import Derived.Test.YtiokabhidjafeaaDoorFrm
import Derived.Test.YtiokabhidjafeaaDoorRows
import Derived.WalkKit
import Derived.WalkSpells
import Derived.WalkLawsBesides
import Derived.Lib.Strings
import Derived.Test.YtiokabhidjafeaaDoorHashS
import Derived.Test.YtiokabhidjafeaaDoorRound
import Derived.RangeFuncBound
import Derived.RangeFuncCalls
import Derived.RangeFuncLeaves
import Derived.Shelf.Abstract
import Derived.Shelf.RegionOpen
import Derived.TacticsInMore
import Derived.LoopNIn
import Derived.LoopIn
import Derived.Test.YtiokabhidjafeaaDoorSibA
section
namespace Go.Proofs.YtiokabhidjafeaaDoor
open Go.RowKit
theorem Blk.turned {W W' : World} {b : Nat} {t : TypeId} {cs : Array Value} {row : Option Nat} (h : Blk W b t cs) (hg : W.grownBy W' row) (hr : ∀ r, row = some r → ∃ o : Obj, W.heap[r]? = some o ∧ o.isCells = false) : Blk W' b t cs := by
  refine (hg.block b h.lt fun e => ?_).trans h
  obtain ⟨o, ho, hc⟩ := hr b e.symm
  rw [h] at ho
  cases ho
  cases hc
theorem Frm.turned {X : Nat → Prop} {w W W' : World} {B : Nat} {row : Option Nat} (h : Frm X w W) (hB : w.heap.size ≤ B) (hg : W.grownBy W' row) (hr : ∀ r, row = some r → B ≤ r ∧ ∃ o : Obj, W.heap[r]? = some o ∧ o.isCells = false) : Frm X w W' :=
  h.grown hg fun k hk e => by have := (hr k e).1; omega
theorem Frm.others {X : Nat → Prop} {w w' : World} (h : Frm X w w') (hx : ∀ k o, X k → w.heap[k]? = some o → o.isCells = true) : KeepsOthers w w' :=
  ⟨h.size, fun k o hk ho => by
    refine (h.block k (Array.getElem?_eq_some_iff.1 hk).1 fun hX => ?_).trans hk
    rw [hx k o hX hk] at ho; cases ho⟩
theorem Blk.isCells {w : World} {b : Nat} {t : TypeId} {cs : Array Value} (h : Blk w b t cs) : ∀ k o, k = b → w.heap[k]? = some o → o.isCells = true := by
  rintro k o rfl ho
  rw [h] at ho
  cases ho
  rfl
end Go.Proofs.YtiokabhidjafeaaDoor
end
section
namespace Go.Proofs.YtiokabhidjafeaaDoor
open Go.RowKit
theorem Frm.one (b i : Nat) (u : Value) (w : World) : Frm (· = b) w (w.setCell ⟨b, i, none⟩ u) := (Frm.refl (· = b) w).setCell (p := ⟨b, i, none⟩) (fun _ => rfl) u
end Go.Proofs.YtiokabhidjafeaaDoor
end
section
namespace Go.Proofs.YtiokabhidjafeaaDoor
open Go.RowKit
theorem Row.u8 {w : World} {g n cap : Nat} {s : List UInt8} (h : Row w 1 (.slice (some ⟨g, 0, none⟩) n cap) s.length (u8s s)) (k : Nat) (hk : k < s.length) : w.cell? ⟨g, k, none⟩ = some (.int .u8 s[k].toNat) := by
  rcases h.2 with ⟨hv, _⟩ | ⟨g', cap', hv, _, _, _, h4, _⟩
  · cases hv
  · cases hv
    rw [h4 k (by simpa using hk), u8s_get s k hk]
end Go.Proofs.YtiokabhidjafeaaDoor
end
section
namespace Go.Proofs.YtiokabhidjafeaaDoor
open Go.RowKit Go.Shelf
attribute [local go_sem] Oper.semAt_some

def wrong (l : List UInt8) (x : Fin l.length) : Prop := (x.val = 4 ∧ 15 < l[x.val].toNat) ∨ (0 < x.val ∧ l[x.val].toNat = 0)
/-! What is read, in plain words. -/
end Go.Proofs.YtiokabhidjafeaaDoor
end
section
namespace Go.Proofs.YtiokabhidjafeaaDoor
open Go.RowKit Go.Shelf
attribute [local go_sem] Oper.semAt_some

theorem yield_eql (w : World) (f : Fn) (a c : Array Value) : (binOp .eql 123 (.func f a c) .nilFunc).run Tryd.prog w = .ok (.bool false) w := by
  have h : ∀ d : Nat, (Op.equalIn (d + 1) 123 (.func f a c) .nilFunc).run Tryd.prog w = .ok false w := fun d => by
    simp [Op.equalIn, run_underlying Tryd.underlying123]
  simp only [binOp]
  simp [Op.equal, Op.maxDepth, h 9999]
theorem frm_of_below {w w' : World} (h : Below w.heap.size w w') : Frm (fun _ => False) w w' := ⟨h.os, h.tape, h.output, h.size, fun k hk _ => h.block k hk⟩
theorem OwnL.isCells {w : World} {v : Value} {l : List SibI} (h : OwnL w v l) : ∀ k o, v.ownBlock = some k → w.heap[k]? = some o → o.isCells = true := fun k o hk ho => by
  obtain ⟨o', ho', hc⟩ := Row.isC h k hk
  rw [ho'] at ho; cases ho; exact hc

/-- An append whose run is known. -/
theorem wplIn_append {F : Fence} {n : Nat} {P : Program} {w : World} {ops : Array Oper} {rest : List Oper} {o : Oper} {a : Act} {Q : Exit → Act → World → Prop} (hg : o.guard = none) (s x : Operand) (t tn : TypeId)
    (ho : o.op = .call { callee := .builtin .append, args := #[s, x], argTypes := #[t, tn] }) (vs vx : Value) (hs : a.eval s = vs) (hx : a.eval x = vx) (v' : Value) (w' : World) (hr : (Builtin.append_ #[t, tn] o.type #[vs, vx]).run P w = .ok v' w')
    (h : wpListIn F n P ops Q rest (a.put o.dst v') w') : wpListIn F n P ops Q (o :: rest) a w := by
  refine wpListIn_plain hg fun K' hK' => ?_
  unfold Oper.wpIn
  refine ⟨by simp [Oper.about, ho, resolve, Target.leads, Sem.run_pure], ?_⟩
  rw [Oper.semAt_plain F _ _ (by rw [ho]; intro c hc'; cases hc')]
  simp [execOp, ho, resolve, invoke, builtin, hs, hx, hr, Result.andThen]
  exact hK' _ _ h

/-- What a round leaves as it lay. -/
def keptS (K : Nat → Prop) (W W' : World) : Prop := ∀ k, K k → W'.heap[k]? = W.heap[k]?
theorem keptS.trans {K : Nat → Prop} {A B C : World} (h : keptS K A B) (k : keptS K B C) : keptS K A C := fun q hq => (k q hq).trans (h q hq)
theorem keptS.put {K : Nat → Prop} {w : World} (hn : ∀ k, K k → k < w.heap.size) (W : World) (l : Nat) (o o' : Obj) (hl : w.heap.size ≤ l) (_ : W.heap[l]? = some o) (_ : o.isCells = false) (_ : o.isWalk = false) : keptS K W (W.putObj l o') :=
  fun q hq => World.putObj_heap_other (by have := hn q hq; omega)
/-- What is handed to a round. -/
abbrev sEnc (x : SibI) : Array Value := #[.agg (dv x.r x.n), .string (bs x.s)]
theorem SL.keepK {K : Nat → Prop} {w w' : World} {v : Value} {l : List SibI} (h : SL w v l) (hk : keptS K w w') (hv : ∀ g, blkOf v = some g → K g) : SL w' v l := by
  obtain ⟨h1, a, cap, rfl, h2, h3, h4⟩ := h
  refine ⟨h1, a, cap, rfl, h2, h3, ?_⟩
  rcases h4 with h4 | ⟨g, off, rfl, h5, h6⟩
  · exact .inl h4
  · have e := hk g (hv g rfl)
    refine .inr ⟨g, off, rfl, ?_, fun j hj => (World.cell?_of_block (a := ⟨g, off + j, none⟩) e).trans (h6 j hj)⟩
    obtain ⟨o, ho⟩ : ∃ o, w.heap[g]? = some o := ⟨_, Array.getElem?_eq_getElem h5⟩
    rw [ho] at e
    exact (Array.getElem?_eq_some_iff.1 e).1

end Go.Proofs.YtiokabhidjafeaaDoor
end
