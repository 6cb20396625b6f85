/- What the document's Copy and New make. No condition. -/
import Derived.Test.YtdhngbfigklaoaaDvU
import Derived.Deep.RegionLaw
namespace Go.Proofs.Ytdhngbfigklaoaa
open Go.RowKit Go.Shelf

theorem step_append_runD {P : Program} {ops : Array Oper} {o : Oper} {a : Act} {w : World} {K : Act → World → Prop} {Q : Exit → Act → World → Prop} {E : Prop}
    (hg : o.guard = none) (s x : Operand) (t tx : TypeId) (hop : o.op = Op.call { callee := Callee.builtin Builtin.append, args := #[s, x], argTypes := #[t, tx] })
    (vs vx : Value) (hs : a.eval s = vs) (hx : a.eval x = vx) (v' : Value) (w' : World) (hr : (Builtin.append_ #[t, tx] o.type #[vs, vx]).run P w = .ok v' w') (hK : K (a.put o.dst v') w') :
    if Region.wanted o (yielded ops a.tmps) = true then Oper.wp P o a w K Q else E := by
  have hw : Region.wanted o (yielded ops a.tmps) = true := by simp [Region.wanted, hg]
  rw [if_pos hw]
  unfold Oper.wp
  simp [execOp, hop, resolve, invoke, builtin, hs, hx, hr, Result.andThen]
  exact hK
theorem RefC.zero (w : World) : RefC (w.alloc (.cells #[.slice none 0 0, .slice none 0 0] 63)) w.heap.size [] [] (fun k => k = w.heap.size) (.slice none 0 0) (.slice none 0 0) :=
  ⟨Blk.alloc _ _ _, Row.nil_ _ 1, Row.nil_ _ 2, rfl, (fun g h => by cases h), (fun g h => by cases h), (fun k hk => by have e : k = w.heap.size := hk; subst e; simp)⟩
theorem RefC.drew {w : World} {r : Nat} {A : List (List UInt8)} {B : List (Nat × List UInt8)} {fp : Nat → Prop} {va vb : Value} (h : RefC w r A B fp va vb) : RefC w.drew r A B fp va vb := h.keep ((Frm.refl (fun _ => False) w).drew) fun _ _ h => h
/-- A new device of the document. -/
def NewRef (D : DV) (w : World) (v : Value) (w' : World) : Prop := ∃ r fp, v = .pointer (some ⟨r, 0, none⟩) ∧ RefM w' r D fp ∧ Frm (fun _ => False) w w' ∧ ∀ k, fp k → w.heap.size ≤ k

end Go.Proofs.Ytdhngbfigklaoaa

