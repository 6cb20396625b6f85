/- The document's own Next: of any context. No condition but that the numbers have their bits. -/
import Derived.Test.YtojbgckabifnjaaSwB
import Derived.Test.YtojbgckabifnjaaSwJ
section
namespace Go.Proofs.Ytojbgckabifnjaa
open Go.RowKit

/-- A whole dot is stored into a block that is known. -/
theorem wpl_store_rdot {ops : Array Oper} {rest : List Oper} {o : Oper} {a : Act} {w : World} {Q : Exit → Act → World → Prop} (hgd : o.guard = none) (x y : Operand) (ho : o.op = .store 48 x y)
    (b r n : Nat) (old : Array Value) (hx : a.eval x = .pointer (some ⟨b, 0, none⟩)) (hy : a.eval y = .agg (dv r n)) (h : Blk w b 48 old) (hs : old.size = 2)
    (hK : ∀ w', Blk w' b 48 (dv r n) → Frm (· = b) w w' → w'.heap.size = w.heap.size → wpList Try.prog ops Q rest (a.put o.dst undef) w') : wpList Try.prog ops Q (o :: rest) a w :=
  wpl_store_blk hgd 48 x y ho b (dv r n) old hx hy h hs (by show _ = some 2; kernel_rfl) (by simp [Value.oneCell']) hK
end Go.Proofs.Ytojbgckabifnjaa
end
section
namespace Go.Proofs.Ytojbgckabifnjaa
open Go.RowKit

section
variable {ops : Array Oper} {Q : Exit → Act → World → Prop} {r : Nat} {a : Act} {W : World}
/-- Siblings that a call has answered are stored in a register. -/
theorem tail_setR {w0 : World} {o2 o3 : Oper} {x2 y2 : Operand} {d2 : Tmp} (B : Nat) (f : Nat → Nat) (l l' : List SibI) (v : Value) (ap : Option Addr) (n cp : Nat)
    (i2 : ops[r]? = some o2) (i3 : ops[r + 1]? = some o3) (g2 : o2.guard = none) (g3 : o3.guard = none) (n2 : o2.dst = some d2) (n3 : o3.dst = none) (p3 : o3.op = .store 45 x2 y2)
    (h : FillT 47 w0 B f l v W) (o' : OwnL W (.slice ap n cp) l') (nb : ∀ g, (Value.slice ap n cp).ownBlock = some g → B < g)
    (h2 : ∀ W', (execOp a.eval o2).run Try.prog W' = .ok (.value (.pointer (some ⟨B, 8, none⟩))) W')
    (hx2 : (a.put (some d2) (.pointer (some ⟨B, 8, none⟩))).eval x2 = .pointer (some ⟨B, 8, none⟩)) (hy2 : (a.put (some d2) (.pointer (some ⟨B, 8, none⟩))).eval y2 = .slice ap n cp)
    (hK : ∀ W', FillT 47 w0 B f l' (.slice ap n cp) W' → Q .normal (a.put (some d2) (.pointer (some ⟨B, 8, none⟩))) W') : wpTail Try.prog ops Q r 2 a W := by
  refine wpTail.val i2 g2 n2 (h2 W) ?_
  refine wpTail.store_RL i3 g3 n3 _ _ p3 B f v ap n cp hx2 hy2 h.blk fun w7 b7 g7 z7 => ?_
  refine hK w7 ⟨b7, o'.keep g7 (fun g e h => by have h : g = B := h; have := nb g e; omega), fun g e => ⟨by have := nb g e; have := h.lo; omega, by have := nb g e; omega⟩, h.frm.next g7 fun k hk e => ?_, h.lo⟩
  have e : k = B := e
  have := h.lo
  omega
end
/-- A number is stored into a register's context. -/
theorem wpl_store_rctx {ops : Array Oper} {rest : List Oper} {o : Oper} {a : Act} {w : World} {Q : Exit → Act → World → Prop} (hgd : o.guard = none) (x y : Operand) (ho : o.op = .store 22 x y)
    (b k n : Nat) (f : Nat → Nat) (v : Value) (hk : k < 8) (hx : a.eval x = .pointer (some ⟨b, k, none⟩)) (hy : a.eval y = .int .u32 n) (h : Blk w b 47 (rgc f v))
    (hK : ∀ w', Blk w' b 47 (rgc (upd8 f k n) v) → Frm (· = b) w w' → w'.heap.size = w.heap.size → wpList Try.prog ops Q rest (a.put o.dst undef) w') : wpList Try.prog ops Q (o :: rest) a w := by
  have c0 := rcellsT h k hk
  have f0 := h.free k
  have a3 := Try.isAgg22
  have z3 := Try.sizeOf22
  refine wpList_plain hgd fun K hK' => ?_
  unfold Oper.wp execOp
  simp only [ho, hx, hy]
  go_simp
  refine hK' _ _ (hK _ ?_ ?_ ?_)
  · have := h.set k (.int .u32 n)
    rwa [show (rgc f v).setIfInBounds k (.int .u32 n) = rgc (upd8 f k n) v from by rcases lt8 hk with rfl | rfl | rfl | rfl | rfl | rfl | rfl | rfl <;> rfl] at this
  · exact (Frm.refl (· = b) w).setCell (p := ⟨b, k, none⟩) (fun _ => rfl) _
  · simp [World.setCell]
end Go.Proofs.Ytojbgckabifnjaa
end
