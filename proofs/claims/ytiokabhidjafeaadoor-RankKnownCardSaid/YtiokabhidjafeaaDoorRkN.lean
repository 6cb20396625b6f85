/- The statements' own functions on registers at stage 8: which may be gone through; a register as the document's. No condition. -/
import Derived.Test.YtiokabhidjafeaaDoorRkL
import Derived.Deep.MidRow
import Derived.Test.YtiokabhidjafeaaDoorLate
namespace Go.Proofs.YtiokabhidjafeaaDoor
open Go.RowKit

/-- No register's cells. -/
abbrev rz : Array Value := #[.int .u32 0, .int .u32 0, .int .u32 0, .int .u32 0, .int .u32 0, .int .u32 0, .int .u32 0, .int .u32 0, .slice none 0 0]
theorem rg_one (f : Nat → Nat) (a : Option Addr) (n c : Nat) : (rgc f (.slice a n c)).all (·.oneCell') = true := by simp [Value.oneCell']
theorem SL.cells {w : World} {a : Option Addr} {cap : Nat} {l : List SibI} (h : SL w (.slice a l.length cap) l) (k : Nat) (hk : k < l.length) :
    ∃ g off, a = some ⟨g, off, none⟩ ∧ w.cell? ⟨g, off + k * 3, none⟩ = some (.int .u8 l[k].r) ∧ w.cell? ⟨g, off + k * 3 + 1, none⟩ = some (.int .u32 l[k].n) ∧ w.cell? ⟨g, off + k * 3 + 2, none⟩ = some (.string (bs l[k].s)) := by
  obtain ⟨g, off, rfl, _, hc⟩ := Sl.elem sibc sibc_len h k hk (by omega)
  exact ⟨g, off, rfl, hc 0 (by omega), by rw [Nat.add_assoc]; exact hc 1 (by omega), by rw [Nat.add_assoc]; exact hc 2 (by omega)⟩

section
variable {ops : Array Oper} {Q : Exit → Act → World → Prop} {r m : Nat} {a : Act} {w W : World}
theorem wpTail.val {o : Oper} {d : Tmp} {v : Value} (hi : ops[r]? = some o) (hg : o.guard = none) (hd : o.dst = some d) (h : (execOp a.eval o).run Tryd.prog W = .ok (.value v) W) (hK : wpTail Tryd.prog ops Q (r + 1) m (a.put (some d) v) W) : wpTail Tryd.prog ops Q r (m + 1) a W := by
  refine wpTail.cons hi hg fun K hK' => ?_
  unfold Oper.wp
  rw [h]
  refine hK' _ _ ?_
  rw [hd]
  exact hK
end

/-- A slice of dots of the call's own. -/
def OwnD (w : World) (v : Value) (l : List DotI) : Prop := Row w 2 v l.length (flat dotc l)
theorem OwnD.sl {w : World} {v : Value} {l : List DotI} (h : OwnD w v l) : DL w v l := Sl.ofRow h
theorem OwnD.keep {X : Nat → Prop} {w w' : World} {v : Value} {l : List DotI} (h : OwnD w v l) (hf : Frm X w w') (hn : ∀ g, v.ownBlock = some g → ¬ X g) : OwnD w' v l := Row.keep h hf hn
theorem OwnD.nil_ (w : World) : OwnD w (.slice none 0 0) [] := Row.nil_ w 2
theorem Sl.one (w : World) (T : TypeId) (x : SibI) : SL (w.alloc (.cells #[.int .u8 x.r, .int .u32 x.n, .string (bs x.s)] T)) (.slice (some ⟨w.heap.size, 0, none⟩) 1 1) [x] :=
  Sl.built sibc sibc_len w T x #[.int .u8 x.r, .int .u32 x.n, .string (bs x.s)] rfl
/-- A register, whose siblings are of the call's own, in a block of its own. -/
structure FillT (T : TypeId) (w0 : World) (B : Nat) (f : Nat → Nat) (l : List SibI) (v : Value) (W : World) : Prop where
  blk : Blk W B T (rgc f v)
  own : OwnL W v l
  out : ∀ g, v.ownBlock = some g → w0.heap.size ≤ g ∧ g ≠ B
  frm : Frm (fun _ => False) w0 W
  lo : w0.heap.size ≤ B
theorem FillT.keep {T : TypeId} {w0 W W' : World} {B : Nat} {f : Nat → Nat} {l : List SibI} {v : Value} (h : FillT T w0 B f l v W) (g : Frm (fun _ => False) W W') : FillT T w0 B f l v W' := ⟨h.blk.keep g (fun h => h), h.own.keep g (fun _ _ h => h), h.out, h.frm.trans g, h.lo⟩
section
variable {ops : Array Oper} {Q : Exit → Act → World → Prop} {r m : Nat} {a : Act} {w W : World}
end
end Go.Proofs.YtiokabhidjafeaaDoor

