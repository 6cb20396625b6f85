/- The document's registers as they lie: what is appended to their siblings, loaded, stored; slices of dots of the call's own. No condition. -/
import Derived.Test.YtmdmkcofafhlcaaSibY
namespace Go.Proofs.Ytmdmkcofafhlcaa
open Go.RowKit

/-- A slice of dots of the call's own. -/
def OwnD (w : World) (v : Value) (l : List DotI) : Prop := Row w 2 v l.length (flat dotc l)
theorem OwnD.sl {w : World} {v : Value} {l : List DotI} (h : OwnD w v l) : DL w v l := Sl.ofRow h
theorem OwnD.keep {X : Nat → Prop} {w w' : World} {v : Value} {l : List DotI} (h : OwnD w v l) (hf : Frm X w w') (hn : ∀ g, v.ownBlock = some g → ¬ X g) : OwnD w' v l := Row.keep h hf hn
theorem OwnD.nil_ (w : World) : OwnD w (.slice none 0 0) [] := Row.nil_ w 2
theorem Sl.one (w : World) (T : TypeId) (x : SibI) : SL (w.alloc (.cells #[.int .u8 x.r, .int .u32 x.n, .string (bs x.s)] T)) (.slice (some ⟨w.heap.size, 0, none⟩) 1 1) [x] :=
  Sl.built sibc sibc_len w T x #[.int .u8 x.r, .int .u32 x.n, .string (bs x.s)] rfl
/-- A register, whose siblings are of the call's own, in a block of its own. -/
structure FillT (T : TypeId) (w0 : World) (B : Nat) (f : Nat → Nat) (l : List SibI) (v : Value) (W : World) : Prop where
  blk : Blk W B T (rgc f v)
  own : OwnL W v l
  out : ∀ g, v.ownBlock = some g → w0.heap.size ≤ g ∧ g ≠ B
  frm : Frm (fun _ => False) w0 W
  lo : w0.heap.size ≤ B
theorem FillT.keep {T : TypeId} {w0 W W' : World} {B : Nat} {f : Nat → Nat} {l : List SibI} {v : Value} (h : FillT T w0 B f l v W) (g : Frm (fun _ => False) W W') : FillT T w0 B f l v W' := ⟨h.blk.keep g (fun h => h), h.own.keep g (fun _ _ h => h), h.out, h.frm.trans g, h.lo⟩
section
variable {ops : Array Oper} {Q : Exit → Act → World → Prop} {r m : Nat} {a : Act} {w W : World}
end
end Go.Proofs.Ytmdmkcofafhlcaa

