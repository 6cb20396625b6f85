/- The document's own Join: of any registers. No condition but that the numbers have their bits. -/
import Derived.Test.YtmdmkcofafhlcaaSwA
import Derived.Test.YtmdmkcofafhlcaaSibN
import Derived.Test.YtmdmkcofafhlcaaSwI
import Derived.Test.YtmdmkcofafhlcaaFrm
import Derived.Defers
import Derived.Recover
import Derived.Test.YtmdmkcofafhlcaaRelT
import Derived.Test.YtmdmkcofafhlcaaConv
import Derived.RangeFuncNested
import Derived.RangeFuncBound
import Derived.RangeFuncCalls
import Derived.RangeFuncLeaves
import Derived.Shelf.Abstract
import Derived.Shelf.RegionOpen
import Derived.OwnWalkIn
import Derived.TacticsInMore
import Derived.LoopNIn
import Derived.LoopIn
section
namespace Go.Proofs.Ytmdmkcofafhlcaa
open Go.RowKit

section
variable {ops : Array Oper} {Q : Exit → Act → World → Prop} {r : Nat} {a : Act} {W : World}
end
/-- A call's answer: a register, whose siblings are of the call's own, and an error's number. -/
def RegE (f : Nat → Nat) (l : List SibI) (e0 : Nat) (w : World) (e : Ending) (w' : World) : Prop := ∃ v', e = .returned (.tuple #[rg f v', .int .i64 e0]) ∧ OwnL w' v' l ∧ (∀ g, v'.ownBlock = some g → w.heap.size ≤ g) ∧ Frm (fun _ => False) w w'
end Go.Proofs.Ytmdmkcofafhlcaa
end
section
namespace Go.Proofs.Ytmdmkcofafhlcaa
open Go.RowKit Go.Shelf
attribute [local go_sem] Oper.semAt_some

/-- A sibling whose value is its text's length. -/
def intc (x : SibI) : List Value := [.int .u8 x.r, .int .u32 x.n, .int .i64 (x.s.length : Int)]
theorem intc_len (x : SibI) : (intc x).length = 3 := rfl
def IL (w : World) (v : Value) (l : List SibI) : Prop := Sl w 3 v l.length (flat intc l)
def OwnI (w : World) (v : Value) (l : List SibI) : Prop := Row w 3 v l.length (flat intc l)
theorem IL.keepF {w w' : World} {v : Value} {l : List SibI} (h : IL w v l) (hf : Frm (fun _ => False) w w') : IL w' v l := Sl.keepF h hf
theorem OwnI.keep {X : Nat → Prop} {w w' : World} {v : Value} {l : List SibI} (h : OwnI w v l) (hf : Frm X w w') (hn : ∀ g, v.ownBlock = some g → ¬ X g) : OwnI w' v l := Row.keep h hf hn
theorem OwnI.nil_ (w : World) : OwnI w (.slice none 0 0) [] := Row.nil_ w 3
theorem IL.one (w : World) (T : TypeId) (x : SibI) : IL (w.alloc (.cells #[.int .u8 x.r, .int .u32 x.n, .int .i64 (x.s.length : Int)] T)) (.slice (some ⟨w.heap.size, 0, none⟩) 1 1) [x] :=
  Sl.built intc intc_len w T x #[.int .u8 x.r, .int .u32 x.n, .int .i64 (x.s.length : Int)] rfl
/-- A list of the call's own in a register's block. -/
structure FillI (n1 B : Nat) (f : Nat → Nat) (l : List SibI) (v : Value) (W : World) : Prop where
  blk : Blk W B 70 (rgc f v)
  own : OwnI W v l
  out : ∀ g, v.ownBlock = some g → n1 ≤ g
section
variable {ops : Array Oper} {Q : Exit → Act → World → Prop} {r m : Nat} {a : Act} {w W : World}
end
/-- What lies between two rounds. -/
structure MpI (w : World) (n1 B : Nat) (f : Nat → Nat) (c : Value) (pre : List SibI) (W : World) : Prop where
  res : ∃ u, FillI n1 B f pre u W
  fn : Blk W (w.heap.size + 1) 72 #[c]
  ret : Blk W (w.heap.size + 1 + 1) 70 rz
  frm : Frm (fun _ => False) w W
  size : n1 ≤ W.heap.size
theorem MpI.own (w : World) (n1 B0 : Nat) (f : Nat → Nat) (c : Value) (B : Nat) (hB : w.heap.size ≤ B) : OwnFrom B (MpI w n1 B0 f c) := fun _ _ _ _ h hg hr => by
  have hr2 := fun r e => (hr r e).2
  obtain ⟨u, h1, h2, h3⟩ := h.res
  exact ⟨⟨u, h1.turned hg hr2, Row.turned h2 hg hr2, h3⟩, h.fn.turned hg hr2, h.ret.turned hg hr2, h.frm.turned hB hg hr, Nat.le_trans h.size hg.size⟩
end Go.Proofs.Ytmdmkcofafhlcaa
end
section
namespace Go.Proofs.Ytmdmkcofafhlcaa
open Go.RowKit Go.Shelf
attribute [local go_sem] Oper.semAt_some

/-- What lies between two rounds. -/
structure GnI (w : World) (n1 C : Nat) (f : Nat → Nat) (v : Value) (l : List SibI) (pre : List SibI) (W : World) : Prop where
  reg : Blk W w.heap.size 39 (rgc f v)
  sl : SL W v l
  cnt : Blk W C 3 #[.int .i64 (pre.length : Int)]
  res : Blk W (w.heap.size + 1) 4 #[.bool false]
  frm : Frm (fun _ => False) w W
  size : n1 ≤ W.heap.size
theorem GnI.own (w : World) (n1 C : Nat) (f : Nat → Nat) (v : Value) (l : List SibI) (h0 : SL w v l) (B : Nat) (hB : w.heap.size ≤ B) : OwnFrom B (GnI w n1 C f v l) := fun _ _ _ _ h hg hr => by
  have hr2 := fun r e => (hr r e).2
  have hf := h.frm.turned hB hg hr
  exact ⟨h.reg.turned hg hr2, h0.keepF hf, h.cnt.turned hg hr2, h.res.turned hg hr2, hf, Nat.le_trans h.size hg.size⟩
end Go.Proofs.Ytmdmkcofafhlcaa
end
