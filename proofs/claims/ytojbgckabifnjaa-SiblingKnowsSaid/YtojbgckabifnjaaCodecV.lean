/- What the reading of a var number does. -/
import Derived.Test.YtojbgckabifnjaaCodecT
import Derived.Test.YtojbgckabifnjaaHashS
import Derived.RangeFuncNested
import Derived.RangeFuncBound
import Derived.RangeFuncCalls
import Derived.RangeFuncLeaves
import Derived.Shelf.Abstract
import Derived.Shelf.RegionOpen
import Derived.OwnWalkIn
import Derived.TacticsInMore
import Derived.LoopNIn
import Derived.LoopIn
namespace Go.Proofs.Ytojbgckabifnjaa
open Go.RowKit Go.Shelf
attribute [local go_sem] Oper.semAt_some

/-- What n holds behind these bytes. -/
def accN (l : List UInt8) (xs : List (Fin l.length)) : Nat := xs.foldl (fun m x => m ||| ((l[x.val].toNat &&& 127) * 2 ^ min (7 * x.val) 32 % 4294967296)) 0
/-- The loop goes on behind this byte. -/
def goesOn (l : List UInt8) (x : Fin l.length) : Prop := 128 ≤ l[x.val].toNat ∧ x.val ≠ 4
def wrong (l : List UInt8) (x : Fin l.length) : Prop := (x.val = 4 ∧ 15 < l[x.val].toNat) ∨ (0 < x.val ∧ l[x.val].toNat = 0)
/-- Between two rounds. -/
structure VarI (w : World) (b : Nat) (l : List UInt8) (pre : List (Fin l.length)) (W : World) : Prop where
  on : ∀ x ∈ pre, goesOn l x
  rd : Rd W b l 0
  r : Blk W w.heap.size 136 #[.pointer (some ⟨b, 0, none⟩)]
  res : Blk W (w.heap.size + 1) 22 #[.int .u32 0]
  n : Blk W (w.heap.size + 1 + 1) 22 #[.int .u32 (accN l pre)]
  frm : Frm (fun _ => False) w W
/-- Where a round has left. -/
structure VarX (w : World) (b : Nat) (l : List UInt8) (pre : List (Fin l.length)) (W : World) : Prop where
  out : ∃ q x, pre = q ++ [x] ∧ (∀ y ∈ q, goesOn l y) ∧ ((wrong l x ∧ Rd W b [] 4 ∧ Blk W (w.heap.size + 1) 22 #[.int .u32 0]) ∨
    (¬ wrong l x ∧ l[x.val].toNat < 128 ∧ Rd W b (l.drop (x.val + 1)) 0 ∧ Blk W (w.heap.size + 1) 22 #[.int .u32 (accN l pre)]))
  frm : Frm (· = b) w W

theorem Blk.turned {W W' : World} {b : Nat} {t : TypeId} {cs : Array Value} {row : Option Nat} (h : Blk W b t cs) (hg : W.grownBy W' row) (hr : ∀ r, row = some r → ∃ o : Obj, W.heap[r]? = some o ∧ o.isCells = false) : Blk W' b t cs := by
  refine (hg.block b h.lt fun e => ?_).trans h
  obtain ⟨o, ho, hc⟩ := hr b e.symm
  rw [h] at ho
  cases ho
  cases hc
theorem Rd.turned {W W' : World} {b : Nat} {l : List UInt8} {e : Nat} {row : Option Nat} (h : Rd W b l e) (hg : W.grownBy W' row) (hr : ∀ r, row = some r → ∃ o : Obj, W.heap[r]? = some o ∧ o.isCells = false) : Rd W' b l e := ⟨h.blk.turned hg hr, h.len, h.err⟩
theorem Frm.turned {X : Nat → Prop} {w W W' : World} {B : Nat} {row : Option Nat} (h : Frm X w W) (hB : w.heap.size ≤ B) (hg : W.grownBy W' row) (hr : ∀ r, row = some r → B ≤ r ∧ ∃ o : Obj, W.heap[r]? = some o ∧ o.isCells = false) : Frm X w W' :=
  h.grown hg fun k hk e => by have := (hr k e).1; omega
theorem VarI.own (w : World) (b : Nat) (l : List UInt8) (B : Nat) (hB : w.heap.size ≤ B) : OwnFrom B (VarI w b l) := fun _ _ _ _ h hg hr =>
  have hr2 := fun r e => (hr r e).2
  ⟨h.on, h.rd.turned hg hr2, h.r.turned hg hr2, h.res.turned hg hr2, h.n.turned hg hr2, h.frm.turned hB hg hr⟩
theorem VarX.own (w : World) (b : Nat) (l : List UInt8) (B : Nat) (hB : w.heap.size ≤ B) : OwnFrom B (VarX w b l) := fun pre W W' row h hg hr => by
  have hr2 := fun r e => (hr r e).2
  refine ⟨?_, h.frm.turned hB hg hr⟩
  obtain ⟨q, x, e, hq, h1 | h1⟩ := h.out
  · exact ⟨q, x, e, hq, .inl ⟨h1.1, h1.2.1.turned hg hr2, h1.2.2.turned hg hr2⟩⟩
  · exact ⟨q, x, e, hq, .inr ⟨h1.1, h1.2.1, h1.2.2.1.turned hg hr2, h1.2.2.2.turned hg hr2⟩⟩

theorem Frm.others {X : Nat → Prop} {w w' : World} (h : Frm X w w') (hx : ∀ k o, X k → w.heap[k]? = some o → o.isCells = true) : KeepsOthers w w' :=
  ⟨h.size, fun k o hk ho => by
    refine (h.block k (Array.getElem?_eq_some_iff.1 hk).1 fun hX => ?_).trans hk
    rw [hx k o hX hk] at ho; cases ho⟩
theorem Blk.isCells {w : World} {b : Nat} {t : TypeId} {cs : Array Value} (h : Blk w b t cs) : ∀ k o, k = b → w.heap[k]? = some o → o.isCells = true := by
  rintro k o rfl ho
  rw [h] at ho
  cases ho
  rfl
theorem VarX.fail {w W W1 : World} {b : Nat} {l : List UInt8} {pre : List (Fin l.length)} (h : Rd w b l 0) (hv : VarI w b l pre W) (x : Fin l.length) (hw : wrong l x) (h1 : Rd W1 b [] 4) (h2 : Frm (· = b) W W1) :
    KeepsOthers W (W1.setCell ⟨w.heap.size + 1, 0, none⟩ (.int .u32 0)) ∧ Code.ret = Code.ret ∧ VarX w b l (pre ++ [x]) (W1.setCell ⟨w.heap.size + 1, 0, none⟩ (.int .u32 0)) := by
  have hlt := h.lt
  have hres : Blk W1 (w.heap.size + 1) 22 #[.int .u32 0] := hv.res.keep h2 (by omega)
  refine ⟨(h2.others hv.rd.blk.isCells).trans (KeepsOthers.setCell _ _ _), rfl, ⟨⟨pre, x, rfl, hv.on, .inl ⟨hw, ⟨h1.blk.other (by simp; omega) _, h1.len, h1.err⟩, hres.set 0 _⟩⟩, ?_⟩⟩
  exact ((hv.frm.mono (Y := (· = b)) (fun _ _ h => h.elim)).next h2 (fun _ _ h => h)).setCell (p := ⟨w.heap.size + 1, 0, none⟩) (fun h => absurd h (by simp)) _

/-- Behind the digit's being put down. -/
structure VarJ (w : World) (b : Nat) (l : List UInt8) (pre : List (Fin l.length)) (W W1 : World) : Prop where
  rd : Rd W1 b l 0
  r : Blk W1 w.heap.size 136 #[.pointer (some ⟨b, 0, none⟩)]
  res : Blk W1 (w.heap.size + 1) 22 #[.int .u32 0]
  n : Blk W1 (w.heap.size + 1 + 1) 22 #[.int .u32 (accN l pre)]
  frm : Frm (fun _ => False) w W1
  oth : KeepsOthers W W1
  bn : W1.heap[w.heap.size + 1 + 1 + 1]? = W.heap[w.heap.size + 1 + 1 + 1]?
theorem VarJ.step {w W : World} {b : Nat} {l : List UInt8} {pre : List (Fin l.length)} (h : Rd w b l 0) (hv : VarI w b l pre W) (x : Fin l.length) :
    VarJ w b l (pre ++ [x]) W (W.setCell ⟨w.heap.size + 1 + 1, 0, none⟩ (.int .u32 (accN l (pre ++ [x])))).drew := by
  have hlt := h.lt
  exact ⟨⟨(hv.rd.blk.other (by simp; omega) _).drew, h.len, by omega⟩, (hv.r.other (by simp; omega) _).drew, (hv.res.other (by simp) _).drew, (hv.n.set 0 _).drew, (hv.frm.setCell (p := ⟨w.heap.size + 1 + 1, 0, none⟩) (fun h => absurd h (by simp; omega)) _).drew,
    (KeepsOthers.setCell _ _ _).trans (KeepsOthers.drew _), Below.heap_setCell _ _ _ _ (by simp)⟩
theorem VarX.good {w W W1 : World} {b : Nat} {l : List UInt8} {pre : List (Fin l.length)} (h : Rd w b l 0) (hv : VarI w b l pre W) (x : Fin l.length) (hw : ¬ wrong l x) (hb : l[x.val].toNat < 128) (hj : VarJ w b l (pre ++ [x]) W W1) :
    KeepsOthers W ((W1.setCell ⟨b, 0, none⟩ (.string ((bs l).extract (x.val + 1) (bs l).size))).setCell ⟨w.heap.size + 1, 0, none⟩ (.int .u32 (accN l (pre ++ [x])))).drew ∧ Code.ret = Code.ret ∧
      VarX w b l (pre ++ [x]) ((W1.setCell ⟨b, 0, none⟩ (.string ((bs l).extract (x.val + 1) (bs l).size))).setCell ⟨w.heap.size + 1, 0, none⟩ (.int .u32 (accN l (pre ++ [x])))).drew := by
  have hlt := h.lt
  rw [bs_drop]
  have hr := hj.rd.rest (x.val + 1)
  refine ⟨((hj.oth.trans (KeepsOthers.setCell _ _ _)).trans (KeepsOthers.setCell _ _ _)).trans (KeepsOthers.drew _), rfl, ⟨⟨pre, x, rfl, hv.on, .inr ⟨hw, hb, ⟨(hr.blk.other (by simp; omega) _).drew, hr.len, by omega⟩, (((hj.res.other (by simp; omega) _).set 0 _).drew)⟩⟩, ?_⟩⟩
  exact (((hj.frm.mono (Y := (· = b)) (fun _ _ h => h.elim)).setCell (p := ⟨b, 0, none⟩) (fun _ => rfl) _).setCell (p := ⟨w.heap.size + 1, 0, none⟩) (fun h => absurd h (by simp)) _).drew

/-! What is read, in plain words. -/
/-- A reader that is torn, between two rounds. -/
structure VarE (w : World) (b e : Nat) (W : World) : Prop where
  rd : Rd W b [] e
  r : Blk W w.heap.size 136 #[.pointer (some ⟨b, 0, none⟩)]
  res : Blk W (w.heap.size + 1) 22 #[.int .u32 0]
  frm : Frm (fun _ => False) w W
theorem VarE.own {α : Type} (w : World) (b e : Nat) (B : Nat) (hB : w.heap.size ≤ B) : OwnFrom (β := α) B (fun _ => VarE w b e) := fun _ _ _ _ h hg hr =>
  have hr2 := fun r e => (hr r e).2
  ⟨h.rd.turned hg hr2, h.r.turned hg hr2, h.res.turned hg hr2, h.frm.turned hB hg hr⟩

end Go.Proofs.Ytojbgckabifnjaa

