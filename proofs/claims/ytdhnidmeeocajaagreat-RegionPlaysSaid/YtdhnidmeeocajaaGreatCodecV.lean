/- The statements' own functions on devices: given, begins, left, awake. No condition. -/
import Derived.Test.YtdhnidmeeocajaaGreatDvJ
import Derived.Test.YtdhnidmeeocajaaGreatRow
import Derived.RangeFuncNested
import Derived.RangeFuncOwn
import Derived.OwnWalkIn
import Derived.Test.YtdhnidmeeocajaaGreatCodecT
import Derived.RangeFuncBound
import Derived.RangeFuncCalls
import Derived.RangeFuncLeaves
import Derived.Shelf.Abstract
import Derived.Shelf.RegionOpen
import Derived.TacticsInMore
import Derived.LoopNIn
import Derived.LoopIn
section
namespace Go.Proofs.YtdhnidmeeocajaaGreat
open Go.RowKit Go.Shelf

theorem bs_ext (r : List UInt8) (j : Nat) : (bs r).extract 0 j = bs (r.take j) := by
  apply ByteArray.ext
  apply Array.ext'
  simp [bs]
theorem bs_ext2 (r : List UInt8) (i j : Nat) (h : i ≤ j) : (bs r).extract i j = bs ((r.take j).drop i) := by
  apply ByteArray.ext
  apply Array.ext'
  have e : i + (j - i) = j := by omega
  simp [bs, List.take_drop, e]
theorem zs_one (w : World) (q : Int) (t : TypeId) : Zs (w.alloc (.cells #[.int .i64 q] t)) (.slice (some ⟨w.heap.size, 0, none⟩) 1 1) [q] := by
  refine ⟨rfl, _, 1, rfl, Nat.le_refl _, by decide, .inr ⟨_, 0, rfl, by simp, fun j hj => ?_⟩⟩
  obtain rfl : j = 0 := by simp at hj; omega
  exact (Blk.alloc w t #[.int .i64 q]).cell 0 rfl
end Go.Proofs.YtdhnidmeeocajaaGreat
end
section
namespace Go.Proofs.YtdhnidmeeocajaaGreat
open Go.RowKit Go.Shelf

def DV.act (D : DV) (x : ActD) : DV := if x.k % 6 = 3 then D.flush else if x.k % 6 = 4 then D.crash x.cs else if x.k % 6 = 5 then D else D.writeTo x.q x.s
def DV.acts (D : DV) (L : List ActD) : DV := L.foldl DV.act D
/-- A region's last operation is a call. -/
theorem wpOp_callD {ops : Array Oper} {Q : Exit → Act → World → Prop} {K : Act → World → Prop} {i : Nat} {o : Oper} {a : Act} {W : World} {f : FuncId} {args : Array Value} {e : Tmp} (hi : ops[i]? = some o) (hd : o.dst = some e) (hw : Region.wanted o (yielded ops a.tmps) = true)
    (h : (execOp a.eval o).run Tryz.prog W = .ok (.enter f args) W) (hc : Calls Tryz.prog f args W fun e' W' => ∃ u, e' = .returned u ∧ K (a.put (some e) u) W') : wpOp Tryz.prog ops Q i K a W :=
  OpOK.wpOp (K := fun u W' => K (a.put (some e) u) W') hi (.inl ⟨hw, by rw [h]; exact hc⟩) fun _ _ h => by rw [hd]; exact h
end Go.Proofs.YtdhnidmeeocajaaGreat
end
section
namespace Go.Proofs.YtdhnidmeeocajaaGreat
open Go.RowKit Go.Shelf

theorem DV.act_n (D : DV) (x : ActD) : (D.act x).n = D.n := by
  unfold DV.act DV.writeTo
  split
  · rfl
  · split
    · rfl
    · split
      · rfl
      · split <;> rfl
theorem new256 (w : World) : Calls Tryz.prog 10 #[.int .i64 256] w fun e w' => ∃ v, e = .returned v ∧ NewDev (DV.new 256) w v w' := by
  refine (new_any 256 w).mono fun e w' h => ?_
  unfold NewTo at h
  rw [if_pos (by decide)] at h
  exact h
theorem repeatL_zero (n : Nat) : Lib.repeatL [0] n = List.replicate n 0 := by
  induction n with
  | zero => rfl
  | succ n ih => simp [Lib.repeatL, ih, List.replicate_succ]
theorem zeros_any (c : Nat) (w : World) (hc : c ≤ 64) : Calls Tryz.prog 25 #[.string ⟨#[0]⟩, .int .i64 (c : Int)] w fun e w' => e = .returned (.string (bs (List.replicate c 0))) ∧ Frm (fun _ => False) w w' :=
  (Tryz.strings_Repeat ⟨#[0]⟩ c w (by omega) (by show 1 * c ≤ _; omega)).mono fun e w' ⟨h1, h2⟩ => ⟨by rw [h1, ← repeatL_zero]; rfl, (Frm.ofBelow h2).mono fun k hk h => by omega⟩
end Go.Proofs.YtdhnidmeeocajaaGreat
end
section
namespace Go.Proofs.YtdhnidmeeocajaaGreat
open Go.RowKit
theorem Blk.turned {W W' : World} {b : Nat} {t : TypeId} {cs : Array Value} {row : Option Nat} (h : Blk W b t cs) (hg : W.grownBy W' row) (hr : ∀ r, row = some r → ∃ o : Obj, W.heap[r]? = some o ∧ o.isCells = false) : Blk W' b t cs := by
  refine (hg.block b h.lt fun e => ?_).trans h
  obtain ⟨o, ho, hc⟩ := hr b e.symm
  rw [h] at ho
  cases ho
  cases hc
theorem Frm.turned {X : Nat → Prop} {w W W' : World} {B : Nat} {row : Option Nat} (h : Frm X w W) (hB : w.heap.size ≤ B) (hg : W.grownBy W' row) (hr : ∀ r, row = some r → B ≤ r ∧ ∃ o : Obj, W.heap[r]? = some o ∧ o.isCells = false) : Frm X w W' :=
  h.grown hg fun k hk e => by have := (hr k e).1; omega
theorem Frm.others {X : Nat → Prop} {w w' : World} (h : Frm X w w') (hx : ∀ k o, X k → w.heap[k]? = some o → o.isCells = true) : KeepsOthers w w' :=
  ⟨h.size, fun k o hk ho => by
    refine (h.block k (Array.getElem?_eq_some_iff.1 hk).1 fun hX => ?_).trans hk
    rw [hx k o hX hk] at ho; cases ho⟩
theorem Blk.isCells {w : World} {b : Nat} {t : TypeId} {cs : Array Value} (h : Blk w b t cs) : ∀ k o, k = b → w.heap[k]? = some o → o.isCells = true := by
  rintro k o rfl ho
  rw [h] at ho
  cases ho
  rfl
end Go.Proofs.YtdhnidmeeocajaaGreat
end
section
namespace Go.Proofs.YtdhnidmeeocajaaGreat
open Go.RowKit
def noDefer (o : Oper) : Bool := match o.op with
  | .defer _ => false
  | _ => true
section
variable {F : Fence} {n : Nat} {P : Program} {ops : Array Oper} {Q : Exit → Act → World → Prop}
theorem wpIn_round {o : Oper} (l : Nat) (hro : F.round = none) (hd : noDefer o = true) {a : Act} {w : World} {K : Act → World → Prop} (h : o.wpIn F n P a w K Q) : o.wpIn (F.inRound l) n P a w K Q := by
  unfold Oper.wpIn at *
  have hs : o.semAt (F.inRound l).round a.eval = o.semAt F.round a.eval := by
    rw [hro, Fence.inRound_round, Oper.semAt_some l _ _ (fun c hc => by simp [noDefer, hc] at hd), Oper.semAt_none]
  rw [hs]
  refine ⟨h.1, ?_⟩
  have h2 := h.2
  generalize (o.semAt F.round a.eval).run P w = r at *
  cases r with
  | ok x w' => cases x <;> exact h2
  | halt x w' => cases x <;> exact h2
theorem wpOpIn_round (l : Nat) (hro : F.round = none) (hd : ops.all noDefer = true) {i : Nat} {a : Act} {w : World} {K : Act → World → Prop} (h : wpOpIn F n P ops Q i K a w) : wpOpIn (F.inRound l) n P ops Q i K a w := by
  unfold wpOpIn at *
  split
  · simpa [*] using h
  · rename_i o ho
    simp only [ho] at h
    have hdo : noDefer o = true := by
      obtain ⟨hlt, rfl⟩ := Array.getElem?_eq_some_iff.1 ho
      exact Array.all_eq_true.1 hd i hlt
    split
    · rename_i hw
      simp only [hw, if_true] at h
      exact wpIn_round l hro hdo h
    · rename_i hw
      simp only [hw] at h
      exact h
theorem wpAnyIn_round (l : Nat) (hro : F.round = none) (hd : ops.all noDefer = true) {md : Region.Mode} : ∀ (fuel : Nat) (listed : Array Bool) (a : Act) (w : World), wpAnyIn F n P md ops Q fuel listed a w → wpAnyIn (F.inRound l) n P md ops Q fuel listed a w := by
  intro fuel
  induction fuel with
  | zero => intro listed a w h; exact h
  | succ fuel ih =>
    intro listed a w h
    exact ⟨h.1, fun i hi => wpOpIn_mono (fun a w => ih _ a w) (wpOpIn_round l hro hd (h.2 i hi))⟩
/-- THE RULE: walk the region as if it stood outside of the round. -/
theorem wpIn_region_round {l id : Nat} {a : Act} {w : World} (hro : F.round = none) (hm : P.follows .mixedOrders = true) (hd : ops.all noDefer = true)
    (h : wpAnyIn F n P .any ops Q ops.size (Array.replicate ops.size false) a w.drew) : (Code.region id ops true).wpIn (F.inRound l) n P Q a w :=
  wpIn_region_any hm (wpAnyIn_round l hro hd _ _ _ _ h)
end
end Go.Proofs.YtdhnidmeeocajaaGreat
end
section
namespace Go.Proofs.YtdhnidmeeocajaaGreat
open Go.RowKit Go.Shelf
attribute [local go_sem] Oper.semAt_some

/-- What n holds behind these bytes. -/
def accN (l : List UInt8) (xs : List (Fin l.length)) : Nat := xs.foldl (fun m x => m ||| ((l[x.val].toNat &&& 127) * 2 ^ min (7 * x.val) 32 % 4294967296)) 0
/-- The loop goes on behind this byte. -/
def goesOn (l : List UInt8) (x : Fin l.length) : Prop := 128 ≤ l[x.val].toNat ∧ x.val ≠ 4
def wrong (l : List UInt8) (x : Fin l.length) : Prop := (x.val = 4 ∧ 15 < l[x.val].toNat) ∨ (0 < x.val ∧ l[x.val].toNat = 0)
/-- Between two rounds. -/
structure VarI (w : World) (b : Nat) (l : List UInt8) (pre : List (Fin l.length)) (W : World) : Prop where
  on : ∀ x ∈ pre, goesOn l x
  rd : Rd W b l 0
  r : Blk W w.heap.size 150 #[.pointer (some ⟨b, 0, none⟩)]
  res : Blk W (w.heap.size + 1) 44 #[.int .u32 0]
  n : Blk W (w.heap.size + 1 + 1) 44 #[.int .u32 (accN l pre)]
  frm : Frm (fun _ => False) w W
/-- Where a round has left. -/
structure VarX (w : World) (b : Nat) (l : List UInt8) (pre : List (Fin l.length)) (W : World) : Prop where
  out : ∃ q x, pre = q ++ [x] ∧ (∀ y ∈ q, goesOn l y) ∧ ((wrong l x ∧ Rd W b [] 4 ∧ Blk W (w.heap.size + 1) 44 #[.int .u32 0]) ∨
    (¬ wrong l x ∧ l[x.val].toNat < 128 ∧ Rd W b (l.drop (x.val + 1)) 0 ∧ Blk W (w.heap.size + 1) 44 #[.int .u32 (accN l pre)]))
  frm : Frm (· = b) w W

theorem Rd.turned {W W' : World} {b : Nat} {l : List UInt8} {e : Nat} {row : Option Nat} (h : Rd W b l e) (hg : W.grownBy W' row) (hr : ∀ r, row = some r → ∃ o : Obj, W.heap[r]? = some o ∧ o.isCells = false) : Rd W' b l e := ⟨h.blk.turned hg hr, h.len, h.err⟩
theorem VarI.own (w : World) (b : Nat) (l : List UInt8) (B : Nat) (hB : w.heap.size ≤ B) : OwnFrom B (VarI w b l) := fun _ _ _ _ h hg hr =>
  have hr2 := fun r e => (hr r e).2
  ⟨h.on, h.rd.turned hg hr2, h.r.turned hg hr2, h.res.turned hg hr2, h.n.turned hg hr2, h.frm.turned hB hg hr⟩
theorem VarX.own (w : World) (b : Nat) (l : List UInt8) (B : Nat) (hB : w.heap.size ≤ B) : OwnFrom B (VarX w b l) := fun pre W W' row h hg hr => by
  have hr2 := fun r e => (hr r e).2
  refine ⟨?_, h.frm.turned hB hg hr⟩
  obtain ⟨q, x, e, hq, h1 | h1⟩ := h.out
  · exact ⟨q, x, e, hq, .inl ⟨h1.1, h1.2.1.turned hg hr2, h1.2.2.turned hg hr2⟩⟩
  · exact ⟨q, x, e, hq, .inr ⟨h1.1, h1.2.1, h1.2.2.1.turned hg hr2, h1.2.2.2.turned hg hr2⟩⟩

theorem VarX.fail {w W W1 : World} {b : Nat} {l : List UInt8} {pre : List (Fin l.length)} (h : Rd w b l 0) (hv : VarI w b l pre W) (x : Fin l.length) (hw : wrong l x) (h1 : Rd W1 b [] 4) (h2 : Frm (· = b) W W1) :
    KeepsOthers W (W1.setCell ⟨w.heap.size + 1, 0, none⟩ (.int .u32 0)) ∧ Code.ret = Code.ret ∧ VarX w b l (pre ++ [x]) (W1.setCell ⟨w.heap.size + 1, 0, none⟩ (.int .u32 0)) := by
  have hlt := h.lt
  have hres : Blk W1 (w.heap.size + 1) 44 #[.int .u32 0] := hv.res.keep h2 (by omega)
  refine ⟨(h2.others hv.rd.blk.isCells).trans (KeepsOthers.setCell _ _ _), rfl, ⟨⟨pre, x, rfl, hv.on, .inl ⟨hw, ⟨h1.blk.other (by simp; omega) _, h1.len, h1.err⟩, hres.set 0 _⟩⟩, ?_⟩⟩
  exact ((hv.frm.mono (Y := (· = b)) (fun _ _ h => h.elim)).next h2 (fun _ _ h => h)).setCell (p := ⟨w.heap.size + 1, 0, none⟩) (fun h => absurd h (by simp)) _

/-- Behind the digit's being put down. -/
structure VarJ (w : World) (b : Nat) (l : List UInt8) (pre : List (Fin l.length)) (W W1 : World) : Prop where
  rd : Rd W1 b l 0
  r : Blk W1 w.heap.size 150 #[.pointer (some ⟨b, 0, none⟩)]
  res : Blk W1 (w.heap.size + 1) 44 #[.int .u32 0]
  n : Blk W1 (w.heap.size + 1 + 1) 44 #[.int .u32 (accN l pre)]
  frm : Frm (fun _ => False) w W1
  oth : KeepsOthers W W1
  bn : W1.heap[w.heap.size + 1 + 1 + 1]? = W.heap[w.heap.size + 1 + 1 + 1]?
theorem VarJ.step {w W : World} {b : Nat} {l : List UInt8} {pre : List (Fin l.length)} (h : Rd w b l 0) (hv : VarI w b l pre W) (x : Fin l.length) :
    VarJ w b l (pre ++ [x]) W (W.setCell ⟨w.heap.size + 1 + 1, 0, none⟩ (.int .u32 (accN l (pre ++ [x])))).drew := by
  have hlt := h.lt
  exact ⟨⟨(hv.rd.blk.other (by simp; omega) _).drew, h.len, by omega⟩, (hv.r.other (by simp; omega) _).drew, (hv.res.other (by simp) _).drew, (hv.n.set 0 _).drew, (hv.frm.setCell (p := ⟨w.heap.size + 1 + 1, 0, none⟩) (fun h => absurd h (by simp; omega)) _).drew,
    (KeepsOthers.setCell _ _ _).trans (KeepsOthers.drew _), Below.heap_setCell _ _ _ _ (by simp)⟩
theorem VarJ.go {w W W1 : World} {b : Nat} {l : List UInt8} {pre : List (Fin l.length)} {x : Fin l.length} (hj : VarJ w b l (pre ++ [x]) W W1) (hv : VarI w b l pre W) (hw : ¬ wrong l x) (hb : ¬ l[x.val].toNat < 128) :
    KeepsOthers W W1 ∧ W1.heap[w.heap.size + 1 + 1 + 1]? = W.heap[w.heap.size + 1 + 1 + 1]? ∧ VarI w b l (pre ++ [x]) W1 := by
  refine ⟨hj.oth, hj.bn, ⟨fun y hy => ?_, hj.rd, hj.r, hj.res, hj.n, hj.frm⟩⟩
  rcases List.mem_append.1 hy with hy | hy
  · exact hv.on y hy
  · obtain rfl : y = x := by simpa using hy
    exact ⟨by omega, fun h4 => hw (.inl ⟨h4, by omega⟩)⟩

/-! What is read, in plain words. -/
/-- A reader that is torn, between two rounds. -/
structure VarE (w : World) (b e : Nat) (W : World) : Prop where
  rd : Rd W b [] e
  r : Blk W w.heap.size 150 #[.pointer (some ⟨b, 0, none⟩)]
  res : Blk W (w.heap.size + 1) 44 #[.int .u32 0]
  frm : Frm (fun _ => False) w W
theorem VarE.own {α : Type} (w : World) (b e : Nat) (B : Nat) (hB : w.heap.size ≤ B) : OwnFrom (β := α) B (fun _ => VarE w b e) := fun _ _ _ _ h hg hr =>
  have hr2 := fun r e => (hr r e).2
  ⟨h.rd.turned hg hr2, h.r.turned hg hr2, h.res.turned hg hr2, h.frm.turned hB hg hr⟩

end Go.Proofs.YtdhnidmeeocajaaGreat
end
