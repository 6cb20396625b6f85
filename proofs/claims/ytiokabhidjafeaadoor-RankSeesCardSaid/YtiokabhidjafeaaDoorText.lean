/- What strings.Join and path.Text answer. No condition. -/
import Derived.Test.YtiokabhidjafeaaDoorNames
import Derived.Lib.Join
namespace Go.Proofs.YtiokabhidjafeaaDoor
open Go.RowKit Go.Shelf
attribute [local go_sem] Oper.semAt_some

/-- Between two rounds of Text: these were names. -/
structure TxI (w : World) (pre : List (List UInt8)) (W : World) : Prop where
  ok : ∀ s ∈ pre, chk s = 0
  res : Blk W w.heap.size 9 #[.string ⟨#[]⟩]
  err : Blk W (w.heap.size + 1) 56 #[.int .i64 0]
  frm : Fr w W
/-- Where a round of Text has left: one is none. -/
structure TxX (w : World) (pre : List (List UInt8)) (W : World) : Prop where
  bad : ∃ s ∈ pre, chk s ≠ 0
  res : Blk W w.heap.size 9 #[.string ⟨#[]⟩]
  err : Blk W (w.heap.size + 1) 56 #[.int .i64 4]
  frm : Fr w W
theorem TxI.own (w : World) (B : Nat) (hB : w.heap.size ≤ B) : OwnFrom B (TxI w) := fun _ _ _ _ h hg hr => by
  have hr2 := fun r e => (hr r e).2
  exact ⟨h.ok, h.res.turned hg hr2, h.err.turned hg hr2, h.frm.turned hB hg hr⟩
theorem TxX.own (w : World) (B : Nat) (hB : w.heap.size ≤ B) : OwnFrom B (TxX w) := fun _ _ _ _ h hg hr => by
  have hr2 := fun r e => (hr r e).2
  exact ⟨h.bad, h.res.turned hg hr2, h.err.turned hg hr2, h.frm.turned hB hg hr⟩
theorem TxI.step {w W W1 : World} {pre : List (List UInt8)} {x : List UInt8} (hv : TxI w pre W) (n0 : Nat) (f1 : Fr W W1) (hx : chk x = 0) : KeepsOthers W W1 ∧ (n0 ≤ W.heap.size → kept n0 W W1) ∧ TxI w (pre ++ [x]) W1 := by
  refine ⟨f1.others fun _ _ h => h.elim, fun hn k hk => f1.block k (by omega) (fun h => h), fun s hs => ?_, hv.res.keep f1 (fun h => h), hv.err.keep f1 (fun h => h), hv.frm.trans f1⟩
  rcases List.mem_append.1 hs with hs | hs
  · exact hv.ok s hs
  · obtain rfl : s = x := by simpa using hs
    exact hx
theorem TxI.stop {w W W1 : World} {pre : List (List UInt8)} {x : List UInt8} (hv : TxI w pre W) (f1 : Fr W W1) (hx : chk x ≠ 0) :
    KeepsOthers W ((W1.setCell ⟨w.heap.size, 0, none⟩ (.string ⟨#[]⟩)).setCell ⟨w.heap.size + 1, 0, none⟩ (.int .i64 4)) ∧ Code.ret = Code.ret ∧ TxX w (pre ++ [x]) ((W1.setCell ⟨w.heap.size, 0, none⟩ (.string ⟨#[]⟩)).setCell ⟨w.heap.size + 1, 0, none⟩ (.int .i64 4)) := by
  have hX2 : Frm (fun k => k = w.heap.size ∨ k = w.heap.size + 1) W ((W1.setCell ⟨w.heap.size, 0, none⟩ (.string ⟨#[]⟩)).setCell ⟨w.heap.size + 1, 0, none⟩ (.int .i64 4)) :=
    ((f1.mono (fun _ _ h => h.elim)).setCell (p := ⟨w.heap.size, 0, none⟩) (fun _ => .inl rfl) _).setCell (p := ⟨w.heap.size + 1, 0, none⟩) (fun _ => .inr rfl) _
  refine ⟨hX2.others fun k o hk ho2 => ?_, rfl, ⟨x, by simp, hx⟩, ?_, ?_, ?_⟩
  · rcases hk with rfl | rfl
    · exact hv.res.isCells _ o rfl ho2
    · exact hv.err.isCells _ o rfl ho2
  · exact ((hv.res.keep f1 (fun h => h)).set 0 _).other (p := ⟨w.heap.size + 1, 0, none⟩) (by simp) _
  · exact ((hv.err.keep f1 (fun h => h)).other (p := ⟨w.heap.size, 0, none⟩) (by simp) _).set 0 _
  · exact ((hv.frm.trans f1).setCell (p := ⟨w.heap.size, 0, none⟩) (fun h => absurd h (by simp)) _).setCell (p := ⟨w.heap.size + 1, 0, none⟩) (fun h => absurd h (by simp)) _
end Go.Proofs.YtiokabhidjafeaaDoor

