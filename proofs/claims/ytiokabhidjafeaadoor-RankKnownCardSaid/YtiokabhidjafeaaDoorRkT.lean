/- A round of At: one more is seen. No condition. -/
import Derived.Test.YtiokabhidjafeaaDoorRkS
namespace Go.Proofs.YtiokabhidjafeaaDoor
open Go.RowKit

/-- What lies between two rounds: what is seen so far; u0 is the slice that there was when the loop began. -/
structure AtI (w1 : World) (Bo n1 : Nat) (u0 : Value) (Fm : List (GrpI × Value) → List (SeenI × Value)) (pre : List (GrpI × Value)) (W : World) : Prop where
  res : ∃ u, Blk W Bo 47 #[u] ∧ SeO n1 W u (Fm pre) ∧ ∀ g, u.ownBlock = some g → u0.ownBlock = some g ∨ w1.heap.size ≤ g
  frm : Frm (fun q => q = Bo ∨ u0.ownBlock = some q) w1 W
theorem AtI.tw {w1 W W' : World} {Bo n1 : Nat} {u0 : Value} {Fm : List (GrpI × Value) → List (SeenI × Value)} {pre : List (GrpI × Value)} (h : AtI w1 Bo n1 u0 Fm pre W) (g : Tw w1.heap.size W W') : AtI w1 Bo n1 u0 Fm pre W' := by
  obtain ⟨u, h1, h2, h3⟩ := h.res
  exact ⟨⟨u, g.blk h1, h2.tw g, h3⟩, g.frm h.frm (Nat.le_refl _)⟩
theorem at_step {w1 W0 W1 W3 Wb : World} {Bo n1 : Nat} {u0 : Value} {Fm : List (GrpI × Value) → List (SeenI × Value)} {K : Nat → Prop} {pre : List (GrpI × Value)} {x : GrpI × Value} {y : SeenI × Value} (hi : AtI w1 Bo n1 u0 Fm pre W0) (hBo : Bo < n1) (hn1 : n1 ≤ w1.heap.size) (f01 : Frm (fun _ => False) W0 W1) (hy : GY x W0 W1)
    (h13 : Tw w1.heap.size W1 W3) (hk3 : KeepsFrom w1.heap.size W3 Wb) (h3b : Frm (fun q => W1.heap.size ≤ q) W3 Wb) (hox : OwnE Wb x.2 x.1.d) (hK : ∀ q, K q → q < w1.heap.size ∧ q ≠ Bo ∧ u0.ownBlock ≠ some q) (hyg : y.1.g = x.1) (hyv : y.2 = x.2) (hF : Fm (pre ++ [x]) = Fm pre ++ [y]) (hl : (Fm pre).length ≤ 100000) :
    ∃ u v' W4, Blk Wb Bo 47 #[u] ∧ (Builtin.append_ #[47, 47] 47 #[u, .slice (some ⟨Wb.heap.size, 0, none⟩) 1 1]).run Tryd.prog (Wb.alloc (.cells #[.string (bs y.1.n), .bool y.1.dir, .bool y.1.con, .string (bs x.1.s), x.2] 52)) = .ok v' W4 ∧ Blk W4 Bo 47 #[u] ∧
      (KeepsFrom w1.heap.size W3 (W4.setCell ⟨Bo, 0, none⟩ v') ∧ keptS K W1 (W4.setCell ⟨Bo, 0, none⟩ v') ∧ AtI w1 Bo n1 u0 Fm (pre ++ [x]) (W4.setCell ⟨Bo, 0, none⟩ v')) ∧ (∃ a n c, u = .slice a n c) ∧ ∃ a n c, v' = .slice a n c := by
  obtain ⟨ho, hn⟩ := hy
  obtain ⟨u, hu0, hg0, hgw⟩ := hi.res
  have hs0 : w1.heap.size ≤ W0.heap.size := hi.frm.size
  have hs01 := f01.size
  have t03 : Tw w1.heap.size W0 W3 := (Tw.old f01).trans h13
  have hu3 : Blk W3 Bo 47 #[u] := t03.blk hu0
  have hg3 := hg0.tw t03
  have hub : ∀ g, u.ownBlock = some g → n1 ≤ g ∧ g < W0.heap.size := fun g e => ⟨hg0.lo g e, Row.fresh hg0.row e⟩
  have hdb : ∀ i (h : i < (Fm pre).length) g, (Fm pre)[i].2.ownBlock = some g → n1 ≤ g ∧ g < W0.heap.size := fun i h g e => ⟨hg0.lod i h g e, Row.fresh (hg0.dots i h) e⟩
  have hub3 : Blk Wb Bo 47 #[u] := hu3.keep h3b (by omega)
  have hgb : SeO n1 Wb u (Fm pre) := hg3.keep h3b (fun g e h => by have := (hub g e).2; omega) (fun i h g e hh => by have := (hdb i h g e).2; omega)
  have hs1 : w1.heap.size ≤ Wb.heap.size := by have := h13.size; have := h3b.size; omega
  have fA : Frm (fun _ => False) Wb (Wb.alloc (.cells #[.string (bs y.1.n), .bool y.1.dir, .bool y.1.con, .string (bs x.1.s), x.2] 52)) := (Frm.refl _ Wb).alloc _
  have ecs : (#[.string (bs y.1.n), .bool y.1.dir, .bool y.1.con, .string (bs x.1.s), x.2] : Array Value).toList = sec y := by
    unfold sec
    rw [hyg, hyv]
  obtain ⟨v', W4, hrun, hrow, hgr, hnew⟩ := append_seen (Wb.alloc (.cells #[.string (bs y.1.n), .bool y.1.dir, .bool y.1.con, .string (bs x.1.s), x.2] 52)) u (.slice (some ⟨Wb.heap.size, 0, none⟩) 1 1) (Fm pre) [y] (Row.keep hgb.row fA (fun _ _ h => h))
    (Sl.built sec sec_len Wb 52 y #[.string (bs y.1.n), .bool y.1.dir, .bool y.1.con, .string (bs x.1.s), x.2] ecs)
    (fun q hq => by
      simp [flat, sec] at hq
      rcases hq with rfl | rfl | rfl | rfl | rfl
      · rfl
      · rfl
      · rfl
      · rfl
      · obtain ⟨a, c, e, _, _⟩ := Row.slice ho
        rw [hyv, e]; rfl) (by simp; omega)
  have f4 : Frm (fun q => u.ownBlock = some q) Wb W4 := (fA.mono fun _ _ h => h.elim).grown hgr (fun q _ e => e)
  have b4 : Blk W4 Bo 47 #[u] := hub3.keep f4 (fun e => by have := (hub _ e).1; omega)
  have hadd := SeO.add (hgb.keepF fA) y (by rw [hyv, hyg]; exact hox.keep fA (fun _ _ h => h)) (fun g e => by
    rw [hyv] at e
    have h1 := hn g e
    exact ⟨by omega, fun e2 => by have := (hub g e2).2; omega, fun i h e2 => by have := (hdb i h g e2).2; omega⟩) hrow hgr hnew (by have := fA.size; omega)
  have fs : Frm (fun q => q = Bo) W4 (W4.setCell ⟨Bo, 0, none⟩ v') := (Frm.refl (fun q => q = Bo) W4).setCell (p := ⟨Bo, 0, none⟩) (fun _ => rfl) _
  have f5 : Frm (fun q => q = Bo ∨ u.ownBlock = some q) Wb (W4.setCell ⟨Bo, 0, none⟩ v') := (f4.mono fun _ _ h => .inr h).trans (fs.mono fun _ _ h => .inl h)
  have hiso : ∀ q o, (q = Bo ∨ u.ownBlock = some q) → Wb.heap[q]? = some o → o.isCells = true := fun q o hq ho2 => by
    rcases hq with rfl | hq
    · exact hub3.isCells _ o rfl ho2
    · exact Row.isCellsR hgb.row q o hq ho2
  have f3 : Frm (fun q => q = Bo ∨ u.ownBlock = some q ∨ W1.heap.size ≤ q) W3 (W4.setCell ⟨Bo, 0, none⟩ v') := (h3b.mono fun _ _ h => .inr (.inr h)).trans (f5.mono fun _ _ h => h.imp id Or.inl)
  have fw3 : Frm (fun q => q = Bo ∨ u0.ownBlock = some q) w1 W3 := t03.frm hi.frm (Nat.le_refl _)
  refine ⟨u, v', W4, hub3, hrun, b4, ⟨hk3.trans ((f5.others hiso).from _), fun q hq => ?_, ⟨⟨v', b4.set 0 v', ?_, fun g e => ?_⟩, fw3.next f3 (fun q hq e => ?_)⟩⟩, ?_, ?_⟩
  · obtain ⟨h1, h2, h3⟩ := hK q hq
    have e3 := h13.block q (by omega) (fun e => by have := e.1; omega)
    have e4 := f3.block q (by have := h13.size; omega) (fun e => by
      rcases e with e | e | e
      · exact h2 e
      · rcases hgw q e with e | e
        · exact h3 e
        · omega
      · omega)
    exact e4.trans e3
  · rw [hF]
    exact hadd.keep fs (fun q e e2 => by have := hadd.lo q e; omega) (fun i h q e e2 => by have := hadd.lod i h q e; omega)
  · rcases hnew g e with e2 | e2
    · exact hgw g e2
    · have := fA.size; exact .inr (by omega)
  · rcases e with e | e | e
    · exact .inl e
    · rcases hgw q e with e | e
      · exact .inr e
      · omega
    · omega
  · obtain ⟨a, c, e, _, _⟩ := Row.slice hgb.row
    exact ⟨a, _, c, e⟩
  · obtain ⟨a, c, e, _, _⟩ := Row.slice hrow
    exact ⟨a, _, c, e⟩
end Go.Proofs.YtiokabhidjafeaaDoor

