/- A round of At: one more is seen. No condition. -/
import Derived.Test.YtiokabhidjafeaaDoorRkS
section
namespace Go.Proofs.YtiokabhidjafeaaDoor
open Go.RowKit

/-- What lies between two rounds: what is seen so far; u0 is the slice that there was when the loop began. -/
structure AtI (w1 : World) (Bo n1 : Nat) (u0 : Value) (Fm : List (GrpI × Value) → List (SeenI × Value)) (pre : List (GrpI × Value)) (W : World) : Prop where
  res : ∃ u, Blk W Bo 47 #[u] ∧ SeO n1 W u (Fm pre) ∧ ∀ g, u.ownBlock = some g → u0.ownBlock = some g ∨ w1.heap.size ≤ g
  frm : Frm (fun q => q = Bo ∨ u0.ownBlock = some q) w1 W
theorem AtI.tw {w1 W W' : World} {Bo n1 : Nat} {u0 : Value} {Fm : List (GrpI × Value) → List (SeenI × Value)} {pre : List (GrpI × Value)} (h : AtI w1 Bo n1 u0 Fm pre W) (g : Tw w1.heap.size W W') : AtI w1 Bo n1 u0 Fm pre W' := by
  obtain ⟨u, h1, h2, h3⟩ := h.res
  exact ⟨⟨u, g.blk h1, h2.tw g, h3⟩, g.frm h.frm (Nat.le_refl _)⟩
theorem at_step {w1 W0 W1 W3 Wb : World} {Bo n1 : Nat} {u0 : Value} {Fm : List (GrpI × Value) → List (SeenI × Value)} {K : Nat → Prop} {pre : List (GrpI × Value)} {x : GrpI × Value} {y : SeenI × Value} (hi : AtI w1 Bo n1 u0 Fm pre W0) (hBo : Bo < n1) (hn1 : n1 ≤ w1.heap.size) (f01 : Frm (fun _ => False) W0 W1) (hy : GY x W0 W1)
    (h13 : Tw w1.heap.size W1 W3) (hk3 : KeepsFrom w1.heap.size W3 Wb) (h3b : Frm (fun q => W1.heap.size ≤ q) W3 Wb) (hox : OwnE Wb x.2 x.1.d) (hK : ∀ q, K q → q < w1.heap.size ∧ q ≠ Bo ∧ u0.ownBlock ≠ some q) (hyg : y.1.g = x.1) (hyv : y.2 = x.2) (hF : Fm (pre ++ [x]) = Fm pre ++ [y]) (hl : (Fm pre).length ≤ 100000) :
    ∃ u v' W4, Blk Wb Bo 47 #[u] ∧ (Builtin.append_ #[47, 47] 47 #[u, .slice (some ⟨Wb.heap.size, 0, none⟩) 1 1]).run Tryd.prog (Wb.alloc (.cells #[.string (bs y.1.n), .bool y.1.dir, .bool y.1.con, .string (bs x.1.s), x.2] 52)) = .ok v' W4 ∧ Blk W4 Bo 47 #[u] ∧
      (KeepsFrom w1.heap.size W3 (W4.setCell ⟨Bo, 0, none⟩ v') ∧ keptS K W1 (W4.setCell ⟨Bo, 0, none⟩ v') ∧ AtI w1 Bo n1 u0 Fm (pre ++ [x]) (W4.setCell ⟨Bo, 0, none⟩ v')) ∧ (∃ a n c, u = .slice a n c) ∧ ∃ a n c, v' = .slice a n c := by
  obtain ⟨ho, hn⟩ := hy
  obtain ⟨u, hu0, hg0, hgw⟩ := hi.res
  have hs0 : w1.heap.size ≤ W0.heap.size := hi.frm.size
  have hs01 := f01.size
  have t03 : Tw w1.heap.size W0 W3 := (Tw.old f01).trans h13
  have hu3 : Blk W3 Bo 47 #[u] := t03.blk hu0
  have hg3 := hg0.tw t03
  have hub : ∀ g, u.ownBlock = some g → n1 ≤ g ∧ g < W0.heap.size := fun g e => ⟨hg0.lo g e, Row.fresh hg0.row e⟩
  have hdb : ∀ i (h : i < (Fm pre).length) g, (Fm pre)[i].2.ownBlock = some g → n1 ≤ g ∧ g < W0.heap.size := fun i h g e => ⟨hg0.lod i h g e, Row.fresh (hg0.dots i h) e⟩
  have hub3 : Blk Wb Bo 47 #[u] := hu3.keep h3b (by omega)
  have hgb : SeO n1 Wb u (Fm pre) := hg3.keep h3b (fun g e h => by have := (hub g e).2; omega) (fun i h g e hh => by have := (hdb i h g e).2; omega)
  have hs1 : w1.heap.size ≤ Wb.heap.size := by have := h13.size; have := h3b.size; omega
  have fA : Frm (fun _ => False) Wb (Wb.alloc (.cells #[.string (bs y.1.n), .bool y.1.dir, .bool y.1.con, .string (bs x.1.s), x.2] 52)) := (Frm.refl _ Wb).alloc _
  have ecs : (#[.string (bs y.1.n), .bool y.1.dir, .bool y.1.con, .string (bs x.1.s), x.2] : Array Value).toList = sec y := by
    unfold sec
    rw [hyg, hyv]
  obtain ⟨v', W4, hrun, hrow, hgr, hnew⟩ := append_seen (Wb.alloc (.cells #[.string (bs y.1.n), .bool y.1.dir, .bool y.1.con, .string (bs x.1.s), x.2] 52)) u (.slice (some ⟨Wb.heap.size, 0, none⟩) 1 1) (Fm pre) [y] (Row.keep hgb.row fA (fun _ _ h => h))
    (Sl.built sec sec_len Wb 52 y #[.string (bs y.1.n), .bool y.1.dir, .bool y.1.con, .string (bs x.1.s), x.2] ecs)
    (fun q hq => by
      simp [flat, sec] at hq
      rcases hq with rfl | rfl | rfl | rfl | rfl
      · rfl
      · rfl
      · rfl
      · rfl
      · obtain ⟨a, c, e, _, _⟩ := Row.slice ho
        rw [hyv, e]; rfl) (by simp; omega)
  have f4 : Frm (fun q => u.ownBlock = some q) Wb W4 := (fA.mono fun _ _ h => h.elim).grown hgr (fun q _ e => e)
  have b4 : Blk W4 Bo 47 #[u] := hub3.keep f4 (fun e => by have := (hub _ e).1; omega)
  have hadd := SeO.add (hgb.keepF fA) y (by rw [hyv, hyg]; exact hox.keep fA (fun _ _ h => h)) (fun g e => by
    rw [hyv] at e
    have h1 := hn g e
    exact ⟨by omega, fun e2 => by have := (hub g e2).2; omega, fun i h e2 => by have := (hdb i h g e2).2; omega⟩) hrow hgr hnew (by have := fA.size; omega)
  have fs : Frm (fun q => q = Bo) W4 (W4.setCell ⟨Bo, 0, none⟩ v') := (Frm.refl (fun q => q = Bo) W4).setCell (p := ⟨Bo, 0, none⟩) (fun _ => rfl) _
  have f5 : Frm (fun q => q = Bo ∨ u.ownBlock = some q) Wb (W4.setCell ⟨Bo, 0, none⟩ v') := (f4.mono fun _ _ h => .inr h).trans (fs.mono fun _ _ h => .inl h)
  have hiso : ∀ q o, (q = Bo ∨ u.ownBlock = some q) → Wb.heap[q]? = some o → o.isCells = true := fun q o hq ho2 => by
    rcases hq with rfl | hq
    · exact hub3.isCells _ o rfl ho2
    · exact Row.isCellsR hgb.row q o hq ho2
  have f3 : Frm (fun q => q = Bo ∨ u.ownBlock = some q ∨ W1.heap.size ≤ q) W3 (W4.setCell ⟨Bo, 0, none⟩ v') := (h3b.mono fun _ _ h => .inr (.inr h)).trans (f5.mono fun _ _ h => h.imp id Or.inl)
  have fw3 : Frm (fun q => q = Bo ∨ u0.ownBlock = some q) w1 W3 := t03.frm hi.frm (Nat.le_refl _)
  refine ⟨u, v', W4, hub3, hrun, b4, ⟨hk3.trans ((f5.others hiso).from _), fun q hq => ?_, ⟨⟨v', b4.set 0 v', ?_, fun g e => ?_⟩, fw3.next f3 (fun q hq e => ?_)⟩⟩, ?_, ?_⟩
  · obtain ⟨h1, h2, h3⟩ := hK q hq
    have e3 := h13.block q (by omega) (fun e => by have := e.1; omega)
    have e4 := f3.block q (by have := h13.size; omega) (fun e => by
      rcases e with e | e | e
      · exact h2 e
      · rcases hgw q e with e | e
        · exact h3 e
        · omega
      · omega)
    exact e4.trans e3
  · rw [hF]
    exact hadd.keep fs (fun q e e2 => by have := hadd.lo q e; omega) (fun i h q e e2 => by have := hadd.lod i h q e; omega)
  · rcases hnew g e with e2 | e2
    · exact hgw g e2
    · have := fA.size; exact .inr (by omega)
  · rcases e with e | e | e
    · exact .inl e
    · rcases hgw q e with e | e
      · exact .inr e
      · omega
    · omega
  · obtain ⟨a, c, e, _, _⟩ := Row.slice hgb.row
    exact ⟨a, _, c, e⟩
  · obtain ⟨a, c, e, _, _⟩ := Row.slice hrow
    exact ⟨a, _, c, e⟩
end Go.Proofs.YtiokabhidjafeaaDoor
end
section
namespace Go.Proofs.YtiokabhidjafeaaDoor
open Go.RowKit

theorem addG_ne {p : List UInt8 → List UInt8 → Bool} {x : SibI} : ∀ {L : List GrpI}, (∀ g ∈ L, g.d ≠ []) → ∀ g ∈ addG p L x, g.d ≠ [] := by
  intro L
  induction L with
  | nil => intro _ g hg; simp [addG] at hg; subst hg; simp
  | cons g0 gs ih =>
    intro h g hg
    unfold addG at hg
    split at hg
    · rcases List.mem_cons.1 hg with rfl | hg
      · simp
      · exact h g (List.mem_cons_of_mem _ hg)
    · rcases List.mem_cons.1 hg with rfl | hg
      · exact h g List.mem_cons_self
      · exact ih (fun q hq => h q (List.mem_cons_of_mem _ hq)) g hg
theorem fold_ne {p : List UInt8 → List UInt8 → Bool} : ∀ (xs : List SibI) (L : List GrpI), (∀ g ∈ L, g.d ≠ []) → ∀ g ∈ xs.foldl (addG p) L, g.d ≠ [] := by
  intro xs
  induction xs with
  | nil => intro L h; exact h
  | cons x xs ih => intro L h; exact ih _ (addG_ne h)
/-- Each group has a dot. -/
theorem grps_ne {p : List UInt8 → List UInt8 → Bool} (l : List SibI) : ∀ g ∈ grps p l, g.d ≠ [] := fold_ne _ _ (fun g h => by cases h)
/-- What is seen of a group, as number k of all; cf gives conflict names. -/
def seeF (cf : List UInt8 → DotI → List UInt8) (nm : List UInt8) (k : Nat) (g : GrpI) : SeenI :=
  if k = 0 then ⟨nm, false, false, g⟩ else match g.d with
    | [] => ⟨nm, false, true, g⟩
    | d :: _ => ⟨cf nm d, false, true, g⟩
def seeD (nm : List UInt8) (g : GrpI) : SeenI := ⟨nm, true, false, g⟩
/-- What is seen of groups, the first of which is number k. -/
def seesF (cf : List UInt8 → DotI → List UInt8) (nm : List UInt8) : Nat → List (GrpI × Value) → List (SeenI × Value)
  | _, [] => []
  | k, x :: xs => (seeF cf nm k x.1, x.2) :: seesF cf nm (k + 1) xs
theorem seesF_add (cf : List UInt8 → DotI → List UInt8) (nm : List UInt8) (x : GrpI × Value) : ∀ (xs : List (GrpI × Value)) (k : Nat), seesF cf nm k (xs ++ [x]) = seesF cf nm k xs ++ [(seeF cf nm (k + xs.length) x.1, x.2)] := by
  intro xs
  induction xs with
  | nil => intro k; simp [seesF]
  | cons y ys ih =>
    intro k
    simp only [List.cons_append, seesF, ih, List.length_cons]
    rw [show k + 1 + ys.length = k + (ys.length + 1) from by omega]
theorem seesF_len (cf : List UInt8 → DotI → List UInt8) (nm : List UInt8) : ∀ (xs : List (GrpI × Value)) (k : Nat), (seesF cf nm k xs).length = xs.length := by
  intro xs
  induction xs with
  | nil => intro k; rfl
  | cons y ys ih => intro k; simp [seesF, ih]
/-- Of directories. -/
def seesD (nm : List UInt8) (xs : List (GrpI × Value)) : List (SeenI × Value) := xs.map fun x => (seeD nm x.1, x.2)
theorem seesD_add (nm : List UInt8) (x : GrpI × Value) (xs : List (GrpI × Value)) : seesD nm (xs ++ [x]) = seesD nm xs ++ [(seeD nm x.1, x.2)] := by simp [seesD]
/-- What is seen at a name: the directories' group, and the groups of all else. -/
def seenG (cf : List UInt8 → DotI → List UInt8) (nm : List UInt8) (k : Nat) : List GrpI → List SeenI
  | [] => []
  | g :: gs => seeF cf nm k g :: seenG cf nm (k + 1) gs
theorem seesF_fst (cf : List UInt8 → DotI → List UInt8) (nm : List UInt8) : ∀ (xs : List (GrpI × Value)) (k : Nat), (seesF cf nm k xs).map Prod.fst = seenG cf nm k (xs.map Prod.fst) := by
  intro xs
  induction xs with
  | nil => intro k; rfl
  | cons y ys ih => intro k; simp [seesF, seenG, ih]
def seenA (cf : List UInt8 → DotI → List UInt8) (nm : List UInt8) (q : List UInt8 → List UInt8 → Bool) (p : List UInt8 → Bool) (l : List SibI) : List SeenI :=
  (grps (fun _ _ => true) (l.filter (fun x => p x.s == true))).map (seeD nm) ++ seenG cf nm (grps (fun _ _ => true) (l.filter (fun x => p x.s == true))).length (grps q (l.filter (fun x => p x.s == false)))
end Go.Proofs.YtiokabhidjafeaaDoor
end
