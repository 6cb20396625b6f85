/- Conflict names: what both make of a name and a dot; the law's at, with these. No condition beside strconv's tables. -/
import Derived.Test.YtiokabhidjafeaaDoorPathM
import Derived.Test.YtiokabhidjafeaaDoorConf
import Derived.Test.YtiokabhidjafeaaDoorLaid
section
namespace Go.Proofs.YtiokabhidjafeaaDoor
open Go.RowKit Go.Shelf

/-- The conflict name of a dot, empty if there is none. -/
def cfR (nm : List UInt8) (d : DotI) : List UInt8 := (conflict nm d.r d.n).1
theorem at14_laid (f : Nat → Nat) (nm : List UInt8) (v : Value) (l : List SibI) (q : Bool) (w : World) (hv : VarT w) (h : SL w v l) (hs : ∀ x ∈ l, x.s.length ≤ 200) (hb : l.length ≤ 1000) :
    Calls Tryd.prog 14 #[rg f v, .string (bs nm), .bool q] w (AtTo (seenA cfR nm (sameR q) isDir l) w) :=
  at14_any f nm cfR v l q w h hs hb fun d W g => (conflictT_any nm d.r d.n W (hv.keep g)).mono fun _ _ h => ⟨_, h.1, h.2⟩
theorem sec_one (x : SeenI × Value) (hx : x.2.oneCell' = true) : ∀ u ∈ flat sec [x], u.oneCell' = true := fun u hu => by
  simp [flat, sec] at hu
  rcases hu with rfl | rfl | rfl | rfl | rfl
  · rfl
  · rfl
  · rfl
  · rfl
  · exact hx
theorem Sl.oneSec (w : World) (T : TypeId) (x : SeenI × Value) : Sl (w.alloc (.cells #[.string (bs x.1.n), .bool x.1.dir, .bool x.1.con, .string (bs x.1.g.s), x.2] T)) 5 (.slice (some ⟨w.heap.size, 0, none⟩) 1 1) 1 (flat sec [x]) := by
  refine ⟨rfl, _, 1, rfl, Nat.le_refl _, by decide, .inr ⟨_, 0, rfl, by simp, fun j hj => ?_⟩⟩
  have hB := Blk.alloc w T #[.string (bs x.1.n), .bool x.1.dir, .bool x.1.con, .string (bs x.1.g.s), x.2]
  rw [Nat.zero_add]
  have hj5 : j < 5 := by omega
  have hjs : (#[Value.string (bs x.1.n), .bool x.1.dir, .bool x.1.con, .string (bs x.1.g.s), x.2] : Array Value)[j]? = (flat sec [x])[j]? := by
    simp [flat, sec]
  obtain ⟨u, hu⟩ : ∃ u, (flat sec [x])[j]? = some u := ⟨_, List.getElem?_eq_getElem (by rw [flat_len sec sec_len]; simpa using hj5)⟩
  rw [hu] at hjs ⊢
  exact hB.cell j hjs
theorem dir_beq (s : List UInt8) : ((bs s).toList == [47]) = isDir s := by rw [bs_toList]; rfl
/-- The document's list so far. -/
structure RatI (w1 : World) (cf : List UInt8 → DotI → List UInt8) (nm : List UInt8) (P : List (GrpI × Value)) (D F : List (GrpI × Value)) (u : Value) (W : World) : Prop where
  row : Row W 5 u (seesD nm D ++ seesF cf nm D.length F).length (flat sec (seesD nm D ++ seesF cf nm D.length F))
  own : ∀ g, u.ownBlock = some g → w1.heap.size ≤ g
  d : ∀ x ∈ D, x ∈ P
  f : ∀ x ∈ F, x ∈ P
  frm : Frm (fun _ => False) w1 W
theorem RatI.start (w1 : World) (cf : List UInt8 → DotI → List UInt8) (nm : List UInt8) (P : List (GrpI × Value)) : RatI w1 cf nm P [] [] (.slice none 0 0) w1 := ⟨Row.nil_ _ _, (fun g h => by cases h), (fun x h => by cases h), (fun x h => by cases h), Frm.refl _ _⟩
/-- One more, in a world that has grown. -/
theorem RatI.add {w1 W Wb : World} {cf : List UInt8 → DotI → List UInt8} {nm : List UInt8} {P D F D' F' : List (GrpI × Value)} {u : Value} {y : SeenI × Value} (h : RatI w1 cf nm P D F u W) (g : Frm (fun _ => False) W Wb) (hy : y.2.oneCell' = true)
    (hF : seesD nm D' ++ seesF cf nm D'.length F' = (seesD nm D ++ seesF cf nm D.length F) ++ [y]) (hd : ∀ x ∈ D', x ∈ P) (hf : ∀ x ∈ F', x ∈ P) (hl : (seesD nm D ++ seesF cf nm D.length F).length ≤ 100000) :
    ∃ v' W', (Builtin.append_ #[49, 49] 49 #[u, .slice (some ⟨Wb.heap.size, 0, none⟩) 1 1]).run Tryd.prog (Wb.alloc (.cells #[.string (bs y.1.n), .bool y.1.dir, .bool y.1.con, .string (bs y.1.g.s), y.2] 54)) = .ok v' W' ∧ RatI w1 cf nm P D' F' v' W' := by
  have ga : Frm (fun _ => False) W (Wb.alloc (.cells #[.string (bs y.1.n), .bool y.1.dir, .bool y.1.con, .string (bs y.1.g.s), y.2] 54)) := g.alloc _
  obtain ⟨v', W', h1, h2, h3, h4⟩ := append_rseen _ u _ _ [y] (Row.keep h.row ga fun _ _ h => h) (Sl.oneSec Wb 54 y) (sec_one y hy) (by simp at hl ⊢; omega)
  refine ⟨v', W', h1, ⟨by rw [hF]; exact h2, fun g hg => ?_, hd, hf, ?_⟩⟩
  · rcases h4 g hg with e | e
    · exact h.own g e
    · have := h.frm.size
      have := ga.size
      omega
  · exact (h.frm.trans ga).next (frm_grownX h3) fun k hk e => by have := h.own k e; omega
end Go.Proofs.YtiokabhidjafeaaDoor
end
section
namespace Go.Proofs.YtiokabhidjafeaaDoor
open Go.RowKit Go.Shelf

theorem Row.sl2 {w : World} {size n : Nat} {v : Value} {xs : List Value} (h : Row w size v n xs) : Sl w size v n xs := Sl.ofRow h
theorem RatI.slice {w1 W : World} {cf : List UInt8 → DotI → List UInt8} {nm : List UInt8} {P D F : List (GrpI × Value)} {u : Value} (h : RatI w1 cf nm P D F u W) : ∃ a n c, u = .slice a n c ∧ D.length + F.length = n := by
  obtain ⟨a, c, e, _, _⟩ := Row.slice h.row
  exact ⟨a, _, c, e, by rw [List.length_append, seesF_len]; simp [seesD]⟩
end Go.Proofs.YtiokabhidjafeaaDoor
end
