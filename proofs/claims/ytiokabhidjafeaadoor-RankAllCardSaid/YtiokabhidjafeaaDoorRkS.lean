/- What is seen at a name, as it lies in memory of the call's own; one more. No condition. -/
import Derived.Test.YtiokabhidjafeaaDoorRkR
namespace Go.Proofs.YtiokabhidjafeaaDoor
open Go.RowKit

/-- What is seen at a name: whether it is a directory, whether it is a conflict, its group. -/
structure SeenI where
  n : List UInt8
  dir : Bool
  con : Bool
  g : GrpI
/-- Its cells. -/
def sec (x : SeenI × Value) : List Value := [.string (bs x.1.n), .bool x.1.dir, .bool x.1.con, .string (bs x.1.g.s), x.2]
theorem sec_len (x : SeenI × Value) : (sec x).length = 5 := rfl
theorem Tryd.info52 : (Tryd.prog.info? 52).map (fun i => (i.zero, i.size, i.bytes)) = some (some (.agg #[.string ⟨#[]⟩, .bool false, .bool false, .string ⟨#[]⟩, .slice none 0 0]), 5, 64) := by kernel_rfl
theorem append_seen (w : World) (v x : Value) (P Q : List (SeenI × Value)) (h : Row w 5 v P.length (flat sec P)) (hs : Sl w 5 x Q.length (flat sec Q)) (h1 : ∀ u ∈ flat sec Q, u.oneCell' = true) (hb : P.length + Q.length ≤ 1000000) :
    ∃ v' w', (Builtin.append_ #[47, 47] 47 #[v, x]).run Tryd.prog w = .ok v' w' ∧ Row w' 5 v' (P ++ Q).length (flat sec (P ++ Q)) ∧ w.grownBy w' v.ownBlock ∧ (∀ g, v'.ownBlock = some g → v.ownBlock = some g ∨ w.heap.size ≤ g) := by
  obtain ⟨i0, hi, hz0, hz1, hz2⟩ := info_parts Tryd.info52
  obtain ⟨v', w', h1, h2, h3, h4⟩ := run_append_row w 47 47 47 52 i0 (.agg #[.string ⟨#[]⟩, .bool false, .bool false, .string ⟨#[]⟩, .slice none 0 0]) 5 64 Tryd.underlying47 hi hz0 hz1 hz2 rfl h x Q.length (flat sec Q)
    (Sl.src hs Tryd.underlying47 h1) (by unfold maxLen; omega) (by omega)
  exact ⟨v', w', h1, by rw [List.length_append, flat_append]; exact h2, h3, h4⟩
/-- What is seen, of the call's own; the dots of each lie by themselves. -/
structure SeO (n1 : Nat) (W : World) (u : Value) (P : List (SeenI × Value)) : Prop where
  row : Row W 5 u P.length (flat sec P)
  dots : ∀ i (h : i < P.length), OwnE W P[i].2 P[i].1.g.d
  apart : ∀ i j (hi : i < P.length) (hj : j < P.length), i ≠ j → ∀ g, P[i].2.ownBlock = some g → P[j].2.ownBlock ≠ some g
  apu : ∀ i (h : i < P.length) g, u.ownBlock = some g → P[i].2.ownBlock ≠ some g
  lo : ∀ g, u.ownBlock = some g → n1 ≤ g
  lod : ∀ i (h : i < P.length) g, P[i].2.ownBlock = some g → n1 ≤ g
theorem SeO.nil (n1 : Nat) (W : World) : SeO n1 W (.slice none 0 0) [] :=
  ⟨Row.nil_ W 5, fun _ h => absurd h (Nat.not_lt_zero _), fun _ _ h => absurd h (Nat.not_lt_zero _), fun _ h => absurd h (Nat.not_lt_zero _), fun _ h => (by cases h), fun _ h => absurd h (Nat.not_lt_zero _)⟩
section
variable {n1 : Nat} {W W' : World} {u : Value} {P : List (SeenI × Value)} {X : Nat → Prop}
theorem SeO.keep (h : SeO n1 W u P) (hf : Frm X W W') (hu : ∀ g, u.ownBlock = some g → ¬ X g) (hd : ∀ i (h : i < P.length) g, P[i].2.ownBlock = some g → ¬ X g) : SeO n1 W' u P :=
  ⟨Row.keep h.row hf hu, fun i hi => (h.dots i hi).keep hf (hd i hi), h.apart, h.apu, h.lo, h.lod⟩
theorem SeO.keepF (h : SeO n1 W u P) (hf : Frm (fun _ => False) W W') : SeO n1 W' u P := h.keep hf (fun _ _ h => h) (fun _ _ _ _ h => h)
end
theorem SeO.tw {B n1 : Nat} {W W' : World} {u : Value} {P : List (SeenI × Value)} (h : SeO n1 W u P) (g : Tw B W W') : SeO n1 W' u P :=
  ⟨g.row h.row, fun i hi => g.row (h.dots i hi), h.apart, h.apu, h.lo, h.lod⟩
/-- One more group. -/
theorem SeO.add {n1 : Nat} {W W' : World} {u v' : Value} {P : List (SeenI × Value)} (h : SeO n1 W u P) (x : SeenI × Value) (hx : OwnE W x.2 x.1.g.d) (hxn : ∀ g, x.2.ownBlock = some g → n1 ≤ g ∧ u.ownBlock ≠ some g ∧ ∀ i (h : i < P.length), P[i].2.ownBlock ≠ some g)
    (hr : Row W' 5 v' (P ++ [x]).length (flat sec (P ++ [x]))) (hg : W.grownBy W' u.ownBlock) (ho : ∀ g, v'.ownBlock = some g → u.ownBlock = some g ∨ W.heap.size ≤ g) (hn : n1 ≤ W.heap.size) : SeO n1 W' v' (P ++ [x]) := by
  have hf : Frm (fun k => u.ownBlock = some k) W W' := (Frm.refl _ W).grown hg (fun k _ e => e)
  have hlast : ∀ i (hi : i < (P ++ [x]).length), (∃ h : i < P.length, (P ++ [x])[i] = P[i]) ∨ (i = P.length ∧ (P ++ [x])[i] = x) := fun i hi => by
    by_cases h : i < P.length
    · exact .inl ⟨h, List.getElem_append_left h⟩
    · rw [List.length_append, List.length_singleton] at hi
      obtain rfl : i = P.length := by omega
      exact .inr ⟨rfl, by simp⟩
  refine ⟨hr, fun i hi => ?_, fun i j hi hj hij g e => ?_, fun i hi g e => ?_, fun g e => ?_, fun i hi g e => ?_⟩
  · rcases hlast i hi with ⟨h1, e⟩ | ⟨_, e⟩
    · rw [e]; exact (h.dots i h1).keep hf (fun g e2 e3 => h.apu i h1 g e3 e2)
    · rw [e]; exact hx.keep hf (fun g e2 e3 => (hxn g e2).2.1 e3)
  · rcases hlast i hi with ⟨h1, e1⟩ | ⟨i1, e1⟩
    · rcases hlast j hj with ⟨h2, e2⟩ | ⟨j1, e2⟩
      · rw [e1] at e; rw [e2]; exact h.apart i j h1 h2 hij g e
      · rw [e1] at e; rw [e2]; intro hh; exact (hxn g hh).2.2 i h1 e
    · rcases hlast j hj with ⟨h2, e2⟩ | ⟨j1, e2⟩
      · rw [e1] at e; rw [e2]; exact (hxn g e).2.2 j h2
      · omega
  · rcases hlast i hi with ⟨h1, e1⟩ | ⟨_, e1⟩
    · rw [e1]
      intro e2
      rcases ho g e with e3 | e3
      · exact h.apu i h1 g e3 e2
      · have := Row.blk (h.dots i h1) g e2
        omega
    · rw [e1]
      intro e2
      rcases ho g e with e3 | e3
      · exact (hxn g e2).2.1 e3
      · have := Row.blk hx g e2
        omega
  · rcases ho g e with e3 | e3
    · exact h.lo g e3
    · omega
  · rcases hlast i hi with ⟨h1, e1⟩ | ⟨_, e1⟩
    · rw [e1] at e; exact h.lod i h1 g e
    · rw [e1] at e; exact (hxn g e).1
end Go.Proofs.YtiokabhidjafeaaDoor

