/- Groups as they lie in memory of the call's own: one more, one more dot. No condition. -/
import Derived.Test.YtiokabhidjafeaaDoorRkB
import Derived.Lib.AppendZeros
namespace Go.Proofs.YtiokabhidjafeaaDoor
open Go.RowKit

/-- A slice of dots of the call's own. -/
def OwnE (w : World) (v : Value) (l : List DotI) : Prop := Row w 2 v l.length (flat dotc l)
theorem OwnE.dl {w : World} {v : Value} {l : List DotI} (h : OwnE w v l) : DL w v l := Sl.ofRow h
theorem OwnE.keep {X : Nat → Prop} {w w' : World} {v : Value} {l : List DotI} (h : OwnE w v l) (hf : Frm X w w') (hn : ∀ g, v.ownBlock = some g → ¬ X g) : OwnE w' v l := Row.keep h hf hn
theorem OwnE.nil_ (w : World) : OwnE w (.slice none 0 0) [] := Row.nil_ w 2
theorem Tryd.info41 : (Tryd.prog.info? 41).map (fun i => (i.zero, i.size, i.bytes)) = some (some (.agg #[.string ⟨#[]⟩, .slice none 0 0]), 2, 40) := by kernel_rfl
theorem Tryd.info61 : (Tryd.prog.info? 61).map (fun i => (i.zero, i.size, i.bytes)) = some (some (.agg #[.int .u8 0, .int .u32 0]), 2, 8) := by kernel_rfl
theorem append_dotsE (w : World) (v x : Value) (l m : List DotI) (h : OwnE w v l) (hs : DL w x m) (hb : l.length + m.length ≤ 1000000) :
    ∃ v' w', (Builtin.append_ #[39, 39] 39 #[v, x]).run Tryd.prog w = .ok v' w' ∧ OwnE w' v' (l ++ m) ∧ w.grownBy w' v.ownBlock ∧ (∀ g, v'.ownBlock = some g → v.ownBlock = some g ∨ w.heap.size ≤ g) := by
  obtain ⟨i0, hi, hz0, hz1, hz2⟩ := info_parts Tryd.info61
  obtain ⟨v', w', h1, h2, h3, h4⟩ := run_append_row w 39 39 39 61 i0 (.agg #[.int .u8 0, .int .u32 0]) 2 8 Tryd.underlying39 hi hz0 hz1 hz2 rfl h x m.length (flat dotc m)
    (Sl.src hs Tryd.underlying39 (flat_one dotc dotc_one m)) (by unfold maxLen; omega) (by omega)
  exact ⟨v', w', h1, by unfold OwnE; rw [List.length_append, flat_append]; exact h2, h3, h4⟩
theorem append_grps (w : World) (v x : Value) (P Q : List (GrpI × Value)) (h : Row w 2 v P.length (flat grc P)) (hs : Sl w 2 x Q.length (flat grc Q)) (h1 : ∀ u ∈ flat grc Q, u.oneCell' = true) (hb : P.length + Q.length ≤ 1000000) :
    ∃ v' w', (Builtin.append_ #[30, 30] 30 #[v, x]).run Tryd.prog w = .ok v' w' ∧ Row w' 2 v' (P ++ Q).length (flat grc (P ++ Q)) ∧ w.grownBy w' v.ownBlock ∧ (∀ g, v'.ownBlock = some g → v.ownBlock = some g ∨ w.heap.size ≤ g) := by
  obtain ⟨i0, hi, hz0, hz1, hz2⟩ := info_parts Tryd.info41
  obtain ⟨v', w', h1, h2, h3, h4⟩ := run_append_row w 30 30 30 41 i0 (.agg #[.string ⟨#[]⟩, .slice none 0 0]) 2 40 Tryd.underlying30 hi hz0 hz1 hz2 rfl h x Q.length (flat grc Q)
    (Sl.src hs Tryd.underlying30 h1) (by unfold maxLen; omega) (by omega)
  exact ⟨v', w', h1, by rw [List.length_append, flat_append]; exact h2, h3, h4⟩
/-- Groups of the call's own, each of whose dots lie by themselves. -/
structure GrO (n1 : Nat) (W : World) (u : Value) (P : List (GrpI × Value)) : Prop where
  row : Row W 2 u P.length (flat grc P)
  dots : ∀ i (h : i < P.length), OwnE W P[i].2 P[i].1.d
  apart : ∀ i j (hi : i < P.length) (hj : j < P.length), i ≠ j → ∀ g, P[i].2.ownBlock = some g → P[j].2.ownBlock ≠ some g
  apu : ∀ i (h : i < P.length) g, u.ownBlock = some g → P[i].2.ownBlock ≠ some g
  lo : ∀ g, u.ownBlock = some g → n1 ≤ g
  lod : ∀ i (h : i < P.length) g, P[i].2.ownBlock = some g → n1 ≤ g
theorem GrO.nil (n1 : Nat) (W : World) : GrO n1 W (.slice none 0 0) [] :=
  ⟨Row.nil_ W 2, fun _ h => absurd h (Nat.not_lt_zero _), fun _ _ h => absurd h (Nat.not_lt_zero _), fun _ h => absurd h (Nat.not_lt_zero _), fun _ h => (by cases h), fun _ h => absurd h (Nat.not_lt_zero _)⟩
section
variable {n1 : Nat} {W W' : World} {u : Value} {P : List (GrpI × Value)} {X : Nat → Prop}
theorem GrO.keep (h : GrO n1 W u P) (hf : Frm X W W') (hu : ∀ g, u.ownBlock = some g → ¬ X g) (hd : ∀ i (h : i < P.length) g, P[i].2.ownBlock = some g → ¬ X g) : GrO n1 W' u P :=
  ⟨Row.keep h.row hf hu, fun i hi => (h.dots i hi).keep hf (hd i hi), h.apart, h.apu, h.lo, h.lod⟩
theorem GrO.keepF (h : GrO n1 W u P) (hf : Frm (fun _ => False) W W') : GrO n1 W' u P := h.keep hf (fun _ _ h => h) (fun _ _ _ _ h => h)
theorem GrO.turned {row : Option Nat} (h : GrO n1 W u P) (hg : W.grownBy W' row) (hr : ∀ r, row = some r → ∃ o : Obj, W.heap[r]? = some o ∧ o.isCells = false) : GrO n1 W' u P :=
  ⟨Row.turned h.row hg hr, fun i hi => Row.turned (h.dots i hi) hg hr, h.apart, h.apu, h.lo, h.lod⟩
/-- One more group, without a dot. -/
theorem GrO.push (h : GrO n1 W u P) {v' : Value} (s : List UInt8) (hr : Row W' 2 v' (P ++ [((⟨s, []⟩ : GrpI), Value.slice none 0 0)]).length (flat grc (P ++ [((⟨s, []⟩ : GrpI), Value.slice none 0 0)]))) (hg : W.grownBy W' u.ownBlock)
    (ho : ∀ g, v'.ownBlock = some g → u.ownBlock = some g ∨ W.heap.size ≤ g) (hn : n1 ≤ W.heap.size) : GrO n1 W' v' (P ++ [((⟨s, []⟩ : GrpI), Value.slice none 0 0)]) := by
  have hf : Frm (fun k => u.ownBlock = some k) W W' := (Frm.refl _ W).grown hg (fun k _ e => e)
  have hlast : ∀ i (hi : i < (P ++ [((⟨s, []⟩ : GrpI), Value.slice none 0 0)]).length), (∃ h : i < P.length, (P ++ [((⟨s, []⟩ : GrpI), Value.slice none 0 0)])[i] = P[i]) ∨ (P ++ [((⟨s, []⟩ : GrpI), Value.slice none 0 0)])[i] = ((⟨s, []⟩ : GrpI), Value.slice none 0 0) := fun i hi => by
    by_cases h : i < P.length
    · exact .inl ⟨h, List.getElem_append_left h⟩
    · refine .inr ?_
      rw [List.getElem_append_right (by omega)]
      simp
  refine ⟨hr, fun i hi => ?_, fun i j hi hj hij g e => ?_, fun i hi g e => ?_, fun g e => ?_, fun i hi g e => ?_⟩
  · rcases hlast i hi with ⟨h1, e⟩ | e
    · rw [e]; exact (h.dots i h1).keep hf (fun g e2 e3 => h.apu i h1 g e3 e2)
    · rw [e]; exact OwnE.nil_ _
  · rcases hlast i hi with ⟨h1, e1⟩ | e1
    · rcases hlast j hj with ⟨h2, e2⟩ | e2
      · rw [e1] at e; rw [e2]; exact h.apart i j h1 h2 hij g e
      · rw [e2]; intro hh; cases hh
    · rw [e1] at e; cases e
  · rcases hlast i hi with ⟨h1, e1⟩ | e1
    · rw [e1]
      intro e2
      rcases ho g e with e3 | e3
      · exact h.apu i h1 g e3 e2
      · have := Row.blk (h.dots i h1) g e2
        omega
    · rw [e1]; intro hh; cases hh
  · rcases ho g e with e3 | e3
    · exact h.lo g e3
    · omega
  · rcases hlast i hi with ⟨h1, e1⟩ | e1
    · rw [e1] at e; exact h.lod i h1 g e
    · rw [e1] at e; cases e
end
theorem flat_set {α : Type} {enc : α → List Value} : ∀ (l : List α) (i : Nat) (h : i < l.length) (y : α) (v : Value), (∀ x, (enc x).length = 2) → (enc l[i])[0]? = (enc y)[0]? → (enc y)[1]? = some v → flat enc (l.set i y) = (flat enc l).set (i * 2 + 1) v := by
  intro l
  induction l with
  | nil => intro i h; cases h
  | cons x l ih =>
    intro i h y v hl h0 h1
    have pair : ∀ z, ∃ a b, enc z = [a, b] := fun z => by
      have := hl z
      match hz : enc z, this with
      | [a, b], _ => exact ⟨a, b, rfl⟩
    obtain ⟨a, b, e1⟩ := pair x
    cases i with
    | zero =>
      obtain ⟨c, d, e2⟩ := pair y
      have h0' : (enc x)[0]? = (enc y)[0]? := h0
      rw [e1, e2] at h0'
      rw [e2] at h1
      simp at h0' h1
      subst h0' h1
      simp [flat, e1, e2]
    | succ i =>
      have := ih i (by simpa using h) y v hl h0 h1
      have e : flat enc ((x :: l).set (i + 1) y) = enc x ++ flat enc (l.set i y) := by simp [flat]
      have e' : flat enc (x :: l) = enc x ++ flat enc l := by simp [flat]
      rw [e, e', this, e1, show (i + 1) * 2 + 1 = i * 2 + 1 + 1 + 1 from by omega]
      simp
theorem Row.setAt {w : World} {size n : Nat} {xs : List Value} {g cap : Nat} (h : Row w size (.slice (some ⟨g, 0, none⟩) n cap) n xs) (j : Nat) (hj : j < n * size) (v : Value) : Row (w.setCell ⟨g, j, none⟩ v) size (.slice (some ⟨g, 0, none⟩) n cap) n (xs.set j v) := by
  refine ⟨by rw [List.length_set]; exact h.1, ?_⟩
  rcases h.2 with ⟨e, _⟩ | ⟨g', cap', e, h1, h2, h3, h4, h5⟩
  · cases e
  · cases e
    have hcap : n * size ≤ cap * size := Nat.mul_le_mul_right _ h1
    refine .inr ⟨g, cap, rfl, h1, h2, setCell_isCells _ _ h3, fun k hk => ?_, fun k hk => ?_⟩
    · by_cases e : k = j
      · subst e
        have hs := (h5 k (by omega)).1
        rw [World.cell?_setCell_same' _ _ _ hs, List.getElem?_set_self (by rw [h.1]; exact hj)]
      · rw [World.cell?_setCell_other _ _ _ _ (fun h => e (Addr.mk.inj h).2.1.symm), h4 k hk, List.getElem?_set_ne (fun h => e h.symm)]
    · rw [World.frozen?_setCell]
      refine ⟨?_, (h5 k hk).2⟩
      by_cases e : k = j
      · subst e
        rw [World.cell?_setCell_same' _ _ _ (h5 k hk).1]; rfl
      · rw [World.cell?_setCell_other _ _ _ _ (fun h => e (Addr.mk.inj h).2.1.symm)]; exact (h5 k hk).1
/-- One more dot in a group. -/
theorem GrO.dot {n1 : Nat} {W W1 : World} {g cap : Nat} {P : List (GrpI × Value)} {n : Nat} (hn : P.length = n) (h : GrO n1 W (.slice (some ⟨g, 0, none⟩) n cap) P) (i : Nat) (hi : i < P.length) (x : DotI) {v' : Value} (ho : OwnE W1 v' (P[i].1.d ++ [x])) (hg : W.grownBy W1 P[i].2.ownBlock)
    (hw : ∀ g, v'.ownBlock = some g → P[i].2.ownBlock = some g ∨ W.heap.size ≤ g) (hl : n1 ≤ W.heap.size) :
    GrO n1 (W1.setCell ⟨g, i * 2 + 1, none⟩ v') (.slice (some ⟨g, 0, none⟩) n cap) (P.set i (⟨P[i].1.s, P[i].1.d ++ [x]⟩, v')) ∧ Frm (fun k => k = g ∨ P[i].2.ownBlock = some k) W (W1.setCell ⟨g, i * 2 + 1, none⟩ v') := by
  have hf : Frm (fun k => P[i].2.ownBlock = some k) W W1 := (Frm.refl _ W).grown hg (fun k _ e => e)
  have hgi : ∀ j (hj : j < P.length), P[j].2.ownBlock ≠ some g := fun j hj => h.apu j hj g rfl
  have hv' : v'.ownBlock ≠ some g := fun e => by
    rcases hw g e with e | e
    · exact hgi i hi e
    · have := Row.blk h.row g rfl
      omega
  have hr1 := Row.keep h.row hf (fun q e e2 => hgi i hi (by cases e; exact e2))
  have hset := Row.setAt (hn ▸ hr1) (i * 2 + 1) (by omega) v'
  have hfl : flat grc (P.set i (⟨P[i].1.s, P[i].1.d ++ [x]⟩, v')) = (flat grc P).set (i * 2 + 1) v' := flat_set P i hi _ v' grc_len rfl rfl
  have hat : ∀ j (hj : j < (P.set i ((⟨P[i].1.s, P[i].1.d ++ [x]⟩ : GrpI), v')).length), (j = i ∧ (P.set i ((⟨P[i].1.s, P[i].1.d ++ [x]⟩ : GrpI), v'))[j] = ((⟨P[i].1.s, P[i].1.d ++ [x]⟩ : GrpI), v')) ∨ (j ≠ i ∧ ∃ h : j < P.length, (P.set i ((⟨P[i].1.s, P[i].1.d ++ [x]⟩ : GrpI), v'))[j] = P[j]) := fun j hj => by
    by_cases e : j = i
    · subst e; exact .inl ⟨rfl, List.getElem_set_self _⟩
    · exact .inr ⟨e, by simpa using hj, List.getElem_set_ne (fun h => e h.symm) _⟩
  refine ⟨⟨?_, fun j hj => ?_, fun j k hj hk hjk q e => ?_, fun j hj q e => ?_, h.lo, fun j hj q e => ?_⟩, ?_⟩
  · rw [List.length_set, hfl, hn]; exact hset
  · rcases hat j hj with ⟨rfl, e⟩ | ⟨hne, hj', e⟩
    · rw [e]; exact Row.setOther ho (by simpa using hv') _
    · rw [e]
      exact Row.setOther (Row.keep (h.dots j hj') hf (fun q e2 e3 => h.apart j i hj' hi hne q e2 e3)) (by simpa using hgi j hj') _
  · rcases hat j hj with ⟨rfl, e1⟩ | ⟨hne, hj', e1⟩
    · rcases hat k hk with ⟨rfl, e2⟩ | ⟨hne2, hk', e2⟩
      · exact absurd rfl hjk
      · rw [e1] at e
        rw [e2]
        intro e3
        rcases hw q e with e4 | e4
        · exact h.apart k j hk' hi hne2 q e3 e4
        · have := Row.blk (h.dots k hk') q e3
          omega
    · rcases hat k hk with ⟨rfl, e2⟩ | ⟨hne2, hk', e2⟩
      · rw [e1] at e
        rw [e2]
        intro e3
        rcases hw q e3 with e4 | e4
        · exact h.apart j k hj' hi hne q e e4
        · have := Row.blk (h.dots j hj') q e
          omega
      · rw [e1] at e
        rw [e2]
        exact h.apart j k hj' hk' hjk q e
  · cases e
    rcases hat j hj with ⟨rfl, e1⟩ | ⟨hne, hj', e1⟩
    · rw [e1]; exact hv'
    · rw [e1]; exact hgi j hj'
  · rcases hat j hj with ⟨rfl, e1⟩ | ⟨hne, hj', e1⟩
    · rw [e1] at e
      rcases hw q e with e4 | e4
      · exact h.lod j hi q e4
      · omega
    · rw [e1] at e; exact h.lod j hj' q e
  · exact (hf.mono fun _ _ h => .inr h).setCell (p := ⟨g, i * 2 + 1, none⟩) (fun _ => .inl rfl) _
end Go.Proofs.YtiokabhidjafeaaDoor

