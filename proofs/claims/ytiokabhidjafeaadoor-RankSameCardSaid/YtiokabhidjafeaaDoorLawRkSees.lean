/- Siblings in order: what a valid register's siblings are, and that sorted lists of the same siblings are one. Of no function of the program. No condition. -/
import Derived.Test.YtiokabhidjafeaaDoorSibP
import Derived.Test.YtiokabhidjafeaaDoorRound
import Derived.Test.YtiokabhidjafeaaDoorSibQ
import Derived.Test.YtiokabhidjafeaaDoorVecC
section
namespace Go.Proofs.YtiokabhidjafeaaDoor
open Go.RowKit

theorem ltD_trans {x y z : SibI} (h1 : ltD x y) (h2 : ltD y z) : ltD x z := by unfold ltD at *; omega
theorem ltD_of_not {x y : SibI} (h : ¬ ltD x y) (hd : x.d ≠ y.d) : ltD y x := by
  unfold ltD at *
  rcases Nat.lt_trichotomy y.n x.n with h1 | h1 | h1
  · exact .inl h1
  · refine .inr ⟨h1, ?_⟩
    rcases Nat.lt_trichotomy y.r x.r with h2 | h2 | h2
    · exact h2
    · exact absurd (DotI.ext' h2.symm h1.symm : x.d = y.d) hd
    · omega
  · omega
theorem ltD_ne {x y : SibI} (h : ltD x y) : x.d ≠ y.d := fun e => by
  have h1 : x.r = y.r := congrArg DotI.r e
  have h2 : x.n = y.n := congrArg DotI.n e
  unfold ltD at h
  omega
theorem goodC_ord (f : Nat → Nat) : ∀ (l : List SibI) (x : SibI), goodC f x.r x.n l = true → (∀ y ∈ l, ltD x y ∧ has8 f y.r y.n = true) ∧ l.Pairwise ltD := by
  intro l
  induction l with
  | nil => intro x _; exact ⟨fun y h => by simp at h, List.Pairwise.nil⟩
  | cons y l ih =>
    intro x h
    simp only [goodC, Bool.and_eq_true, decide_eq_true_eq] at h
    obtain ⟨⟨h1, h2⟩, h3⟩ := h
    have hxy := (cmpD_lt x y).1 h1
    obtain ⟨h4, h5⟩ := ih y h3
    refine ⟨fun z hz => ?_, List.pairwise_cons.2 ⟨fun z hz => (h4 z hz).1, h5⟩⟩
    rcases List.mem_cons.1 hz with rfl | hz
    · exact ⟨hxy, h2⟩
    · exact ⟨ltD_trans hxy (h4 z hz).1, (h4 z hz).2⟩
def zS : SibI := ⟨0, 0, [], by decide, by decide, by decide⟩
theorem okR_ord {f : Nat → Nat} {l : List SibI} (h : okR f l = true) : (∀ y ∈ l, has8 f y.r y.n = true) ∧ l.Pairwise ltD := by
  unfold okR at h
  simp only [Bool.and_eq_true] at h
  obtain ⟨h1, h2⟩ := goodC_ord f l zS h.2
  exact ⟨fun y hy => (h1 y hy).2, h2⟩
theorem ord_eq : ∀ (l m : List SibI), l.Perm m → l.Pairwise ltD → m.Pairwise ltD → l = m := by
  intro l
  induction l with
  | nil => intro m h _ _; exact h.nil_eq
  | cons x l ih =>
    intro m h h1 h2
    cases m with
    | nil => exact absurd h.length_eq (by simp)
    | cons y m =>
      obtain ⟨a1, a2⟩ := List.pairwise_cons.1 h1
      obtain ⟨b1, b2⟩ := List.pairwise_cons.1 h2
      have hx := h.mem_iff.1 (List.mem_cons_self (a := x) (l := l))
      have hy := h.mem_iff.2 (List.mem_cons_self (a := y) (l := m))
      have e : x = y := by
        rcases List.mem_cons.1 hx with e | hx
        · exact e
        · rcases List.mem_cons.1 hy with e | hy
          · exact e.symm
          · have c1 := a1 y hy
            have c2 := b1 x hx
            unfold ltD at c1 c2
            omega
      subst e
      rw [ih m h.cons_inv a2 b2]
end Go.Proofs.YtiokabhidjafeaaDoor
end
section
namespace Go.Proofs.YtiokabhidjafeaaDoor
open Go.RowKit

theorem jn8_at (f g : Nat → Nat) (k : Nat) : jn8 f g k = max (f k) (g k) := rfl
theorem has_join (f g : Nat → Nat) (r n : Nat) : has8 (jn8 f g) r n = (has8 f r n || has8 g r n) := by
  unfold has8
  cases okD r n with
  | false => simp
  | true =>
    simp only [Bool.true_and]
    rw [Bool.eq_iff_iff, Bool.or_eq_true, decide_eq_true_eq, decide_eq_true_eq, decide_eq_true_eq, jn8_at]
    omega
end Go.Proofs.YtiokabhidjafeaaDoor
end
section
namespace Go.Proofs.YtiokabhidjafeaaDoor
open Go.RowKit

theorem joinIs_zero {f g f' : Nat → Nat} {l m l' : List SibI} (h : JoinIs f g l m f' l' 0) : okR f l = true ∧ okR g m = true ∧ f' = jn8 f g ∧ l'.Perm (stayL f g l m) ∧ inOrder l' := by
  rcases h with ⟨_, h, _⟩ | ⟨_, _, h, _⟩ | ⟨h1, _, _, h3, h4, h5⟩
  · cases h
  · cases h
  · simp only [Bool.and_eq_true] at h1
    exact ⟨h1.1, h1.2, h3, h4, h5⟩
theorem joinIs_fit {f g f' : Nat → Nat} {l m l' : List SibI} {e : Nat} (h : JoinIs f g l m f' l' e) (hf : Fit8 f) (hg : Fit8 g) : Fit8 f' := by
  have hz : Fit8 (fun _ => 0) := fun k _ => by show (0 : Nat) < 4294967296; decide
  rcases h with ⟨_, _, _, rfl⟩ | ⟨_, _, _, _, rfl⟩ | ⟨_, _, _, rfl, _⟩
  · exact hz
  · exact hz
  · intro k hk
    have := hf k hk
    have := hg k hk
    rw [jn8_at]
    omega
theorem joinIs_few {f g f' : Nat → Nat} {l m l' : List SibI} {e : Nat} (h : JoinIs f g l m f' l' e) (hl : ∀ x ∈ l, x.s.length ≤ 200) (hm : ∀ x ∈ m, x.s.length ≤ 200) : (∀ x ∈ l', x.s.length ≤ 200) ∧ l'.length ≤ 8 := by
  rcases h with ⟨_, _, rfl, _⟩ | ⟨_, _, _, rfl, _⟩ | ⟨_, h8, _, _, h4, _⟩
  · exact ⟨fun x h => (by cases h), Nat.zero_le _⟩
  · exact ⟨fun x h => (by cases h), Nat.zero_le _⟩
  · refine ⟨fun x hx => ?_, h4.length_eq ▸ h8⟩
    rcases List.mem_append.1 (h4.mem_iff.1 hx) with h | h
    · exact hl x (List.mem_filter.1 h).1
    · exact hm x (List.mem_filter.1 h).1
/-- Sorted, and the same siblings as a list whose dots rise. -/
theorem sort_same {l m : List SibI} (hp : l.Perm m) (ho : inOrder l) (hm : m.Pairwise ltD) : l = m := by
  have hd : l.Pairwise (fun x y => x.d ≠ y.d) := (hp.pairwise_iff (fun h e => h e.symm)).2 (hm.imp (fun h => ltD_ne h))
  have hl : l.Pairwise ltD := by
    rw [List.pairwise_iff_getElem] at hd ⊢
    intro i j hi hj hij
    exact ltD_of_not (ho i j hi hj hij) (fun e => hd i j hi hj hij e.symm)
  exact ord_eq _ _ hp hl hm
theorem filter_allS {p : SibI → Bool} {l : List SibI} (h : ∀ x ∈ l, p x = true) : l.filter p = l := List.filter_eq_self.2 h
theorem filter_noneS {p : SibI → Bool} {l : List SibI} (h : ∀ x ∈ l, p x = false) : l.filter p = [] := List.filter_eq_nil_iff.2 fun x hx => by rw [h x hx]; decide
/-- Joined with the second one once more. -/
theorem join_again {f g f' f2 : Nat → Nat} {l m l' l2 : List SibI} (h1 : JoinIs f g l m f' l' 0) (h2 : JoinIs f' g l' m f2 l2 0) : l2 = l' := by
  obtain ⟨a1, a2, rfl, a4, _⟩ := joinIs_zero h1
  obtain ⟨b1, _, _, b4, b5⟩ := joinIs_zero h2
  have e1 : l'.filter (fun x => decide (x.d ∈ m.map SibI.d) || !has8 g x.r x.n) = l' := filter_allS fun x hx => by
    rcases List.mem_append.1 (a4.mem_iff.1 hx) with h | h
    · exact (List.mem_filter.1 h).2
    · rw [decide_eq_true (List.mem_map_of_mem (List.mem_filter.1 h).1), Bool.true_or]
  have e2 : m.filter (fun x => !has8 (jn8 f g) x.r x.n) = [] := filter_noneS fun x hx => by rw [has_join, (okR_ord a2).1 x hx, Bool.or_true]; rfl
  have e : stayL (jn8 f g) g l' m = l' := by unfold stayL; rw [e1, e2, List.append_nil]
  rw [e] at b4
  exact sort_same b4 b5 (okR_ord b1).2
/-- Joined with the first one once more. -/
theorem join_again1 {f g f' f2 : Nat → Nat} {l m l' l2 : List SibI} (h1 : JoinIs f g l m f' l' 0) (h2 : JoinIs f' f l' l f2 l2 0) : l2 = l' := by
  obtain ⟨a1, a2, rfl, a4, _⟩ := joinIs_zero h1
  obtain ⟨b1, _, _, b4, b5⟩ := joinIs_zero h2
  have e1 : l'.filter (fun x => decide (x.d ∈ l.map SibI.d) || !has8 f x.r x.n) = l' := filter_allS fun x hx => by
    rcases List.mem_append.1 (a4.mem_iff.1 hx) with h | h
    · rw [decide_eq_true (List.mem_map_of_mem (List.mem_filter.1 h).1), Bool.true_or]
    · rw [(List.mem_filter.1 h).2, Bool.or_true]
  have e2 : l.filter (fun x => !has8 (jn8 f g) x.r x.n) = [] := filter_noneS fun x hx => by rw [has_join, (okR_ord a1).1 x hx, Bool.true_or]; rfl
  have e : stayL (jn8 f g) f l' l = l' := by unfold stayL; rw [e1, e2, List.append_nil]
  rw [e] at b4
  exact sort_same b4 b5 (okR_ord b1).2
end Go.Proofs.YtiokabhidjafeaaDoor
end
section
namespace Go.Proofs.YtiokabhidjafeaaDoor
open Go.RowKit Go.Shelf

theorem few8_in {l : List SibI} (h : few8 l) : (∀ x ∈ l, x.s.length ≤ 200) ∧ l.length ≤ 1000 := by
  refine ⟨fun x hx => ?_, by have := h.1; omega⟩
  obtain ⟨i, hi, rfl⟩ := List.getElem_of_mem hx
  have := h.2 i hi
  omega
/-- A group at number i, in memory. -/
theorem GrO.elem {n1 : Nat} {W : World} {a : Option Addr} {n c : Nat} {P : List (GrpI × Value)} (h : GrO n1 W (.slice a n c) P) (hn : n = P.length) (i : Nat) (hi : i < P.length) :
    ∃ g off ad cd, a = some ⟨g, off, none⟩ ∧ g < W.heap.size ∧ W.cell? ⟨g, off + i * 2, none⟩ = some (.string (bs P[i].1.s)) ∧ W.cell? ⟨g, off + i * 2 + 1, none⟩ = some (.slice ad P[i].1.d.length cd) ∧ DL W (.slice ad P[i].1.d.length cd) P[i].1.d := by
  subst hn
  obtain ⟨g, off, e, h0, hc⟩ := Sl.elem grc grc_len h.row.sl2 i hi (by omega)
  have hd := (h.dots i hi).dl
  obtain ⟨ad, cd, hv, _, _⟩ := DL.slice hd
  rw [hv] at hd
  have h4 := hc 1 (by omega)
  have e4 : (grc P[i])[1]? = some P[i].2 := rfl
  rw [e4, hv] at h4
  refine ⟨g, off, ad, cd, e, h0, hc 0 (by omega), ?_, hd⟩
  rw [Nat.add_assoc]; exact h4
end Go.Proofs.YtiokabhidjafeaaDoor
end
section
namespace Go.Proofs.YtiokabhidjafeaaDoor
open Go.RowKit Go.Shelf

theorem seenG_len (cf : List UInt8 → DotI → List UInt8) (nm : List UInt8) : ∀ (L : List GrpI) (k : Nat), (seenG cf nm k L).length = L.length
  | [], _ => rfl
  | g :: L, k => by rw [seenG, List.length_cons, List.length_cons, seenG_len cf nm L (k + 1)]
theorem seenA_len (cf : List UInt8 → DotI → List UInt8) (nm : List UInt8) (q : List UInt8 → List UInt8 → Bool) (p : List UInt8 → Bool) (l : List SibI) (hs : ∀ x ∈ l, x.s.length ≤ 200) (hb : l.length ≤ 1000) : (seenA cf nm q p l).length ≤ 2000 := by
  unfold seenA
  rw [List.length_append, List.length_map, seenG_len]
  have h1 := (gok_grps (p := fun _ _ => true) (l.filter (fun x => p x.s == true)) (fun x hx => hs x (List.mem_filter.1 hx).1)).len
  have h2 := (gok_grps (p := q) (l.filter (fun x => p x.s == false)) (fun x hx => hs x (List.mem_filter.1 hx).1)).len
  have h3 := List.length_filter_le (fun x : SibI => p x.s == true) l
  have h4 := List.length_filter_le (fun x : SibI => p x.s == false) l
  omega
end Go.Proofs.YtiokabhidjafeaaDoor
end
