/- RankGroups: the groups of any register, by either way to tell what is the same, are as the document says. No condition beside strconv's tables. -/
import Derived.Test.YtiokabhidjafeaaDoorRkSe
namespace Go.Proofs.YtiokabhidjafeaaDoor
open Go.RowKit Go.Shelf

theorem few8_in {l : List SibI} (h : few8 l) : (∀ x ∈ l, x.s.length ≤ 200) ∧ l.length ≤ 1000 := by
  refine ⟨fun x hx => ?_, by have := h.1; omega⟩
  obtain ⟨i, hi, rfl⟩ := List.getElem_of_mem hx
  have := h.2 i hi
  omega
/-- A group at number i, in memory. -/
theorem GrO.elem {n1 : Nat} {W : World} {a : Option Addr} {n c : Nat} {P : List (GrpI × Value)} (h : GrO n1 W (.slice a n c) P) (hn : n = P.length) (i : Nat) (hi : i < P.length) :
    ∃ g off ad cd, a = some ⟨g, off, none⟩ ∧ g < W.heap.size ∧ W.cell? ⟨g, off + i * 2, none⟩ = some (.string (bs P[i].1.s)) ∧ W.cell? ⟨g, off + i * 2 + 1, none⟩ = some (.slice ad P[i].1.d.length cd) ∧ DL W (.slice ad P[i].1.d.length cd) P[i].1.d := by
  subst hn
  obtain ⟨g, off, e, h0, hc⟩ := Sl.elem grc grc_len h.row.sl2 i hi (by omega)
  have hd := (h.dots i hi).dl
  obtain ⟨ad, cd, hv, _, _⟩ := DL.slice hd
  rw [hv] at hd
  have h4 := hc 1 (by omega)
  have e4 : (grc P[i])[1]? = some P[i].2 := rfl
  rw [e4, hv] at h4
  refine ⟨g, off, ad, cd, e, h0, hc 0 (by omega), ?_, hd⟩
  rw [Nat.add_assoc]; exact h4
theorem map_at {α β γ : Type} {P : List (α × β)} {Q : List (α × γ)} {L : List α} (h1 : P.map Prod.fst = L) (h2 : Q.map Prod.fst = L) : P.length = Q.length ∧ ∀ i (hi : i < P.length) (hj : i < Q.length), P[i].1 = Q[i].1 := by
  refine ⟨by rw [← List.length_map (f := Prod.fst), h1, ← h2, List.length_map], fun i hi hj => ?_⟩
  have e1 : (P.map Prod.fst)[i]? = some P[i].1 := by simp [hi]
  have e2 : (Q.map Prod.fst)[i]? = some Q[i].1 := by simp [hj]
  rw [h1, ← h2, e2] at e1
  exact (Option.some.inj e1).symm
end Go.Proofs.YtiokabhidjafeaaDoor

