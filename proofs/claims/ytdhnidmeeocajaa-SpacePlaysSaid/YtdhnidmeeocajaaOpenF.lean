/- A slice of structs that came in, opened to its elements. Of no program. No condition. -/
import Derived.Test.YtdhnidmeeocajaaOpen
import Derived.Test.YtdhnidmeeocajaaRec
namespace Go.Proofs.Ytdhnidmeeocajaa
open Go.ChangeShapes Go.WideShapes Go.ChangeAt Go.RowKit Go.Deep
section
variable {H : Type} {enc : TypeId × Value → H} {P : Program} {w : World} {base : Nat} {spare : Nat → Bool} {held : Bool}
/-- A slice of elements that came in. -/
theorem openFlat {α : Type} (en : α → List Value) {c : Nat} (hc0 : 0 < c) (hlen : ∀ x, (en x).length = c) {t e : TypeId} {fuel : Nat} {cv : Value} {y : DataW H × List MemPlace} (ht : P.underlying t = some (.slice e)) (hC : P.cellsOf e = c)
    (hx : ∀ (m : Nat) (row : List Value) (y : DataW H × List MemPlace), row.length = c → DataW.trod enc P w base spare held m e row = some y → ∃ x, row = en x)
    (h : DataW.trod enc P w base spare held fuel t [cv] = some y) : ∃ l : List α, Sl w c cv l.length (flat en l) := by
  rcases open_slice ht h with ⟨h0, _⟩ | ⟨a', len, cap, m, n', D, Pl, hcs, _, hl, hm, hmm, _, hi⟩
  · simp only [List.cons.injEq, and_true] at h0
    subst h0
    exact ⟨[], Sl.nil_ w c none 0 (by decide)⟩
  · simp only [List.cons.injEq, and_true] at hcs
    subst hcs
    have hadd : ∀ (b o j : Nat), (⟨b, o, none⟩ : Addr).add j = ⟨b, o + j, none⟩ := fun b o j => by unfold Addr.add; split <;> simp_all
    obtain ⟨L, hL, hp⟩ := listOf (p := fun i (x : α) => ∃ b off, a' = ⟨b, off, none⟩ ∧ b < w.heap.size ∧ ∀ j, j < c → w.cell? ⟨b, off + (i * c + j), none⟩ = (en x)[j]?) len fun i hin => by
      have h00 : 0 < m := by rw [hmm]; split <;> omega
      obtain ⟨row0, hrow0, htrod0⟩ := hi 0 h00
      obtain ⟨_, hlen0, hcell0⟩ := World.cells?_some hrow0
      have hc0' := hcell0 0 (by rw [hC]; omega)
      obtain ⟨x0, e00⟩ := hx _ row0 _ (by rw [hlen0, hC]) htrod0
      have him : i < m := by rw [hmm]; split <;> omega
      obtain ⟨row, hrow, htrod⟩ := hi i him
      obtain ⟨_, hlen1, hcell⟩ := World.cells?_some hrow
      obtain ⟨x, e0⟩ := hx _ row _ (by rw [hlen1, hC]) htrod
      have hr0 : row0[0]? = some (row0[0]'(by rw [hlen0, hC]; exact hc0)) := List.getElem?_eq_getElem _
      rw [hr0] at hc0'
      obtain ⟨b, off, rfl, hb⟩ := addr_of_cell (a := a') (by simpa [Addr.add] using hc0')
      refine ⟨x, b, off, rfl, hb, fun j hj => ?_⟩
      have h1 := hcell j (by rw [hC]; exact hj)
      rw [hadd, hadd, hC, e0, Nat.add_assoc] at h1
      exact h1
    subst hL
    refine ⟨L, ⟨flat_len en hlen L, some a', cap, rfl, hl, hm, ?_⟩⟩
    rcases Nat.eq_zero_or_pos L.length with h0 | h0
    · exact .inl h0
    · obtain ⟨b, off, rfl, hb, _⟩ := hp 0 h0
      refine .inr ⟨b, off, rfl, hb, fun j hj => ?_⟩
      have hq : j / c < L.length := Nat.div_lt_of_lt_mul (by rw [Nat.mul_comm]; exact hj)
      obtain ⟨b', off', e, _, hcj⟩ := hp (j / c) hq
      cases e
      have hm := hcj (j % c) (Nat.mod_lt _ hc0)
      have hdm : j / c * c + j % c = j := by rw [Nat.mul_comm]; exact Nat.div_add_mod j c
      rw [← flat_at en hlen L (j / c) hq (j % c) (Nat.mod_lt _ hc0), hdm] at hm
      exact hm
end
end Go.Proofs.Ytdhnidmeeocajaa
