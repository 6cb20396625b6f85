/- What a library's sort does to a slice of the call's own, in plain words: elements of c cells. Of no program. No condition. -/
import Derived.Test.YtpabblkdepefcaaRec
import Derived.Shelf.SlSortCmp.KitK
namespace Go.Proofs.Ytpabblkdepefcaa
open Go.RowKit
section
variable {α : Type} [Inhabited α] (enc : α → List Value) {c : Nat}
theorem row_holds (hc : ∀ x, (enc x).length = c) (h0 : 0 < c) {w : World} {g cap : Nat} {l : List α} (h : Row w c (.slice (some ⟨g, 0, none⟩) l.length cap) l.length (flat enc l)) : Go.Sort.HoldsK enc c w g 0 l.toArray := by
  intro j hj
  have hs : (Go.Sort.flatK enc c l.toArray).size = l.length * c := by simp [Go.Sort.flatK]
  rw [hs] at hj
  rcases h.2 with ⟨e, _⟩ | ⟨g', cap', e, h1, h2, h3, h4, h5⟩
  · cases e
  · cases e
    have hj2 : j < cap * c := by have := Nat.mul_le_mul_right c h1; omega
    rw [Nat.zero_add]
    refine ⟨?_, (h5 j hj2).2⟩
    have hd : j / c < l.length := (Nat.div_lt_iff_lt_mul h0).2 hj
    have hm : j % c < c := Nat.mod_lt _ h0
    have hf := flat_at enc hc l (j / c) hd (j % c) hm
    rw [show j / c * c + j % c = j from Nat.div_add_mod' j c] at hf
    rw [h4 j hj, hf]
    have hg : (Go.Sort.flatK enc c l.toArray)[j]! = (enc l[j / c])[j % c]! := by
      rw [Go.Sort.get_flatK _ _ _ _ (by simpa using hj)]
      simp [hd]
    rw [hg]
    have hl : j % c < (enc l[j / c]).length := by rw [hc]; exact hm
    simp [hl]
theorem growK_old (w : World) (os : Array Obj) (k : Nat) (h : k < w.heap.size) : (Go.Sort.grow w os).heap[k]? = w.heap[k]? := by
  simp only [Go.Sort.grow]
  exact Array.getElem?_append_left h
theorem sortK_frm (w : World) (g n : Nat) (d : Array α) (os : Array Obj) : Frm (· = g) w (sortWorldK enc c w g 0 n d os) := by
  refine ⟨rfl, rfl, rfl, size_sortWorldK_c enc c w g 0 n d os, fun k hk hn => ?_⟩
  unfold sortWorldK
  rw [growK_old _ _ _ (by simpa [Go.Sort.putRowK, Go.Sort.size_putRow, Go.Sort.ahead] using hk)]
  simp only [Go.Sort.putRowK, Go.Sort.putRow, Go.Sort.mapBlock, Go.Sort.ahead, Array.getElem?_modify]
  rw [if_neg (fun e => hn e.symm)]
theorem sortK_tag {w : World} {g : Nat} {cs : Array Value} {t : TypeId} {fr : Nat × Nat} (n : Nat) (d : Array α) (os : Array Obj) (h : w.heap[g]? = some (.cells cs t fr)) : ∃ cs', (sortWorldK enc c w g 0 n d os).heap[g]? = some (.cells cs' t fr) := by
  have hlt : g < w.heap.size := (Array.getElem?_eq_some_iff.1 h).1
  unfold sortWorldK
  rw [growK_old _ _ _ (by simpa [Go.Sort.putRowK, Go.Sort.size_putRow, Go.Sort.ahead] using hlt)]
  simp only [Go.Sort.putRowK, Go.Sort.putRow, Go.Sort.mapBlock, Go.Sort.ahead, Array.getElem?_modify, if_true, h, Option.map_some]
  exact ⟨_, rfl⟩
theorem sortK_row (hc : ∀ x, (enc x).length = c) (h0 : 0 < c) {w : World} {g cap : Nat} {l l' : List α} (n : Nat) (os : Array Obj) (h : Row w c (.slice (some ⟨g, 0, none⟩) l.length cap) l.length (flat enc l)) (hl : l'.length = l.length) :
    Row (sortWorldK enc c w g 0 n l'.toArray os) c (.slice (some ⟨g, 0, none⟩) l.length cap) l'.length (flat enc l') := by
  have hH := row_holds enc hc h0 h
  have hlt : g < w.heap.size := Row.blk h g rfl
  have hK := holdsK_sortWorldK_c enc c w g 0 l.toArray l'.toArray n os hH hlt (by simpa using hl)
  rcases h.2 with ⟨e, _⟩ | ⟨g', cap', e, h1, h2, ⟨o, ho, hoc⟩, h4, h5⟩
  · cases e
  · cases e
    have hblk : (sortWorldK enc c w g 0 n l'.toArray os).heap[g]? = (Go.Sort.putRowK enc c (Go.Sort.ahead w n) g 0 l'.toArray).heap[g]? := by
      unfold sortWorldK
      exact growK_old _ _ _ (by simpa [Go.Sort.putRowK, Go.Sort.size_putRow, Go.Sort.ahead] using hlt)
    refine ⟨by rw [flat_len enc hc], .inr ⟨g, cap, by rw [hl], by omega, h2, ?_, fun j hj => ?_, fun j hj => ?_⟩⟩
    · rw [hblk]
      simp only [Go.Sort.putRowK, Go.Sort.putRow, Go.Sort.mapBlock, Go.Sort.ahead, Array.getElem?_modify, if_true, ho, Option.map_some]
      cases o <;> first | (simp [Obj.isCells] at hoc; done) | exact ⟨_, rfl, rfl⟩
    · have hd : j / c < l'.length := (Nat.div_lt_iff_lt_mul h0).2 (by first | exact hj | exact hj3 | (rw [hl]; exact hj3))
      have hm : j % c < c := Nat.mod_lt _ h0
      have hcl := (hK.cell (i := j / c) (c := j % c) (by simpa using hd) hm).1
      rw [show 0 + j / c * c + j % c = j from by rw [Nat.zero_add]; exact Nat.div_add_mod' j c] at hcl
      have hf := flat_at enc hc l' (j / c) hd (j % c) hm
      rw [show j / c * c + j % c = j from Nat.div_add_mod' j c] at hf
      rw [hcl, hf]
      have hll : j % c < (enc l'[j / c]).length := by rw [hc]; exact hm
      simp [hd, hll]
    · have e1 := World.cell?_of_block (a := ⟨g, j, none⟩) hblk
      have e2 := World.frozen?_of_block (a := ⟨g, j, none⟩) hblk
      rw [e1, e2]
      refine ⟨?_, ?_⟩
      · by_cases hj3 : j < l.length * c
        · have hd : j / c < l'.length := (Nat.div_lt_iff_lt_mul h0).2 (by first | exact hj | exact hj3 | (rw [hl]; exact hj3))
          have hm : j % c < c := Nat.mod_lt _ h0
          have hcl := (hK.cell (i := j / c) (c := j % c) (by simpa using hd) hm).1
          rw [show 0 + j / c * c + j % c = j from by rw [Nat.zero_add]; exact Nat.div_add_mod' j c, e1] at hcl
          rw [hcl]; rfl
        · have hs : (Go.Sort.flatK enc c l'.toArray).size = l.length * c := by simp [Go.Sort.flatK, hl]
          show ((Go.Sort.putRow id (Go.Sort.ahead w n) g 0 (Go.Sort.flatK enc c l'.toArray)).cell? ⟨g, j, none⟩).isSome = true
          rw [Go.Sort.cell?_putRow_other id _ _ _ _ _ (.inr (.inr (by rw [hs]; show 0 + l.length * c ≤ j; omega)))]
          exact (h5 j hj).1
      · show (Go.Sort.putRow id (Go.Sort.ahead w n) g 0 (Go.Sort.flatK enc c l'.toArray)).frozen? ⟨g, j, none⟩ = false
        rw [Go.Sort.frozen?_putRow]
        exact (h5 j hj).2
end
end Go.Proofs.Ytpabblkdepefcaa
