/- The law's items, as they lie in the argument's memory. No condition. -/
import Derived.Test.YtehakbijhkpbbaaLawA
import Derived.Test.YtehakbijhkpbbaaCodecX
namespace Go.Proofs.Ytehakbijhkpbbaa
open Go.RowKit
/-- Something that is written, or read. -/
structure Item where
  k : Nat
  n : Nat
  s : List UInt8
/-- The slice value v reads as these items. -/
def It (w : World) (v : Value) (L : List Item) : Prop :=
  ∃ a cap, v = .slice a L.length cap ∧ L.length ≤ cap ∧ cap ≤ maxLen ∧ ∀ i (h : i < L.length), ∃ b off, a = some ⟨b, off, none⟩ ∧ b < w.heap.size ∧
    w.cell? ⟨b, off + i * 3, none⟩ = some (.int .u8 L[i].k) ∧ w.cell? ⟨b, off + i * 3 + 1, none⟩ = some (.int .u32 L[i].n) ∧ w.cell? ⟨b, off + i * 3 + 2, none⟩ = some (.string (bs L[i].s)) ∧
    L[i].k < 256 ∧ L[i].n < 4294967296 ∧ L[i].s.length ≤ 9223372036854775807
theorem It.keep {X : Nat → Prop} {w w' : World} {v : Value} {L : List Item} (h : It w v L) (hf : Frm X w w') (hn : ∀ k, k < w.heap.size → ¬ X k) : It w' v L := by
  obtain ⟨a, cap, hv, h1, h2, h3⟩ := h
  refine ⟨a, cap, hv, h1, h2, fun i hi => ?_⟩
  obtain ⟨b, off, ha, hb, c0, c1, c2, r⟩ := h3 i hi
  have e := hf.block b hb (hn b hb)
  have ec : ∀ j, w'.cell? ⟨b, j, none⟩ = w.cell? ⟨b, j, none⟩ := fun j => World.cell?_of_block (a := ⟨b, j, none⟩) e
  exact ⟨b, off, ha, Nat.lt_of_lt_of_le hb hf.size, by rw [ec]; exact c0, by rw [ec]; exact c1, by rw [ec]; exact c2, r⟩

end Go.Proofs.Ytehakbijhkpbbaa

