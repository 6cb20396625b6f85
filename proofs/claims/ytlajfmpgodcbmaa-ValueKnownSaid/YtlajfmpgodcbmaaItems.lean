/- The law's items, as they lie in the argument's memory. No condition. -/
import Derived.Test.YtlajfmpgodcbmaaLawA
import Derived.Test.YtlajfmpgodcbmaaCodecM
namespace Go.Proofs.Ytlajfmpgodcbmaa
open Go.RowKit
/-- Something that is written, or read. -/
structure Item where
  k : Nat
  n : Nat
  s : List UInt8
/-- The slice value v reads as these items. -/
def It (w : World) (v : Value) (L : List Item) : Prop :=
  ∃ a cap, v = .slice a L.length cap ∧ L.length ≤ cap ∧ cap ≤ maxLen ∧ ∀ i (h : i < L.length), ∃ b off, a = some ⟨b, off, none⟩ ∧ b < w.heap.size ∧
    w.cell? ⟨b, off + i * 3, none⟩ = some (.int .u8 L[i].k) ∧ w.cell? ⟨b, off + i * 3 + 1, none⟩ = some (.int .u32 L[i].n) ∧ w.cell? ⟨b, off + i * 3 + 2, none⟩ = some (.string (bs L[i].s)) ∧
    L[i].k < 256 ∧ L[i].n < 4294967296 ∧ L[i].s.length ≤ 9223372036854775807
theorem It.keep {X : Nat → Prop} {w w' : World} {v : Value} {L : List Item} (h : It w v L) (hf : Frm X w w') (hn : ∀ k, k < w.heap.size → ¬ X k) : It w' v L := by
  obtain ⟨a, cap, hv, h1, h2, h3⟩ := h
  refine ⟨a, cap, hv, h1, h2, fun i hi => ?_⟩
  obtain ⟨b, off, ha, hb, c0, c1, c2, r⟩ := h3 i hi
  have e := hf.block b hb (hn b hb)
  have ec : ∀ j, w'.cell? ⟨b, j, none⟩ = w.cell? ⟨b, j, none⟩ := fun j => World.cell?_of_block (a := ⟨b, j, none⟩) e
  exact ⟨b, off, ha, Nat.lt_of_lt_of_le hb hf.size, by rw [ec]; exact c0, by rw [ec]; exact c1, by rw [ec]; exact c2, r⟩

theorem ret_bool {a b : Bool} (h : a = b) : Ending.returned (.bool a) = .returned (.bool b) := by rw [h]
theorem mod8 (n : Nat) : IntKind.u8.wrap (n : Int) = ((n % 256 : Nat) : Int) := by rw [IntKind.wrap_u8]; omega
theorem mod8a (n : Nat) : (n : Int) % 256 = ((n % 256 : Nat) : Int) := by omega
theorem mod16 (n : Nat) : IntKind.u16.wrap (n : Int) = ((n % 65536 : Nat) : Int) := by rw [IntKind.wrap_u16]; omega
theorem mod16a (n : Nat) : (n : Int) % 65536 = ((n % 65536 : Nat) : Int) := by omega
/-- May these items be gone through? -/
def fewP (L : List Item) : Prop := L.length ≤ 60 ∧ ∀ i (h : i < L.length), L[i].s.length ≤ 300

/-- What an item is written as. -/
def encI (x : Item) : List UInt8 :=
  if x.k % 6 = 0 then beB 1 (x.n % 256) else if x.k % 6 = 1 then beB 2 (x.n % 65536) else if x.k % 6 = 2 then beB 4 x.n else if x.k % 6 = 3 then varB x.n else if x.k % 6 = 4 then x.s else textB x.s
theorem encI_len (x : Item) (hs : x.s.length ≤ 300) : (encI x).length ≤ 400 := by
  unfold encI textB
  have := varB_len x.n
  have := varB_len x.s.length
  split
  · rw [beB_len]; omega
  split
  · rw [beB_len]; omega
  split
  · rw [beB_len]; omega
  split
  · omega
  split
  · omega
  · rw [List.length_append]; omega
end Go.Proofs.Ytlajfmpgodcbmaa
