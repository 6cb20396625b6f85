/- What the calls on a codec.Reader do: they read off its rest, or put down an error. The reader is a block of two cells. -/
import Derived.Test.YtehakbijhkpbbaaFrm
import Derived.Test.YtehakbijhkpbbaaCodecA
import Derived.Lib.Strings
namespace Go.Proofs.Ytehakbijhkpbbaa
open Go.RowKit
/-- A reader: what is left, and its error. -/
structure Rd (w : World) (b : Nat) (l : List UInt8) (e : Nat) : Prop where
  blk : Blk w b 158 #[.string (bs l), .int .i64 e]
  len : l.length ≤ 140737488355328
  err : e ≤ 17

theorem Rd.c0 {w : World} {b : Nat} {l : List UInt8} {e : Nat} (h : Rd w b l e) : w.cell? ⟨b, 0, none⟩ = some (.string (bs l)) := h.blk.cell 0 rfl
theorem Rd.c1 {w : World} {b : Nat} {l : List UInt8} {e : Nat} (h : Rd w b l e) : w.cell? ⟨b, 1, none⟩ = some (.int .i64 e) := h.blk.cell 1 rfl
theorem Rd.keep {X : Nat → Prop} {w w' : World} {b : Nat} {l : List UInt8} {e : Nat} (h : Rd w b l e) (hf : Frm X w w') (hn : ¬ X b) : Rd w' b l e := ⟨h.blk.keep hf hn, h.len, h.err⟩
theorem Rd.lt {w : World} {b : Nat} {l : List UInt8} {e : Nat} (h : Rd w b l e) : b < w.heap.size := h.blk.lt
theorem Frm.one (b i : Nat) (u : Value) (w : World) : Frm (· = b) w (w.setCell ⟨b, i, none⟩ u) := (Frm.refl (· = b) w).setCell (p := ⟨b, i, none⟩) (fun _ => rfl) u
theorem Rd.rest {w : World} {b : Nat} {l : List UInt8} {e : Nat} (h : Rd w b l e) (k : Nat) : Rd (w.setCell ⟨b, 0, none⟩ (.string (bs (l.drop k)))) b (l.drop k) e :=
  ⟨h.blk.set 0 _, by have := h.len; rw [List.length_drop]; omega, h.err⟩

theorem bs_drop (l : List UInt8) (n : Nat) : (bs l).extract n (bs l).size = bs (l.drop n) := by
  apply ByteArray.ext
  simp only [bs_size, ByteArray.data_extract]
  apply Array.ext'
  simp [bs]
  rw [List.take_of_length_le (by simp)]
end Go.Proofs.Ytehakbijhkpbbaa

