/- The law's own small calls: some of the chapter's answers. -/
import Derived.Test.YtmdmkcofafhlcaaCodecX
import Derived.Test.YtmdmkcofafhlcaaVecG
import Derived.Deep.RegionWith
import Derived.Deep.RegionHeld3
import Derived.Deep.QuietTactic
import Derived.BigQuiet
import Derived.IntWalk
import Derived.Deep.Cut
section
namespace Go.Proofs.Ytmdmkcofafhlcaa
open Go.RowKit

theorem Frm.new {w w1 w2 : World} {X Y : Nat → Prop} (h : Frm X w w1) (h' : Frm Y w1 w2) (hy : ∀ k, Y k → w.heap.size ≤ k) : Frm X w w2 := h.next h' fun k hk hY => by have := hy k hY; omega

end Go.Proofs.Ytmdmkcofafhlcaa
end
section
namespace Go.Proofs.Ytmdmkcofafhlcaa
open Go.RowKit
/-- Something that is written, or read. -/
structure Item where
  k : Nat
  n : Nat
  s : List UInt8
/-- The slice value v reads as these items. -/
def It (w : World) (v : Value) (L : List Item) : Prop :=
  ∃ a cap, v = .slice a L.length cap ∧ L.length ≤ cap ∧ cap ≤ maxLen ∧ ∀ i (h : i < L.length), ∃ b off, a = some ⟨b, off, none⟩ ∧ b < w.heap.size ∧
    w.cell? ⟨b, off + i * 3, none⟩ = some (.int .u8 L[i].k) ∧ w.cell? ⟨b, off + i * 3 + 1, none⟩ = some (.int .u32 L[i].n) ∧ w.cell? ⟨b, off + i * 3 + 2, none⟩ = some (.string (bs L[i].s)) ∧
    L[i].k < 256 ∧ L[i].n < 4294967296 ∧ L[i].s.length ≤ 9223372036854775807
theorem It.keep {X : Nat → Prop} {w w' : World} {v : Value} {L : List Item} (h : It w v L) (hf : Frm X w w') (hn : ∀ k, k < w.heap.size → ¬ X k) : It w' v L := by
  obtain ⟨a, cap, hv, h1, h2, h3⟩ := h
  refine ⟨a, cap, hv, h1, h2, fun i hi => ?_⟩
  obtain ⟨b, off, ha, hb, c0, c1, c2, r⟩ := h3 i hi
  have e := hf.block b hb (hn b hb)
  have ec : ∀ j, w'.cell? ⟨b, j, none⟩ = w.cell? ⟨b, j, none⟩ := fun j => World.cell?_of_block (a := ⟨b, j, none⟩) e
  exact ⟨b, off, ha, Nat.lt_of_lt_of_le hb hf.size, by rw [ec]; exact c0, by rw [ec]; exact c1, by rw [ec]; exact c2, r⟩

theorem ret_bool {a b : Bool} (h : a = b) : Ending.returned (.bool a) = .returned (.bool b) := by rw [h]
end Go.Proofs.Ytmdmkcofafhlcaa
end
section
namespace Go.Proofs.Ytmdmkcofafhlcaa
open Go.RowKit

/-- A call that only makes memory of its own answers v. -/
abbrev Ans (f : FuncId) (args : Array Value) (v : Value) : Prop := Hid (∀ w, Calls Try.prog f args w fun e w' => e = .returned v ∧ Frm (fun _ => False) w w')

theorem fEq (f g : Nat → Nat) (q : Bool) (h : eq8 f g = q) : ∀ w, (Op.equalIn 10000 24 (.agg (vv f)) (.agg (vv g))).run Try.prog w = .ok q w := fun w => by rw [run_eq_vec, h]

end Go.Proofs.Ytmdmkcofafhlcaa
end
section
namespace Go.Proofs.Ytmdmkcofafhlcaa
open Go.RowKit

theorem fNext (f : Nat → Nat) (r : Nat) (hf : Fit8 f) (hr : r < 256) : Ans 12 #[.agg (vv f), .int .u8 r] (.tuple #[.agg (vv (nextS8 f r).1), .agg (dv (nextS8 f r).2.1.1 (nextS8 f r).2.1.2), .int .i64 (nextS8 f r).2.2]) :=
  Lib.hid fun w => next_any8 f r w hf hr
end Go.Proofs.Ytmdmkcofafhlcaa
end
