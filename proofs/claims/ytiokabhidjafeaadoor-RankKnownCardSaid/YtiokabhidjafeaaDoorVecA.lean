/- Vectors as values: eight numbers in a block; what a load, a store, a comparison of whole ones does. Of no function of the program. No condition. -/
import Derived.Test.YtiokabhidjafeaaDoorFrm
import Derived.Deep.MidRow
section
namespace Go.Proofs.YtiokabhidjafeaaDoor
open Go.RowKit

theorem Blk.at1 (w : World) (o : Obj) (t : TypeId) (cs : Array Value) : Blk ((w.alloc o).alloc (.cells cs t)) (w.heap.size + 1) t cs := by
  have h := Blk.alloc (w.alloc o) t cs
  simpa using h
theorem Blk.at2 (w : World) (o o2 : Obj) (t : TypeId) (cs : Array Value) : Blk (((w.alloc o).alloc o2).alloc (.cells cs t)) (w.heap.size + 1 + 1) t cs := by
  have h := Blk.alloc ((w.alloc o).alloc o2) t cs
  simpa using h
/-- The vector whose numbers are f 0 to f 7, as a value's cells. -/
abbrev vv (f : Nat → Nat) : Array Value := #[.int .u32 (f 0), .int .u32 (f 1), .int .u32 (f 2), .int .u32 (f 3), .int .u32 (f 4), .int .u32 (f 5), .int .u32 (f 6), .int .u32 (f 7)]
theorem lt8 {k : Nat} (h : k < 8) : k = 0 ∨ k = 1 ∨ k = 2 ∨ k = 3 ∨ k = 4 ∨ k = 5 ∨ k = 6 ∨ k = 7 := by omega
/-- A dot, as a value's cells. -/
abbrev dv (r n : Nat) : Array Value := #[.int .u8 r, .int .u32 n]
end Go.Proofs.YtiokabhidjafeaaDoor
end
section
namespace Go.Proofs.YtiokabhidjafeaaDoor
open Go.RowKit

theorem run_eq_dot (r n r' n' : Nat) (w : World) : (Op.equalIn 10000 61 (.agg (dv r n)) (.agg (dv r' n'))).run Tryd.prog w = .ok (r == r' && n == n') w := by
  have u3 := Tryd.underlying22
  have a3 := Tryd.isAgg22
  have z3 := Tryd.sizeOf22
  have u5 := Tryd.underlying5
  have a5 := Tryd.isAgg5
  have z5 := Tryd.sizeOf5
  have hS : Tryd.prog.underlying 61 = some (.struct (Tryd.prog.fieldsOf 61)) := by kernel_rfl
  rw [show (10000 : Nat) = 9999 + 1 from rfl, run_equalIn_agg w 9999 61 _ _ hS (by kernel_rfl)]
  simp only [Program.fieldsOf, Tryd.underlying61]
  go_simp
  simp only [Int.natCast_inj]
  by_cases h0 : r = r'
  case neg => simp [h0]
  by_cases h1 : n = n' <;> simp [h0, h1]

/-- A whole row is stored into a block that is known. -/
theorem wpl_store_blk {ops : Array Oper} {rest : List Oper} {o : Oper} {a : Act} {w : World} {Q : Exit → Act → World → Prop} (hgd : o.guard = none) (t : TypeId) (x y : Operand) (ho : o.op = .store t x y)
    (b : Nat) (cs old : Array Value) (hx : a.eval x = .pointer (some ⟨b, 0, none⟩)) (hy : a.eval y = .agg cs) (h : Blk w b t old) (hs : old.size = cs.size) (hi : (Tryd.prog.info? t).map (·.size) = some cs.size) (h1 : cs.all (·.oneCell') = true)
    (hK : ∀ w', Blk w' b t cs → Frm (· = b) w w' → w'.heap.size = w.heap.size → wpList Tryd.prog ops Q rest (a.put o.dst undef) w') : wpList Tryd.prog ops Q (o :: rest) a w := by
  refine wpList_plain hgd fun K hK' => wp_store_row t x y ho b cs hx hy t old h hi hs h1 (hK' _ _ (hK _ ?_ ?_ ?_))
  · simp only [Blk] at h
    simp only [Blk, World.setRow, Array.getElem?_modify]
    simp [h]
  · refine ⟨rfl, rfl, rfl, by simp [World.setRow], fun k _ hk => ?_⟩
    simp only [World.setRow, Array.getElem?_modify]
    rw [if_neg (fun e => hk e.symm)]
  · simp [World.setRow]
end Go.Proofs.YtiokabhidjafeaaDoor
end
