/- Plain words on slices of structs: elements of c cells each, one behind the other. Of no program. No condition. -/
import Derived.Test.YtiokabhidjafeaaDoorRow
import Derived.Test.YtiokabhidjafeaaDoorHashS
import Derived.Deep.MidRow
import Derived.Test.YtiokabhidjafeaaDoorFrm
section
namespace Go.Proofs.YtiokabhidjafeaaDoor
open Go.RowKit

section
variable {α : Type} (enc : α → List Value) {c : Nat}
/-- The cells of some elements. -/
def flat (l : List α) : List Value := l.flatMap enc
theorem flat_len (hc : ∀ x, (enc x).length = c) (l : List α) : (flat enc l).length = l.length * c := by
  induction l with
  | nil => simp [flat]
  | cons x l ih =>
    have : flat enc (x :: l) = enc x ++ flat enc l := rfl
    rw [this, List.length_append, ih, hc, List.length_cons, Nat.add_mul]; omega
theorem flat_append (l m : List α) : flat enc (l ++ m) = flat enc l ++ flat enc m := by simp [flat]
theorem flat_one (h1 : ∀ x, ∀ u ∈ enc x, u.oneCell' = true) (l : List α) : ∀ u ∈ flat enc l, u.oneCell' = true := fun u hu => by
  obtain ⟨p, _, h⟩ := List.mem_flatMap.1 hu
  exact h1 p u h
theorem flat_at (hc : ∀ x, (enc x).length = c) : ∀ (l : List α) (k : Nat) (h : k < l.length) (j : Nat), j < c → (flat enc l)[k * c + j]? = (enc l[k])[j]? := by
  intro l
  induction l with
  | nil => intro k h; simp at h
  | cons x l ih =>
    intro k h j hj
    have e : flat enc (x :: l) = enc x ++ flat enc l := rfl
    rw [e]
    cases k with
    | zero =>
      rw [Nat.zero_mul, Nat.zero_add, List.getElem?_append_left (by rw [hc]; exact hj)]
      rfl
    | succ k =>
      have h2 : k < l.length := by simpa using h
      rw [List.getElem?_append_right (by rw [hc, Nat.add_mul]; omega), hc, show (k + 1) * c + j - c = k * c + j from by rw [Nat.add_mul]; omega, ih k h2 j hj]
      rfl
/-- The cells of one element of a slice that is only read. -/
theorem Sl.elem {w : World} {a : Option Addr} {cap : Nat} {l : List α} (hc : ∀ x, (enc x).length = c) (h : Sl w c (.slice a l.length cap) l.length (flat enc l)) (k : Nat) (hk : k < l.length) (h0 : 0 < c) :
    ∃ g off, a = some ⟨g, off, none⟩ ∧ g < w.heap.size ∧ ∀ j, j < c → w.cell? ⟨g, off + (k * c + j), none⟩ = (enc l[k])[j]? := by
  have hlt : ∀ j, j < c → k * c + j < l.length * c := fun j hj => by
    have := Nat.mul_le_mul_right c (show k + 1 ≤ l.length from hk)
    rw [Nat.add_mul] at this; omega
  obtain ⟨g, off, rfl, hg, _⟩ := h.at (k * c + 0) (hlt 0 h0)
  refine ⟨g, off, rfl, hg, fun j hj => ?_⟩
  obtain ⟨g', off', e, _, h2⟩ := h.at (k * c + j) (hlt j hj)
  cases e
  rw [h2, flat_at enc hc l k hk j hj]
/-- Of a slice of the call's own. -/
theorem Row.elem {w : World} {v : Value} {l : List α} (hc : ∀ x, (enc x).length = c) (h : Row w c v l.length (flat enc l)) (k : Nat) (hk : k < l.length) :
    ∃ g cap, v = .slice (some ⟨g, 0, none⟩) l.length cap ∧ l.length ≤ cap ∧ cap ≤ maxLen ∧ ∀ j, j < c → w.cell? ⟨g, k * c + j, none⟩ = (enc l[k])[j]? := by
  rcases h.2 with ⟨_, e⟩ | ⟨g, cap, rfl, h1, h2, h3, h4, h5⟩
  · omega
  · refine ⟨g, cap, rfl, h1, h2, fun j hj => ?_⟩
    have hlt : k * c + j < l.length * c := by
      have := Nat.mul_le_mul_right c (show k + 1 ≤ l.length from hk)
      rw [Nat.add_mul] at this; omega
    rw [h4 _ hlt, flat_at enc hc l k hk j hj]
/-- One element that was built. -/
theorem Sl.built (hc : ∀ x, (enc x).length = c) (w : World) (t : TypeId) (x : α) (cs : Array Value) (hcs : cs.toList = enc x) :
    Sl (w.alloc (.cells cs t)) c (.slice (some ⟨w.heap.size, 0, none⟩) 1 1) 1 (flat enc [x]) := by
  have e : flat enc [x] = enc x := by simp [flat]
  refine ⟨by rw [e, hc]; omega, _, 1, rfl, Nat.le_refl _, by decide, .inr ⟨_, 0, rfl, by simp, fun j hj => ?_⟩⟩
  have hb := Blk.alloc w t cs
  have hj' : j < cs.size := by
    have : cs.toList.length = c := by rw [hcs, hc]
    simp at this; omega
  rw [e, Nat.zero_add, hb.cell j (v := cs[j]) (by simp [hj']), ← hcs]
  simp [hj']
end
end Go.Proofs.YtiokabhidjafeaaDoor
end
section
namespace Go.Proofs.YtiokabhidjafeaaDoor
open Go.RowKit

theorem Blk.at1 (w : World) (o : Obj) (t : TypeId) (cs : Array Value) : Blk ((w.alloc o).alloc (.cells cs t)) (w.heap.size + 1) t cs := by
  have h := Blk.alloc (w.alloc o) t cs
  simpa using h
theorem Blk.at2 (w : World) (o o2 : Obj) (t : TypeId) (cs : Array Value) : Blk (((w.alloc o).alloc o2).alloc (.cells cs t)) (w.heap.size + 1 + 1) t cs := by
  have h := Blk.alloc ((w.alloc o).alloc o2) t cs
  simpa using h
/-- The vector whose numbers are f 0 to f 7, as a value's cells. -/
abbrev vv (f : Nat → Nat) : Array Value := #[.int .u32 (f 0), .int .u32 (f 1), .int .u32 (f 2), .int .u32 (f 3), .int .u32 (f 4), .int .u32 (f 5), .int .u32 (f 6), .int .u32 (f 7)]
theorem lt8 {k : Nat} (h : k < 8) : k = 0 ∨ k = 1 ∨ k = 2 ∨ k = 3 ∨ k = 4 ∨ k = 5 ∨ k = 6 ∨ k = 7 := by omega
theorem vv_get (f : Nat → Nat) (k : Nat) (h : k < 8) : (vv f)[k]? = some (.int .u32 (f k)) := by
  rcases lt8 h with rfl | rfl | rfl | rfl | rfl | rfl | rfl | rfl <;> rfl
/-- Eight numbers of 32 bits. -/
def Fit8 (f : Nat → Nat) : Prop := ∀ k, k < 8 → f k < 4294967296

/-- The greatest one of the first k numbers. -/
def mx (f : Nat → Nat) : Nat → Nat
  | 0 => 0
  | k + 1 => max (mx f k) (f k)
/-- The bits of the first k numbers: which are above 0. -/
def mk8 (f : Nat → Nat) : Nat → Nat
  | 0 => 0
  | k + 1 => if 0 < f k then mk8 f k + 2 ^ k else mk8 f k
theorem mk8_lt (f : Nat → Nat) : ∀ k, mk8 f k < 2 ^ k := by
  intro k
  induction k with
  | zero => simp [mk8]
  | succ k ih =>
    simp only [mk8]
    rw [Nat.pow_succ]
    split <;> omega
theorem or_bit (m k : Nat) (hk : k < 8) (hm : m < 2 ^ k) : bits BinOp.or IntKind.u8 (m : Int) ((2 : Int) ^ k % 256) = ((m + 2 ^ k : Nat) : Int) := by
  have h2 : ((2 : Int) ^ k % 256) = ((2 ^ k : Nat) : Int) := by
    rcases lt8 hk with rfl | rfl | rfl | rfl | rfl | rfl | rfl | rfl <;> rfl
  have h3 : m + 2 ^ k < 256 := by
    have : 2 ^ k ≤ 2 ^ 7 := Nat.pow_le_pow_right (by omega) (by omega)
    omega
  rw [h2, u8_or_nat _ _ (by omega) (by omega)]
  have h4 := Nat.two_pow_add_eq_or_of_lt hm 1
  rw [Nat.mul_one] at h4
  rw [Nat.add_comm, h4, Nat.or_comm]
/-- A dot, as a value's cells. -/
abbrev dv (r n : Nat) : Array Value := #[.int .u8 r, .int .u32 n]
/-- A dot of zeros. -/
abbrev dz : Array Value := #[.int .u8 0, .int .u32 0]
end Go.Proofs.YtiokabhidjafeaaDoor
end
section
namespace Go.Proofs.YtiokabhidjafeaaDoor
open Go.RowKit

theorem vblk_cell {w : World} {b : Nat} {f : Nat → Nat} {k : Nat} (h : Blk w b 24 (vv f)) (hk : k < 8) : w.cell? ⟨b, k, none⟩ = some (.int .u32 (f k)) := h.cell k (vv_get f k hk)
theorem vcells {w : World} {b : Nat} {f : Nat → Nat} (h : Blk w b 24 (vv f)) : ∀ k, k < 8 → w.cell? ⟨b, k, none⟩ = some (.int .u32 (f k)) := fun _ hk => vblk_cell h hk
theorem ite_max (a b : Nat) : Value.int IntKind.u32 (if a < b then (b : Int) else (a : Int)) = Value.int IntKind.u32 (max a b : Nat) := by
  by_cases h : a < b
  · rw [if_pos h, Nat.max_eq_right (by omega)]
  · rw [if_neg h, Nat.max_eq_left (by omega)]

theorem run_eq_dot (r n r' n' : Nat) (w : World) : (Op.equalIn 10000 61 (.agg (dv r n)) (.agg (dv r' n'))).run Tryd.prog w = .ok (r == r' && n == n') w := by
  have u3 := Tryd.underlying22
  have a3 := Tryd.isAgg22
  have z3 := Tryd.sizeOf22
  have u5 := Tryd.underlying5
  have a5 := Tryd.isAgg5
  have z5 := Tryd.sizeOf5
  have hS : Tryd.prog.underlying 61 = some (.struct (Tryd.prog.fieldsOf 61)) := by kernel_rfl
  rw [show (10000 : Nat) = 9999 + 1 from rfl, run_equalIn_agg w 9999 61 _ _ hS (by kernel_rfl)]
  simp only [Program.fieldsOf, Tryd.underlying61]
  go_simp
  simp only [Int.natCast_inj]
  by_cases h0 : r = r'
  case neg => simp [h0]
  by_cases h1 : n = n' <;> simp [h0, h1]

set_option maxRecDepth 100000 in
set_option maxHeartbeats 1000000 in
theorem greatest_any (f : Nat → Nat) (w : World) (hf : Fit8 f) :
    Calls Tryd.prog 77 #[.agg (vv f)] w fun e w' => e = .returned (.int .u32 (mx f 8)) ∧ Frm (fun _ => False) w w' := by
  have hb : Blk (w.alloc (Obj.cells (vv f) 24)) w.heap.size 24 (vv f) := Blk.alloc w _ _
  have g0 : Frm (fun _ => False) w (w.alloc (Obj.cells (vv f) 24)) := (Frm.refl _ w).alloc _
  go_enter Tryd.func77, Tryd.ntmps77
  go_wp2
  go_loop [3, 5] (fun n i => ∃ k : Nat, k ≤ 8 ∧ i = .int .i64 k ∧ n = .int .u32 (mx f k)) (fun _ i => 8 - (intOf i).toNat)
  case atStart => exact ⟨0, by omega, rfl, rfl⟩
  case round =>
    obtain ⟨k, hk, rfl, rfl⟩ := hrel
    by_cases hlt : k < 8
    · have c0 := vblk_cell hb hlt
      have b1 := hf k hlt
      have hki : (k : Int) < 8 := by omega
      have hk0 : (0 : Int) ≤ (k : Int) := by omega
      go_wp2
      go_round
      case rel => exact ⟨k + 1, by omega, by go_num, ite_max _ _⟩
      case measure => simp [intOf]; omega
    · obtain rfl : k = 8 := by omega
      go_wp2
      go_ret
      exact ⟨rfl, g0⟩

set_option maxRecDepth 100000 in
set_option maxHeartbeats 1000000 in
theorem valid_any (f : Nat → Nat) (w : World) (hf : Fit8 f) :
    Calls Tryd.prog 55 #[.agg (vv f)] w fun e w' => e = .returned (.bool (decide (mx f 8 ≤ 65535))) ∧ Frm (fun _ => False) w w' := by
  have g0 : Frm (fun _ => False) w (w.alloc (Obj.cells (vv f) 24)) := (Frm.refl _ w).alloc _
  have hl := vcells (Blk.alloc w 24 (vv f))
  have hi : ((mx f 8 : Nat) : Int) ≤ 65535 ↔ mx f 8 ≤ 65535 := by omega
  go_enter Tryd.func55, Tryd.ntmps55
  go_wp2_with fail
  refine (greatest_any f _ hf).mono ?_
  rintro e w1 ⟨rfl, g1⟩
  go_wp2_with fail
  go_ret
  exact ⟨rfl, g0.trans g1⟩
/-- A whole row is stored into a block that is known. -/
theorem wpl_store_blk {ops : Array Oper} {rest : List Oper} {o : Oper} {a : Act} {w : World} {Q : Exit → Act → World → Prop} (hgd : o.guard = none) (t : TypeId) (x y : Operand) (ho : o.op = .store t x y)
    (b : Nat) (cs old : Array Value) (hx : a.eval x = .pointer (some ⟨b, 0, none⟩)) (hy : a.eval y = .agg cs) (h : Blk w b t old) (hs : old.size = cs.size) (hi : (Tryd.prog.info? t).map (·.size) = some cs.size) (h1 : cs.all (·.oneCell') = true)
    (hK : ∀ w', Blk w' b t cs → Frm (· = b) w w' → w'.heap.size = w.heap.size → wpList Tryd.prog ops Q rest (a.put o.dst undef) w') : wpList Tryd.prog ops Q (o :: rest) a w := by
  refine wpList_plain hgd fun K hK' => wp_store_row t x y ho b cs hx hy t old h hi hs h1 (hK' _ _ (hK _ ?_ ?_ ?_))
  · simp only [Blk] at h
    simp only [Blk, World.setRow, Array.getElem?_modify]
    simp [h]
  · refine ⟨rfl, rfl, rfl, by simp [World.setRow], fun k _ hk => ?_⟩
    simp only [World.setRow, Array.getElem?_modify]
    rw [if_neg (fun e => hk e.symm)]
  · simp [World.setRow]
end Go.Proofs.YtiokabhidjafeaaDoor
end
