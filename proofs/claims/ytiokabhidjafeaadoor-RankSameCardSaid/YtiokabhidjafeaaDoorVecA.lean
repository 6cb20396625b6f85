/- What the calls of package vector answer: Join, greatest, valid. Of any vectors. No condition but that the numbers have 32 bits. -/
import Derived.Test.YtiokabhidjafeaaDoorVec
namespace Go.Proofs.YtiokabhidjafeaaDoor
open Go.RowKit

theorem vblk_cell {w : World} {b : Nat} {f : Nat → Nat} {k : Nat} (h : Blk w b 24 (vv f)) (hk : k < 8) : w.cell? ⟨b, k, none⟩ = some (.int .u32 (f k)) := h.cell k (vv_get f k hk)
theorem vcells {w : World} {b : Nat} {f : Nat → Nat} (h : Blk w b 24 (vv f)) : ∀ k, k < 8 → w.cell? ⟨b, k, none⟩ = some (.int .u32 (f k)) := fun _ hk => vblk_cell h hk
theorem ite_max (a b : Nat) : Value.int IntKind.u32 (if a < b then (b : Int) else (a : Int)) = Value.int IntKind.u32 (max a b : Nat) := by
  by_cases h : a < b
  · rw [if_pos h, Nat.max_eq_right (by omega)]
  · rw [if_neg h, Nat.max_eq_left (by omega)]

theorem run_eq_dot (r n r' n' : Nat) (w : World) : (Op.equalIn 10000 61 (.agg (dv r n)) (.agg (dv r' n'))).run Tryd.prog w = .ok (r == r' && n == n') w := by
  have u3 := Tryd.underlying22
  have a3 := Tryd.isAgg22
  have z3 := Tryd.sizeOf22
  have u5 := Tryd.underlying5
  have a5 := Tryd.isAgg5
  have z5 := Tryd.sizeOf5
  have hS : Tryd.prog.underlying 61 = some (.struct (Tryd.prog.fieldsOf 61)) := by kernel_rfl
  rw [show (10000 : Nat) = 9999 + 1 from rfl, run_equalIn_agg w 9999 61 _ _ hS (by kernel_rfl)]
  simp only [Program.fieldsOf, Tryd.underlying61]
  go_simp
  simp only [Int.natCast_inj]
  by_cases h0 : r = r'
  case neg => simp [h0]
  by_cases h1 : n = n' <;> simp [h0, h1]

set_option maxRecDepth 100000 in
set_option maxHeartbeats 1000000 in
theorem greatest_any (f : Nat → Nat) (w : World) (hf : Fit8 f) :
    Calls Tryd.prog 77 #[.agg (vv f)] w fun e w' => e = .returned (.int .u32 (mx f 8)) ∧ Frm (fun _ => False) w w' := by
  have hb : Blk (w.alloc (Obj.cells (vv f) 24)) w.heap.size 24 (vv f) := Blk.alloc w _ _
  have g0 : Frm (fun _ => False) w (w.alloc (Obj.cells (vv f) 24)) := (Frm.refl _ w).alloc _
  go_enter Tryd.func77, Tryd.ntmps77
  go_wp2
  go_loop [3, 5] (fun n i => ∃ k : Nat, k ≤ 8 ∧ i = .int .i64 k ∧ n = .int .u32 (mx f k)) (fun _ i => 8 - (intOf i).toNat)
  case atStart => exact ⟨0, by omega, rfl, rfl⟩
  case round =>
    obtain ⟨k, hk, rfl, rfl⟩ := hrel
    by_cases hlt : k < 8
    · have c0 := vblk_cell hb hlt
      have b1 := hf k hlt
      have hki : (k : Int) < 8 := by omega
      have hk0 : (0 : Int) ≤ (k : Int) := by omega
      go_wp2
      go_round
      case rel => exact ⟨k + 1, by omega, by go_num, ite_max _ _⟩
      case measure => simp [intOf]; omega
    · obtain rfl : k = 8 := by omega
      go_wp2
      go_ret
      exact ⟨rfl, g0⟩

set_option maxRecDepth 100000 in
set_option maxHeartbeats 1000000 in
theorem valid_any (f : Nat → Nat) (w : World) (hf : Fit8 f) :
    Calls Tryd.prog 55 #[.agg (vv f)] w fun e w' => e = .returned (.bool (decide (mx f 8 ≤ 65535))) ∧ Frm (fun _ => False) w w' := by
  have g0 : Frm (fun _ => False) w (w.alloc (Obj.cells (vv f) 24)) := (Frm.refl _ w).alloc _
  have hl := vcells (Blk.alloc w 24 (vv f))
  have hi : ((mx f 8 : Nat) : Int) ≤ 65535 ↔ mx f 8 ≤ 65535 := by omega
  go_enter Tryd.func55, Tryd.ntmps55
  go_wp2_with fail
  refine (greatest_any f _ hf).mono ?_
  rintro e w1 ⟨rfl, g1⟩
  go_wp2_with fail
  go_ret
  exact ⟨rfl, g0.trans g1⟩
/-- A whole row is stored into a block that is known. -/
theorem wpl_store_blk {ops : Array Oper} {rest : List Oper} {o : Oper} {a : Act} {w : World} {Q : Exit → Act → World → Prop} (hgd : o.guard = none) (t : TypeId) (x y : Operand) (ho : o.op = .store t x y)
    (b : Nat) (cs old : Array Value) (hx : a.eval x = .pointer (some ⟨b, 0, none⟩)) (hy : a.eval y = .agg cs) (h : Blk w b t old) (hs : old.size = cs.size) (hi : (Tryd.prog.info? t).map (·.size) = some cs.size) (h1 : cs.all (·.oneCell') = true)
    (hK : ∀ w', Blk w' b t cs → Frm (· = b) w w' → w'.heap.size = w.heap.size → wpList Tryd.prog ops Q rest (a.put o.dst undef) w') : wpList Tryd.prog ops Q (o :: rest) a w := by
  refine wpList_plain hgd fun K hK' => wp_store_row t x y ho b cs hx hy t old h hi hs h1 (hK' _ _ (hK _ ?_ ?_ ?_))
  · simp only [Blk] at h
    simp only [Blk, World.setRow, Array.getElem?_modify]
    simp [h]
  · refine ⟨rfl, rfl, rfl, by simp [World.setRow], fun k _ hk => ?_⟩
    simp only [World.setRow, Array.getElem?_modify]
    rw [if_neg (fun e => hk e.symm)]
  · simp [World.setRow]
/-- A whole vector is stored into a block that is known. -/
theorem wpl_store_vec {ops : Array Oper} {rest : List Oper} {o : Oper} {a : Act} {w : World} {Q : Exit → Act → World → Prop} (hgd : o.guard = none) (x y : Operand) (ho : o.op = .store 24 x y)
    (b : Nat) (f : Nat → Nat) (old : Array Value) (hx : a.eval x = .pointer (some ⟨b, 0, none⟩)) (hy : a.eval y = .agg (vv f)) (h : Blk w b 24 old) (hs : old.size = 8)
    (hK : ∀ w', Blk w' b 24 (vv f) → Frm (· = b) w w' → w'.heap.size = w.heap.size → wpList Tryd.prog ops Q rest (a.put o.dst undef) w') : wpList Tryd.prog ops Q (o :: rest) a w := by
  exact wpl_store_blk hgd 24 x y ho b (vv f) old hx hy h (by rw [hs, vv_size]) (by rw [vv_size]; kernel_rfl) (by simp [Value.oneCell']) hK

set_option maxRecDepth 100000 in
set_option maxHeartbeats 1000000 in
theorem join_any (f g : Nat → Nat) (w : World) :
    Calls Tryd.prog 45 #[.agg (vv f), .agg (vv g)] w fun e w' => e = .returned (.agg (vv (jn8 f g))) ∧ Frm (fun _ => False) w w' := by
  go_enter Tryd.func45, Tryd.ntmps45
  go_wp2_with fail
  have b0 : Blk (((w.alloc (Obj.cells (vv f) 24)).alloc (Obj.cells (vv g) 24)).alloc (Obj.cells vz 24)) w.heap.size 24 (vv f) := ((Blk.alloc w _ _).old _).old _
  have b1 : Blk (((w.alloc (Obj.cells (vv f) 24)).alloc (Obj.cells (vv g) 24)).alloc (Obj.cells vz 24)) (w.heap.size + 1) 24 (vv g) := (Blk.at1 w _ _ _).old _
  have b2 : Blk (((w.alloc (Obj.cells (vv f) 24)).alloc (Obj.cells (vv g) 24)).alloc (Obj.cells vz 24)) (w.heap.size + 1 + 1) 24 vz := Blk.at2 w _ _ _ _
  have g0 : Frm (fun _ => False) w (((w.alloc (Obj.cells (vv f) 24)).alloc (Obj.cells (vv g) 24)).alloc (Obj.cells vz 24)) := (((Frm.refl _ w).alloc _).alloc _).alloc _
  obtain ⟨w0, hw0⟩ : ∃ w0, ((w.alloc (Obj.cells (vv f) 24)).alloc (Obj.cells (vv g) 24)).alloc (Obj.cells vz 24) = w0 := ⟨_, rfl⟩
  rw [hw0] at b0 b1 b2 g0
  rw [hw0]
  clear hw0
  have hA := b0.lt
  obtain ⟨A, hA'⟩ : ∃ A, w.heap.size = A := ⟨_, rfl⟩
  rw [hA'] at b0 b1 b2
  rw [hA']
  have HA := Lib.hid hA'
  clear hA' hA
  go_loopw [6] (fun i wr => ∃ k : Nat, k ≤ 8 ∧ i = .int .i64 k ∧ Blk wr A 24 (vv (jnK f g k)) ∧ Blk wr (A + 1) 24 (vv g) ∧ Blk wr (A + 1 + 1) 24 vz ∧ Frm (fun _ => False) w wr) (fun i _ => 8 - (intOf i).toNat)
  case atStart => exact ⟨0, by omega, rfl, by rw [jnK_zero]; exact b0, b1, b2, g0⟩
  case round =>
    obtain ⟨k, hk, rfl, d0, d1, d2, g1⟩ := hrel
    by_cases hlt : k < 8
    · have c0 := vblk_cell d0 hlt
      have c1 := vblk_cell d1 hlt
      rw [jnK_at] at c0
      have f0 := d0.free k
      have hki : (k : Int) < 8 := by omega
      have hk0 : (0 : Int) ≤ (k : Int) := by omega
      go_wp2_with fail
      go_region
      go_wp2_with fail
      go_roundw
      case rel =>
        have hA := HA.out
        refine ⟨k + 1, by omega, by go_num, ?_, (d1.other (by simp) _).drew, (d2.other (by simp only; omega) _).drew, (g1.setCell (fun h => by simp only at h; omega) _).drew⟩
        have h := (d0.set k (.int .u32 (max (f k) (g k) : Nat))).drew
        rw [vv_set _ _ _ hlt, jnK_succ] at h
        rw [ite_max]
        exact h
      case measure => simp [intOf]; omega
    · obtain rfl : k = 8 := by omega
      rw [vv_jnK] at d0
      have hl := vcells d0
      go_wp2_with (with_reducible refine wpl_store_vec rfl _ _ rfl (A + 1 + 1) (jn8 f g) vz ?hx ?hy d2 rfl ?hK)
      case hx => rfl
      case hy => rfl
      intro w2 e2 g2 z2
      have h2 := vcells e2
      go_wp2_with fail
      have hA := HA.out
      refine bodyPost_ret (v := .agg (vv (jn8 f g))) (by simp [results, Tryd.results45, go_sem, h2]) rfl ?_
      exact ⟨rfl, g1.next g2 (fun k hk h => by omega)⟩
end Go.Proofs.YtiokabhidjafeaaDoor

