/- What the document's own Join, Cmp answer: the same. Of any vectors. No condition. -/
import Derived.Test.YtdoeogfjbcannaaVecC
namespace Go.Proofs.Ytdoeogfjbcannaa
open Go.RowKit

set_option maxRecDepth 100000 in
set_option maxHeartbeats 1000000 in
theorem rjoin_any (f g : Nat → Nat) (w : World) :
    Calls Try.prog 12 #[.agg (vv f), .agg (vv g)] w fun e w' => e = .returned (.agg (vv (jn8 f g))) ∧ Frm (fun _ => False) w w' := by
  have b0 : Blk ((((w.alloc (Obj.cells (vv f) 24)).alloc (Obj.cells (vv g) 24)).alloc (Obj.cells vz 24)).alloc (Obj.cells vz 24)) w.heap.size 24 (vv f) := (((Blk.alloc w _ _).old _).old _).old _
  have b1 : Blk ((((w.alloc (Obj.cells (vv f) 24)).alloc (Obj.cells (vv g) 24)).alloc (Obj.cells vz 24)).alloc (Obj.cells vz 24)) (w.heap.size + 1) 24 (vv g) := ((Blk.at1 w _ _ _).old _).old _
  have b2 : Blk ((((w.alloc (Obj.cells (vv f) 24)).alloc (Obj.cells (vv g) 24)).alloc (Obj.cells vz 24)).alloc (Obj.cells vz 24)) (w.heap.size + 1 + 1) 24 vz := (Blk.at2 w _ _ _ _).old _
  have b3 : Blk ((((w.alloc (Obj.cells (vv f) 24)).alloc (Obj.cells (vv g) 24)).alloc (Obj.cells vz 24)).alloc (Obj.cells vz 24)) (w.heap.size + 1 + 1 + 1) 24 vz := by
    have h := Blk.alloc (((w.alloc (Obj.cells (vv f) 24)).alloc (Obj.cells (vv g) 24)).alloc (Obj.cells vz 24)) 24 vz
    simpa using h
  have g0 : Frm (fun _ => False) w ((((w.alloc (Obj.cells (vv f) 24)).alloc (Obj.cells (vv g) 24)).alloc (Obj.cells vz 24)).alloc (Obj.cells vz 24)) := ((((Frm.refl _ w).alloc _).alloc _).alloc _).alloc _
  go_enter Try.func12, Try.ntmps12
  go_wp2_with ((with_reducible refine wpl_store_vec rfl _ _ rfl (w.heap.size + 1 + 1 + 1) (fun _ => 0) vz ?_ ?_ b3 rfl ?_); (focus rfl); (focus rfl); intro w0 e0 h0 z0)
  have d0 := b0.keep h0 (by omega)
  have d1 := b1.keep h0 (by omega)
  have d2 := b2.keep h0 (by omega)
  have k0 := g0.next h0 (fun k hk h => by omega)
  clear b0 b1 b2 b3 h0 z0 g0
  obtain ⟨A, hA'⟩ : ∃ A, w.heap.size = A := ⟨_, rfl⟩
  rw [hA'] at d0 d1 d2 e0
  rw [hA']
  have HA := Lib.hid hA'
  clear hA'
  go_loopw [6] (fun i wr => ∃ k : Nat, k ≤ 8 ∧ i = .int .i64 k ∧ Blk wr A 24 (vv f) ∧ Blk wr (A + 1) 24 (vv g) ∧ Blk wr (A + 1 + 1) 24 vz ∧ Blk wr (A + 1 + 1 + 1) 24 (vv (jnZ f g k)) ∧ Frm (fun _ => False) w wr) (fun i _ => 8 - (intOf i).toNat)
  case atStart => exact ⟨0, by omega, rfl, d0, d1, d2, by rw [jnZ_zero]; exact e0, k0⟩
  case round =>
    clear d0 d1 d2 e0 k0
    obtain ⟨k, hk, rfl, d0, d1, d2, d3, g1⟩ := hrel
    by_cases hlt : k < 8
    · have c0 := vblk_cell d0 hlt
      have hki : (k : Int) < 8 := by omega
      have hk0 : (0 : Int) ≤ (k : Int) := by omega
      by_cases hb : f k < g k
      · have hbd : decide (((f k : Nat) : Int) < ((g k : Nat) : Int)) = true := by rw [decide_eq_true_eq]; omega
        go_wp2_with ((with_reducible refine wpl_store_at rfl _ _ rfl (A + 1 + 1 + 1) k (f k) (jnZ f g k) hlt ?_ ?_ d3 ?_); (focus rfl); (focus rfl); intro w4 e4 g4 z4; have x0 := vblk_cell (d0.keep g4 (by omega)) hlt; have x1 := vblk_cell (d1.keep g4 (by omega)) hlt)
        refine wp_region_canon (fun w' => w'.cell? ⟨A, k, none⟩ = some (.int .u32 (f k)) ∧ w'.cell? ⟨A + 1, k, none⟩ = some (.int .u32 (g k)) ∧ Frm (fun _ => False) w4 w') (by kernel_rfl) rfl (by kernel_rfl) (by kernel_rfl) (⟨x0, x1, (Frm.refl _ w4).drew⟩) ?_
        repeat' first
          | (refine CanonL.skip (by rfl) ?_; (try simp only [Act.put, List.setIfInBounds_toArray, List.set_cons_zero, List.set_cons_succ]))
          | (refine CanonL.val (v := ?_) (by rfl) ?_ ?_; rotate_left 1; (focus (intro w hSw; (try dsimp only at hSw); go_simp; (try (with_reducible rfl)); done)); (try simp only [Act.put, List.setIfInBounds_toArray, List.set_cons_zero, List.set_cons_succ]))
        refine CanonL.done ?_
        intro w9 hS9
        obtain ⟨y0, y1, f9⟩ := hS9
        have e9 := e4.keep f9 (fun h => h)
        have d09 := (d0.keep g4 (by omega)).keep f9 (fun h => h)
        have d19 := (d1.keep g4 (by omega)).keep f9 (fun h => h)
        have d29 := (d2.keep g4 (by omega)).keep f9 (fun h => h)
        have hA := HA.out
        have g9 := (g1.next g4 (fun k hk h => by omega)).trans f9
        clear hA d0 d1 d2 d3 g1 e4 g4 z4 x0 x1 f9 c0
        go_wp2_with ((with_reducible refine wpl_store_at rfl _ _ rfl (A + 1 + 1 + 1) k (g k) (upd8 (jnZ f g k) k (f k)) hlt ?_ ?_ e9 ?_); (focus rfl); (focus rfl); intro w5 e5 g5 z5)
        rw [jnZ_gt hb] at e5
        go_wp2_with fail
        go_roundw
        case rel =>
          have hA := HA.out
          exact ⟨k + 1, by omega, by go_num, d09.keep g5 (by omega), d19.keep g5 (by omega), d29.keep g5 (by omega), e5, g9.next g5 (fun k hk h => by omega)⟩
        case measure => simp [intOf]; omega
      · have hbd : decide (((f k : Nat) : Int) < ((g k : Nat) : Int)) = false := by rw [decide_eq_false_iff_not]; omega
        go_wp2_with ((with_reducible refine wpl_store_at rfl _ _ rfl (A + 1 + 1 + 1) k (f k) (jnZ f g k) hlt ?_ ?_ d3 ?_); (focus rfl); (focus rfl); intro w4 e4 g4 z4; have x0 := vblk_cell (d0.keep g4 (by omega)) hlt; have x1 := vblk_cell (d1.keep g4 (by omega)) hlt)
        refine wp_region_canon (fun w' => w'.cell? ⟨A, k, none⟩ = some (.int .u32 (f k)) ∧ w'.cell? ⟨A + 1, k, none⟩ = some (.int .u32 (g k)) ∧ Frm (fun _ => False) w4 w') (by kernel_rfl) rfl (by kernel_rfl) (by kernel_rfl) (⟨x0, x1, (Frm.refl _ w4).drew⟩) ?_
        repeat' first
          | (refine CanonL.skip (by rfl) ?_; (try simp only [Act.put, List.setIfInBounds_toArray, List.set_cons_zero, List.set_cons_succ]))
          | (refine CanonL.val (v := ?_) (by rfl) ?_ ?_; rotate_left 1; (focus (intro w hSw; (try dsimp only at hSw); go_simp; (try (with_reducible rfl)); done)); (try simp only [Act.put, List.setIfInBounds_toArray, List.set_cons_zero, List.set_cons_succ]))
        refine CanonL.done ?_
        intro w9 hS9
        obtain ⟨y0, y1, f9⟩ := hS9
        have e9 := e4.keep f9 (fun h => h)
        have d09 := (d0.keep g4 (by omega)).keep f9 (fun h => h)
        have d19 := (d1.keep g4 (by omega)).keep f9 (fun h => h)
        have d29 := (d2.keep g4 (by omega)).keep f9 (fun h => h)
        have hA := HA.out
        have g9 := (g1.next g4 (fun k hk h => by omega)).trans f9
        clear hA d0 d1 d2 d3 g1 e4 g4 z4 x0 x1 f9 c0
        rw [jnZ_le hb] at e9
        go_wp2_with fail
        go_roundw
        case rel => exact ⟨k + 1, by omega, by go_num, d09, d19, d29, e9, g9⟩
        case measure => simp [intOf]; omega
    · obtain rfl : k = 8 := by omega
      rw [vv_jnZ] at d3
      have hl := vcells d3
      go_wp2_with ((with_reducible refine wpl_store_vec rfl _ _ rfl (A + 1 + 1) (jn8 f g) vz ?_ ?_ d2 rfl ?_); (focus rfl); (focus rfl); intro w2 e2 g2 z2; have h2 := vcells e2)
      have hA := HA.out
      refine bodyPost_ret (v := .agg (vv (jn8 f g))) (by simp [results, Try.results12, go_sem, h2]) rfl ?_
      exact ⟨rfl, g1.next g2 (fun k hk h => by omega)⟩
end Go.Proofs.Ytdoeogfjbcannaa
