/- What the calls of package vector answer: marks, Next. Of any vectors. No condition but that the numbers have their bits. -/
import Derived.Test.YtojbgckabifnjaaVecB
namespace Go.Proofs.Ytojbgckabifnjaa
open Go.RowKit

set_option maxRecDepth 100000 in
set_option maxHeartbeats 1000000 in
theorem marks_any (f : Nat → Nat) (w : World) :
    Calls Try.prog 80 #[.agg (vv f)] w fun e w' => e = .returned (.int .u8 (mk8 f 8)) ∧ Frm (fun _ => False) w w' := by
  have hb : Blk (w.alloc (Obj.cells (vv f) 24)) w.heap.size 24 (vv f) := Blk.alloc w _ _
  have g0 : Frm (fun _ => False) w (w.alloc (Obj.cells (vv f) 24)) := (Frm.refl _ w).alloc _
  go_enter Try.func80, Try.ntmps80
  go_wp2
  go_loop [3, 5] (fun n i => ∃ k : Nat, k ≤ 8 ∧ i = .int .i64 k ∧ n = .int .u8 (mk8 f k)) (fun _ i => 8 - (intOf i).toNat)
  case atStart => exact ⟨0, by omega, rfl, rfl⟩
  case round =>
    obtain ⟨k, hk, rfl, rfl⟩ := hrel
    by_cases hlt : k < 8
    · have c0 := vblk_cell hb hlt
      have hki : (k : Int) < 8 := by omega
      have hk0 : (0 : Int) ≤ (k : Int) := by omega
      by_cases h0 : 0 < f k
      · have h0i : (0 : Int) < (f k : Int) := by omega
        have h2 : mk8 f (k + 1) = mk8 f k + 2 ^ k := by simp [mk8, h0]
        have h3 := or_bit (mk8 f k) k hlt (mk8_lt f k)
        rw [← h2] at h3
        clear h2
        go_wp2
        go_round
        case rel => exact ⟨k + 1, by omega, by go_num, rfl⟩
        case measure => simp [intOf]; omega
      · have h0i : ¬ (0 : Int) < (f k : Int) := by omega
        have h2 : mk8 f (k + 1) = mk8 f k := by simp [mk8, h0]
        go_wp2
        go_round
        case rel => exact ⟨k + 1, by omega, by go_num, by rw [h2]⟩
        case measure => simp [intOf]; omega
    · obtain rfl : k = 8 := by omega
      go_wp2
      go_ret
      exact ⟨rfl, g0⟩

set_option maxRecDepth 100000 in
set_option maxHeartbeats 1000000 in
theorem next_any8 (f : Nat → Nat) (r : Nat) (w : World) (hf : Fit8 f) (hr : r < 256) :
    Calls Try.prog 12 #[.agg (vv f), .int .u8 r] w (NextTo f r w) := by
  have b0 : Blk (((w.alloc (Obj.cells (vv f) 24)).alloc (Obj.cells vz 24)).alloc (Obj.cells dz 27)) w.heap.size 24 (vv f) := ((Blk.alloc w _ _).old _).old _
  have b1 : Blk (((w.alloc (Obj.cells (vv f) 24)).alloc (Obj.cells vz 24)).alloc (Obj.cells dz 27)) (w.heap.size + 1) 24 vz := (Blk.at1 w _ _ _).old _
  have b2 : Blk (((w.alloc (Obj.cells (vv f) 24)).alloc (Obj.cells vz 24)).alloc (Obj.cells dz 27)) (w.heap.size + 1 + 1) 27 dz := Blk.at2 w _ _ _ _
  have g0 : Frm (fun _ => False) w (((w.alloc (Obj.cells (vv f) 24)).alloc (Obj.cells vz 24)).alloc (Obj.cells dz 27)) := (((Frm.refl _ w).alloc _).alloc _).alloc _
  by_cases h8 : 8 ≤ r
  · have h8i : ¬ (r : Int) < 8 := by omega
    have h8j : (8 : Int) ≤ (r : Int) := by omega
    have hS : nextS8 f r = (fun _ => 0, (0, 0), 2) := by simp [nextS8, h8]
    unfold NextTo
    rw [hS]
    clear hS
    go_enter Try.func12, Try.ntmps12
    go_wp2_with (first
      | ((with_reducible refine wpl_store_vec rfl _ _ rfl (w.heap.size + 1) (fun _ => 0) vz ?_ ?_ b1 rfl ?_); (focus rfl); (focus rfl); intro w2 e2 g2 z2; have d2 := b2.keep g2 (by omega))
      | ((with_reducible refine wpl_store_dot rfl _ _ rfl (w.heap.size + 1 + 1) 0 0 dz ?_ ?_ d2 rfl ?_); (focus rfl); (focus rfl); intro w3 e3 g3 z3; have h2 := vcells (e2.keep g3 (by omega)); have d0 := e3.cell 0 rfl; have d1 := e3.cell 1 rfl))
    refine bodyPost_ret (v := .tuple #[.agg (vv (fun _ => 0)), .agg (dv 0 0), .int .i64 2]) (by simp [results, Try.results12, go_sem, h2, d0, d1]) rfl ?_
    exact ⟨rfl, (g0.next g2 (fun k hk h => by omega)).next g3 (fun k hk h => by omega)⟩
  · have hlt : r < 8 := by omega
    have h8i : (r : Int) < 8 := by omega
    have h8j : ¬ (8 : Int) ≤ (r : Int) := by omega
    have h80 : (0 : Int) ≤ (r : Int) := by omega
    have hm := mx_lt f 4294967296 (by omega) 8 hf
    by_cases hx : 65535 ≤ mx f 8
    · have hxi : (65535 : Int) ≤ (mx f 8 : Int) := by omega
      have hS : nextS8 f r = (fun _ => 0, (0, 0), 12) := by simp [nextS8, h8, hx]
      unfold NextTo
      rw [hS]
      clear hS
      have hl := vcells b0
      go_enter Try.func12, Try.ntmps12
      go_wp2_with fail
      refine (greatest_any f _ hf).mono ?_
      rintro e w1 ⟨rfl, g1⟩
      have c1 := b1.keep g1 (fun h => h)
      have c2 := b2.keep g1 (fun h => h)
      clear hl
      go_wp2_with (first
        | ((with_reducible refine wpl_store_vec rfl _ _ rfl (w.heap.size + 1) (fun _ => 0) vz ?_ ?_ c1 rfl ?_); (focus rfl); (focus rfl); intro w2 e2 g2 z2; have d2 := c2.keep g2 (by omega))
        | ((with_reducible refine wpl_store_dot rfl _ _ rfl (w.heap.size + 1 + 1) 0 0 dz ?_ ?_ d2 rfl ?_); (focus rfl); (focus rfl); intro w3 e3 g3 z3; have h2 := vcells (e2.keep g3 (by omega)); have d0 := e3.cell 0 rfl; have d1 := e3.cell 1 rfl))
      refine bodyPost_ret (v := .tuple #[.agg (vv (fun _ => 0)), .agg (dv 0 0), .int .i64 12]) (by simp [results, Try.results12, go_sem, h2, d0, d1]) rfl ?_
      exact ⟨rfl, ((g0.trans g1).next g2 (fun k hk h => by omega)).next g3 (fun k hk h => by omega)⟩
    · have hxi : ¬ (65535 : Int) ≤ (mx f 8 : Int) := by omega
      have hS : nextS8 f r = (upd8 f r (mx f 8 + 1), (r, mx f 8 + 1), 0) := by simp [nextS8, h8, hx]
      unfold NextTo
      rw [hS]
      clear hS
      have hl := vcells b0
      have G := fun w => greatest_any f w hf
      generalize mx f 8 = M at *
      have hM : M < 65535 := by omega
      have HG := Lib.hid G
      have hxd : decide ((65535 : Int) ≤ (M : Int)) = false := by rw [decide_eq_false_iff_not]; omega
      clear G hm hx hxi
      go_enter Try.func12, Try.ntmps12
      go_wp2_with fail
      refine (HG.out _).mono ?_
      rintro e w1 ⟨rfl, g1⟩
      have c0 := b0.keep g1 (fun h => h)
      have c1 := b1.keep g1 (fun h => h)
      have c2 := b2.keep g1 (fun h => h)
      have cc := vblk_cell c0 hlt
      have cf := c0.free r
      clear hl HG
      go_wp2_with (first
        | ((with_reducible refine wpl_store_at rfl _ _ rfl w.heap.size r (M + 1) f hlt ?_ ?_ c0 ?_); (focus rfl); (focus (go_simp; done)); intro w4 e4 g4 z4; have hv := vcells e4; have c12 := c1.keep g4 (by omega); have c22 := c2.keep g4 (by omega))
        | ((with_reducible refine wpl_store_vec rfl _ _ rfl (w.heap.size + 1) (upd8 f r (M + 1)) vz ?_ ?_ c12 rfl ?_); (focus rfl); (focus rfl); intro w2 e2 g2 z2; have d2 := c22.keep g2 (by omega))
        | ((with_reducible refine wpl_store_dot rfl _ _ rfl (w.heap.size + 1 + 1) r (M + 1) dz ?_ ?_ d2 rfl ?_); (focus rfl); (focus rfl); intro w3 e3 g3 z3; have h2 := vcells (e2.keep g3 (by omega)); have d0 := e3.cell 0 rfl; have d1 := e3.cell 1 rfl))
      refine bodyPost_ret (v := .tuple #[.agg (vv (upd8 f r (M + 1))), .agg (dv r (M + 1)), .int .i64 0]) (by simp [results, Try.results12, go_sem, h2, d0, d1]) rfl ?_
      have := b0.lt
      exact ⟨rfl, (((g0.trans g1).next g4 (fun k hk h => by omega)).next g2 (fun k hk h => by omega)).next g3 (fun k hk h => by omega)⟩
end Go.Proofs.Ytojbgckabifnjaa

