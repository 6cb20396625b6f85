/- What the document's own Next answers: the same. Of any vectors. No condition but that the numbers have their bits. -/
import Derived.Test.YtdoeogfjbcannaaVecE
namespace Go.Proofs.Ytdoeogfjbcannaa
open Go.RowKit

set_option maxRecDepth 100000 in
set_option maxHeartbeats 1000000 in
theorem rnext_any (f : Nat → Nat) (r : Nat) (w : World) (hf : Fit8 f) :
    Calls Try.prog 10 #[.agg (vv f), .int .u8 r] w (NextTo f r w) := by
  have b0 : Blk (((w.alloc (Obj.cells (vv f) 24)).alloc (Obj.cells vz 24)).alloc (Obj.cells dz 26)) w.heap.size 24 (vv f) := ((Blk.alloc w _ _).old _).old _
  have b1 : Blk (((w.alloc (Obj.cells (vv f) 24)).alloc (Obj.cells vz 24)).alloc (Obj.cells dz 26)) (w.heap.size + 1) 24 vz := (Blk.at1 w _ _ _).old _
  have b2 : Blk (((w.alloc (Obj.cells (vv f) 24)).alloc (Obj.cells vz 24)).alloc (Obj.cells dz 26)) (w.heap.size + 1 + 1) 26 dz := Blk.at2 w _ _ _ _
  have g0 : Frm (fun _ => False) w (((w.alloc (Obj.cells (vv f) 24)).alloc (Obj.cells vz 24)).alloc (Obj.cells dz 26)) := (((Frm.refl _ w).alloc _).alloc _).alloc _
  by_cases h8 : 8 ≤ r
  · have h8i : (7 : Int) < (r : Int) := by omega
    have hS : nextS8 f r = (fun _ => 0, (0, 0), 2) := by simp [nextS8, h8]
    unfold NextTo
    rw [hS]
    clear hS
    go_enter Try.func10, Try.ntmps10
    go_wp2_with (first
      | ((with_reducible refine wpl_store_vec rfl _ _ rfl (w.heap.size + 1) (fun _ => 0) vz ?_ ?_ b1 rfl ?_); (focus rfl); (focus rfl); intro w2 e2 g2 z2; have d2 := b2.keep g2 (by omega))
      | ((with_reducible refine wpl_store_dot rfl _ _ rfl (w.heap.size + 1 + 1) 0 0 dz ?_ ?_ d2 rfl ?_); (focus rfl); (focus rfl); intro w3 e3 g3 z3; have h2 := vcells (e2.keep g3 (by omega)); have d0 := e3.cell 0 rfl; have d1 := e3.cell 1 rfl))
    refine bodyPost_ret (v := .tuple #[.agg (vv (fun _ => 0)), .agg (dv 0 0), .int .i64 2]) (by simp [results, Try.results10, go_sem, h2, d0, d1]) rfl ?_
    exact ⟨rfl, (g0.next g2 (fun k hk h => by omega)).next g3 (fun k hk h => by omega)⟩
  · have hlt : r < 8 := by omega
    have h8i : ¬ (7 : Int) < (r : Int) := by omega
    have hm := mx_lt f 4294967296 (by omega) 8 hf
    have HS := Lib.hid (show nextS8 f r = if 65535 ≤ mx f 8 then (fun _ => 0, (0, 0), 12) else (upd8 f r (mx f 8 + 1), (r, mx f 8 + 1), 0) by simp [nextS8, h8])
    obtain ⟨q, hq⟩ : ∃ q, q = NextTo f r w := ⟨_, rfl⟩
    rw [← hq]
    have Hq := Lib.hid hq
    clear hq
    go_enter Try.func10, Try.ntmps10
    go_wp2_with fail
    obtain ⟨w0, hw0⟩ : ∃ w0, ((w.alloc (Obj.cells (vv f) 24)).alloc (Obj.cells vz 24)).alloc (Obj.cells dz 26) = w0 := ⟨_, rfl⟩
    rw [hw0] at b0 b1 b2 g0 ⊢
    clear hw0
    go_loop [7, 8] (fun n i => ∃ k : Nat, k ≤ 8 ∧ i = .int .i64 k ∧ n = .int .u32 (mx f k)) (fun _ i => 8 - (intOf i).toNat)
    case atStart => exact ⟨0, by omega, rfl, rfl⟩
    case round =>
      obtain ⟨k, hk, rfl, rfl⟩ := hrel
      by_cases hk8 : k < 8
      · have c0 := vblk_cell b0 hk8
        have hki : (k : Int) < 8 := by omega
        have hk0 : (0 : Int) ≤ (k : Int) := by omega
        by_cases hgt : mx f k < f k
        · have hgd : decide ((mx f k : Int) < (f k : Int)) = true := by rw [decide_eq_true_eq]; omega
          have hs : mx f (k + 1) = f k := by simp only [mx]; omega
          have HS2 := Lib.hid hs
          clear hs
          go_wp2
          go_round
          case rel => exact ⟨k + 1, by omega, by go_num, by rw [HS2.out]⟩
          case measure => simp [intOf]; omega
        · have hgd : decide ((mx f k : Int) < (f k : Int)) = false := by rw [decide_eq_false_iff_not]; omega
          have hs : mx f (k + 1) = mx f k := by simp only [mx]; omega
          have HS2 := Lib.hid hs
          clear hs
          go_wp2
          go_round
          case rel => exact ⟨k + 1, by omega, by go_num, by rw [HS2.out]⟩
          case measure => simp [intOf]; omega
      · obtain rfl : k = 8 := by omega
        have h8k : (r : Int) < 8 := by omega
        have h80 : (0 : Int) ≤ (r : Int) := by omega
        clear hk8 hk
        generalize mx f 8 = M at *
        by_cases hx : 65535 ≤ M
        · have hxd : decide ((65535 : Int) ≤ (M : Int)) = true := by rw [decide_eq_true_eq]; omega
          have hS := HS.out
          rw [if_pos hx] at hS
          clear HS hx hm
          go_wp2_with (first
            | ((with_reducible refine wpl_store_vec rfl _ _ rfl (w.heap.size + 1) (fun _ => 0) vz ?_ ?_ b1 rfl ?_); (focus rfl); (focus rfl); intro w2 e2 g2 z2; have d2 := b2.keep g2 (by omega))
            | ((with_reducible refine wpl_store_dot rfl _ _ rfl (w.heap.size + 1 + 1) 0 0 dz ?_ ?_ d2 rfl ?_); (focus rfl); (focus rfl); intro w3 e3 g3 z3; have h2 := vcells (e2.keep g3 (by omega)); have d0 := e3.cell 0 rfl; have d1 := e3.cell 1 rfl))
          refine bodyPost_ret (v := .tuple #[.agg (vv (fun _ => 0)), .agg (dv 0 0), .int .i64 12]) (by simp [results, Try.results10, go_sem, h2, d0, d1]) rfl ?_
          rw [Hq.out]
          unfold NextTo
          rw [hS]
          exact ⟨rfl, (g0.next g2 (fun k hk h => by omega)).next g3 (fun k hk h => by omega)⟩
        · have hxd : decide ((65535 : Int) ≤ (M : Int)) = false := by rw [decide_eq_false_iff_not]; omega
          have hS := HS.out
          rw [if_neg hx] at hS
          have hM : M < 65535 := by omega
          have hS2 := Lib.hid hS
          have cc := vblk_cell b0 hlt
          have cf := b0.free r
          clear HS hx hm hS
          go_wp2_with (first
            | ((with_reducible refine wpl_store_at rfl _ _ rfl w.heap.size r (M + 1) f hlt ?_ ?_ b0 ?_); (focus rfl); (focus (go_simp; done)); intro w4 e4 g4 z4; have hv := vcells e4; have c12 := b1.keep g4 (by omega); have c22 := b2.keep g4 (by omega))
            | ((with_reducible refine wpl_store_vec rfl _ _ rfl (w.heap.size + 1) (upd8 f r (M + 1)) vz ?_ ?_ c12 rfl ?_); (focus rfl); (focus rfl); intro w2 e2 g2 z2; have d2 := c22.keep g2 (by omega))
            | ((with_reducible refine wpl_store_dot rfl _ _ rfl (w.heap.size + 1 + 1) r (M + 1) dz ?_ ?_ d2 rfl ?_); (focus rfl); (focus rfl); intro w3 e3 g3 z3; have h2 := vcells (e2.keep g3 (by omega)); have d0 := e3.cell 0 rfl; have d1 := e3.cell 1 rfl))
          refine bodyPost_ret (v := .tuple #[.agg (vv (upd8 f r (M + 1))), .agg (dv r (M + 1)), .int .i64 0]) (by simp [results, Try.results10, go_sem, h2, d0, d1]) rfl ?_
          rw [Hq.out]
          unfold NextTo
          rw [hS2.out]
          exact ⟨rfl, ((g0.next g4 (fun k hk h => by omega)).next g2 (fun k hk h => by omega)).next g3 (fun k hk h => by omega)⟩
end Go.Proofs.Ytdoeogfjbcannaa
