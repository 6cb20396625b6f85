/- What the calls of package vector answer: TakeDot; Take of no reader. No condition but the reader's own. -/
import Derived.Test.YtmohegglclgcbaaVecH
import Derived.Test.YtmohegglclgcbaaCodecN
namespace Go.Proofs.Ytmohegglclgcbaa
open Go.RowKit

/-- What the reading of a dot does: the two numbers, what is left, the error. -/
def readD (l : List UInt8) (e : Nat) : (Nat × Nat) × List UInt8 × Nat :=
  (((numS 1 l e).1, (varS (numS 1 l e).2.1 (numS 1 l e).2.2).1), (varS (numS 1 l e).2.1 (numS 1 l e).2.2).2)
def judgeD (q : (Nat × Nat) × List UInt8 × Nat) : (Nat × Nat) × Nat :=
  if q.2.2 ≠ 0 then ((0, 0), q.2.2) else if okD q.1.1 q.1.2 then (q.1, 0) else ((0, 0), 4)
def takeDS (l : List UInt8) (e : Nat) : (Nat × Nat) × Nat := judgeD (readD l e)
def TakeDTo (b : Nat) (l : List UInt8) (e : Nat) (w : World) (r : Ending) (w' : World) : Prop :=
  r = .returned (.tuple #[.agg (dv (takeDS l e).1.1 (takeDS l e).1.2), .int .i64 (takeDS l e).2]) ∧ Rd w' b (readD l e).2.1 (readD l e).2.2 ∧ Frm (· = b) w w'

set_option maxRecDepth 100000 in
set_option maxHeartbeats 400000 in
theorem take8_nil (w : World) : Calls Try.prog 110 #[.pointer none] w fun r w' => r = .returned (.int .u8 0) ∧ Frm (fun _ => False) w w' := by
  go_enter Try.func110, Try.ntmps110
  go_wp2_with (first | (go_at_call 113; refine (width8 _).mono ?_; rintro r w' ⟨rfl, rfl⟩) | (go_at_call 121; refine (next_nil _ _).mono ?_; rintro r w1 ⟨rfl, rfl⟩))
  obtain ⟨cap, w2, hrun, hrow, hg, hz⟩ := run_bytes_of (P := Try.prog) Try.underlying9 Try.underlying143 Try.underlying5 [] w (by decide)
  rw [hrun]
  clear hrun
  have h4 : Frm (fun _ => False) w w2 := (Frm.refl _ _).grown hg (fun _ _ e => by cases e)
  clear hg hz
  go_wp2
  go_loop [3, 12] (fun n i => n = .int .u32 0 ∧ i = .int .i64 0) (fun _ _ => 0)
  case atStart => exact ⟨rfl, rfl⟩
  case round =>
    obtain ⟨rfl, rfl⟩ := hrel
    go_wp2
    go_ret
    exact ⟨rfl, h4⟩
set_option maxHeartbeats 400000 in
theorem u8_nil (w : World) : Calls Try.prog 93 #[.pointer none] w fun r w' => r = .returned (.int .u8 0) ∧ Frm (fun _ => False) w w' := by
  go_enter Try.func93, Try.ntmps93
  go_wp2_with (go_at_call 110; refine (take8_nil _).mono ?_; rintro r w' ⟨rfl, h1⟩)
  go_ret
  exact ⟨rfl, h1⟩

set_option maxRecDepth 100000 in
set_option maxHeartbeats 1000000 in
theorem take_none (w : World) : Calls Try.prog 77 #[.pointer none] w fun r w' => r = .returned (.tuple #[.agg (vv fun _ => 0), .int .i64 1]) ∧ Frm (fun _ => False) w w' := by
  have g0 : Frm (fun _ => False) w ((w.alloc (Obj.cells vz 24)).alloc (Obj.cells vz 24)) := ((Frm.refl _ w).alloc _).alloc _
  have b0 : Blk ((w.alloc (Obj.cells vz 24)).alloc (Obj.cells vz 24)) w.heap.size 24 vz := (Blk.alloc w _ _).old _
  go_enter Try.func77, Try.ntmps77
  go_wp2_with fail
  refine (u8_nil _).mono ?_
  rintro e1 w1 ⟨rfl, g1⟩
  have d0 := b0.keep g1 (fun h => h)
  have k1 := g0.trans g1
  clear g0 g1 b0
  go_wp2_with fail
  go_loop [10] (fun i => ∃ k : Nat, k ≤ 8 ∧ i = .int .i64 k) (fun i => 8 - (intOf i).toNat)
  case atStart => exact ⟨0, by omega, rfl⟩
  case round =>
    obtain ⟨k, hk, rfl⟩ := hrel
    by_cases hk8 : k < 8
    · have hki : (k : Int) < 8 := by omega
      have hk0 : (0 : Int) ≤ (k : Int) := by omega
      have hq1 : bits BinOp.and IntKind.u8 (0 / 2 ^ k) 1 = 0 := by have := and_bit 0 k (by omega); simpa using this
      have hq2 : bits BinOp.and IntKind.u8 0 1 = 0 := by kernel_rfl
      go_wp2_with fail
      go_round
      case rel => exact ⟨k + 1, by omega, by go_num⟩
      case measure => simp [intOf]; omega
    · obtain rfl : k = 8 := by omega
      go_wp2_with fail
      refine (err_nil _).mono ?_
      rintro e2 w2 ⟨rfl, rfl⟩
      go_wp2_with ((with_reducible refine wpl_store_vec rfl _ _ rfl w.heap.size (fun _ => 0) vz ?_ ?_ d0 rfl ?_); (focus rfl); (focus rfl); intro w5 e5 g5 z5; have h5 := vcells e5)
      refine bodyPost_ret (v := .tuple #[.agg (vv fun _ => 0), .int .i64 1]) (by simp [results, Try.results77, go_sem, h5]) rfl ?_
      exact ⟨rfl, k1.next g5 (fun j hj h => by omega)⟩
end Go.Proofs.Ytmohegglclgcbaa
