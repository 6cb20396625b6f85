/- What calls on no reader and on no writer answer; reading a number of bytes below 0. No condition. -/
import Derived.Test.YtmohegglclgcbaaReadI
namespace Go.Proofs.Ytmohegglclgcbaa
open Go.RowKit

set_option maxHeartbeats 400000 in
theorem next_nil (n : Int) (w : World) : Calls Try.prog 121 #[.pointer none, .int .u64 n] w fun r w' => r = .returned (.string (bs [])) ∧ w = w' := by
  go_enter Try.func121, Try.ntmps121
  go_wp2
  go_ret
  exact ⟨rfl, rfl⟩
set_option maxHeartbeats 400000 in
theorem err_nil (w : World) : Calls Try.prog 95 #[.pointer none] w fun r w' => r = .returned (.int .i64 1) ∧ w = w' := by
  go_enter Try.func95, Try.ntmps95
  go_wp2
  go_ret
  exact ⟨rfl, rfl⟩
set_option maxHeartbeats 400000 in
theorem bytes_none (w : World) : Calls Try.prog 83 #[.pointer none] w fun r w' => r = .returned (.string (bs [])) ∧ w = w' := by
  go_enter Try.func83, Try.ntmps83
  go_wp2
  go_ret
  exact ⟨rfl, rfl⟩
set_option maxHeartbeats 400000 in
theorem var_nil (w : World) : Calls Try.prog 94 #[.pointer none] w fun r w' => r = .returned (.int .u32 0) ∧ Frm (fun _ => False) w w' := by
  go_enter Try.func94, Try.ntmps94
  go_wp2
  refine bodyPost_ret (v := .int .u32 0) (by simp [results, Try.f94, go_sem]) rfl ⟨rfl, ?_⟩
  exact ((Frm.refl _ w).alloc _).alloc _
end Go.Proofs.Ytmohegglclgcbaa
