/- What calls on no reader and on no writer answer; reading a number of bytes below 0. No condition. -/
import Derived.Test.YtdoeogfjbcannaaReadI
namespace Go.Proofs.Ytdoeogfjbcannaa
open Go.RowKit

set_option maxHeartbeats 400000 in
theorem next_nil (n : Int) (w : World) : Calls Try.prog 56 #[.pointer none, .int .u64 n] w fun r w' => r = .returned (.string (bs [])) ∧ w = w' := by
  go_enter Try.func56, Try.ntmps56
  go_wp2
  go_ret
  exact ⟨rfl, rfl⟩
set_option maxHeartbeats 400000 in
theorem err_nil (w : World) : Calls Try.prog 44 #[.pointer none] w fun r w' => r = .returned (.int .i64 1) ∧ w = w' := by
  go_enter Try.func44, Try.ntmps44
  go_wp2
  go_ret
  exact ⟨rfl, rfl⟩
set_option maxHeartbeats 400000 in
theorem rest_nil (w : World) : Calls Try.prog 27 #[.pointer none] w fun r w' => r = .returned (.string (bs [])) ∧ w = w' := by
  go_enter Try.func27, Try.ntmps27
  go_wp2
  go_ret
  exact ⟨rfl, rfl⟩
set_option maxHeartbeats 400000 in
theorem bytes_none (w : World) : Calls Try.prog 39 #[.pointer none] w fun r w' => r = .returned (.string (bs [])) ∧ w = w' := by
  go_enter Try.func39, Try.ntmps39
  go_wp2
  go_ret
  exact ⟨rfl, rfl⟩
set_option maxHeartbeats 400000 in
theorem var_nil (w : World) : Calls Try.prog 43 #[.pointer none] w fun r w' => r = .returned (.int .u32 0) ∧ Frm (fun _ => False) w w' := by
  go_enter Try.func43, Try.ntmps43
  go_wp2
  refine bodyPost_ret (v := .int .u32 0) (by simp [results, Try.f43, go_sem]) rfl ⟨rfl, ?_⟩
  exact ((Frm.refl _ w).alloc _).alloc _
end Go.Proofs.Ytdoeogfjbcannaa
