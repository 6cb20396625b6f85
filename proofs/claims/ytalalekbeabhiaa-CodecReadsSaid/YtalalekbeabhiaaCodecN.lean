/- What calls on no reader and on no writer answer; reading a number of bytes below 0. No condition. -/
import Derived.Test.YtalalekbeabhiaaReadI
namespace Go.Proofs.Ytalalekbeabhiaa
open Go.RowKit

set_option maxHeartbeats 400000 in
theorem fixed_neg (b : Nat) (l : List UInt8) (e : Nat) (n : Int) (w : World) (h : Rd w b l e) (h1 : n < 0) (_h2 : -9223372036854775808 ≤ n) :
    Calls Try.prog 26 #[.pointer (some ⟨b, 0, none⟩), .int .i64 n] w fun r w' =>
      r = .returned (.string (bs (nextS 0 l e).1)) ∧ Rd w' b (nextS 0 l e).2.1 (nextS 0 l e).2.2 ∧ Frm (· = b) w w' := by
  go_enter Try.func26, Try.ntmps26
  go_wp2_with fail
  refine (next_any b l e 0 _ h (by omega)).mono ?_
  rintro r w' ⟨rfl, h1, h2⟩
  go_wp2_with fail
  go_ret
  exact ⟨rfl, h1, h2⟩

set_option maxHeartbeats 400000 in
theorem next_nil (n : Int) (w : World) : Calls Try.prog 44 #[.pointer none, .int .u64 n] w fun r w' => r = .returned (.string (bs [])) ∧ w = w' := by
  go_enter Try.func44, Try.ntmps44
  go_wp2
  go_ret
  exact ⟨rfl, rfl⟩
set_option maxHeartbeats 400000 in
theorem err_nil (w : World) : Calls Try.prog 14 #[.pointer none] w fun r w' => r = .returned (.int .i64 1) ∧ w = w' := by
  go_enter Try.func14, Try.ntmps14
  go_wp2
  go_ret
  exact ⟨rfl, rfl⟩
set_option maxHeartbeats 400000 in
theorem rest_nil (w : World) : Calls Try.prog 15 #[.pointer none] w fun r w' => r = .returned (.string (bs [])) ∧ w = w' := by
  go_enter Try.func15, Try.ntmps15
  go_wp2
  go_ret
  exact ⟨rfl, rfl⟩
set_option maxHeartbeats 400000 in
theorem end_nil (w : World) : Calls Try.prog 17 #[.pointer none] w fun r w' => r = .returned (.int .i64 1) ∧ w = w' := by
  go_enter Try.func17, Try.ntmps17
  go_wp2_with fail
  refine (err_nil _).mono ?_
  rintro r w' ⟨rfl, rfl⟩
  go_wp2_with fail
  go_ret
  exact ⟨rfl, rfl⟩
set_option maxHeartbeats 400000 in
theorem fixed_nil (n : Int) (h1 : 0 ≤ n) (h2 : n ≤ 9223372036854775807) (w : World) : Calls Try.prog 26 #[.pointer none, .int .i64 n] w fun r w' => r = .returned (.string (bs [])) ∧ w = w' := by
  go_enter Try.func26, Try.ntmps26
  go_wp2_with fail
  refine (next_nil _ _).mono ?_
  rintro r w' ⟨rfl, rfl⟩
  go_wp2_with fail
  go_ret
  exact ⟨rfl, rfl⟩
set_option maxHeartbeats 400000 in
theorem bytes_none (w : World) : Calls Try.prog 11 #[.pointer none] w fun r w' => r = .returned (.string (bs [])) ∧ w = w' := by
  go_enter Try.func11, Try.ntmps11
  go_wp2
  go_ret
  exact ⟨rfl, rfl⟩
set_option maxHeartbeats 400000 in
theorem take_nil (w : World) : Calls Try.prog 47 #[.pointer none] w fun r w' => r = .returned (.int .u32 0) ∧ Frm (fun _ => False) w w' := by
  go_enter Try.func47, Try.ntmps47
  go_wp2_with (first | (go_at_call 54; refine (width32 _).mono ?_; rintro r w' ⟨rfl, rfl⟩) | (go_at_call 44; refine (next_nil _ _).mono ?_; rintro r w1 ⟨rfl, rfl⟩))
  obtain ⟨cap, w2, hrun, hrow, hg, hz⟩ := run_bytes_of (P := Try.prog) Try.underlying9 Try.underlying63 Try.underlying5 [] w (by decide)
  rw [hrun]
  clear hrun
  have h4 : Frm (fun _ => False) w w2 := (Frm.refl _ _).grown hg (fun _ _ e => by cases e)
  clear hg hz
  go_wp2
  go_loop [3, 12] (fun n i => n = .int .u32 0 ∧ i = .int .i64 0) (fun _ _ => 0)
  case atStart => exact ⟨rfl, rfl⟩
  case round =>
    obtain ⟨rfl, rfl⟩ := hrel
    go_wp2
    go_ret
    exact ⟨rfl, h4⟩
set_option maxHeartbeats 400000 in
theorem u32_nil (w : World) : Calls Try.prog 28 #[.pointer none] w fun r w' => r = .returned (.int .u32 0) ∧ Frm (fun _ => False) w w' := by
  go_enter Try.func28, Try.ntmps28
  go_wp2_with (go_at_call 47; refine (take_nil _).mono ?_; rintro r w' ⟨rfl, h1⟩)
  go_ret
  exact ⟨rfl, h1⟩
set_option maxHeartbeats 400000 in
theorem var_nil (w : World) : Calls Try.prog 29 #[.pointer none] w fun r w' => r = .returned (.int .u32 0) ∧ Frm (fun _ => False) w w' := by
  go_enter Try.func29, Try.ntmps29
  go_wp2
  refine bodyPost_ret (v := .int .u32 0) (by simp [results, Try.f29, go_sem]) rfl ⟨rfl, ?_⟩
  exact ((Frm.refl _ w).alloc _).alloc _
set_option maxHeartbeats 400000 in
theorem text_nil (w : World) : Calls Try.prog 24 #[.pointer none] w fun r w' => r = .returned (.string (bs [])) ∧ Frm (fun _ => False) w w' := by
  go_enter Try.func24, Try.ntmps24
  go_wp2_with fail
  refine (var_nil _).mono ?_
  rintro r w1 ⟨rfl, h1⟩
  go_wp2_with fail
  refine (next_nil _ _).mono ?_
  rintro r w2 ⟨rfl, rfl⟩
  go_wp2_with fail
  go_ret
  exact ⟨rfl, h1⟩
end Go.Proofs.Ytalalekbeabhiaa
