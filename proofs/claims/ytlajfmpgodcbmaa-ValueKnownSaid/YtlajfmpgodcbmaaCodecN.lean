/- What calls on no reader and on no writer answer; reading a number of bytes below 0. No condition. -/
import Derived.Test.YtlajfmpgodcbmaaReadI
namespace Go.Proofs.Ytlajfmpgodcbmaa
open Go.RowKit

set_option maxRecDepth 100000 in
set_option maxHeartbeats 400000 in
theorem fixed_neg (b : Nat) (l : List UInt8) (e : Nat) (n : Int) (w : World) (h : Rd w b l e) (h1 : n < 0) (_h2 : -9223372036854775808 ≤ n) :
    Calls Try.prog 51 #[.pointer (some ⟨b, 0, none⟩), .int .i64 n] w fun r w' =>
      r = .returned (.string (bs (nextS 0 l e).1)) ∧ Rd w' b (nextS 0 l e).2.1 (nextS 0 l e).2.2 ∧ Frm (· = b) w w' := by
  go_enter Try.func51, Try.ntmps51
  go_wp2_with fail
  refine (next_any b l e 0 _ h (by omega)).mono ?_
  rintro r w' ⟨rfl, h1, h2⟩
  go_wp2_with fail
  go_ret
  exact ⟨rfl, h1, h2⟩

set_option maxRecDepth 100000 in
set_option maxHeartbeats 400000 in
theorem next_nil (n : Int) (w : World) : Calls Try.prog 66 #[.pointer none, .int .u64 n] w fun r w' => r = .returned (.string (bs [])) ∧ w = w' := by
  go_enter Try.func66, Try.ntmps66
  go_wp2
  go_ret
  exact ⟨rfl, rfl⟩
set_option maxRecDepth 100000 in
set_option maxHeartbeats 400000 in
theorem err_nil (w : World) : Calls Try.prog 48 #[.pointer none] w fun r w' => r = .returned (.int .i64 1) ∧ w = w' := by
  go_enter Try.func48, Try.ntmps48
  go_wp2
  go_ret
  exact ⟨rfl, rfl⟩
set_option maxRecDepth 100000 in
set_option maxHeartbeats 400000 in
theorem rest_nil (w : World) : Calls Try.prog 28 #[.pointer none] w fun r w' => r = .returned (.string (bs [])) ∧ w = w' := by
  go_enter Try.func28, Try.ntmps28
  go_wp2
  go_ret
  exact ⟨rfl, rfl⟩
set_option maxRecDepth 100000 in
set_option maxHeartbeats 400000 in
theorem fixed_nil (n : Int) (h1 : 0 ≤ n) (h2 : n ≤ 9223372036854775807) (w : World) : Calls Try.prog 51 #[.pointer none, .int .i64 n] w fun r w' => r = .returned (.string (bs [])) ∧ w = w' := by
  go_enter Try.func51, Try.ntmps51
  go_wp2_with fail
  refine (next_nil _ _).mono ?_
  rintro r w' ⟨rfl, rfl⟩
  go_wp2_with fail
  go_ret
  exact ⟨rfl, rfl⟩
set_option maxRecDepth 100000 in
set_option maxHeartbeats 400000 in
theorem bytes_none (w : World) : Calls Try.prog 41 #[.pointer none] w fun r w' => r = .returned (.string (bs [])) ∧ w = w' := by
  go_enter Try.func41, Try.ntmps41
  go_wp2
  go_ret
  exact ⟨rfl, rfl⟩
set_option maxRecDepth 100000 in
set_option maxHeartbeats 400000 in
theorem take_nil (w : World) : Calls Try.prog 65 #[.pointer none] w fun r w' => r = .returned (.int .u32 0) ∧ Frm (fun _ => False) w w' := by
  go_enter Try.func65, Try.ntmps65
  go_wp2_with (first | (go_at_call 74; refine (width32 _).mono ?_; rintro r w' ⟨rfl, rfl⟩) | (go_at_call 66; refine (next_nil _ _).mono ?_; rintro r w1 ⟨rfl, rfl⟩))
  obtain ⟨cap, w2, hrun, hrow, hg, hz⟩ := run_bytes_of (P := Try.prog) Try.underlying9 Try.underlying94 Try.underlying5 [] w (by decide)
  rw [hrun]
  clear hrun
  have h4 : Frm (fun _ => False) w w2 := (Frm.refl _ _).grown hg (fun _ _ e => by cases e)
  clear hg hz
  go_wp2
  go_loop [3, 12] (fun n i => n = .int .u32 0 ∧ i = .int .i64 0) (fun _ _ => 0)
  case atStart => exact ⟨rfl, rfl⟩
  case round =>
    obtain ⟨rfl, rfl⟩ := hrel
    go_wp2
    go_ret
    exact ⟨rfl, h4⟩
set_option maxRecDepth 100000 in
set_option maxHeartbeats 400000 in
theorem u32_nil (w : World) : Calls Try.prog 46 #[.pointer none] w fun r w' => r = .returned (.int .u32 0) ∧ Frm (fun _ => False) w w' := by
  go_enter Try.func46, Try.ntmps46
  go_wp2_with (go_at_call 65; refine (take_nil _).mono ?_; rintro r w' ⟨rfl, h1⟩)
  go_ret
  exact ⟨rfl, h1⟩
end Go.Proofs.Ytlajfmpgodcbmaa
