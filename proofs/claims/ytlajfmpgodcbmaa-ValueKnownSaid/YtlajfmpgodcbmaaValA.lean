/- What Count, Check, May answer. Of any value. No condition but that a size is an int. -/
import Derived.Test.YtlajfmpgodcbmaaValM
import Derived.Test.YtlajfmpgodcbmaaValL
import Derived.Test.YtlajfmpgodcbmaaCanonT
import Derived.Test.YtlajfmpgodcbmaaCanonQ
namespace Go.Proofs.Ytlajfmpgodcbmaa
open Go.RowKit
/-- A value. -/
abbrev av (d : Bool) (s : Int) (c : Value) : Array Value := #[.bool d, .int .i64 s, c]
/-- An int. -/
def I64 (s : Int) : Prop := -9223372036854775808 ≤ s ∧ s ≤ 9223372036854775807

set_option maxRecDepth 100000 in
set_option maxHeartbeats 1000000 in
theorem count_any (s : Int) (w : World) (hs : I64 s) : Calls Try.prog 12 #[.int .i64 s] w fun e w' => e = .returned (.int .i64 (count s)) ∧ w' = w := by
  obtain ⟨h1, h2⟩ := hs
  by_cases h : s ≤ 0
  · go_enter Try.func12, Try.ntmps12
    go_wp2_with fail
    go_ret
    exact ⟨ret_int (by unfold count; omega), rfl⟩
  · have h0 : 0 < s := by omega
    go_enter Try.func12, Try.ntmps12
    go_wp2_with fail
    go_ret
    exact ⟨ret_int (by unfold count; omega), rfl⟩

set_option maxRecDepth 100000 in
set_option maxHeartbeats 1000000 in
theorem rcount_any (s : Int) (w : World) (hs : I64 s) : Calls Try.prog 13 #[.int .i64 s] w fun e w' => e = .returned (.int .i64 (count s)) ∧ w' = w := by
  obtain ⟨h1, h2⟩ := hs
  by_cases h : s < 0
  · go_enter Try.func13, Try.ntmps13
    go_wp2_with fail
    go_ret
    exact ⟨ret_int (by unfold count; omega), rfl⟩
  · have h0 : 0 ≤ s := by omega
    by_cases h3 : s / 64 * 64 < s
    · go_enter Try.func13, Try.ntmps13
      go_wp2_with fail
      go_ret
      exact ⟨ret_int (by unfold count; omega), rfl⟩
    · go_enter Try.func13, Try.ntmps13
      go_wp2_with fail
      go_ret
      exact ⟨ret_int (by unfold count; omega), rfl⟩

set_option maxHeartbeats 400000 in
theorem most_any (d : Bool) (w : World) : Calls Try.prog 36 #[.bool d] w fun e w' => e = .returned (.int .i64 (most d)) ∧ w' = w := by
  cases d with
  | true =>
    go_enter Try.func36, Try.ntmps36
    go_wp2_with fail
    go_ret
    exact ⟨rfl, rfl⟩
  | false =>
    go_enter Try.func36, Try.ntmps36
    go_wp2_with fail
    go_ret
    exact ⟨rfl, rfl⟩
end Go.Proofs.Ytlajfmpgodcbmaa
