/- The statements' small functions on tables, over whatever the call answers. No condition. -/
import Derived.Test.YtjodkgbpbibfbaaDdAct
namespace Go.Proofs.Ytjodkgbpbibfbaa
open Go.RowKit

theorem nat_beq (a b : Nat) : ((a : Int) == (b : Int)) = decide (a = b) := by
  rw [Bool.eq_iff_iff]; simp; omega
set_option maxRecDepth 100000 in
theorem adds_any (p : Value) (s : List UInt8) (b : Int) (id er want : Nat) (Q : World → Prop) (w : World)
    (h : Calls Try.prog 13 #[p, .string (bs s), .int .i64 b] w fun e w' => e = .returned (.tuple #[.int .u32 (id : Nat), .int .i64 (er : Nat)]) ∧ Q w') :
    Calls Try.prog 23 #[p, .string (bs s), .int .i64 b, .int .u32 (want : Nat)] w fun e w' => e = .returned (.bool (decide (id = want) && decide (er = 0))) ∧ Q w' := by
  have H := Lib.hid h
  clear h
  have h1 := nat_beq id want
  have h2 : ((er : Int) == 0) = decide (er = 0) := nat_beq er 0
  cases hc1 : decide (id = want) <;> cases hc2 : decide (er = 0) <;> rw [hc1] at h1 <;> rw [hc2] at h2 <;> clear hc1 hc2
  all_goals
    go_enter Try.func23, Try.ntmps23
    go_wp2_with fail
    refine H.out.mono ?_
    rintro e w1 ⟨rfl, hQ⟩
    have HQ := Lib.hid hQ
    clear hQ
    go_wp2_with fail
    go_ret
    exact ⟨rfl, HQ.out⟩
set_option maxRecDepth 100000 in
theorem refused_any (p : Value) (s : List UInt8) (id er want : Nat) (Q : World → Prop) (w : World)
    (h : Calls Try.prog 13 #[p, .string (bs s), .int .i64 0] w fun e w' => e = .returned (.tuple #[.int .u32 (id : Nat), .int .i64 (er : Nat)]) ∧ Q w') :
    Calls Try.prog 28 #[p, .string (bs s), .int .i64 (want : Nat)] w fun e w' => e = .returned (.bool (decide (id = 0) && decide (er = want))) ∧ Q w' := by
  have H := Lib.hid h
  clear h
  have h1 : ((id : Int) == 0) = decide (id = 0) := nat_beq id 0
  have h2 := nat_beq er want
  cases hc1 : decide (id = 0) <;> cases hc2 : decide (er = want) <;> rw [hc1] at h1 <;> rw [hc2] at h2 <;> clear hc1 hc2
  all_goals
    go_enter Try.func28, Try.ntmps28
    go_wp2_with fail
    refine H.out.mono ?_
    rintro e w1 ⟨rfl, hQ⟩
    have HQ := Lib.hid hQ
    clear hQ
    go_wp2_with fail
    go_ret
    exact ⟨rfl, HQ.out⟩
set_option maxRecDepth 100000 in
theorem finds_any (p : Value) (s : List UInt8) (id want : Nat) (is : Bool) (Q : World → Prop) (w : World)
    (h : Calls Try.prog 20 #[p, .string (bs s)] w fun e w' => e = .returned (.tuple #[.int .u32 (id : Nat), .bool is]) ∧ Q w') :
    Calls Try.prog 25 #[p, .string (bs s), .int .u32 (want : Nat)] w fun e w' => e = .returned (.bool (decide (id = want) && (is == decide (0 < want)))) ∧ Q w' := by
  have H := Lib.hid h
  clear h
  have h1 := nat_beq id want
  cases hc1 : decide (id = want) <;> rw [hc1] at h1 <;> clear hc1 <;> cases is
  all_goals
    go_enter Try.func25, Try.ntmps25
    go_wp2_with fail
    refine H.out.mono ?_
    rintro e w1 ⟨rfl, hQ⟩
    have HQ := Lib.hid hQ
    clear hQ
    go_wp2_with fail
    go_ret
    exact ⟨by (generalize decide (0 < want) = d; cases d <;> rfl), HQ.out⟩
set_option maxRecDepth 100000 in
theorem releases_any (p : Value) (i er want : Nat) (is lt : Bool) (Q : World → Prop) (w : World)
    (h : Calls Try.prog 14 #[p, .int .u32 (i : Nat)] w fun e w' => e = .returned (.tuple #[.bool is, .int .i64 (er : Nat)]) ∧ Q w') :
    Calls Try.prog 24 #[p, .int .u32 (i : Nat), .bool lt, .int .i64 (want : Nat)] w fun e w' => e = .returned (.bool ((is == lt) && decide (er = want))) ∧ Q w' := by
  have H := Lib.hid h
  clear h
  have h2 := nat_beq er want
  cases hc2 : decide (er = want) <;> rw [hc2] at h2 <;> clear hc2 <;> cases is <;> cases lt
  all_goals
    go_enter Try.func24, Try.ntmps24
    go_wp2_with fail
    refine H.out.mono ?_
    rintro e w1 ⟨rfl, hQ⟩
    have HQ := Lib.hid hQ
    clear hQ
    go_wp2_with fail
    go_ret
    exact ⟨rfl, HQ.out⟩
end Go.Proofs.Ytjodkgbpbibfbaa
