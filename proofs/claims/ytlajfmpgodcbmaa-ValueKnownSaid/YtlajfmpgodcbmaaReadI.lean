/- What reading an item does. No condition but the reader's own. -/
import Derived.Test.YtlajfmpgodcbmaaItems
import Derived.Deep.RegionWith
namespace Go.Proofs.Ytlajfmpgodcbmaa
open Go.RowKit
/-- What reading a text does. -/
def textS (l : List UInt8) (e : Nat) : List UInt8 × List UInt8 × Nat := nextS (varS l e).1 (varS l e).2.1 (varS l e).2.2
theorem nextS_inv {n : Nat} {l : List UInt8} {e : Nat} (h : e ≠ 0 → l = []) : (nextS n l e).2.2 ≠ 0 → (nextS n l e).2.1 = [] := by
  unfold nextS
  split
  · intro he
    rw [h he, List.drop_nil]
  · split
    · intro _; rfl
    · intro he; exact h he
theorem varAt_inv (l : List UInt8) : ∀ i m, (varAt i m l).2.2 ≠ 0 → (varAt i m l).2.1 = [] := by
  induction l with
  | nil => intro i m _; rfl
  | cons c l ih =>
    intro i m
    rw [varAt]
    split
    · intro _; rfl
    split
    · intro h; exact absurd rfl h
    · exact ih _ _
theorem varS_inv {l : List UInt8} {e : Nat} (h : e ≠ 0 → l = []) : (varS l e).2.2 ≠ 0 → (varS l e).2.1 = [] := by
  unfold varS
  split
  · exact varAt_inv l 0 0
  · exact h

set_option maxHeartbeats 400000 in
theorem ru8_any (b : Nat) (l : List UInt8) (e : Nat) (w : World) (h : Rd w b l e) :
    Calls Try.prog 63 #[.pointer (some ⟨b, 0, none⟩)] w fun r w' => r = .returned (.int .u8 (numS 1 l e).1) ∧ Rd w' b (numS 1 l e).2.1 (numS 1 l e).2.2 ∧ Frm (· = b) w w' := by
  go_enter Try.func63, Try.ntmps63
  go_wp2_with (go_at_call 75; refine (take_u8 b l e _ h).mono ?_; rintro r w' ⟨rfl, h1, h2⟩)
  go_ret
  exact ⟨rfl, h1, h2⟩
set_option maxHeartbeats 400000 in
theorem ru16_any (b : Nat) (l : List UInt8) (e : Nat) (w : World) (h : Rd w b l e) :
    Calls Try.prog 64 #[.pointer (some ⟨b, 0, none⟩)] w fun r w' => r = .returned (.int .u16 (numS 2 l e).1) ∧ Rd w' b (numS 2 l e).2.1 (numS 2 l e).2.2 ∧ Frm (· = b) w w' := by
  go_enter Try.func64, Try.ntmps64
  go_wp2_with (go_at_call 76; refine (take_u16 b l e _ h).mono ?_; rintro r w' ⟨rfl, h1, h2⟩)
  go_ret
  exact ⟨rfl, h1, h2⟩
set_option maxHeartbeats 400000 in
theorem ru32_any (b : Nat) (l : List UInt8) (e : Nat) (w : World) (h : Rd w b l e) :
    Calls Try.prog 46 #[.pointer (some ⟨b, 0, none⟩)] w fun r w' => r = .returned (.int .u32 (numS 4 l e).1) ∧ Rd w' b (numS 4 l e).2.1 (numS 4 l e).2.2 ∧ Frm (· = b) w w' := by
  go_enter Try.func46, Try.ntmps46
  go_wp2_with (go_at_call 65; refine (take_u32 b l e _ h).mono ?_; rintro r w' ⟨rfl, h1, h2⟩)
  go_ret
  exact ⟨rfl, h1, h2⟩
/-- What reading an item does: is it read as it was written? what is left, the error. -/
def readI (x : Item) (l : List UInt8) (e : Nat) : Bool × List UInt8 × Nat :=
  if x.k % 6 = 0 then ((numS 1 l e).1 == x.n % 256, (numS 1 l e).2) else if x.k % 6 = 1 then ((numS 2 l e).1 == x.n % 65536, (numS 2 l e).2) else if x.k % 6 = 2 then ((numS 4 l e).1 == x.n, (numS 4 l e).2)
  else if x.k % 6 = 3 then ((varS l e).1 == x.n, (varS l e).2) else if x.k % 6 = 4 then ((nextS x.s.length l e).1 == x.s, (nextS x.s.length l e).2) else ((textS l e).1 == x.s, (textS l e).2)

end Go.Proofs.Ytlajfmpgodcbmaa
