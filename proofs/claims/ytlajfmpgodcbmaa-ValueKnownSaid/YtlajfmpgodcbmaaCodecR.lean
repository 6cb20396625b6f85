/- What the calls on a codec.Reader do: they read off its rest, or put down an error. The reader is a block of two cells. -/
import Derived.Test.YtlajfmpgodcbmaaFrm
import Derived.Test.YtlajfmpgodcbmaaCodecA
import Derived.Lib.Strings
namespace Go.Proofs.Ytlajfmpgodcbmaa
open Go.RowKit
/-- A reader: what is left, and its error. -/
structure Rd (w : World) (b : Nat) (l : List UInt8) (e : Nat) : Prop where
  blk : Blk w b 80 #[.string (bs l), .int .i64 e]
  len : l.length ≤ 140737488355328
  err : e ≤ 17

theorem Rd.c0 {w : World} {b : Nat} {l : List UInt8} {e : Nat} (h : Rd w b l e) : w.cell? ⟨b, 0, none⟩ = some (.string (bs l)) := h.blk.cell 0 rfl
theorem Rd.c1 {w : World} {b : Nat} {l : List UInt8} {e : Nat} (h : Rd w b l e) : w.cell? ⟨b, 1, none⟩ = some (.int .i64 e) := h.blk.cell 1 rfl
theorem Rd.keep {X : Nat → Prop} {w w' : World} {b : Nat} {l : List UInt8} {e : Nat} (h : Rd w b l e) (hf : Frm X w w') (hn : ¬ X b) : Rd w' b l e := ⟨h.blk.keep hf hn, h.len, h.err⟩
theorem Rd.lt {w : World} {b : Nat} {l : List UInt8} {e : Nat} (h : Rd w b l e) : b < w.heap.size := h.blk.lt
theorem Frm.one (b i : Nat) (u : Value) (w : World) : Frm (· = b) w (w.setCell ⟨b, i, none⟩ u) := (Frm.refl (· = b) w).setCell (p := ⟨b, i, none⟩) (fun _ => rfl) u
theorem Rd.rest {w : World} {b : Nat} {l : List UInt8} {e : Nat} (h : Rd w b l e) (k : Nat) : Rd (w.setCell ⟨b, 0, none⟩ (.string (bs (l.drop k)))) b (l.drop k) e :=
  ⟨h.blk.set 0 _, by have := h.len; rw [List.length_drop]; omega, h.err⟩

set_option maxHeartbeats 400000 in
theorem fail_first (b : Nat) (l : List UInt8) (x : Nat) (w : World) (h : Rd w b l 0) (hx : x ≤ 17) :
    Calls Try.prog 77 #[.pointer (some ⟨b, 0, none⟩), .int .i64 x] w fun e w' => e = .returned (.tuple #[]) ∧ Rd w' b [] x ∧ Frm (· = b) w w' := by
  have c0 := h.c0
  have c1 := h.c1
  have f0 := h.blk.free 0
  have f1 := h.blk.free 1
  go_enter Try.func77, Try.ntmps77
  go_wp2
  go_end0
  exact ⟨rfl, ⟨(h.blk.set 0 (.string ⟨#[]⟩)).set 1 (.int .i64 x), by simp, hx⟩, (Frm.one _ _ _ _).trans (Frm.one _ _ _ _)⟩

set_option maxHeartbeats 400000 in
theorem fail_later (b : Nat) (l : List UInt8) (x e : Nat) (w : World) (h : Rd w b l e) (he : e ≠ 0) :
    Calls Try.prog 77 #[.pointer (some ⟨b, 0, none⟩), .int .i64 x] w fun e w' => e = .returned (.tuple #[]) ∧ w = w' := by
  have c0 := h.c0
  have c1 := h.c1
  have he' : ((e : Int) == 0) = false := by simpa using he
  go_enter Try.func77, Try.ntmps77
  go_wp2
  go_end0
  exact ⟨rfl, rfl⟩

theorem bs_take (l : List UInt8) (n : Nat) : (bs l).extract 0 n = bs (l.take n) := by
  apply ByteArray.ext
  simp [bs]
theorem bs_drop (l : List UInt8) (n : Nat) : (bs l).extract n (bs l).size = bs (l.drop n) := by
  apply ByteArray.ext
  simp only [bs_size, ByteArray.data_extract]
  apply Array.ext'
  simp [bs]
  rw [List.take_of_length_le (by simp)]
theorem ret_str {a b : ByteArray} (h : a = b) : Ending.returned (.string a) = .returned (.string b) := by rw [h]

set_option maxHeartbeats 400000 in
theorem next_ok (b : Nat) (l : List UInt8) (e : Nat) (n : Nat) (w : World) (h : Rd w b l e) (hn : n ≤ l.length) :
    Calls Try.prog 66 #[.pointer (some ⟨b, 0, none⟩), .int .u64 n] w fun r w' => r = .returned (.string (bs (l.take n))) ∧ Rd w' b (l.drop n) e ∧ Frm (· = b) w w' := by
  have c0 := h.c0
  have f0 := h.blk.free 0
  have hl := h.len
  have hz := bs_size l
  have hn1 : n ≤ (bs l).size := by rw [hz]; exact hn
  have hn2 : (bs l).size ≤ 140737488355328 := by rw [hz]; exact hl
  clear hz
  go_enter Try.func66, Try.ntmps66
  go_wp2
  go_ret
  exact ⟨ret_str (bs_take l n), by rw [bs_drop]; exact h.rest n, Frm.one _ _ _ _⟩

set_option maxHeartbeats 400000 in
theorem next_torn (b : Nat) (l : List UInt8) (n : Nat) (w : World) (h : Rd w b l 0) (hn : l.length < n) (_hn3 : n ≤ 18446744073709551615) :
    Calls Try.prog 66 #[.pointer (some ⟨b, 0, none⟩), .int .u64 n] w fun r w' => r = .returned (.string (bs [])) ∧ Rd w' b [] 10 ∧ Frm (· = b) w w' := by
  have c0 := h.c0
  have hl := h.len
  have hz := bs_size l
  have hn1 : (bs l).size < n := by rw [hz]; exact hn
  have hn2 : (bs l).size ≤ 140737488355328 := by rw [hz]; exact hl
  clear hz
  go_enter Try.func66, Try.ntmps66
  go_wp2_with (go_at_call 77; refine (fail_first b l 10 _ h (by omega)).mono ?_; rintro e w' ⟨rfl, h1, h2⟩)
  go_ret
  exact ⟨rfl, h1, h2⟩

set_option maxHeartbeats 400000 in
theorem next_later (b : Nat) (l : List UInt8) (e n : Nat) (w : World) (h : Rd w b l e) (he : e ≠ 0) (hn : l.length < n) (_hn3 : n ≤ 18446744073709551615) :
    Calls Try.prog 66 #[.pointer (some ⟨b, 0, none⟩), .int .u64 n] w fun r w' => r = .returned (.string (bs [])) ∧ w = w' := by
  have c0 := h.c0
  have hl := h.len
  have hz := bs_size l
  have hn1 : (bs l).size < n := by rw [hz]; exact hn
  have hn2 : (bs l).size ≤ 140737488355328 := by rw [hz]; exact hl
  clear hz
  go_enter Try.func66, Try.ntmps66
  go_wp2_with (go_at_call 77; refine (fail_later b l 10 e _ h he).mono ?_; rintro e w' ⟨rfl, rfl⟩)
  go_ret
  exact ⟨rfl, rfl⟩

/-- What 'n bytes are read' does: what is handed back, what is left, the error. -/
def nextS (n : Nat) (l : List UInt8) (e : Nat) : List UInt8 × List UInt8 × Nat :=
  if n ≤ l.length then (l.take n, l.drop n, e) else ([], if e = 0 then ([], 10) else (l, e))

theorem next_any (b : Nat) (l : List UInt8) (e n : Nat) (w : World) (h : Rd w b l e) (hn : n ≤ 18446744073709551615) :
    Calls Try.prog 66 #[.pointer (some ⟨b, 0, none⟩), .int .u64 n] w fun r w' =>
      r = .returned (.string (bs (nextS n l e).1)) ∧ Rd w' b (nextS n l e).2.1 (nextS n l e).2.2 ∧ Frm (· = b) w w' := by
  unfold nextS
  by_cases hl : n ≤ l.length
  · rw [if_pos hl]
    exact next_ok b l e n w h hl
  · rw [if_neg hl]
    by_cases he : e = 0
    · subst he
      rw [if_pos rfl]
      exact next_torn b l n w h (by omega) hn
    · rw [if_neg he]
      exact (next_later b l e n w h he (by omega) hn).mono fun r w' ⟨h1, h2⟩ => by subst h2; exact ⟨h1, h, Frm.refl _ _⟩

set_option maxHeartbeats 400000 in
theorem err_any (b : Nat) (l : List UInt8) (e : Nat) (w : World) (h : Rd w b l e) :
    Calls Try.prog 48 #[.pointer (some ⟨b, 0, none⟩)] w fun r w' => r = .returned (.int .i64 e) ∧ w = w' := by
  have c1 := h.c1
  go_enter Try.func48, Try.ntmps48
  go_wp2
  go_ret
  exact ⟨rfl, rfl⟩

set_option maxHeartbeats 400000 in
theorem rest_any (b : Nat) (l : List UInt8) (e : Nat) (w : World) (h : Rd w b l e) :
    Calls Try.prog 28 #[.pointer (some ⟨b, 0, none⟩)] w fun r w' => r = .returned (.string (bs l)) ∧ w = w' := by
  have c0 := h.c0
  go_enter Try.func28, Try.ntmps28
  go_wp2
  go_ret
  exact ⟨rfl, rfl⟩

/-- What End answers. -/
def endS (l : List UInt8) (e : Nat) : Nat := if e ≠ 0 then e else if l = [] then 0 else 4

set_option maxHeartbeats 400000 in
theorem fixed_pos (b : Nat) (l : List UInt8) (e : Nat) (n : Nat) (w : World) (h : Rd w b l e) (hn : n ≤ 9223372036854775807) :
    Calls Try.prog 51 #[.pointer (some ⟨b, 0, none⟩), .int .i64 n] w fun r w' =>
      r = .returned (.string (bs (nextS n l e).1)) ∧ Rd w' b (nextS n l e).2.1 (nextS n l e).2.2 ∧ Frm (· = b) w w' := by
  go_enter Try.func51, Try.ntmps51
  go_wp2_with (go_at_call 66; refine (next_any b l e n _ h (by omega)).mono ?_; rintro r w' ⟨rfl, h1, h2⟩)
  go_ret
  exact ⟨rfl, h1, h2⟩
end Go.Proofs.Ytlajfmpgodcbmaa
