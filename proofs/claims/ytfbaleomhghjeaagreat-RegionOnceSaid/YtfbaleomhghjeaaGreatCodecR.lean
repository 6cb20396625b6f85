/- The leaf calls of package codec: how many bytes a number's type has. No condition. -/
import Derived.Test.YtfbaleomhghjeaaGreatRows
import Derived.WalkKit
import Derived.WalkSpells
import Derived.WalkLawsBesides
import Derived.Test.YtfbaleomhghjeaaGreatDvM
import Derived.Lib.Strings
section
namespace Go.Proofs.YtfbaleomhghjeaaGreat
open Go.RowKit
theorem ret_int {k : IntKind} {a b : Int} (h : a = b) : Ending.returned (.int k a) = .returned (.int k b) := by rw [h]
set_option maxRecDepth 100000 in
set_option maxHeartbeats 400000 in
theorem len8 (w : World) : Calls Tryz.prog 148 #[.int .u32 255] w fun e w' => e = .returned (.int .i64 8) ∧ w = w' := by
  go_enter Tryz.func148, Tryz.ntmps148
  go_wp2_with fail
  go_ret
  exact ⟨by kernel_rfl, rfl⟩
set_option maxRecDepth 100000 in
set_option maxHeartbeats 400000 in
theorem len16 (w : World) : Calls Tryz.prog 148 #[.int .u32 65535] w fun e w' => e = .returned (.int .i64 16) ∧ w = w' := by
  go_enter Tryz.func148, Tryz.ntmps148
  go_wp2_with fail
  go_ret
  exact ⟨by kernel_rfl, rfl⟩
set_option maxRecDepth 100000 in
set_option maxHeartbeats 400000 in
theorem len32 (w : World) : Calls Tryz.prog 148 #[.int .u32 4294967295] w fun e w' => e = .returned (.int .i64 32) ∧ w = w' := by
  go_enter Tryz.func148, Tryz.ntmps148
  go_wp2_with fail
  go_ret
  exact ⟨by kernel_rfl, rfl⟩
set_option maxHeartbeats 400000 in
theorem width8 (w : World) : Calls Tryz.prog 147 #[] w fun e w' => e = .returned (.int .i64 1) ∧ w = w' := by
  go_enter Tryz.func147, Tryz.ntmps147
  go_wp2_with (go_at_call 148; refine (len8 _).mono ?_; rintro e w' ⟨rfl, rfl⟩)
  go_ret
  exact ⟨by kernel_rfl, rfl⟩
set_option maxHeartbeats 400000 in
theorem width16 (w : World) : Calls Tryz.prog 146 #[] w fun e w' => e = .returned (.int .i64 2) ∧ w = w' := by
  go_enter Tryz.func146, Tryz.ntmps146
  go_wp2_with (go_at_call 148; refine (len16 _).mono ?_; rintro e w' ⟨rfl, rfl⟩)
  go_ret
  exact ⟨by kernel_rfl, rfl⟩
set_option maxHeartbeats 400000 in
theorem width32 (w : World) : Calls Tryz.prog 139 #[] w fun e w' => e = .returned (.int .i64 4) ∧ w = w' := by
  go_enter Tryz.func139, Tryz.ntmps139
  go_wp2_with (go_at_call 148; refine (len32 _).mono ?_; rintro e w' ⟨rfl, rfl⟩)
  go_ret
  exact ⟨by kernel_rfl, rfl⟩
end Go.Proofs.YtfbaleomhghjeaaGreat
end
section
namespace Go.Proofs.YtfbaleomhghjeaaGreat
open Go.RowKit
/-- A reader: what is left, and its error. -/
structure Rd (w : World) (b : Nat) (l : List UInt8) (e : Nat) : Prop where
  blk : Blk w b 173 #[.string (bs l), .int .i64 e]
  len : l.length ≤ 140737488355328
  err : e ≤ 17

theorem Rd.c0 {w : World} {b : Nat} {l : List UInt8} {e : Nat} (h : Rd w b l e) : w.cell? ⟨b, 0, none⟩ = some (.string (bs l)) := h.blk.cell 0 rfl
theorem Rd.c1 {w : World} {b : Nat} {l : List UInt8} {e : Nat} (h : Rd w b l e) : w.cell? ⟨b, 1, none⟩ = some (.int .i64 e) := h.blk.cell 1 rfl
theorem Rd.keep {X : Nat → Prop} {w w' : World} {b : Nat} {l : List UInt8} {e : Nat} (h : Rd w b l e) (hf : Frm X w w') (hn : ¬ X b) : Rd w' b l e := ⟨h.blk.keep hf hn, h.len, h.err⟩
theorem Rd.lt {w : World} {b : Nat} {l : List UInt8} {e : Nat} (h : Rd w b l e) : b < w.heap.size := h.blk.lt
theorem Frm.one (b i : Nat) (u : Value) (w : World) : Frm (· = b) w (w.setCell ⟨b, i, none⟩ u) := (Frm.refl (· = b) w).setCell (p := ⟨b, i, none⟩) (fun _ => rfl) u
theorem Rd.rest {w : World} {b : Nat} {l : List UInt8} {e : Nat} (h : Rd w b l e) (k : Nat) : Rd (w.setCell ⟨b, 0, none⟩ (.string (bs (l.drop k)))) b (l.drop k) e :=
  ⟨h.blk.set 0 _, by have := h.len; rw [List.length_drop]; omega, h.err⟩

set_option maxHeartbeats 400000 in
theorem fail_first (b : Nat) (l : List UInt8) (x : Nat) (w : World) (h : Rd w b l 0) (hx : x ≤ 17) :
    Calls Tryz.prog 140 #[.pointer (some ⟨b, 0, none⟩), .int .i64 x] w fun e w' => e = .returned (.tuple #[]) ∧ Rd w' b [] x ∧ Frm (· = b) w w' := by
  have c0 := h.c0
  have c1 := h.c1
  have f0 := h.blk.free 0
  have f1 := h.blk.free 1
  go_enter Tryz.func140, Tryz.ntmps140
  go_wp2
  go_end0
  exact ⟨rfl, ⟨(h.blk.set 0 (.string ⟨#[]⟩)).set 1 (.int .i64 x), by simp, hx⟩, (Frm.one _ _ _ _).trans (Frm.one _ _ _ _)⟩

set_option maxHeartbeats 400000 in
theorem fail_later (b : Nat) (l : List UInt8) (x e : Nat) (w : World) (h : Rd w b l e) (he : e ≠ 0) :
    Calls Tryz.prog 140 #[.pointer (some ⟨b, 0, none⟩), .int .i64 x] w fun e w' => e = .returned (.tuple #[]) ∧ w = w' := by
  have c0 := h.c0
  have c1 := h.c1
  have he' : ((e : Int) == 0) = false := by simpa using he
  go_enter Tryz.func140, Tryz.ntmps140
  go_wp2
  go_end0
  exact ⟨rfl, rfl⟩

theorem ret_str {a b : ByteArray} (h : a = b) : Ending.returned (.string a) = .returned (.string b) := by rw [h]

set_option maxHeartbeats 400000 in
theorem next_ok (b : Nat) (l : List UInt8) (e : Nat) (n : Nat) (w : World) (h : Rd w b l e) (hn : n ≤ l.length) :
    Calls Tryz.prog 124 #[.pointer (some ⟨b, 0, none⟩), .int .u64 n] w fun r w' => r = .returned (.string (bs (l.take n))) ∧ Rd w' b (l.drop n) e ∧ Frm (· = b) w w' := by
  have c0 := h.c0
  have f0 := h.blk.free 0
  have hl := h.len
  have hz := bs_size l
  have hn1 : n ≤ (bs l).size := by rw [hz]; exact hn
  have hn2 : (bs l).size ≤ 140737488355328 := by rw [hz]; exact hl
  clear hz
  go_enter Tryz.func124, Tryz.ntmps124
  go_wp2
  go_ret
  exact ⟨ret_str (bs_take l n), by rw [bs_drop]; exact h.rest n, Frm.one _ _ _ _⟩

set_option maxHeartbeats 400000 in
theorem next_torn (b : Nat) (l : List UInt8) (n : Nat) (w : World) (h : Rd w b l 0) (hn : l.length < n) (_hn3 : n ≤ 18446744073709551615) :
    Calls Tryz.prog 124 #[.pointer (some ⟨b, 0, none⟩), .int .u64 n] w fun r w' => r = .returned (.string (bs [])) ∧ Rd w' b [] 10 ∧ Frm (· = b) w w' := by
  have c0 := h.c0
  have hl := h.len
  have hz := bs_size l
  have hn1 : (bs l).size < n := by rw [hz]; exact hn
  have hn2 : (bs l).size ≤ 140737488355328 := by rw [hz]; exact hl
  clear hz
  go_enter Tryz.func124, Tryz.ntmps124
  go_wp2_with (go_at_call 140; refine (fail_first b l 10 _ h (by omega)).mono ?_; rintro e w' ⟨rfl, h1, h2⟩)
  go_ret
  exact ⟨rfl, h1, h2⟩

set_option maxHeartbeats 400000 in
theorem next_later (b : Nat) (l : List UInt8) (e n : Nat) (w : World) (h : Rd w b l e) (he : e ≠ 0) (hn : l.length < n) (_hn3 : n ≤ 18446744073709551615) :
    Calls Tryz.prog 124 #[.pointer (some ⟨b, 0, none⟩), .int .u64 n] w fun r w' => r = .returned (.string (bs [])) ∧ w = w' := by
  have c0 := h.c0
  have hl := h.len
  have hz := bs_size l
  have hn1 : (bs l).size < n := by rw [hz]; exact hn
  have hn2 : (bs l).size ≤ 140737488355328 := by rw [hz]; exact hl
  clear hz
  go_enter Tryz.func124, Tryz.ntmps124
  go_wp2_with (go_at_call 140; refine (fail_later b l 10 e _ h he).mono ?_; rintro e w' ⟨rfl, rfl⟩)
  go_ret
  exact ⟨rfl, rfl⟩

/-- What 'n bytes are read' does: what is handed back, what is left, the error. -/
def nextS (n : Nat) (l : List UInt8) (e : Nat) : List UInt8 × List UInt8 × Nat :=
  if n ≤ l.length then (l.take n, l.drop n, e) else ([], if e = 0 then ([], 10) else (l, e))

theorem next_any (b : Nat) (l : List UInt8) (e n : Nat) (w : World) (h : Rd w b l e) (hn : n ≤ 18446744073709551615) :
    Calls Tryz.prog 124 #[.pointer (some ⟨b, 0, none⟩), .int .u64 n] w fun r w' =>
      r = .returned (.string (bs (nextS n l e).1)) ∧ Rd w' b (nextS n l e).2.1 (nextS n l e).2.2 ∧ Frm (· = b) w w' := by
  unfold nextS
  by_cases hl : n ≤ l.length
  · rw [if_pos hl]
    exact next_ok b l e n w h hl
  · rw [if_neg hl]
    by_cases he : e = 0
    · subst he
      rw [if_pos rfl]
      exact next_torn b l n w h (by omega) hn
    · rw [if_neg he]
      exact (next_later b l e n w h he (by omega) hn).mono fun r w' ⟨h1, h2⟩ => by subst h2; exact ⟨h1, h, Frm.refl _ _⟩

set_option maxHeartbeats 400000 in
theorem fixed_pos (b : Nat) (l : List UInt8) (e : Nat) (n : Nat) (w : World) (h : Rd w b l e) (hn : n ≤ 9223372036854775807) :
    Calls Tryz.prog 101 #[.pointer (some ⟨b, 0, none⟩), .int .i64 n] w fun r w' =>
      r = .returned (.string (bs (nextS n l e).1)) ∧ Rd w' b (nextS n l e).2.1 (nextS n l e).2.2 ∧ Frm (· = b) w w' := by
  go_enter Tryz.func101, Tryz.ntmps101
  go_wp2_with (go_at_call 124; refine (next_any b l e n _ h (by omega)).mono ?_; rintro r w' ⟨rfl, h1, h2⟩)
  go_ret
  exact ⟨rfl, h1, h2⟩
end Go.Proofs.YtfbaleomhghjeaaGreat
end
