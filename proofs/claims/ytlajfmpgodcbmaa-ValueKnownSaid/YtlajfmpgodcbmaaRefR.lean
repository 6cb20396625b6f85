/- What the document's own answers for reading are: its reader, a block of three cells. -/
import Derived.Test.YtlajfmpgodcbmaaReadI
import Derived.Test.YtlajfmpgodcbmaaCodecN
import Derived.Deep.QuietTactic
import Derived.BigQuiet
namespace Go.Proofs.Ytlajfmpgodcbmaa
open Go.RowKit
/-- The document's reader: the text that it reads, what is left, and its error. -/
def Rq (w : World) (b : Nat) (s l : List UInt8) (e : Nat) : Prop :=
  ∃ a : Nat, Blk w b 50 #[.string (bs s), .int .i64 a, .int .i64 e] ∧ a ≤ s.length ∧ s.length ≤ 140737488355328 ∧ e ≤ 17 ∧ (e = 0 → l = s.drop a) ∧ (e ≠ 0 → l = [])
theorem Rq.keep {X : Nat → Prop} {w w' : World} {b : Nat} {s l : List UInt8} {e : Nat} (h : Rq w b s l e) (hf : Frm X w w') (hn : ¬ X b) : Rq w' b s l e := by
  obtain ⟨a, h1, h2⟩ := h
  exact ⟨a, h1.keep hf hn, h2⟩
theorem Rq.lt {w : World} {b : Nat} {s l : List UInt8} {e : Nat} (h : Rq w b s l e) : b < w.heap.size := by
  obtain ⟨a, h1, _⟩ := h
  exact h1.lt
theorem Rq.inv {w : World} {b : Nat} {s l : List UInt8} {e : Nat} (h : Rq w b s l e) : e ≠ 0 → l = [] := by
  obtain ⟨a, _, _, _, _, _, h2⟩ := h
  exact h2
theorem bs_part (l : List UInt8) (i j : Nat) : (bs l).extract i j = bs ((l.take j).drop i) := by
  apply ByteArray.ext
  simp only [ByteArray.data_extract]
  apply Array.ext'
  simp [bs, List.drop_take]

set_option maxRecDepth 100000 in
set_option maxHeartbeats 400000 in
theorem q_fixed_none (b : Nat) (s l : List UInt8) (e : Nat) (n : Int) (w : World) (h : Rq w b s l e) (hn : e ≠ 0 ∨ n ≤ 0) :
    Calls Try.prog 52 #[.pointer (some ⟨b, 0, none⟩), .int .i64 n] w fun r w' => r = .returned (.string (bs [])) ∧ w = w' := by
  obtain ⟨a, hb, h1, h2, h3, h4, h5⟩ := h
  have c2 := hb.cell 2 rfl
  by_cases he : e = 0
  · subst he
    have hn' : n ≤ 0 := hn.resolve_left (fun h => h rfl)
    clear h4 h5 hn
    go_enter Try.func52, Try.ntmps52
    go_wp2
    go_ret
    exact ⟨rfl, rfl⟩
  · have he' : ((e : Int) != 0) = true := by simpa using he
    clear h4 h5 hn
    go_enter Try.func52, Try.ntmps52
    go_wp2
    go_ret
    exact ⟨rfl, rfl⟩

set_option maxRecDepth 100000 in
set_option maxHeartbeats 400000 in
theorem q_fixed_torn (b : Nat) (s l : List UInt8) (n : Nat) (w : World) (h : Rq w b s l 0) (hn : l.length < n) (hn3 : n ≤ 9223372036854775807) :
    Calls Try.prog 52 #[.pointer (some ⟨b, 0, none⟩), .int .i64 n] w fun r w' => r = .returned (.string (bs [])) ∧ Rq w' b s [] 10 ∧ Frm (· = b) w w' := by
  obtain ⟨a, hb, h1, h2, h3, h4, h5⟩ := h
  have c0 := hb.cell 0 rfl
  have c1 := hb.cell 1 rfl
  have c2 := hb.cell 2 rfl
  have f2 := hb.free 2
  rw [h4 rfl, List.length_drop] at hn
  have hz1 : a ≤ (bs s).size := h1
  have hz2 : (bs s).size ≤ 140737488355328 := h2
  have hn1 : (bs s).size - a < n := hn
  have h0 : 0 < n := by omega
  clear h4 h5
  go_enter Try.func52, Try.ntmps52
  go_wp2_with fail
  have hw1 : IntKind.i64.wrap (((bs s).size : Int) - a) = ((bs s).size : Int) - a := IntWalk.i64_in _ (by omega)
  have ht1 : decide (((bs s).size : Int) - a < n) = true := decide_eq_true (by omega)
  go_quiet (fail)
  clear hw1
  go_wp2_with fail
  go_ret
  exact ⟨rfl, ⟨a, (hb.drewN _).set 2 (.int .i64 10), h1, h2, by omega, by simp, fun _ => rfl⟩, ((Frm.refl _ w).drewN _).trans (Frm.one _ _ _ _)⟩

set_option maxRecDepth 100000 in
set_option maxHeartbeats 400000 in
theorem q_fixed_ok (b : Nat) (s l : List UInt8) (n : Nat) (w : World) (h : Rq w b s l 0) (hn : n ≤ l.length) (h0 : 0 < n) :
    Calls Try.prog 52 #[.pointer (some ⟨b, 0, none⟩), .int .i64 n] w fun r w' => r = .returned (.string (bs (l.take n))) ∧ Rq w' b s (l.drop n) 0 ∧ Frm (· = b) w w' := by
  obtain ⟨a, hb, h1, h2, h3, h4, h5⟩ := h
  have c0 := hb.cell 0 rfl
  have c1 := hb.cell 1 rfl
  have c2 := hb.cell 2 rfl
  have f1 := hb.free 1
  have hl := h4 rfl
  have Hl := Lib.hid hl
  rw [hl, List.length_drop] at hn
  have hz1 : a ≤ (bs s).size := h1
  have hz2 : (bs s).size ≤ 140737488355328 := h2
  have hn1 : n ≤ (bs s).size - a := hn
  clear h4 h5 hl
  go_enter Try.func52, Try.ntmps52
  go_wp2_with fail
  have hw1 : IntKind.i64.wrap (((bs s).size : Int) - a) = ((bs s).size : Int) - a := IntWalk.i64_in _ (by omega)
  have ht1 : decide (((bs s).size : Int) - a < n) = false := decide_eq_false (by omega)
  go_quiet (fail)
  clear hw1
  go_wp2_with fail
  go_quiet (fail)
  go_wp2_with fail
  go_ret
  refine ⟨ret_str ?_, ⟨a + n, ?_, by omega, h2, by omega, fun _ => by rw [Hl.out, List.drop_drop], fun h => absurd rfl h⟩, (((Frm.refl _ w).drewN _).trans (Frm.one _ _ _ _)).drewN _⟩
  · rw [bs_part, Hl.out, List.drop_take]; congr 2; omega
  · exact ((hb.drewN _).set 1 (.int .i64 ((a : Int) + n))).drewN _
theorem q_fixed (b : Nat) (s l : List UInt8) (e n : Nat) (w : World) (h : Rq w b s l e) (hn : n ≤ 9223372036854775807) :
    Calls Try.prog 52 #[.pointer (some ⟨b, 0, none⟩), .int .i64 n] w fun r w' =>
      r = .returned (.string (bs (nextS n l e).1)) ∧ Rq w' b s (nextS n l e).2.1 (nextS n l e).2.2 ∧ Frm (· = b) w w' := by
  have hinv := h.inv
  by_cases hx : e ≠ 0 ∨ n = 0
  · have he : nextS n l e = ([], l, e) := by
      unfold nextS
      rcases hx with hx | rfl
      · rw [hinv hx]; split
        · simp
        · simp
      · simp
    rw [he]
    exact (q_fixed_none b s l e n w h (hx.imp id (fun h => by omega))).mono fun r w' ⟨h1, h2⟩ => by subst h2; exact ⟨h1, h, Frm.refl _ _⟩
  · obtain rfl : e = 0 := by omega
    unfold nextS
    by_cases hl : n ≤ l.length
    · rw [if_pos hl]
      exact q_fixed_ok b s l n w h hl (by omega)
    · rw [if_neg hl, if_pos rfl]
      exact q_fixed_torn b s l n w h (by omega) hn

set_option maxRecDepth 100000 in
set_option maxHeartbeats 400000 in
theorem q_rest (b : Nat) (s l : List UInt8) (e : Nat) (w : World) (h : Rq w b s l e) :
    Calls Try.prog 29 #[.pointer (some ⟨b, 0, none⟩)] w fun r w' => r = .returned (.string (bs l)) ∧ Frm (fun _ => False) w w' := by
  obtain ⟨a, hb, h1, h2, h3, h4, h5⟩ := h
  have c0 := hb.cell 0 rfl
  have c1 := hb.cell 1 rfl
  have c2 := hb.cell 2 rfl
  have hz1 : a ≤ (bs s).size := h1
  have hz2 : (bs s).size ≤ 140737488355328 := h2
  by_cases he : e = 0
  · subst he
    have Hl := Lib.hid (h4 rfl)
    clear h4 h5
    go_enter Try.func29, Try.ntmps29
    go_wp2_with fail
    go_quiet (fail)
    go_wp2_with fail
    go_ret
    exact ⟨ret_str (by rw [Hl.out, bs_drop]), (Frm.refl _ w).drewN _⟩
  · have he' : ((e : Int) != 0) = true := by simpa using he
    have Hl := Lib.hid (h5 he)
    clear h4 h5
    go_enter Try.func29, Try.ntmps29
    go_wp2
    go_ret
    exact ⟨by rw [Hl.out]; rfl, Frm.refl _ w⟩

end Go.Proofs.Ytlajfmpgodcbmaa
