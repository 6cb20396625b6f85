/- What the calls of package vector answer: TakeDot; Take of no reader. No condition but the reader's own. -/
import Derived.Test.YtdoeogfjbcannaaVecH
import Derived.Test.YtdoeogfjbcannaaCodecN
namespace Go.Proofs.Ytdoeogfjbcannaa
open Go.RowKit

/-- What the reading of a dot does: the two numbers, what is left, the error. -/
def readD (l : List UInt8) (e : Nat) : (Nat × Nat) × List UInt8 × Nat :=
  (((numS 1 l e).1, (varS (numS 1 l e).2.1 (numS 1 l e).2.2).1), (varS (numS 1 l e).2.1 (numS 1 l e).2.2).2)
def judgeD (q : (Nat × Nat) × List UInt8 × Nat) : (Nat × Nat) × Nat :=
  if q.2.2 ≠ 0 then ((0, 0), q.2.2) else if okD q.1.1 q.1.2 then (q.1, 0) else ((0, 0), 4)
def takeDS (l : List UInt8) (e : Nat) : (Nat × Nat) × Nat := judgeD (readD l e)
def TakeDTo (b : Nat) (l : List UInt8) (e : Nat) (w : World) (r : Ending) (w' : World) : Prop :=
  r = .returned (.tuple #[.agg (dv (takeDS l e).1.1 (takeDS l e).1.2), .int .i64 (takeDS l e).2]) ∧ Rd w' b (readD l e).2.1 (readD l e).2.2 ∧ Frm (· = b) w w'

set_option maxRecDepth 100000 in
set_option maxHeartbeats 2000000 in
theorem takeDot_any (b : Nat) (l : List UInt8) (e : Nat) (w : World) (h : Rd w b l e) (hi : e ≠ 0 → l = []) : Calls Try.prog 25 #[.pointer (some ⟨b, 0, none⟩)] w (TakeDTo b l e w) := by
  have hbl := h.lt
  have g0 : Frm (fun _ => False) w ((w.alloc (Obj.cells dz 26)).alloc (Obj.cells dz 26)) := ((Frm.refl _ w).alloc _).alloc _
  have b0 : Blk ((w.alloc (Obj.cells dz 26)).alloc (Obj.cells dz 26)) w.heap.size 26 dz := (Blk.alloc w _ _).old _
  have b1 : Blk ((w.alloc (Obj.cells dz 26)).alloc (Obj.cells dz 26)) (w.heap.size + 1) 26 dz := Blk.at1 w _ _ _
  have r0 := h.keep g0 (fun h => h)
  obtain ⟨q, hq⟩ : ∃ q, q = TakeDTo b l e w := ⟨_, rfl⟩
  rw [← hq]
  have Hq := Lib.hid hq
  clear hq
  have hinv : (numS 1 l e).2.2 ≠ 0 → (numS 1 l e).2.1 = [] := nextS_inv (n := 1) hi
  have hm : (numS 1 l e).1 < 256 := beN_lt 1 _ (nextS_len 1 l e)
  go_enter Try.func25, Try.ntmps25
  go_wp2_with fail
  refine (ru8_any b l e _ r0).mono ?_
  rintro e1 w1 ⟨rfl, r1, g1⟩
  have d0 := b0.keep g1 (by omega)
  have d1 := b1.keep g1 (by omega)
  have k1 : Frm (· = b) w w1 := (g0.mono (fun _ _ h => h.elim)).trans g1
  have HT := Lib.hid (show takeDS l e = judgeD (readD l e) from rfl)
  have HR := Lib.hid (show readD l e = (((numS 1 l e).1, (varS (numS 1 l e).2.1 (numS 1 l e).2.2).1), (varS (numS 1 l e).2.1 (numS 1 l e).2.2).2) from rfl)
  generalize (numS 1 l e).1 = m at *
  generalize (numS 1 l e).2.1 = l1 at *
  generalize (numS 1 l e).2.2 = e1 at *
  clear b0 b1 r0 g0 g1 hi h
  have c1 := d1.cell 0 rfl
  have f1 := d1.free 0
  go_wp2_with fail
  obtain ⟨w2, hw2⟩ : ∃ w2, w1.setCell ⟨w.heap.size + 1, 0, none⟩ (.int .u8 m) = w2 := ⟨_, rfl⟩
  have x1 := d1.set 0 (.int .u8 m)
  have x0 := d0.other (p := ⟨w.heap.size + 1, 0, none⟩) (by simp only; omega) (.int .u8 m)
  have xr := r1.keep (Frm.one (w.heap.size + 1) 0 (.int .u8 m) w1) (by omega)
  have xk := k1.setCell (p := ⟨w.heap.size + 1, 0, none⟩) (fun h => by simp only at h; omega) (.int .u8 m)
  rw [hw2] at x1 x0 xr xk ⊢
  clear hw2 d0 d1 r1 k1 c1 f1
  refine (var_any b l1 e1 _ xr hinv).mono ?_
  rintro e3 w3 ⟨rfl, r3, g3⟩
  have d0 := x0.keep g3 (by omega)
  have d1 := x1.keep g3 (by omega)
  have k3 := xk.trans g3
  have hn : (varS l1 e1).1 < 4294967296 := varS_lt _ _
  generalize (varS l1 e1).1 = n at *
  generalize (varS l1 e1).2 = s at *
  clear x0 x1 xr xk g3 hinv
  have c1 := d1.cell 1 rfl
  have f1 := d1.free 1
  go_wp2_with fail
  obtain ⟨w4, hw4⟩ : ∃ w4, w3.setCell ⟨w.heap.size + 1, 1, none⟩ (.int .u32 n) = w4 := ⟨_, rfl⟩
  have x1 : Blk w4 (w.heap.size + 1) 26 (dv m n) := by rw [← hw4]; exact d1.set 1 (.int .u32 n)
  have x0 := d0.other (p := ⟨w.heap.size + 1, 1, none⟩) (by simp only; omega) (.int .u32 n)
  have xr := r3.keep (Frm.one (w.heap.size + 1) 1 (.int .u32 n) w3) (by omega)
  have xk := k3.setCell (p := ⟨w.heap.size + 1, 1, none⟩) (fun h => by simp only at h; omega) (.int .u32 n)
  rw [hw4] at x0 xr xk ⊢
  clear hw4 d0 d1 r3 k3 c1 f1
  refine (err_any b s.1 s.2 _ xr).mono ?_
  rintro e5 w5 ⟨rfl, rfl⟩
  by_cases he : s.2 = 0
  · have hed : ((s.2 : Int) != 0) = false := by rw [he]; rfl
    have V := fun w => validDot_any m n w hm hn
    have c0 := x1.cell 0 rfl
    have c1 := x1.cell 1 rfl
    cases hok : okD m n with
    | true =>
      have HJ := Lib.hid (show judgeD ((m, n), s) = ((m, n), 0) by simp [judgeD, he, hok])
      rw [hok] at V
      have HV := Lib.hid V
      clear V hok he
      go_wp2_with fail
      refine (HV.out _).mono ?_
      rintro e6 w6 ⟨rfl, g6⟩
      have dd := x0.keep g6 (fun h => h)
      have rr := xr.keep g6 (fun h => h)
      have kk := xk.trans (g6.mono (fun _ _ h => h.elim))
      have dx := x1.keep g6 (fun h => h)
      clear c0 c1
      have c0 := dx.cell 0 rfl
      have c1 := dx.cell 1 rfl
      go_wp2_with ((with_reducible refine wpl_store_dot rfl _ _ rfl w.heap.size m n dz ?_ ?_ dd rfl ?_); (focus rfl); (focus rfl); intro w7 e7 g7 z7; have h0 := e7.cell 0 rfl; have h1 := e7.cell 1 rfl)
      refine bodyPost_ret (v := .tuple #[.agg (dv m n), .int .i64 0]) (by simp [results, Try.results25, go_sem, h0, h1]) rfl ?_
      rw [Hq.out]
      unfold TakeDTo
      rw [HT.out, HR.out, HJ.out]
      exact ⟨rfl, rr.keep g7 (by omega), kk.next g7 (fun j hj h => by omega)⟩
    | false =>
      have HJ := Lib.hid (show judgeD ((m, n), s) = ((0, 0), 4) by simp [judgeD, he, hok])
      rw [hok] at V
      have HV := Lib.hid V
      clear V hok he
      go_wp2_with fail
      refine (HV.out _).mono ?_
      rintro e6 w6 ⟨rfl, g6⟩
      have dd := x0.keep g6 (fun h => h)
      have rr := xr.keep g6 (fun h => h)
      have kk := xk.trans (g6.mono (fun _ _ h => h.elim))
      go_wp2_with ((with_reducible refine wpl_store_dot rfl _ _ rfl w.heap.size 0 0 dz ?_ ?_ dd rfl ?_); (focus rfl); (focus rfl); intro w7 e7 g7 z7; have h0 := e7.cell 0 rfl; have h1 := e7.cell 1 rfl)
      refine bodyPost_ret (v := .tuple #[.agg (dv 0 0), .int .i64 4]) (by simp [results, Try.results25, go_sem, h0, h1]) rfl ?_
      rw [Hq.out]
      unfold TakeDTo
      rw [HT.out, HR.out, HJ.out]
      exact ⟨rfl, rr.keep g7 (by omega), kk.next g7 (fun j hj h => by omega)⟩
  · have hed : ((s.2 : Int) != 0) = true := by simpa using he
    have HJ := Lib.hid (show judgeD ((m, n), s) = ((0, 0), s.2) by simp [judgeD, he])
    clear he
    go_wp2_with ((with_reducible refine wpl_store_dot rfl _ _ rfl w.heap.size 0 0 dz ?_ ?_ x0 rfl ?_); (focus rfl); (focus rfl); intro w7 e7 g7 z7; have h0 := e7.cell 0 rfl; have h1 := e7.cell 1 rfl)
    refine bodyPost_ret (v := .tuple #[.agg (dv 0 0), .int .i64 s.2]) (by simp [results, Try.results25, go_sem, h0, h1]) rfl ?_
    rw [Hq.out]
    unfold TakeDTo
    rw [HT.out, HR.out, HJ.out]
    exact ⟨rfl, xr.keep g7 (by omega), xk.next g7 (fun j hj h => by omega)⟩

set_option maxRecDepth 100000 in
set_option maxHeartbeats 400000 in
theorem take8_nil (w : World) : Calls Try.prog 49 #[.pointer none] w fun r w' => r = .returned (.int .u8 0) ∧ Frm (fun _ => False) w w' := by
  go_enter Try.func49, Try.ntmps49
  go_wp2_with (first | (go_at_call 53; refine (width8 _).mono ?_; rintro r w' ⟨rfl, rfl⟩) | (go_at_call 56; refine (next_nil _ _).mono ?_; rintro r w1 ⟨rfl, rfl⟩))
  obtain ⟨cap, w2, hrun, hrow, hg, hz⟩ := run_bytes_of (P := Try.prog) Try.underlying9 Try.underlying84 Try.underlying5 [] w (by decide)
  rw [hrun]
  clear hrun
  have h4 : Frm (fun _ => False) w w2 := (Frm.refl _ _).grown hg (fun _ _ e => by cases e)
  clear hg hz
  go_wp2
  go_loop [3, 12] (fun n i => n = .int .u32 0 ∧ i = .int .i64 0) (fun _ _ => 0)
  case atStart => exact ⟨rfl, rfl⟩
  case round =>
    obtain ⟨rfl, rfl⟩ := hrel
    go_wp2
    go_ret
    exact ⟨rfl, h4⟩
set_option maxHeartbeats 400000 in
theorem u8_nil (w : World) : Calls Try.prog 42 #[.pointer none] w fun r w' => r = .returned (.int .u8 0) ∧ Frm (fun _ => False) w w' := by
  go_enter Try.func42, Try.ntmps42
  go_wp2_with (go_at_call 49; refine (take8_nil _).mono ?_; rintro r w' ⟨rfl, h1⟩)
  go_ret
  exact ⟨rfl, h1⟩

set_option maxRecDepth 100000 in
set_option maxHeartbeats 1000000 in
theorem take_none (w : World) : Calls Try.prog 23 #[.pointer none] w fun r w' => r = .returned (.tuple #[.agg (vv fun _ => 0), .int .i64 1]) ∧ Frm (fun _ => False) w w' := by
  have g0 : Frm (fun _ => False) w ((w.alloc (Obj.cells vz 24)).alloc (Obj.cells vz 24)) := ((Frm.refl _ w).alloc _).alloc _
  have b0 : Blk ((w.alloc (Obj.cells vz 24)).alloc (Obj.cells vz 24)) w.heap.size 24 vz := (Blk.alloc w _ _).old _
  go_enter Try.func23, Try.ntmps23
  go_wp2_with fail
  refine (u8_nil _).mono ?_
  rintro e1 w1 ⟨rfl, g1⟩
  have d0 := b0.keep g1 (fun h => h)
  have k1 := g0.trans g1
  clear g0 g1 b0
  go_wp2_with fail
  go_loop [10] (fun i => ∃ k : Nat, k ≤ 8 ∧ i = .int .i64 k) (fun i => 8 - (intOf i).toNat)
  case atStart => exact ⟨0, by omega, rfl⟩
  case round =>
    obtain ⟨k, hk, rfl⟩ := hrel
    by_cases hk8 : k < 8
    · have hki : (k : Int) < 8 := by omega
      have hk0 : (0 : Int) ≤ (k : Int) := by omega
      have hq1 : bits BinOp.and IntKind.u8 (0 / 2 ^ k) 1 = 0 := by have := and_bit 0 k (by omega); simpa using this
      have hq2 : bits BinOp.and IntKind.u8 0 1 = 0 := by kernel_rfl
      go_wp2_with fail
      go_round
      case rel => exact ⟨k + 1, by omega, by go_num⟩
      case measure => simp [intOf]; omega
    · obtain rfl : k = 8 := by omega
      go_wp2_with fail
      refine (err_nil _).mono ?_
      rintro e2 w2 ⟨rfl, rfl⟩
      go_wp2_with ((with_reducible refine wpl_store_vec rfl _ _ rfl w.heap.size (fun _ => 0) vz ?_ ?_ d0 rfl ?_); (focus rfl); (focus rfl); intro w5 e5 g5 z5; have h5 := vcells e5)
      refine bodyPost_ret (v := .tuple #[.agg (vv fun _ => 0), .int .i64 1]) (by simp [results, Try.results23, go_sem, h5]) rfl ?_
      exact ⟨rfl, k1.next g5 (fun j hj h => by omega)⟩
end Go.Proofs.Ytdoeogfjbcannaa
