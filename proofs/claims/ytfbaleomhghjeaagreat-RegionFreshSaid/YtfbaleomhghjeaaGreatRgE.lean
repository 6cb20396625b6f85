/- What must be of a log block and of a header: each rule, and all of them. No condition. -/
import Derived.Test.YtfbaleomhghjeaaGreatRgD
namespace Go.Proofs.YtfbaleomhghjeaaGreat
open Go.RowKit Go.Shelf

/-- A rule of an entry, as a function value's contract. -/
def RuleE (F : FuncId) (A : Value) (b : Bool) : Prop := ∀ W, Calls Tryz.prog F #[A] W fun e W' => e = .returned (.bool b) ∧ Frm (fun _ => False) W W'
set_option maxRecDepth 100000 in
set_option maxHeartbeats 2000000 in
theorem rg_ends (i : Nat) (s : List UInt8) : RuleE 109 (entV i s) (decide (fEnd s = 1)) := by
  intro w
  obtain ⟨n1, hn1⟩ : ∃ n, fNum s = n := ⟨_, rfl⟩
  obtain ⟨n2, hn2⟩ : ∃ n, fEnd s = n := ⟨_, rfl⟩
  obtain ⟨n3, hn3⟩ : ∃ n, fSize s = n := ⟨_, rfl⟩
  obtain ⟨n4, hn4⟩ : ∃ n, fBytes s = n := ⟨_, rfl⟩
  obtain ⟨n5, hn5⟩ : ∃ n, fAgain s = n := ⟨_, rfl⟩
  unfold entV
  simp only [hn1, hn2, hn3, hn4, hn5]
  have hb : ((n2 : Int) == 1) = decide (n2 = 1) := by rw [Bool.eq_iff_iff]; simp; omega
  clear hn1 hn2 hn3 hn4 hn5
  have gA : Frm (fun _ => False) w (w.alloc (.cells #[.int .u16 (i : Nat), .int .u16 (n1 : Nat), .int .u8 (n2 : Nat), .int .u8 (n3 : Nat), .string (bs n4), .int .u16 (n5 : Nat)] 157)) := (Frm.refl _ w).alloc _
  go_enter Tryz.func109, Tryz.ntmps109
  go_wp2_with fail
  go_ret
  exact ⟨rfl, gA⟩
set_option maxRecDepth 100000 in
set_option maxHeartbeats 2000000 in
theorem rg_begun (i : Nat) (s : List UInt8) : RuleE 128 (entV i s) (decide (fNum s = i)) := by
  intro w
  obtain ⟨n1, hn1⟩ : ∃ n, fNum s = n := ⟨_, rfl⟩
  obtain ⟨n2, hn2⟩ : ∃ n, fEnd s = n := ⟨_, rfl⟩
  obtain ⟨n3, hn3⟩ : ∃ n, fSize s = n := ⟨_, rfl⟩
  obtain ⟨n4, hn4⟩ : ∃ n, fBytes s = n := ⟨_, rfl⟩
  obtain ⟨n5, hn5⟩ : ∃ n, fAgain s = n := ⟨_, rfl⟩
  unfold entV
  simp only [hn1, hn2, hn3, hn4, hn5]
  have hb : ((n1 : Int) == (i : Int)) = decide (n1 = i) := by rw [Bool.eq_iff_iff]; simp; omega
  clear hn1 hn2 hn3 hn4 hn5
  have gA : Frm (fun _ => False) w (w.alloc (.cells #[.int .u16 (i : Nat), .int .u16 (n1 : Nat), .int .u8 (n2 : Nat), .int .u8 (n3 : Nat), .string (bs n4), .int .u16 (n5 : Nat)] 157)) := (Frm.refl _ w).alloc _
  go_enter Tryz.func128, Tryz.ntmps128
  go_wp2_with fail
  go_ret
  exact ⟨rfl, gA⟩
set_option maxRecDepth 100000 in
set_option maxHeartbeats 2000000 in
theorem rg_finished (i : Nat) (s : List UInt8) : RuleE 129 (entV i s) (decide (fAgain s = i)) := by
  intro w
  obtain ⟨n1, hn1⟩ : ∃ n, fNum s = n := ⟨_, rfl⟩
  obtain ⟨n2, hn2⟩ : ∃ n, fEnd s = n := ⟨_, rfl⟩
  obtain ⟨n3, hn3⟩ : ∃ n, fSize s = n := ⟨_, rfl⟩
  obtain ⟨n4, hn4⟩ : ∃ n, fBytes s = n := ⟨_, rfl⟩
  obtain ⟨n5, hn5⟩ : ∃ n, fAgain s = n := ⟨_, rfl⟩
  unfold entV
  simp only [hn1, hn2, hn3, hn4, hn5]
  have hb : ((n5 : Int) == (i : Int)) = decide (n5 = i) := by rw [Bool.eq_iff_iff]; simp; omega
  clear hn1 hn2 hn3 hn4 hn5
  have gA : Frm (fun _ => False) w (w.alloc (.cells #[.int .u16 (i : Nat), .int .u16 (n1 : Nat), .int .u8 (n2 : Nat), .int .u8 (n3 : Nat), .string (bs n4), .int .u16 (n5 : Nat)] 157)) := (Frm.refl _ w).alloc _
  go_enter Tryz.func129, Tryz.ntmps129
  go_wp2_with fail
  go_ret
  exact ⟨rfl, gA⟩
set_option maxRecDepth 100000 in
set_option maxHeartbeats 2000000 in
theorem rg_fits (i : Nat) (s : List UInt8) : RuleE 131 (entV i s) (decide (fSize s ≤ 58)) := by
  intro w
  obtain ⟨n1, hn1⟩ : ∃ n, fNum s = n := ⟨_, rfl⟩
  obtain ⟨n2, hn2⟩ : ∃ n, fEnd s = n := ⟨_, rfl⟩
  obtain ⟨n3, hn3⟩ : ∃ n, fSize s = n := ⟨_, rfl⟩
  obtain ⟨n4, hn4⟩ : ∃ n, fBytes s = n := ⟨_, rfl⟩
  obtain ⟨n5, hn5⟩ : ∃ n, fAgain s = n := ⟨_, rfl⟩
  unfold entV
  simp only [hn1, hn2, hn3, hn4, hn5]
  have hb : decide ((n3 : Int) ≤ 58) = decide (n3 ≤ 58) := by rw [Bool.eq_iff_iff]; simp; omega
  clear hn1 hn2 hn3 hn4 hn5
  have gA : Frm (fun _ => False) w (w.alloc (.cells #[.int .u16 (i : Nat), .int .u16 (n1 : Nat), .int .u8 (n2 : Nat), .int .u8 (n3 : Nat), .string (bs n4), .int .u16 (n5 : Nat)] 157)) := (Frm.refl _ w).alloc _
  go_enter Tryz.func131, Tryz.ntmps131
  go_wp2_with fail
  go_ret
  exact ⟨rfl, gA⟩
set_option maxRecDepth 100000 in
set_option maxHeartbeats 2000000 in
theorem rg_plain (i : Nat) (s : List UInt8) : RuleE 130 (entV i s) (decide (fEnd s ≤ 1)) := by
  intro w
  obtain ⟨n1, hn1⟩ : ∃ n, fNum s = n := ⟨_, rfl⟩
  obtain ⟨n2, hn2⟩ : ∃ n, fEnd s = n := ⟨_, rfl⟩
  obtain ⟨n3, hn3⟩ : ∃ n, fSize s = n := ⟨_, rfl⟩
  obtain ⟨n4, hn4⟩ : ∃ n, fBytes s = n := ⟨_, rfl⟩
  obtain ⟨n5, hn5⟩ : ∃ n, fAgain s = n := ⟨_, rfl⟩
  unfold entV
  simp only [hn1, hn2, hn3, hn4, hn5]
  clear hn1 hn2 hn3 hn4 hn5
  have gA : Frm (fun _ => False) w (w.alloc (.cells #[.int .u16 (i : Nat), .int .u16 (n1 : Nat), .int .u8 (n2 : Nat), .int .u8 (n3 : Nat), .string (bs n4), .int .u16 (n5 : Nat)] 157)) := (Frm.refl _ w).alloc _
  by_cases e0 : n2 = 0
  · subst e0
    rw [decide_eq_true (by omega)]
    go_enter Tryz.func130, Tryz.ntmps130
    go_wp2_with fail
    go_ret
    exact ⟨rfl, gA⟩
  · have h0 : ((n2 : Int) == 0) = false := by rw [beq_eq_false_iff_ne]; omega
    have h1 : ((n2 : Int) == 1) = decide (n2 ≤ 1) := by rw [Bool.eq_iff_iff]; simp; omega
    clear e0
    go_enter Tryz.func130, Tryz.ntmps130
    go_wp2_with fail
    go_ret
    exact ⟨rfl, gA⟩
set_option maxRecDepth 100000 in
set_option maxHeartbeats 2000000 in
theorem rg_piece (i : Nat) (s : List UInt8) (hs : s.length = 64) (w : World) : Calls Tryz.prog 108 #[entV i s] w fun e W' => e = .returned (.string (bs (pieceB s))) ∧ Frm (fun _ => False) w W' := by
  have hl := fBytes_len hs
  have h3 := fSize_lt s
  unfold pieceB
  obtain ⟨n1, hn1⟩ : ∃ n, fNum s = n := ⟨_, rfl⟩
  obtain ⟨n2, hn2⟩ : ∃ n, fEnd s = n := ⟨_, rfl⟩
  obtain ⟨n3, hn3⟩ : ∃ n, fSize s = n := ⟨_, rfl⟩
  obtain ⟨n4, hn4⟩ : ∃ n, fBytes s = n := ⟨_, rfl⟩
  obtain ⟨n5, hn5⟩ : ∃ n, fAgain s = n := ⟨_, rfl⟩
  unfold entV
  simp only [hn1, hn2, hn3, hn4, hn5]
  rw [hn4] at hl
  rw [hn3] at h3
  clear hn1 hn2 hn3 hn4 hn5
  have gA : Frm (fun _ => False) w (w.alloc (.cells #[.int .u16 (i : Nat), .int .u16 (n1 : Nat), .int .u8 (n2 : Nat), .int .u8 (n3 : Nat), .string (bs n4), .int .u16 (n5 : Nat)] 157)) := (Frm.refl _ w).alloc _
  have hsz : (bs n4).size = 58 := hl
  have hm : min (n3 : Int) 58 = ((min n3 58 : Nat) : Int) := by omega
  have hE : bs (n4.take n3) = (bs n4).extract 0 (min n3 58) := by
    rw [bs_take]
    congr 1
    by_cases h : n3 ≤ 58
    · rw [Nat.min_eq_left h]
    · rw [Nat.min_eq_right (by omega), List.take_of_length_le (by omega), List.take_of_length_le (by omega)]
  rw [hE]
  obtain ⟨m, hmm⟩ : ∃ m, min n3 58 = m := ⟨_, rfl⟩
  rw [hmm] at hm ⊢
  have hm58 : m ≤ 58 := by omega
  have hw8 : IntKind.i64.wrap (n3 : Int) = (n3 : Int) := IntWalk.i64_in _ (by omega)
  clear hmm hE hl
  go_enter Tryz.func108, Tryz.ntmps108
  go_wp2_with fail
  go_ret
  exact ⟨rfl, gA⟩
end Go.Proofs.YtfbaleomhghjeaaGreat

