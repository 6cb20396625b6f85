/- The law's 'one': something that is read by both is the same. -/
import Derived.Test.YtalalekbeabhiaaRefN
namespace Go.Proofs.Ytalalekbeabhiaa
open Go.RowKit
/-- How 'one' ends. -/
def OneTo (b q : Nat) (s : List UInt8) (w : World) (e : Ending) (W : World) : Prop :=
  e = .returned (.bool true) ∧ ∃ l' e', Rd W b l' e' ∧ Rq W q s l' e' ∧ Frm (fun k => k = b ∨ k = q) w W
theorem beq_true (n : Int) : (n == n) = true := beq_self_eq_true n

set_option maxRecDepth 100000 in
set_option maxHeartbeats 2000000 in
theorem one_any (b q : Nat) (s l : List UInt8) (e k : Nat) (n : Int) (w : World) (h : Rd w b l e) (hq : Rq w q s l e) (hbq : b ≠ q) (hk : k < 256) (hn1 : -9223372036854775808 ≤ n) (hn2 : n ≤ 9223372036854775807) :
    Calls Try.prog 13 #[.pointer (some ⟨b, 0, none⟩), .pointer (some ⟨q, 0, none⟩), .agg #[.int .u8 k, .int .i64 n]] w (OneTo b q s w) := by
  obtain ⟨c, hc⟩ : ∃ c, k % 6 = c := ⟨_, rfl⟩
  have hc6 : c < 6 := by omega
  have He := Lib.hid hc
  clear hc
  have hb0 := Blk.alloc w 42 #[.int .u8 k, .int .i64 n]
  have f1 := (Frm.refl (fun _ => False) w).alloc (.cells #[.int .u8 k, .int .i64 n] 42)
  have h1 := h.keep f1 (fun h => h)
  have q1 := hq.keep f1 (fun h => h)
  have hinv := hq.inv
  have hlb := h.lt
  have hlq := hq.lt
  have fin : ∀ W1 W2 l' e', Frm (· = b) (w.alloc (.cells #[.int .u8 k, .int .i64 n] 42)) W1 → Frm (· = q) W1 W2 → Rd W1 b l' e' → Rq W2 q s l' e' → OneTo b q s w (.returned (.bool true)) W2 := by
    intro W1 W2 l' e' g1 g2 r1 r2
    exact ⟨rfl, l', e', r1.keep g2 hbq, r2, ((f1.mono (fun _ _ h => h.elim)).next g1 (fun k _ h => Or.inl h)).next g2 (fun k _ h => Or.inr h)⟩
  have Fin := Lib.hid fin
  have keepB : ∀ W1, Frm (· = b) (w.alloc (.cells #[.int .u8 k, .int .i64 n] 42)) W1 → Blk W1 w.heap.size 42 #[.int .u8 k, .int .i64 n] := fun W1 g => hb0.keep g (by omega)
  have KB := Lib.hid keepB
  have HL := Lib.hid (And.intro hlb hlq)
  clear fin keepB hlb hlq f1 hq h
  go_enter Try.func13, Try.ntmps13
  rcases (show c = 0 ∨ c = 1 ∨ c = 2 ∨ c = 3 ∨ c = 4 ∨ c = 5 by omega) with rfl | rfl | rfl | rfl | rfl | rfl
  · have t0 : ((k : Int) % 6 == 0) = true := by rw [beq_iff_eq]; have := He.out; omega
    go_wp2_with fail
    refine (ru8_any b l e _ h1).mono ?_
    rintro r W1 ⟨rfl, r1, g1⟩
    have q2 := q1.keep g1 (fun h => hbq h.symm)
    have hlt : (numS 1 l e).1 < 256 := beN_lt 1 _ (nextS_len _ _ _)
    obtain ⟨y, hy⟩ : ∃ y, (numS 1 l e).1 = y := ⟨_, rfl⟩
    have Hy := Lib.hid hy
    rw [hy] at hlt ⊢
    clear hy
    have hyy := beq_true (y : Int)
    go_wp2_with fail
    refine (q_number 1 q s l e _ q2 (by omega)).mono ?_
    rintro r W2 ⟨rfl, r2, g2⟩
    rw [Hy.out]
    go_wp2_with fail
    go_ret
    exact Fin.out _ _ _ _ g1 g2 r1 r2
  · have t0 : ((k : Int) % 6 == 0) = false := by rw [beq_eq_false_iff_ne]; have := He.out; omega
    have t1 : ((k : Int) % 6 == 1) = true := by rw [beq_iff_eq]; have := He.out; omega
    go_wp2_with fail
    refine (ru16_any b l e _ h1).mono ?_
    rintro r W1 ⟨rfl, r1, g1⟩
    have q2 := q1.keep g1 (fun h => hbq h.symm)
    have hlt : (numS 2 l e).1 < 65536 := beN_lt 2 _ (nextS_len _ _ _)
    obtain ⟨y, hy⟩ : ∃ y, (numS 2 l e).1 = y := ⟨_, rfl⟩
    have Hy := Lib.hid hy
    rw [hy] at hlt ⊢
    clear hy
    have hyy := beq_true (y : Int)
    go_wp2_with fail
    refine (q_number 2 q s l e _ q2 (by omega)).mono ?_
    rintro r W2 ⟨rfl, r2, g2⟩
    rw [Hy.out]
    go_wp2_with fail
    go_ret
    exact Fin.out _ _ _ _ g1 g2 r1 r2
  · have t0 : ((k : Int) % 6 == 0) = false := by rw [beq_eq_false_iff_ne]; have := He.out; omega
    have t1 : ((k : Int) % 6 == 1) = false := by rw [beq_eq_false_iff_ne]; have := He.out; omega
    have t2 : ((k : Int) % 6 == 2) = true := by rw [beq_iff_eq]; have := He.out; omega
    go_wp2_with fail
    refine (ru32_any b l e _ h1).mono ?_
    rintro r W1 ⟨rfl, r1, g1⟩
    have q2 := q1.keep g1 (fun h => hbq h.symm)
    have hlt : (numS 4 l e).1 < 4294967296 := beN_lt 4 _ (nextS_len _ _ _)
    obtain ⟨y, hy⟩ : ∃ y, (numS 4 l e).1 = y := ⟨_, rfl⟩
    have Hy := Lib.hid hy
    rw [hy] at hlt ⊢
    clear hy
    have hyy := beq_true (y : Int)
    go_wp2_with fail
    refine (q_number 4 q s l e _ q2 (by omega)).mono ?_
    rintro r W2 ⟨rfl, r2, g2⟩
    rw [Hy.out]
    go_wp2_with fail
    go_ret
    exact Fin.out _ _ _ _ g1 g2 r1 r2
  · have t0 : ((k : Int) % 6 == 0) = false := by rw [beq_eq_false_iff_ne]; have := He.out; omega
    have t1 : ((k : Int) % 6 == 1) = false := by rw [beq_eq_false_iff_ne]; have := He.out; omega
    have t2 : ((k : Int) % 6 == 2) = false := by rw [beq_eq_false_iff_ne]; have := He.out; omega
    have t3 : ((k : Int) % 6 == 3) = true := by rw [beq_iff_eq]; have := He.out; omega
    go_wp2_with fail
    refine (var_any b l e _ h1 hinv).mono ?_
    rintro r W1 ⟨rfl, r1, g1⟩
    have q2 := q1.keep g1 (fun h => hbq h.symm)
    have hlt := varS_lt l e
    obtain ⟨y, hy⟩ : ∃ y, (varS l e).1 = y := ⟨_, rfl⟩
    have Hy := Lib.hid hy
    rw [hy] at hlt ⊢
    clear hy
    have hyy := beq_true (y : Int)
    go_wp2_with fail
    refine (q_var q s l e _ q2).mono ?_
    rintro r W2 ⟨rfl, r2, g2⟩
    rw [Hy.out]
    go_wp2_with fail
    go_ret
    exact Fin.out _ _ _ _ g1 g2 r1 r2
  · have t0 : ((k : Int) % 6 == 0) = false := by rw [beq_eq_false_iff_ne]; have := He.out; omega
    have t1 : ((k : Int) % 6 == 1) = false := by rw [beq_eq_false_iff_ne]; have := He.out; omega
    have t2 : ((k : Int) % 6 == 2) = false := by rw [beq_eq_false_iff_ne]; have := He.out; omega
    have t3 : ((k : Int) % 6 == 3) = false := by rw [beq_eq_false_iff_ne]; have := He.out; omega
    have t4 : ((k : Int) % 6 == 4) = true := by rw [beq_iff_eq]; have := He.out; omega
    rcases (show n < 0 ∨ 0 ≤ n by omega) with hneg | hpos
    · go_wp2_with fail
      refine (fixed_neg b l e n _ h1 hneg hn1).mono ?_
      rw [show nextS 0 l e = ([], l, e) by unfold nextS; simp]
      rintro r W1 ⟨rfl, r1, g1⟩
      have q2 := q1.keep g1 (fun h => hbq h.symm)
      have hb1 := KB.out W1 g1
      have d1 := hb1.cell 1 rfl
      obtain ⟨y, hy⟩ : ∃ y, bs ([] : List UInt8) = y := ⟨_, rfl⟩
      have Hy := Lib.hid hy
      simp only [hy]
      clear hy
      have hyy : (y.toList == y.toList) = true := beq_self_eq_true _
      go_wp2_with fail
      refine (q_fixed_none q s l e n _ q2 (Or.inr (by omega))).mono ?_
      rintro r W2 ⟨rfl, rfl⟩
      rw [Hy.out]
      go_wp2_with fail
      go_ret
      exact Fin.out _ _ _ _ g1 (Frm.refl _ _) r1 q2
    · obtain ⟨m, rfl⟩ := Int.eq_ofNat_of_zero_le hpos
      go_wp2_with fail
      refine (fixed_pos b l e m _ h1 (by omega)).mono ?_
      rintro r W1 ⟨rfl, r1, g1⟩
      have q2 := q1.keep g1 (fun h => hbq h.symm)
      have hb1 := KB.out W1 g1
      have d1 := hb1.cell 1 rfl
      obtain ⟨y, hy⟩ : ∃ y, bs (nextS m l e).1 = y := ⟨_, rfl⟩
      have Hy := Lib.hid hy
      rw [hy]
      clear hy
      have hyy : (y.toList == y.toList) = true := beq_self_eq_true _
      go_wp2_with fail
      refine (q_fixed q s l e m _ q2 (by omega)).mono ?_
      rintro r W2 ⟨rfl, r2, g2⟩
      rw [Hy.out]
      go_wp2_with fail
      go_ret
      exact Fin.out _ _ _ _ g1 g2 r1 r2
  · have t0 : ((k : Int) % 6 == 0) = false := by rw [beq_eq_false_iff_ne]; have := He.out; omega
    have t1 : ((k : Int) % 6 == 1) = false := by rw [beq_eq_false_iff_ne]; have := He.out; omega
    have t2 : ((k : Int) % 6 == 2) = false := by rw [beq_eq_false_iff_ne]; have := He.out; omega
    have t3 : ((k : Int) % 6 == 3) = false := by rw [beq_eq_false_iff_ne]; have := He.out; omega
    have t4 : ((k : Int) % 6 == 4) = false := by rw [beq_eq_false_iff_ne]; have := He.out; omega
    go_wp2_with fail
    refine (rtext_any b l e _ h1 hinv).mono ?_
    rintro r W1 ⟨rfl, r1, g1⟩
    have q2 := q1.keep g1 (fun h => hbq h.symm)
    obtain ⟨y, hy⟩ : ∃ y, bs (textS l e).1 = y := ⟨_, rfl⟩
    have Hy := Lib.hid hy
    rw [hy]
    clear hy
    have hyy : (y.toList == y.toList) = true := beq_self_eq_true _
    go_wp2_with fail
    refine (q_text q s l e _ q2).mono ?_
    rintro r W2 ⟨rfl, r2, g2⟩
    rw [Hy.out]
    go_wp2_with fail
    go_ret
    exact Fin.out _ _ _ _ g1 g2 r1 r2
end Go.Proofs.Ytalalekbeabhiaa
