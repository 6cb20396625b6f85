/- What the reading of what stands ahead answers, the program's and the document's; contents that are read. Of any reader. -/
import Derived.Test.YtlajfmpgodcbmaaValQ
import Derived.Test.YtlajfmpgodcbmaaRefN
import Derived.Test.YtlajfmpgodcbmaaReadI
namespace Go.Proofs.Ytlajfmpgodcbmaa
open Go.RowKit

theorem headS_inv {l : List UInt8} {e : Nat} (h : e ≠ 0 → l = []) : (headS l e).2.2 ≠ 0 → (headS l e).2.1 = [] := by
  unfold headS
  have h1 := numS_inv (n := 1) h
  have h2 := numS_inv (n := 2) h1
  dsimp only
  split <;> split <;> (try split) <;> (first | exact h1 | exact h2)

set_option maxRecDepth 100000 in
set_option maxHeartbeats 2000000 in
theorem thead_any (b : Nat) (l : List UInt8) (e : Nat) (w : World) (h : Rd w b l e) :
    Calls Try.prog 45 #[.pointer (some ⟨b, 0, none⟩)] w fun r w' => r = .returned (.tuple #[.bool (headS l e).1.1, .int .i64 (headS l e).1.2.1, .int .i64 (headS l e).1.2.2]) ∧ Rd w' b (headS l e).2.1 (headS l e).2.2 ∧ Frm (· = b) w w' := by
  have H1 := Lib.hid (ru8_any b l e w h)
  unfold headS
  have hk : (numS 1 l e).1 < 256 := beN_lt 1 _ (nextS_len 1 l e)
  generalize numS 1 l e = p at *
  obtain ⟨k, l1, e1⟩ := p
  dsimp only at *
  by_cases hk0 : k = 0
  · subst hk0
    rw [if_pos rfl]
    have hn : (numS 2 l1 e1).1 < 65536 := beN_lt 2 _ (nextS_len 2 l1 e1)
    obtain ⟨n, l2, e2, hx⟩ : ∃ n l2 e2, numS 2 l1 e1 = (n, l2, e2) := ⟨_, _, _, rfl⟩
    have H2 := Lib.hid (fun W (hr : Rd W b l1 e1) => ru16_any b l1 e1 W hr)
    simp only [hx] at H2 hn ⊢
    clear hx
    by_cases he : e2 ≠ 0
    · rw [if_pos he]
      have he' : ((e2 : Int) != 0) = true := by rw [bne_iff_ne]; omega
      clear he
      go_enter Try.func45, Try.ntmps45
      go_wp2_with fail
      refine H1.out.mono ?_
      rintro r w1 ⟨rfl, r1, g1⟩
      go_wp2_with fail
      refine (H2.out _ r1).mono ?_
      rintro r w2 ⟨rfl, r2, g2⟩
      go_wp2_with fail
      refine (err_any _ _ _ _ r2).mono ?_
      rintro r w3 ⟨rfl, rfl⟩
      go_wp2_with fail
      refine bodyPost_ret (v := .tuple #[.bool false, .int .i64 0, .int .i64 e2]) (by simp [results, Try.results45, go_sem]) rfl ?_
      exact ⟨rfl, r2, g1.trans g2⟩
    · rw [if_neg he]
      obtain rfl : e2 = 0 := by omega
      clear he
      by_cases h256 : 256 < n
      · have hh : (1 < 0 ∨ 256 < n) := .inr h256
        rw [if_pos hh]
        have h256' : (256 : Int) < n := by omega
        clear hh
        go_enter Try.func45, Try.ntmps45
        go_wp2_with fail
        refine H1.out.mono ?_
        rintro r w1 ⟨rfl, r1, g1⟩
        go_wp2_with fail
        refine (H2.out _ r1).mono ?_
        rintro r w2 ⟨rfl, r2, g2⟩
        go_wp2_with fail
        refine (err_any _ _ _ _ r2).mono ?_
        rintro r w3 ⟨rfl, rfl⟩
        go_wp2_with fail
        refine bodyPost_ret (v := .tuple #[.bool false, .int .i64 0, .int .i64 4]) (by simp [results, Try.results45, go_sem]) rfl ?_
        exact ⟨rfl, r2, g1.trans g2⟩
      · have hh : ¬ (1 < 0 ∨ 256 < n) := by omega
        rw [if_neg hh]
        have h256' : (n : Int) ≤ 256 := by omega
        clear hh
        go_enter Try.func45, Try.ntmps45
        go_wp2_with fail
        refine H1.out.mono ?_
        rintro r w1 ⟨rfl, r1, g1⟩
        go_wp2_with fail
        refine (H2.out _ r1).mono ?_
        rintro r w2 ⟨rfl, r2, g2⟩
        go_wp2_with fail
        refine (err_any _ _ _ _ r2).mono ?_
        rintro r w3 ⟨rfl, rfl⟩
        go_wp2_with fail
        refine bodyPost_ret (v := .tuple #[.bool false, .int .i64 n, .int .i64 0]) (by simp [results, Try.results45, go_sem]) rfl ?_
        exact ⟨rfl, r2, g1.trans g2⟩
  · rw [if_neg hk0]
    have hk0' : ((k : Int) == 0) = false := by rw [beq_eq_false_iff_ne]; omega
    have hk0'' : ((k : Int) != 0) = true := by rw [bne_iff_ne]; omega
    dsimp only
    by_cases he : e1 ≠ 0
    · rw [if_pos he]
      have he' : ((e1 : Int) != 0) = true := by rw [bne_iff_ne]; omega
      clear he
      go_enter Try.func45, Try.ntmps45
      go_wp2_with fail
      refine H1.out.mono ?_
      rintro r w1 ⟨rfl, r1, g1⟩
      go_wp2_with fail
      refine (err_any _ _ _ _ r1).mono ?_
      rintro r w3 ⟨rfl, rfl⟩
      go_wp2_with fail
      refine bodyPost_ret (v := .tuple #[.bool false, .int .i64 0, .int .i64 e1]) (by simp [results, Try.results45, go_sem]) rfl ?_
      exact ⟨rfl, r1, g1⟩
    · rw [if_neg he]
      obtain rfl : e1 = 0 := by omega
      clear he
      by_cases h1 : k = 1
      · subst h1
        rw [if_neg (by omega)]
        go_enter Try.func45, Try.ntmps45
        go_wp2_with fail
        refine H1.out.mono ?_
        rintro r w1 ⟨rfl, r1, g1⟩
        go_wp2_with fail
        refine (err_any _ _ _ _ r1).mono ?_
        rintro r w3 ⟨rfl, rfl⟩
        go_wp2_with fail
        refine bodyPost_ret (v := .tuple #[.bool true, .int .i64 0, .int .i64 0]) (by simp [results, Try.results45, go_sem]) rfl ?_
        exact ⟨rfl, r1, g1⟩
      · rw [if_pos (by omega)]
        have h1' : ((k : Int) != 1) = true := by rw [bne_iff_ne]; omega
        go_enter Try.func45, Try.ntmps45
        go_wp2_with fail
        refine H1.out.mono ?_
        rintro r w1 ⟨rfl, r1, g1⟩
        go_wp2_with fail
        refine (err_any _ _ _ _ r1).mono ?_
        rintro r w3 ⟨rfl, rfl⟩
        go_wp2_with fail
        refine bodyPost_ret (v := .tuple #[.bool false, .int .i64 0, .int .i64 4]) (by simp [results, Try.results45, go_sem]) rfl ?_
        exact ⟨rfl, r1, g1⟩
end Go.Proofs.Ytlajfmpgodcbmaa
