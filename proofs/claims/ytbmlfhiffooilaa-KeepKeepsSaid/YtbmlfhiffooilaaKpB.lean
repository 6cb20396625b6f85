/- What Check and the document's May answer. Of any policy. No condition. -/
import Derived.Test.YtbmlfhiffooilaaKpA
namespace Go.Proofs.Ytbmlfhiffooilaa
open Go.RowKit

set_option maxRecDepth 100000 in
set_option maxHeartbeats 8000000 in
theorem check9_any (k a : Nat) (q : Int) (w : World) (hk : k ≤ 255) (ha : a ≤ 4294967295) (hq1 : -9223372036854775808 ≤ q) (hq2 : q ≤ 9223372036854775807) : Calls Try.prog 13 #[.agg (pv k a q)] w fun e w' => e = .returned (.int .i64 ((check9 k a q : Nat) : Int)) ∧ Frm (fun _ => False) w w' := by
  have b0 : Blk (w.alloc (.cells (pv k a q) 27)) w.heap.size 27 (pv k a q) := Blk.alloc w _ _
  have g0 : Frm (fun _ => False) w (w.alloc (.cells (pv k a q) 27)) := (Frm.refl _ w).alloc _
  have c0 := b0.cell 0 rfl
  have c1 := b0.cell 1 rfl
  have c2 := b0.cell 2 rfl
  obtain ⟨m, hm⟩ : ∃ m : Nat, (if k = 1 then 0 else 1073741824) = m := ⟨_, rfl⟩
  have hc : check9 k a q = if 1 < k ∨ m < a ∨ q < 0 ∨ 1048576 < q then 4 else 0 := by rw [← hm]; rfl
  by_cases h1 : k = 1
  · have h1i : (k : Int) = 1 := by omega
    have h1j : ¬ (1 : Int) < (k : Int) := by omega
    rw [if_pos h1] at hm
    subst hm
    by_cases h2 : 0 < a
    · have h2i : (0 : Int) < (a : Int) := by omega
      rw [if_pos (by omega)] at hc
      rw [hc]
      clear hc
      go_enter Try.func13, Try.ntmps13
      go_wp2_with fail
      go_ret
      exact ⟨rfl, by first | exact g0 | (rw [h1] at g0; exact g0)⟩
    · have h2i : ¬ (0 : Int) < (a : Int) := by omega
      by_cases h3 : q < 0
      · rw [if_pos (by omega)] at hc
        rw [hc]
        clear hc
        go_enter Try.func13, Try.ntmps13
        go_wp2_with fail
        go_ret
        exact ⟨rfl, by first | exact g0 | (rw [h1] at g0; exact g0)⟩
      · by_cases h4 : 1048576 < q
        · rw [if_pos (by omega)] at hc
          rw [hc]
          clear hc
          go_enter Try.func13, Try.ntmps13
          go_wp2_with fail
          go_ret
          exact ⟨rfl, by first | exact g0 | (rw [h1] at g0; exact g0)⟩
        · rw [if_neg (by omega)] at hc
          rw [hc]
          clear hc
          go_enter Try.func13, Try.ntmps13
          go_wp2_with fail
          go_ret
          exact ⟨rfl, by first | exact g0 | (rw [h1] at g0; exact g0)⟩
  · have h1i : ¬ (k : Int) = 1 := by omega
    rw [if_neg h1] at hm
    subst hm
    by_cases h5 : 1 < k
    · have h5i : (1 : Int) < (k : Int) := by omega
      rw [if_pos (by omega)] at hc
      rw [hc]
      clear hc
      go_enter Try.func13, Try.ntmps13
      go_wp2_with fail
      go_ret
      exact ⟨rfl, by first | exact g0 | (rw [h1] at g0; exact g0)⟩
    · have h5i : ¬ (1 : Int) < (k : Int) := by omega
      by_cases h2 : 1073741824 < a
      · have h2i : (1073741824 : Int) < (a : Int) := by omega
        rw [if_pos (by omega)] at hc
        rw [hc]
        clear hc
        go_enter Try.func13, Try.ntmps13
        go_wp2_with fail
        go_ret
        exact ⟨rfl, by first | exact g0 | (rw [h1] at g0; exact g0)⟩
      · have h2i : ¬ (1073741824 : Int) < (a : Int) := by omega
        by_cases h3 : q < 0
        · rw [if_pos (by omega)] at hc
          rw [hc]
          clear hc
          go_enter Try.func13, Try.ntmps13
          go_wp2_with fail
          go_ret
          exact ⟨rfl, by first | exact g0 | (rw [h1] at g0; exact g0)⟩
        · by_cases h4 : 1048576 < q
          · rw [if_pos (by omega)] at hc
            rw [hc]
            clear hc
            go_enter Try.func13, Try.ntmps13
            go_wp2_with fail
            go_ret
            exact ⟨rfl, by first | exact g0 | (rw [h1] at g0; exact g0)⟩
          · rw [if_neg (by omega)] at hc
            rw [hc]
            clear hc
            go_enter Try.func13, Try.ntmps13
            go_wp2_with fail
            go_ret
            exact ⟨rfl, by first | exact g0 | (rw [h1] at g0; exact g0)⟩
set_option maxRecDepth 100000 in
set_option maxHeartbeats 8000000 in
theorem may9_any (k a : Nat) (q : Int) (w : World) (hk : k ≤ 255) (ha : a ≤ 4294967295) (hq1 : -9223372036854775808 ≤ q) (hq2 : q ≤ 9223372036854775807) : Calls Try.prog 14 #[.agg (pv k a q)] w fun e w' => e = .returned (.bool (decide (check9 k a q = 0))) ∧ Frm (fun _ => False) w w' := by
  have b0 : Blk (w.alloc (.cells (pv k a q) 27)) w.heap.size 27 (pv k a q) := Blk.alloc w _ _
  have g0 : Frm (fun _ => False) w (w.alloc (.cells (pv k a q) 27)) := (Frm.refl _ w).alloc _
  have c0 := b0.cell 0 rfl
  have c1 := b0.cell 1 rfl
  have c2 := b0.cell 2 rfl
  obtain ⟨m, hm⟩ : ∃ m : Nat, (if k = 1 then 0 else 1073741824) = m := ⟨_, rfl⟩
  have hc : check9 k a q = if 1 < k ∨ m < a ∨ q < 0 ∨ 1048576 < q then 4 else 0 := by rw [← hm]; rfl
  by_cases h1 : k = 1
  · have h1i : (k : Int) = 1 := by omega
    have h1j : ¬ (k : Int) = 0 := by omega
    rw [if_pos h1] at hm
    by_cases h2 : a = 0
    · have h2i : (a : Int) = 0 := by omega
      by_cases h4 : 0 ≤ q
      · by_cases h5 : q ≤ 1048576
        · rw [if_neg (by omega)] at hc
          rw [hc, show decide ((0 : Nat) = 0) = true from rfl]
          clear hc hm
          go_enter Try.func14, Try.ntmps14
          go_wp2_with fail
          go_ret
          exact ⟨by first | rfl | simp [*], by first | exact g0 | (simp only [*] at g0 ⊢; exact g0)⟩
        · rw [if_pos (by omega)] at hc
          rw [hc, show decide ((4 : Nat) = 0) = false from rfl]
          clear hc hm
          go_enter Try.func14, Try.ntmps14
          go_wp2_with fail
          go_ret
          exact ⟨by first | rfl | simp [*], by first | exact g0 | (simp only [*] at g0 ⊢; exact g0)⟩
      · rw [if_pos (by omega)] at hc
        rw [hc, show decide ((4 : Nat) = 0) = false from rfl]
        clear hc hm
        go_enter Try.func14, Try.ntmps14
        go_wp2_with fail
        go_ret
        exact ⟨by first | rfl | simp [*], by first | exact g0 | (simp only [*] at g0 ⊢; exact g0)⟩
    · have h2i : ¬ (a : Int) = 0 := by omega
      rw [if_pos (by omega)] at hc
      rw [hc, show decide ((4 : Nat) = 0) = false from rfl]
      clear hc hm
      go_enter Try.func14, Try.ntmps14
      go_wp2_with fail
      go_ret
      exact ⟨by first | rfl | simp [*], by first | exact g0 | (simp only [*] at g0 ⊢; exact g0)⟩
  · have h1i : ¬ (k : Int) = 1 := by omega
    rw [if_neg h1] at hm
    by_cases h5 : k = 0
    · have h5i : (k : Int) = 0 := by omega
      by_cases h2 : a ≤ 1073741824
      · have h2i : (a : Int) ≤ 1073741824 := by omega
        by_cases h4 : 0 ≤ q
        · by_cases h5 : q ≤ 1048576
          · rw [if_neg (by omega)] at hc
            rw [hc, show decide ((0 : Nat) = 0) = true from rfl]
            clear hc hm
            go_enter Try.func14, Try.ntmps14
            go_wp2_with fail
            go_ret
            exact ⟨by first | rfl | simp [*], by first | exact g0 | (simp only [*] at g0 ⊢; exact g0)⟩
          · rw [if_pos (by omega)] at hc
            rw [hc, show decide ((4 : Nat) = 0) = false from rfl]
            clear hc hm
            go_enter Try.func14, Try.ntmps14
            go_wp2_with fail
            go_ret
            exact ⟨by first | rfl | simp [*], by first | exact g0 | (simp only [*] at g0 ⊢; exact g0)⟩
        · rw [if_pos (by omega)] at hc
          rw [hc, show decide ((4 : Nat) = 0) = false from rfl]
          clear hc hm
          go_enter Try.func14, Try.ntmps14
          go_wp2_with fail
          go_ret
          exact ⟨by first | rfl | simp [*], by first | exact g0 | (simp only [*] at g0 ⊢; exact g0)⟩
      · have h2i : ¬ (a : Int) ≤ 1073741824 := by omega
        rw [if_pos (by omega)] at hc
        rw [hc, show decide ((4 : Nat) = 0) = false from rfl]
        clear hc hm
        go_enter Try.func14, Try.ntmps14
        go_wp2_with fail
        go_ret
        exact ⟨by first | rfl | simp [*], by first | exact g0 | (simp only [*] at g0 ⊢; exact g0)⟩
    · have h5i : ¬ (k : Int) = 0 := by omega
      rw [if_pos (by omega)] at hc
      rw [hc, show decide ((4 : Nat) = 0) = false from rfl]
      clear hc hm
      go_enter Try.func14, Try.ntmps14
      go_wp2_with fail
      go_ret
      exact ⟨by first | rfl | simp [*], by first | exact g0 | (simp only [*] at g0 ⊢; exact g0)⟩
end Go.Proofs.Ytbmlfhiffooilaa
