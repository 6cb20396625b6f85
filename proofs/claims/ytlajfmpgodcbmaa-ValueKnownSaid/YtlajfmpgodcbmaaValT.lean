/- What the document's reading of what stands ahead answers; contents that are read, by the program and by the document. Of any reader. -/
import Derived.Test.YtlajfmpgodcbmaaValR
namespace Go.Proofs.Ytlajfmpgodcbmaa
open Go.RowKit

set_option maxRecDepth 100000 in
set_option maxHeartbeats 2000000 in
theorem rhead_any (b : Nat) (s l : List UInt8) (e : Nat) (w : World) (h : Rq w b s l e) :
    Calls Try.prog 49 #[.pointer (some ⟨b, 0, none⟩)] w fun r w' => r = .returned (.tuple #[.bool (headS l e).1.1, .int .i64 (headS l e).1.2.1, .int .i64 (headS l e).1.2.2]) ∧ Rq w' b s (headS l e).2.1 (headS l e).2.2 ∧ Frm (· = b) w w' := by
  have H1 := Lib.hid (q_number 1 b s l e w h (by decide))
  unfold headS
  have hk : (numS 1 l e).1 < 256 := beN_lt 1 _ (nextS_len 1 l e)
  have hinv1 := numS_inv (n := 1) h.inv
  generalize numS 1 l e = p at *
  obtain ⟨k, l1, e1⟩ := p
  dsimp only at *
  by_cases hk0 : k = 0
  · subst hk0
    rw [if_pos rfl]
    have hn : (numS 2 l1 e1).1 < 65536 := beN_lt 2 _ (nextS_len 2 l1 e1)
    have hinv2 : e1 ≠ 0 → numS 2 l1 e1 = (0, l1, e1) := fun he => by
      have hl := hinv1 he
      subst hl; unfold numS nextS; simp [he]; rfl
    have H2 := Lib.hid (fun W (hr : Rq W b s l1 e1) => q_number 2 b s l1 e1 W hr (by decide))
    obtain ⟨n, l2, e2, hx⟩ : ∃ n l2 e2, numS 2 l1 e1 = (n, l2, e2) := ⟨_, _, _, rfl⟩
    simp only [hx] at H2 hn hinv2 ⊢
    clear hx
    by_cases he1 : e1 ≠ 0
    · have he1' : ((e1 : Int) != 0) = true := by rw [bne_iff_ne]; omega
      have HI := Lib.hid hinv2
      have hy := hinv2 he1
      cases hy
      rw [if_pos he1]
      clear he1 hinv2
      go_enter Try.func49, Try.ntmps49
      go_wp2_with fail
      refine H1.out.mono ?_
      rintro r w1 ⟨rfl, r1, g1⟩
      have c2 := r1.c2
      go_wp2_with fail
      refine wp_region_canon (fun W => W.cell? ⟨b, 2, none⟩ = some (.int .i64 e1) ∧ w1.drew = W) (by kernel_rfl) rfl (by kernel_rfl) (by kernel_rfl) (⟨c2, rfl⟩) ?_
      repeat' first
        | (refine CanonL.skip (by rfl) ?_; (try simp only [Act.put, List.setIfInBounds_toArray, List.set_cons_zero, List.set_cons_succ]))
        | (refine CanonL.val (v := ?_) (by rfl) ?_ ?_; rotate_left 1; (focus (intro w hSw; (try dsimp only at hSw); go_simp; (try (with_reducible rfl)); done)); (try simp only [Act.put, List.setIfInBounds_toArray, List.set_cons_zero, List.set_cons_succ]))
      refine CanonL.done ?_
      intro w9 hS9
      obtain ⟨_, rfl⟩ := hS9
      go_wp2_with fail
      refine bodyPost_ret (v := .tuple #[.bool false, .int .i64 0, .int .i64 e1]) (by simp [results, Try.results49, go_sem]) rfl ?_
      exact ⟨rfl, r1.keep ((Frm.refl _ w1).drew (X := fun _ => False)) (fun h => h), g1.drew⟩
    · obtain rfl : e1 = 0 := by omega
      clear he1 hinv2
      by_cases he : e2 ≠ 0
      · rw [if_pos he]
        have he' : ((e2 : Int) != 0) = true := by rw [bne_iff_ne]; omega
        clear he
        go_enter Try.func49, Try.ntmps49
        go_wp2_with fail
        refine H1.out.mono ?_
        rintro r w1 ⟨rfl, r1, g1⟩
        have c2 := r1.c2
        go_wp2_with fail
        clear c2
        refine (H2.out _ r1).mono ?_
        rintro r w2 ⟨rfl, r2, g2⟩
        have c2 := r2.c2
        go_wp2_with fail
        refine wp_region_canon (fun W => W.cell? ⟨b, 2, none⟩ = some (.int .i64 e2) ∧ w2.drew = W) (by kernel_rfl) rfl (by kernel_rfl) (by kernel_rfl) (⟨c2, rfl⟩) ?_
        repeat' first
          | (refine CanonL.skip (by rfl) ?_; (try simp only [Act.put, List.setIfInBounds_toArray, List.set_cons_zero, List.set_cons_succ]))
          | (refine CanonL.val (v := ?_) (by rfl) ?_ ?_; rotate_left 1; (focus (intro w hSw; (try dsimp only at hSw); go_simp; (try (with_reducible rfl)); done)); (try simp only [Act.put, List.setIfInBounds_toArray, List.set_cons_zero, List.set_cons_succ]))
        refine CanonL.done ?_
        intro w9 hS9
        obtain ⟨_, rfl⟩ := hS9
        go_wp2_with fail
        refine bodyPost_ret (v := .tuple #[.bool false, .int .i64 0, .int .i64 e2]) (by simp [results, Try.results49, go_sem]) rfl ?_
        exact ⟨rfl, r2.keep ((Frm.refl _ w2).drew (X := fun _ => False)) (fun h => h), (g1.trans g2).drew⟩
      · rw [if_neg he]
        obtain rfl : e2 = 0 := by omega
        clear he
        by_cases h256 : 256 < n
        · rw [if_pos (Or.inr h256 : 1 < 0 ∨ 256 < n)]
          have h256' : (256 : Int) < n := by omega
          go_enter Try.func49, Try.ntmps49
          go_wp2_with fail
          refine H1.out.mono ?_
          rintro r w1 ⟨rfl, r1, g1⟩
          have c2 := r1.c2
          go_wp2_with fail
          clear c2
          refine (H2.out _ r1).mono ?_
          rintro r w2 ⟨rfl, r2, g2⟩
          have c2 := r2.c2
          go_wp2_with fail
          refine bodyPost_ret (v := .tuple #[.bool false, .int .i64 0, .int .i64 4]) (by simp [results, Try.results49, go_sem]) rfl ?_
          exact ⟨rfl, r2, g1.trans g2⟩
        · rw [if_neg (by omega)]
          have h256' : (n : Int) ≤ 256 := by omega
          go_enter Try.func49, Try.ntmps49
          go_wp2_with fail
          refine H1.out.mono ?_
          rintro r w1 ⟨rfl, r1, g1⟩
          have c2 := r1.c2
          go_wp2_with fail
          clear c2
          refine (H2.out _ r1).mono ?_
          rintro r w2 ⟨rfl, r2, g2⟩
          have c2 := r2.c2
          go_wp2_with fail
          refine bodyPost_ret (v := .tuple #[.bool false, .int .i64 n, .int .i64 0]) (by simp [results, Try.results49, go_sem]) rfl ?_
          exact ⟨rfl, r2, g1.trans g2⟩
  · rw [if_neg hk0]
    dsimp only
    by_cases he : e1 ≠ 0
    · rw [if_pos he]
      have he' : ((e1 : Int) != 0) = true := by rw [bne_iff_ne]; omega
      clear he
      go_enter Try.func49, Try.ntmps49
      go_wp2_with fail
      refine H1.out.mono ?_
      rintro r w1 ⟨rfl, r1, g1⟩
      have c2 := r1.c2
      go_wp2_with fail
      refine wp_region_canon (fun W => W.cell? ⟨b, 2, none⟩ = some (.int .i64 e1) ∧ w1.drew = W) (by kernel_rfl) rfl (by kernel_rfl) (by kernel_rfl) (⟨c2, rfl⟩) ?_
      repeat' first
        | (refine CanonL.skip (by rfl) ?_; (try simp only [Act.put, List.setIfInBounds_toArray, List.set_cons_zero, List.set_cons_succ]))
        | (refine CanonL.val (v := ?_) (by rfl) ?_ ?_; rotate_left 1; (focus (intro w hSw; (try dsimp only at hSw); go_simp; (try (with_reducible rfl)); done)); (try simp only [Act.put, List.setIfInBounds_toArray, List.set_cons_zero, List.set_cons_succ]))
      refine CanonL.done ?_
      intro w9 hS9
      obtain ⟨_, rfl⟩ := hS9
      go_wp2_with fail
      refine bodyPost_ret (v := .tuple #[.bool false, .int .i64 0, .int .i64 e1]) (by simp [results, Try.results49, go_sem]) rfl ?_
      exact ⟨rfl, r1.keep ((Frm.refl _ w1).drew (X := fun _ => False)) (fun h => h), g1.drew⟩
    · rw [if_neg he]
      obtain rfl : e1 = 0 := by omega
      clear he
      by_cases hk1 : k = 1
      · subst hk1
        rw [if_neg (by omega)]
        go_enter Try.func49, Try.ntmps49
        go_wp2_with fail
        refine H1.out.mono ?_
        rintro r w1 ⟨rfl, r1, g1⟩
        have c2 := r1.c2
        go_wp2_with fail
        refine bodyPost_ret (v := .tuple #[.bool true, .int .i64 0, .int .i64 0]) (by simp [results, Try.results49, go_sem]) rfl ?_
        exact ⟨rfl, r1, g1⟩
      · rw [if_pos (by omega)]
        have hk1' : (1 : Int) < k := by omega
        go_enter Try.func49, Try.ntmps49
        go_wp2_with fail
        refine H1.out.mono ?_
        rintro r w1 ⟨rfl, r1, g1⟩
        have c2 := r1.c2
        go_wp2_with fail
        refine bodyPost_ret (v := .tuple #[.bool false, .int .i64 0, .int .i64 4]) (by simp [results, Try.results49, go_sem]) rfl ?_
        exact ⟨rfl, r1, g1⟩
end Go.Proofs.Ytlajfmpgodcbmaa
