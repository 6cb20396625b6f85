/- The law's own small calls: some of the chapter's answers. -/
import Derived.Test.YtalalekbeabhiaaCodecX
namespace Go.Proofs.Ytalalekbeabhiaa
open Go.RowKit

set_option maxHeartbeats 400000 in
theorem read_any (l : List UInt8) (w : World) (hl : l.length ≤ 140737488355328) :
    Calls Try.prog 12 #[.string (bs l)] w fun e w' => e = .returned (.pointer (some ⟨w.heap.size, 0, none⟩)) ∧ Rd w' w.heap.size l 0 ∧ Frm (fun _ => False) w w' := by
  go_enter Try.func12, Try.ntmps12
  go_wp2
  go_ret
  exact ⟨rfl, ⟨Blk.alloc w _ _, hl, by omega⟩, (Frm.refl _ w).alloc _⟩

theorem Frm.new {w w1 w2 : World} {X Y : Nat → Prop} (h : Frm X w w1) (h' : Frm Y w1 w2) (hy : ∀ k, Y k → w.heap.size ≤ k) : Frm X w w2 := h.next h' fun k hk hY => by have := hy k hY; omega

set_option maxHeartbeats 1000000 in
theorem reads_true (l : List UInt8) (n x : Nat) (w : World) (hl : l.length ≤ 140737488355328) (h1 : (varS l 0).1 = n) (h2 : (varS l 0).2.2 = x) :
    Calls Try.prog 23 #[.string (bs l), .int .u32 n, .int .i64 x] w fun e w' => e = .returned (.bool true) ∧ Frm (fun _ => False) w w' := by
  subst h1 h2
  go_enter Try.func23, Try.ntmps23
  go_wp2_with fail
  refine (read_any l _ hl).mono ?_
  rintro e w1 ⟨rfl, r1, f1⟩
  go_wp2_with fail
  refine (var_any _ l 0 _ r1 (fun h => absurd rfl h)).mono ?_
  rintro e w2 ⟨rfl, r2, f2⟩
  go_wp2_with fail
  refine (err_any _ _ _ _ r2).mono ?_
  rintro e w3 ⟨rfl, rfl⟩
  go_wp2_with fail
  go_ret
  exact ⟨rfl, f1.new f2 (by rintro k rfl; exact Nat.le_refl _)⟩

set_option maxRecDepth 100000 in
set_option maxHeartbeats 1000000 in
theorem awake_any (w : World) :
    Calls Try.prog 9 #[] w fun e w' => e = .returned (.bool true) ∧ Frm (fun _ => False) w w' := by
  go_enter Try.func9, Try.ntmps9
  go_wp2_with fail
  have hb := Wr.zero (Blk.alloc w 28 #[.pointer none, .int .i64 0])
  have f0 := (Frm.refl (fun _ => False) w).alloc (.cells #[.pointer none, .int .i64 0] 28)
  obtain ⟨w0, hw0⟩ : ∃ w0, w.alloc (.cells #[.pointer none, .int .i64 0] 28) = w0 := ⟨_, rfl⟩
  rw [hw0] at hb f0 ⊢
  clear hw0
  have hn : ∀ k ∈ [w.heap.size], w.heap.size ≤ k := by simp
  refine (wu16_any _ [] _ 258 (by decide) w0 hb (by decide)).mono ?_
  intro e w1 r1
  obtain ⟨rfl, ⟨fp, h1, n1⟩, f1⟩ := Own1.step f0 hn r1
  clear r1
  go_wp2_with fail
  refine (wvar_any _ _ fp 300 (by decide) w1 h1 (by decide)).mono ?_
  intro e w2 r2
  obtain ⟨rfl, ⟨fp2, h2, n2⟩, f2⟩ := Own1.step f1 n1 r2
  clear r2
  go_wp2_with fail
  refine (wtext_any _ _ [97, 98] fp2 w2 h2 (by decide) (by decide)).mono ?_
  intro e w3 r3
  obtain ⟨rfl, ⟨fp3, h3, n3⟩, f3⟩ := Own1.step f2 n2 r3
  clear r3
  go_wp2_with fail
  have e : [] ++ beB 2 258 ++ varB 300 ++ textB [97, 98] = [1, 2, 172, 2, 2, 97, 98] := by decide
  rw [e] at h3
  clear e
  refine (bytes_any _ _ fp3 w3 h3).mono ?_
  rintro e w4 ⟨rfl, f4⟩
  have hs : ((bs [1, 2, 172, 2, 2, 97, 98]).toList == [1, 2, 172, 2, 2, 97, 98]) = true := by rw [bs_toList]; rfl
  go_wp2_with fail
  refine (reads_true [172, 2] 300 0 w4 (by decide) (by decide) (by decide)).mono ?_
  rintro e w5 ⟨rfl, f5⟩
  go_wp2_with fail
  refine (reads_true [128] 0 10 w5 (by decide) (by decide) (by decide)).mono ?_
  rintro e w6 ⟨rfl, f6⟩
  go_wp2_with fail
  go_ret
  exact ⟨rfl, ((f3.trans f4).trans f5).trans f6⟩
end Go.Proofs.Ytalalekbeabhiaa
