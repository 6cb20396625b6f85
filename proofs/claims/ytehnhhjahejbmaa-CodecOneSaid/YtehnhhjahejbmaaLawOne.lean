/- CodecOne: a var number that is read without an error, written anew, is what was read; a greater one is not shorter. Of any text, any two numbers. No condition. -/
import Derived.Test.YtehnhhjahejbmaaLawA
import Derived.Test.YtehnhhjahejbmaaCodecM
namespace Go.Proofs.Ytehnhhjahejbmaa
open Go.RowKit

set_option maxRecDepth 100000 in
set_option maxHeartbeats 2000000 in
theorem codecOne_few (s : List UInt8) (a b : Nat) (ha : a < 4294967296) (hb : b < 4294967296) (w : World) (hl : s.length ≤ 300) :
    Calls Try.prog 7 #[.string (bs s), .int .u32 a, .int .u32 b] w fun e w' => e = .returned (.bool true) ∧ Frm (fun _ => False) w w' := by
  have hsz : (bs s).size ≤ 300 := hl
  go_enter Try.func7, Try.ntmps7
  go_wp2_with fail
  refine (read_any s _ (by omega)).mono ?_
  rintro e w1 ⟨rfl, r1, f1⟩
  go_wp2_with fail
  refine (var_any _ s 0 _ r1 (fun h => absurd rfl h)).mono ?_
  rintro e w2 ⟨rfl, r2, f2⟩
  have f2' : Frm (fun _ => False) w w2 := f1.new f2 (by rintro k rfl; exact Nat.le_refl _)
  have r2lt := r2.lt
  have hw2 := f2'.size
  clear f1 f2 r1
  go_wp2_with fail
  obtain ⟨w5, hw5⟩ : ∃ w5, ((w2.alloc (.cells #[.pointer none, .int .i64 0] 28)).alloc (.cells #[.pointer none, .int .i64 0] 28)).alloc (.cells #[.pointer none, .int .i64 0] 28) = w5 := ⟨_, rfl⟩
  have g5 : Frm (fun _ => False) w2 w5 := by rw [← hw5]; exact (((Frm.refl _ w2).alloc _).alloc _).alloc _
  have z5 : w5.heap.size = w2.heap.size + 3 := by rw [← hw5]; simp
  have v5 : Wr w5 w2.heap.size [] [w2.heap.size] := by rw [← hw5]; exact Wr.zero (((Blk.alloc w2 _ _).old _).old _)
  have x5 : Wr w5 (w2.heap.size + 1) [] [w2.heap.size + 1] := by
    rw [← hw5]
    have h := (Blk.alloc (w2.alloc (.cells #[.pointer none, .int .i64 0] 28)) 28 #[.pointer none, .int .i64 0]).old (.cells #[.pointer none, .int .i64 0] 28)
    exact Wr.zero (by simpa using h)
  have y5 : Wr w5 (w2.heap.size + 1 + 1) [] [w2.heap.size + 1 + 1] := by
    rw [← hw5]
    have h := Blk.alloc ((w2.alloc (.cells #[.pointer none, .int .i64 0] 28)).alloc (.cells #[.pointer none, .int .i64 0] 28)) 28 #[.pointer none, .int .i64 0]
    exact Wr.zero (by simpa using h)
  have r5 := r2.keep g5 (fun h => h)
  have f5 := f2'.trans g5
  rw [hw5]
  have Z5 := Lib.hid z5
  clear hw5 g5 f2' r2 z5
  have hv := varS_lt s 0
  refine (wvar_any _ [] _ _ hv w5 v5 (by decide)).mono ?_
  rintro e w6 ⟨rfl, fv, v6, g6, n6⟩
  have x6 := x5.keep g6 (by simp)
  have y6 := y5.keep g6 (by simp; omega)
  have r6 := r5.keep g6 (by simp; omega)
  have f6 : Frm (fun _ => False) w w6 := f5.next g6 (fun k hk h => by simp at h; omega)
  rw [List.nil_append] at v6
  have x6lt : w2.heap.size + 2 < w6.heap.size := by have := Z5.out; have := g6.size; omega
  clear g6 n6 x5 y5 r5 v5 f5
  go_wp2_with fail
  refine (err_any _ _ _ _ r6).mono ?_
  rintro e w7 ⟨rfl, rfl⟩
  have q1 : (1 : Int) ≤ ((bs (varB a)).size : Int) := by have := varB_pos a; rw [bs_size]; omega
  have q2 : ((bs (varB a)).size : Int) ≤ 5 := by have := varB_len a; rw [bs_size]; omega
  have q3 : ((a : Int) == (b : Int)) = ((bs (varB a)).toList == (bs (varB b)).toList) := by
    rw [bs_toList, bs_toList, Bool.eq_iff_iff, beq_iff_eq, beq_iff_eq]
    exact ⟨fun h => by rw [show a = b by omega], fun h => by rw [varB_inj ha hb h]⟩

  have Hv := Lib.hid hv
  clear hv
  by_cases he : (varS s 0).2.2 = 0
  · have hE := Lib.hid he
    rw [he] at r6
    have he1 : (((varS s 0).2.2 : Int) == 0) = true := by rw [he]; rfl
    clear he
    go_wp2_with fail
    refine (bytes_any _ _ _ w6 v6).mono ?_
    rintro e w60 ⟨rfl, g⟩
    have x60 := x6.keep g (fun _ _ h => h)
    have y60 := y6.keep g (fun _ _ h => h)
    have r60 := r6.keep g (fun h => h)
    have f60 := f6.trans g
    have x60lt : w2.heap.size + 2 < w60.heap.size := Nat.lt_of_lt_of_le x6lt g.size
    clear g x6 y6 r6 f6 v6 x6lt
    go_wp2_with fail
    refine (rest_any _ _ _ _ r60).mono ?_
    rintro e w61 ⟨rfl, rfl⟩
    have h3 : varS s 0 = ((varS s 0).1, (varS s 0).2.1, 0) := Prod.ext rfl (Prod.ext rfl hE.out)
    have h4 := (varS_read h3).1
    have hw6 : ((bs (varB (varS s 0).1) ++ bs (varS s 0).2.1).toList == (bs s).toList) = true := by rw [bs_append, h4, beq_self_eq_true]
    have hw7 : (bs (varB (varS s 0).1)).size + (bs (varS s 0).2.1).size ≤ 9223372036854775807 := by
      have h5 := congrArg List.length h4
      rw [List.length_append] at h5
      rw [bs_size, bs_size]
      omega
    clear h3 h4
    go_wp2_with fail
    refine (wvar_any _ [] _ a ha w60 x60 (by decide)).mono ?_
    rintro e w7 ⟨rfl, fx, x7, g7, n7⟩
    have y7 : Wr w7 (w2.heap.size + 1 + 1) [] [w2.heap.size + 1 + 1] := y60.keep g7 (by simp)
    have f7 : Frm (fun _ => False) w w7 := f60.next g7 (by simp; omega)
    clear g7
    go_wp2_with fail
    refine (wvar_any _ [] _ b hb w7 y7 (by decide)).mono ?_
    rintro e w8 ⟨rfl, fy, y8, g8, n8⟩
    have hfx : ∀ k ∈ fx, k ≠ w2.heap.size + 1 + 1 := by
      intro k hk e
      rcases n7 k hk with h | h
      · simp at h; omega
      · have := x60lt; omega
    have x8 : Wr w8 (w2.heap.size + 1) (varB a) fx := x7.keep g8 (fun k hk h => hfx k hk (by simpa using h))
    have f8 : Frm (fun _ => False) w w8 := f7.next g8 (by simp; omega)
    rw [List.nil_append] at y8
    clear g8 n7 n8 hfx x7 y7
    by_cases hab : b < a
    · go_wp2_with fail
      refine (bytes_any _ _ _ w8 x8).mono ?_
      rintro e w9 ⟨rfl, g⟩
      have x9 := x8.keep g (fun _ _ h => h)
      have y9 := y8.keep g (fun _ _ h => h)
      have f9 := f8.trans g
      clear g
      go_wp2_with fail
      refine (bytes_any _ _ _ w9 y9).mono ?_
      rintro e w10 ⟨rfl, g⟩
      have x10 := x9.keep g (fun _ _ h => h)
      have y10 := y9.keep g (fun _ _ h => h)
      have f10 := f9.trans g
      clear g
      go_wp2_with fail
      refine (bytes_any _ _ _ w10 x10).mono ?_
      rintro e w11 ⟨rfl, g⟩
      have x11 := x10.keep g (fun _ _ h => h)
      have y11 := y10.keep g (fun _ _ h => h)
      have f11 := f10.trans g
      clear g
      go_wp2_with fail
      refine (bytes_any _ _ _ w11 x11).mono ?_
      rintro e w12 ⟨rfl, g⟩
      have x12 := x11.keep g (fun _ _ h => h)
      have y12 := y11.keep g (fun _ _ h => h)
      have f12 := f11.trans g
      clear g
      go_wp2_with fail
      refine (awake_any w12).mono ?_
      rintro e w13 ⟨rfl, g⟩
      go_wp2_with fail
      go_ret
      exact ⟨rfl, f12.trans g⟩
    · have q4 : ((bs (varB a)).size : Int) ≤ ((bs (varB b)).size : Int) := by have := varB_mono (a := a) (b := b) (by omega); rw [bs_size, bs_size]; omega
      go_wp2_with fail
      refine (bytes_any _ _ _ w8 x8).mono ?_
      rintro e w9 ⟨rfl, g⟩
      have x9 := x8.keep g (fun _ _ h => h)
      have y9 := y8.keep g (fun _ _ h => h)
      have f9 := f8.trans g
      clear g
      go_wp2_with fail
      refine (bytes_any _ _ _ w9 y9).mono ?_
      rintro e w10 ⟨rfl, g⟩
      have x10 := x9.keep g (fun _ _ h => h)
      have y10 := y9.keep g (fun _ _ h => h)
      have f10 := f9.trans g
      clear g
      go_wp2_with fail
      refine (bytes_any _ _ _ w10 x10).mono ?_
      rintro e w11 ⟨rfl, g⟩
      have x11 := x10.keep g (fun _ _ h => h)
      have y11 := y10.keep g (fun _ _ h => h)
      have f11 := f10.trans g
      clear g
      go_wp2_with fail
      refine (bytes_any _ _ _ w11 y11).mono ?_
      rintro e w12 ⟨rfl, g⟩
      have x12 := x11.keep g (fun _ _ h => h)
      have y12 := y11.keep g (fun _ _ h => h)
      have f12 := f11.trans g
      clear g
      go_wp2_with fail
      refine (bytes_any _ _ _ w12 x12).mono ?_
      rintro e w13 ⟨rfl, g⟩
      have x13 := x12.keep g (fun _ _ h => h)
      have y13 := y12.keep g (fun _ _ h => h)
      have f13 := f12.trans g
      clear g
      go_wp2_with fail
      refine (bytes_any _ _ _ w13 x13).mono ?_
      rintro e w14 ⟨rfl, g⟩
      have x14 := x13.keep g (fun _ _ h => h)
      have y14 := y13.keep g (fun _ _ h => h)
      have f14 := f13.trans g
      clear g
      go_wp2_with fail
      refine (awake_any w14).mono ?_
      rintro e w15 ⟨rfl, g⟩
      go_wp2_with fail
      go_ret
      exact ⟨rfl, f14.trans g⟩
  · have he1 : (((varS s 0).2.2 : Int) == 0) = false := by simpa using he
    go_wp2_with fail
    refine (wvar_any _ [] _ a ha w6 x6 (by decide)).mono ?_
    rintro e w7 ⟨rfl, fx, x7, g7, n7⟩
    have y7 : Wr w7 (w2.heap.size + 1 + 1) [] [w2.heap.size + 1 + 1] := y6.keep g7 (by simp)
    have f7 : Frm (fun _ => False) w w7 := f6.next g7 (by simp; omega)
    clear g7
    go_wp2_with fail
    refine (wvar_any _ [] _ b hb w7 y7 (by decide)).mono ?_
    rintro e w8 ⟨rfl, fy, y8, g8, n8⟩
    have hfx : ∀ k ∈ fx, k ≠ w2.heap.size + 1 + 1 := by
      intro k hk e
      rcases n7 k hk with h | h
      · simp at h; omega
      · have := x6lt; omega
    have x8 : Wr w8 (w2.heap.size + 1) (varB a) fx := x7.keep g8 (fun k hk h => hfx k hk (by simpa using h))
    have f8 : Frm (fun _ => False) w w8 := f7.next g8 (by simp; omega)
    rw [List.nil_append] at y8
    clear g8 n7 n8 hfx x7 y7
    by_cases hab : b < a
    · go_wp2_with fail
      refine (bytes_any _ _ _ w8 x8).mono ?_
      rintro e w9 ⟨rfl, g⟩
      have x9 := x8.keep g (fun _ _ h => h)
      have y9 := y8.keep g (fun _ _ h => h)
      have f9 := f8.trans g
      clear g
      go_wp2_with fail
      refine (bytes_any _ _ _ w9 y9).mono ?_
      rintro e w10 ⟨rfl, g⟩
      have x10 := x9.keep g (fun _ _ h => h)
      have y10 := y9.keep g (fun _ _ h => h)
      have f10 := f9.trans g
      clear g
      go_wp2_with fail
      refine (bytes_any _ _ _ w10 x10).mono ?_
      rintro e w11 ⟨rfl, g⟩
      have x11 := x10.keep g (fun _ _ h => h)
      have y11 := y10.keep g (fun _ _ h => h)
      have f11 := f10.trans g
      clear g
      go_wp2_with fail
      refine (bytes_any _ _ _ w11 x11).mono ?_
      rintro e w12 ⟨rfl, g⟩
      have x12 := x11.keep g (fun _ _ h => h)
      have y12 := y11.keep g (fun _ _ h => h)
      have f12 := f11.trans g
      clear g
      go_wp2_with fail
      refine (awake_any w12).mono ?_
      rintro e w13 ⟨rfl, g⟩
      go_wp2_with fail
      go_ret
      exact ⟨rfl, f12.trans g⟩
    · have q4 : ((bs (varB a)).size : Int) ≤ ((bs (varB b)).size : Int) := by have := varB_mono (a := a) (b := b) (by omega); rw [bs_size, bs_size]; omega
      go_wp2_with fail
      refine (bytes_any _ _ _ w8 x8).mono ?_
      rintro e w9 ⟨rfl, g⟩
      have x9 := x8.keep g (fun _ _ h => h)
      have y9 := y8.keep g (fun _ _ h => h)
      have f9 := f8.trans g
      clear g
      go_wp2_with fail
      refine (bytes_any _ _ _ w9 y9).mono ?_
      rintro e w10 ⟨rfl, g⟩
      have x10 := x9.keep g (fun _ _ h => h)
      have y10 := y9.keep g (fun _ _ h => h)
      have f10 := f9.trans g
      clear g
      go_wp2_with fail
      refine (bytes_any _ _ _ w10 x10).mono ?_
      rintro e w11 ⟨rfl, g⟩
      have x11 := x10.keep g (fun _ _ h => h)
      have y11 := y10.keep g (fun _ _ h => h)
      have f11 := f10.trans g
      clear g
      go_wp2_with fail
      refine (bytes_any _ _ _ w11 y11).mono ?_
      rintro e w12 ⟨rfl, g⟩
      have x12 := x11.keep g (fun _ _ h => h)
      have y12 := y11.keep g (fun _ _ h => h)
      have f12 := f11.trans g
      clear g
      go_wp2_with fail
      refine (bytes_any _ _ _ w12 x12).mono ?_
      rintro e w13 ⟨rfl, g⟩
      have x13 := x12.keep g (fun _ _ h => h)
      have y13 := y12.keep g (fun _ _ h => h)
      have f13 := f12.trans g
      clear g
      go_wp2_with fail
      refine (bytes_any _ _ _ w13 x13).mono ?_
      rintro e w14 ⟨rfl, g⟩
      have x14 := x13.keep g (fun _ _ h => h)
      have y14 := y13.keep g (fun _ _ h => h)
      have f14 := f13.trans g
      clear g
      go_wp2_with fail
      refine (awake_any w14).mono ?_
      rintro e w15 ⟨rfl, g⟩
      go_wp2_with fail
      go_ret
      exact ⟨rfl, f14.trans g⟩


theorem codecOne_any (s : List UInt8) (a b : Nat) (ha : a < 4294967296) (hb : b < 4294967296) (w : World) :
    Calls Try.prog 7 #[.string (bs s), .int .u32 a, .int .u32 b] w fun e w' => e = .returned (.bool true) ∧ Frm (fun _ => False) w w' := by
  by_cases hl : s.length ≤ 300
  · exact codecOne_few s a b ha hb w hl
  · have hsz : (300 : Int) < ((bs s).size : Int) := by rw [bs_size]; omega
    go_enter Try.func7, Try.ntmps7
    go_wp2_with fail
    refine (awake_any _).mono ?_
    rintro e w1 ⟨rfl, f1⟩
    go_wp2_with fail
    go_ret
    exact ⟨rfl, f1⟩
end Go.Proofs.Ytehnhhjahejbmaa
