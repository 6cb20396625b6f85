/- CodecKnown: the chapter's examples, and writers and readers that are none. No condition. -/
import Derived.Test.YtehnhhjahejbmaaCodecN
namespace Go.Proofs.Ytehnhhjahejbmaa
open Go.RowKit

set_option maxRecDepth 100000 in
set_option maxHeartbeats 4000000 in
theorem codecKnown_any (w : World) :
    Calls Try.prog 5 #[] w fun e w' => e = .returned (.bool true) ∧ Frm (fun _ => False) w w' := by
  go_enter Try.func5, Try.ntmps5
  go_wp2_with fail
  have hb := Wr.zero (Blk.alloc w 28 #[.pointer none, .int .i64 0])
  have f0 := (Frm.refl (fun _ => False) w).alloc (.cells #[.pointer none, .int .i64 0] 28)
  obtain ⟨w0, hw0⟩ : ∃ w0, w.alloc (.cells #[.pointer none, .int .i64 0] 28) = w0 := ⟨_, rfl⟩
  rw [hw0] at hb f0 ⊢
  clear hw0
  have n0 : ∀ k ∈ [w.heap.size], w.heap.size ≤ k := by simp
  have hem : (bs []).toList.isEmpty = true := by rw [bs_toList]; rfl
  refine (wu16_any _ [] _ 258 (by decide) w0 hb (by decide)).mono ?_
  intro e w1 r1
  obtain ⟨rfl, ⟨p1, h1, n1⟩, f1⟩ := Own1.step f0 n0 r1
  clear r1
  go_wp2_with fail
  refine (wvar_any _ _ p1 5 (by decide) w1 h1 (by decide)).mono ?_
  intro e w2 r2
  obtain ⟨rfl, ⟨p2, h2, n2⟩, f2⟩ := Own1.step f1 n1 r2
  clear r2
  go_wp2_with fail
  refine (wvar_any _ _ p2 128 (by decide) w2 h2 (by decide)).mono ?_
  intro e w3 r3
  obtain ⟨rfl, ⟨p3, h3, n3⟩, f3⟩ := Own1.step f2 n2 r3
  clear r3
  go_wp2_with fail
  refine (wvar_any _ _ p3 300 (by decide) w3 h3 (by decide)).mono ?_
  intro e w4 r4
  obtain ⟨rfl, ⟨p4, h4, n4⟩, f4⟩ := Own1.step f3 n3 r4
  clear r4
  go_wp2_with fail
  refine (wtext_any _ _ [97, 98] p4 w4 h4 (by decide) (by decide)).mono ?_
  intro e w5 r5
  obtain ⟨rfl, ⟨p5, h5, n5⟩, f5⟩ := Own1.step f4 n4 r5
  clear r5
  go_wp2_with fail
  refine (raw_any _ _ [99] p5 w5 h5 (by decide)).mono ?_
  intro e w6 r6
  obtain ⟨rfl, ⟨p6, h6, n6⟩, f6⟩ := Own1.step f5 n5 r6
  clear r6
  go_wp2_with fail
  have e6 : [] ++ beB 2 258 ++ varB 5 ++ varB 128 ++ varB 300 ++ textB [97, 98] ++ [99] = [1, 2, 5, 128, 1, 172, 2, 2, 97, 98, 99] := by decide
  rw [e6] at h6
  clear e6 h1 h2 h3 h4 h5 n1 n2 n3 n4 n5 f1 f2 f3 f4 f5 f0 n0 hb
  refine (bytes_any _ _ p6 w6 h6).mono ?_
  rintro e w7 ⟨rfl, g⟩
  have f7 := f6.trans g
  clear g f6 h6 n6
  have hs : ((bs [1, 2, 5, 128, 1, 172, 2, 2, 97, 98, 99]).toList == [1, 2, 5, 128, 1, 172, 2, 2, 97, 98, 99]) = true := by rw [bs_toList]; rfl
  go_wp2_with fail
  refine (reads_true [128, 0] 0 4 w7 (by decide) (by decide) (by decide)).mono ?_
  rintro e w8 ⟨rfl, g⟩
  have f8 := f7.trans g
  clear g f7
  go_wp2_with fail
  refine (reads_true [255, 255, 255, 255, 15] 4294967295 0 w8 (by decide) (by decide) (by decide)).mono ?_
  rintro e w9 ⟨rfl, g⟩
  have f9 := f8.trans g
  clear g f8
  go_wp2_with fail
  refine (reads_true [255, 255, 255, 255, 16] 0 4 w9 (by decide) (by decide) (by decide)).mono ?_
  rintro e w10 ⟨rfl, g⟩
  have f10 := f9.trans g
  clear g f9
  go_wp2_with fail
  refine (reads_true [255, 255, 255, 255, 128] 0 4 w10 (by decide) (by decide) (by decide)).mono ?_
  rintro e w11 ⟨rfl, g⟩
  have f11 := f10.trans g
  clear g f10
  go_wp2_with fail
  refine (reads_true [0] 0 0 w11 (by decide) (by decide) (by decide)).mono ?_
  rintro e w12 ⟨rfl, g⟩
  have f12 := f11.trans g
  clear g f11
  go_wp2_with fail
  refine (read_any [2, 97] w12 (by decide)).mono ?_
  rintro e w13 ⟨rfl, a13, g1⟩
  go_wp2_with fail
  refine (read_any [2, 97, 98, 99] w13 (by decide)).mono ?_
  rintro e w14 ⟨rfl, b14, g2⟩
  go_wp2_with fail
  refine (read_any [97, 98, 99] w14 (by decide)).mono ?_
  rintro e w15 ⟨rfl, c15, g3⟩
  have b15 := b14.keep g3 (fun h => h)
  have a15 := (a13.keep g2 (fun h => h)).keep g3 (fun h => h)
  have f15 := ((f12.trans g1).trans g2).trans g3
  have l0 := f12.size
  have l1 := a13.lt
  have l2 := b14.lt
  have l3 := c15.lt
  clear g1 g2 g3 f12 a13 b14
  generalize w12.heap.size = ba at *
  generalize w13.heap.size = bb at *
  generalize w14.heap.size = bc at *
  go_wp2_with fail
  have s_ab : ((bs [97, 98]).toList == [97, 98]) = true := by rw [bs_toList]; rfl
  have s_c : ((bs [99]).toList == [99]) = true := by rw [bs_toList]; rfl
  refine (rtext_any ba [2, 97] 0 w15 a15 (fun h => absurd rfl h)).mono ?_
  rw [show textS [2, 97] 0 = ([], [], 10) from by decide]
  rintro e w16 ⟨rfl, a16, g⟩
  have b16 := b15.keep g (by omega)
  have c16 := c15.keep g (by omega)
  have f16 : Frm (fun _ => False) w w16 := f15.next g (fun k hk e => by subst e; omega)
  clear g b15 c15 f15
  go_wp2_with fail
  refine (err_any ba [] 10 w16 a16).mono ?_
  rintro e w' ⟨rfl, rfl⟩
  go_wp2_with fail
  refine (end_any ba [] 10 w16 a16).mono ?_
  rw [show endS [] 10 = 10 from by decide]
  rintro e w' ⟨rfl, rfl⟩
  go_wp2_with fail
  refine (rtext_any bb [2, 97, 98, 99] 0 w16 b16 (fun h => absurd rfl h)).mono ?_
  rw [show textS [2, 97, 98, 99] 0 = ([97, 98], [99], 0) from by decide]
  rintro e w17 ⟨rfl, b17, g⟩
  have a17 := a16.keep g (by omega)
  have c17 := c16.keep g (by omega)
  have f17 : Frm (fun _ => False) w w17 := f16.next g (fun k hk e => by subst e; omega)
  clear g a16 c16 f16
  go_wp2_with fail
  refine (rest_any bb [99] 0 w17 b17).mono ?_
  rintro e w' ⟨rfl, rfl⟩
  go_wp2_with fail
  refine (end_any bb [99] 0 w17 b17).mono ?_
  rw [show endS [99] 0 = 4 from by decide]
  rintro e w' ⟨rfl, rfl⟩
  go_wp2_with fail
  refine (ru8_any bb [99] 0 w17 b17).mono ?_
  rw [show numS 1 [99] 0 = (99, [], 0) from by decide]
  rintro e w18 ⟨rfl, b18, g⟩
  have a18 := a17.keep g (by omega)
  have c18 := c17.keep g (by omega)
  have f18 : Frm (fun _ => False) w w18 := f17.next g (fun k hk e => by subst e; omega)
  clear g a17 c17 f17
  go_wp2_with fail
  refine (end_any bb [] 0 w18 b18).mono ?_
  rw [show endS [] 0 = 0 from by decide]
  rintro e w' ⟨rfl, rfl⟩
  go_wp2_with fail
  refine (fixed_pos bc [97, 98, 99] 0 2 w18 c18 (by omega)).mono ?_
  rw [show nextS 2 [97, 98, 99] 0 = ([97, 98], [99], 0) from by decide]
  rintro e w19 ⟨rfl, c19, g⟩
  have a19 := a18.keep g (by omega)
  have b19 := b18.keep g (by omega)
  have f19 : Frm (fun _ => False) w w19 := f18.next g (fun k hk e => by subst e; omega)
  clear g a18 b18 f18
  go_wp2_with fail
  refine (fixed_neg bc [99] 0 (-1) w19 c19 (by omega) (by omega)).mono ?_
  rw [show nextS 0 [99] 0 = ([], [99], 0) from by decide]
  rintro e w20 ⟨rfl, c20, g⟩
  have a20 := a19.keep g (by omega)
  have b20 := b19.keep g (by omega)
  have f20 : Frm (fun _ => False) w w20 := f19.next g (fun k hk e => by subst e; omega)
  clear g a19 b19 f19
  go_wp2_with fail
  refine (err_any bc [99] 0 w20 c20).mono ?_
  rintro e w' ⟨rfl, rfl⟩
  go_wp2_with fail
  refine (fixed_pos bc [99] 0 9 w20 c20 (by omega)).mono ?_
  rw [show nextS 9 [99] 0 = ([], [], 10) from by decide]
  rintro e w21 ⟨rfl, c21, g⟩
  have a21 := a20.keep g (by omega)
  have b21 := b20.keep g (by omega)
  have f21 : Frm (fun _ => False) w w21 := f20.next g (fun k hk e => by subst e; omega)
  clear g a20 b20 f20
  go_wp2_with fail
  refine (err_any bc [] 10 w21 c21).mono ?_
  rintro e w' ⟨rfl, rfl⟩
  go_wp2_with fail
  refine (ru8_any bc [] 10 w21 c21).mono ?_
  rw [show numS 1 [] 10 = (0, [], 10) from by decide]
  rintro e w22 ⟨rfl, c22, g⟩
  have a22 := a21.keep g (by omega)
  have b22 := b21.keep g (by omega)
  have f22 : Frm (fun _ => False) w w22 := f21.next g (fun k hk e => by subst e; omega)
  clear g a21 b21 f21
  go_wp2_with fail
  refine (rest_any bc [] 10 w22 c22).mono ?_
  rintro e w' ⟨rfl, rfl⟩
  go_wp2_with fail
  clear a22 b22 c22 s_ab s_c hs l0 l1 l2 l3
  have hb := Wr.zero (Blk.alloc w22 28 #[.pointer none, .int .i64 0])
  have g0 := f22.alloc (.cells #[.pointer none, .int .i64 0] 28)
  have hbx : ∀ k ∈ [w22.heap.size], w.heap.size ≤ k := by have := f22.size; simp; omega
  obtain ⟨x0, hx0⟩ : ∃ x0, w22.alloc (.cells #[.pointer none, .int .i64 0] 28) = x0 := ⟨_, rfl⟩
  rw [hx0] at hb g0 ⊢
  clear hx0 f22
  refine (wu32_any _ [] _ 2147483650 (by decide) x0 hb (by decide)).mono ?_
  intro e x1 r
  obtain ⟨rfl, ⟨q1, h1, n1⟩, g1⟩ := Own1.step g0 hbx r
  clear r g0 hbx hb
  rw [show [] ++ beB 4 2147483650 = [128, 0, 0, 2] from by decide] at h1
  go_wp2_with fail
  refine (wtext_none [97] (by decide) x1).mono ?_
  rintro e x2 ⟨rfl, g⟩
  have h2 := h1.keep g (fun _ _ h => h)
  have g2 := g1.trans g
  clear g g1 h1
  go_wp2_with fail
  refine (wvar_none 1 (by decide) x2).mono ?_
  rintro e x3 ⟨rfl, g⟩
  have h3 := h2.keep g (fun _ _ h => h)
  have g3 := g2.trans g
  clear g g2 h2
  go_wp2_with fail
  refine (bytes_any _ _ _ x3 h3).mono ?_
  rintro e x4 ⟨rfl, g⟩
  have g4 := g3.trans g
  clear g g3 h3
  have s_x : ((bs [128, 0, 0, 2]).toList == [128, 0, 0, 2]) = true := by rw [bs_toList]; rfl
  go_wp2_with fail
  refine (bytes_none x4).mono ?_
  rintro e w' ⟨rfl, rfl⟩
  go_wp2_with fail
  refine (u32_nil x4).mono ?_
  rintro e x5 ⟨rfl, g⟩
  have g5 := g4.trans g
  clear g g4
  go_wp2_with fail
  refine (var_nil x5).mono ?_
  rintro e x6 ⟨rfl, g⟩
  have g6 := g5.trans g
  clear g g5
  go_wp2_with fail
  refine (text_nil x6).mono ?_
  rintro e x7 ⟨rfl, g⟩
  have g7 := g6.trans g
  clear g g6
  go_wp2_with fail
  refine (fixed_nil 1 (by omega) (by omega) x7).mono ?_
  rintro e w' ⟨rfl, rfl⟩
  go_wp2_with fail
  refine (err_nil x7).mono ?_
  rintro e w' ⟨rfl, rfl⟩
  go_wp2_with fail
  refine (rest_nil x7).mono ?_
  rintro e w' ⟨rfl, rfl⟩
  go_wp2_with fail
  refine (end_nil x7).mono ?_
  rintro e w' ⟨rfl, rfl⟩
  go_wp2_with fail
  refine (awake_any x7).mono ?_
  rintro e x8 ⟨rfl, g⟩
  go_wp2_with fail
  go_ret
  exact ⟨rfl, g7.trans g⟩
end Go.Proofs.Ytehnhhjahejbmaa
