/- The statement ValueKnown, walked. -/
import Derived.Test.YtlajfmpgodcbmaaLawVaChunks
import Derived.Test.YtlajfmpgodcbmaaCodecN
namespace Go.Proofs.Ytlajfmpgodcbmaa
open Go.RowKit Go.Shelf
attribute [local go_sem] Oper.semAt_some

set_option maxRecDepth 100000 in
set_option maxHeartbeats 400000 in
theorem take8_nil (w : World) : Calls Try.prog 75 #[.pointer none] w fun r w' => r = .returned (.int .u8 0) ∧ Frm (fun _ => False) w w' := by
  go_enter Try.func75, Try.ntmps75
  go_wp2_with (first | (go_at_call 80; refine (width8 _).mono ?_; rintro r w' ⟨rfl, rfl⟩) | (go_at_call 66; refine (next_nil _ _).mono ?_; rintro r w1 ⟨rfl, rfl⟩))
  obtain ⟨cap, w2, hrun, hrow, hg, hz⟩ := run_bytes_of (P := Try.prog) Try.underlying9 Try.underlying94 Try.underlying5 [] w (by decide)
  rw [hrun]
  clear hrun
  have h4 : Frm (fun _ => False) w w2 := (Frm.refl _ _).grown hg (fun _ _ e => by cases e)
  clear hg hz
  go_wp2
  go_loop [3, 12] (fun n i => n = .int .u32 0 ∧ i = .int .i64 0) (fun _ _ => 0)
  case atStart => exact ⟨rfl, rfl⟩
  case round =>
    obtain ⟨rfl, rfl⟩ := hrel
    go_wp2
    go_ret
    exact ⟨rfl, h4⟩
set_option maxRecDepth 100000 in
set_option maxHeartbeats 400000 in
theorem u8_nil (w : World) : Calls Try.prog 63 #[.pointer none] w fun r w' => r = .returned (.int .u8 0) ∧ Frm (fun _ => False) w w' := by
  go_enter Try.func63, Try.ntmps63
  go_wp2_with (go_at_call 75; refine (take8_nil _).mono ?_; rintro r w' ⟨rfl, h1⟩)
  go_ret
  exact ⟨rfl, h1⟩
set_option maxRecDepth 100000 in
set_option maxHeartbeats 400000 in
theorem take16_nil (w : World) : Calls Try.prog 76 #[.pointer none] w fun r w' => r = .returned (.int .u16 0) ∧ Frm (fun _ => False) w w' := by
  go_enter Try.func76, Try.ntmps76
  go_wp2_with (first | (go_at_call 81; refine (width16 _).mono ?_; rintro r w' ⟨rfl, rfl⟩) | (go_at_call 66; refine (next_nil _ _).mono ?_; rintro r w1 ⟨rfl, rfl⟩))
  obtain ⟨cap, w2, hrun, hrow, hg, hz⟩ := run_bytes_of (P := Try.prog) Try.underlying9 Try.underlying94 Try.underlying5 [] w (by decide)
  rw [hrun]
  clear hrun
  have h4 : Frm (fun _ => False) w w2 := (Frm.refl _ _).grown hg (fun _ _ e => by cases e)
  clear hg hz
  go_wp2
  go_loop [3, 12] (fun n i => n = .int .u32 0 ∧ i = .int .i64 0) (fun _ _ => 0)
  case atStart => exact ⟨rfl, rfl⟩
  case round =>
    obtain ⟨rfl, rfl⟩ := hrel
    go_wp2
    go_ret
    exact ⟨rfl, h4⟩
set_option maxRecDepth 100000 in
set_option maxHeartbeats 400000 in
theorem u16_nil (w : World) : Calls Try.prog 64 #[.pointer none] w fun r w' => r = .returned (.int .u16 0) ∧ Frm (fun _ => False) w w' := by
  go_enter Try.func64, Try.ntmps64
  go_wp2_with (go_at_call 76; refine (take16_nil _).mono ?_; rintro r w' ⟨rfl, h1⟩)
  go_ret
  exact ⟨rfl, h1⟩
set_option maxRecDepth 100000 in
set_option maxHeartbeats 1000000 in
theorem head_nil (w : World) : Calls Try.prog 45 #[.pointer none] w fun r w' => r = .returned (.tuple #[.bool false, .int .i64 0, .int .i64 1]) ∧ Frm (fun _ => False) w w' := by
  go_enter Try.func45, Try.ntmps45
  go_wp2_with fail
  refine (u8_nil _).mono ?_
  rintro r w1 ⟨rfl, g1⟩
  go_wp2_with fail
  refine (u16_nil _).mono ?_
  rintro r w2 ⟨rfl, g2⟩
  go_wp2_with fail
  refine (err_nil _).mono ?_
  rintro r w3 ⟨rfl, rfl⟩
  go_wp2_with fail
  refine bodyPost_ret (v := .tuple #[.bool false, .int .i64 0, .int .i64 1]) (by simp [results, Try.results45, go_sem]) rfl ?_
  exact ⟨rfl, g1.trans g2⟩
set_option maxRecDepth 100000 in
set_option maxHeartbeats 1000000 in
theorem take_none (w : World) : Calls Try.prog 24 #[.pointer none] w fun r w' => r = .returned (.tuple #[.agg av0, .int .i64 1]) ∧ Frm (fun _ => False) w w' := by
  have b0 := Blk.alloc w 24 av0
  have g0 : Frm (fun _ => False) w (w.alloc (.cells av0 24)) := (Frm.refl _ w).alloc _
  go_enter Try.func24, Try.ntmps24
  go_wp2_with fail
  refine (head_nil _).mono ?_
  rintro r w1 ⟨rfl, g1⟩
  have b1 := b0.keep g1 (fun h => h)
  have m0 := b1.free 0
  have m1 := b1.free 1
  have m2 := b1.free 2
  have p0 := b1.cell 0 rfl
  have p1 := b1.cell 1 rfl
  have p2 := b1.cell 2 rfl
  have b9 := ((b1.set 0 (.bool false)).set 1 (.int .i64 0)).set 2 (.slice none 0 0)
  have q0 := b9.cell 0 rfl
  have q1 := b9.cell 1 rfl
  have q2 := b9.cell 2 rfl
  go_wp2_with fail
  refine bodyPost_ret (v := .tuple #[.agg av0, .int .i64 1]) (by simp [results, Try.results24, go_sem, q0, q1, q2]) rfl ?_
  exact ⟨rfl, (((g0.trans g1).setCell (p := ⟨w.heap.size, 0, none⟩) (fun h => absurd h (by simp)) _).setCell (p := ⟨w.heap.size, 1, none⟩) (fun h => absurd h (by simp)) _).setCell (p := ⟨w.heap.size, 2, none⟩) (fun h => absurd h (by simp)) _⟩
theorem ids_made (w : World) (l : List Nat) (cs : Array Value) (hc : cs.toList = u32s l) (hm : l.length ≤ maxLen := by decide) : Ids (w.alloc (.cells cs 35)) (.slice (some ⟨w.heap.size, 0, none⟩) l.length l.length) l := by
  have hb := Blk.alloc w 35 cs
  refine ⟨by simp [u32s], _, l.length, rfl, Nat.le_refl _, hm, .inr ⟨_, 0, rfl, hb.lt, fun j hj => ?_⟩⟩
  have hj2 : j < cs.size := by rw [← Array.length_toList, hc, u32s_length]; omega
  rw [Nat.zero_add, hb.cell j (v := cs[j]) (by simp [hj2]), ← hc]
  simp [hj2]
theorem repeat_any (c : UInt8) (n : Nat) (w : World) (hn : n ≤ 1000) : Calls Try.prog 30 #[.string ⟨#[c]⟩, .int .i64 n] w fun e w' => e = .returned (.string (bs (Lib.repeatL [c] n))) ∧ Frm (fun _ => False) w w' :=
  (Try.strings_Repeat ⟨#[c]⟩ n w (by omega) (by show 1 * n ≤ _; omega)).mono fun e w' ⟨h1, h2⟩ => ⟨h1, (Frm.ofBelow h2).mono fun k hk hx => by omega⟩
theorem rep65 : ∃ X : List UInt8, Lib.repeatL [120] 65 = X ++ [120] ∧ X.length = 64 := ⟨Lib.repeatL [120] 64, by decide, by decide⟩
set_option maxRecDepth 100000 in
theorem rep257 : (Lib.repeatL [(120 : UInt8)] 257).length = 257 := by decide
theorem chunks65 (X : List UInt8) (h : X.length = 64) : chunks (X ++ [120]) = [X, [120]] := by
  have h1 : (X ++ [120]).take 64 = X := by rw [← h]; exact List.take_left
  have h2 : (X ++ [120]).drop 64 = [120] := by rw [← h]; exact List.drop_left
  rw [chunks_some (by simp), h1, h2, chunks_short (by simp) (by simp)]
theorem putC_long (Y : List UInt8) (h : Y.length = 257) : putC false Y = ([], 4) := by
  unfold putC
  rw [if_neg (by rw [h]; decide)]

set_option maxRecDepth 100000 in
set_option maxHeartbeats 16000000 in
theorem valueKnown_any (w : World) : Calls Try.prog 5 #[] w fun e w' => e = .returned (.bool true) ∧ Frm (fun _ => False) w w' := by
  have K : Frm (fun _ => False) w w := Frm.refl _ _
  go_enter Try.func5, Try.ntmps5
  go_wp2_with fail
  refine (repeat_any 120 65 w (by decide)).mono ?_
  rintro e w1 ⟨rfl, gg⟩
  have K := K.trans gg
  clear gg
  obtain ⟨X, hX1, hX2⟩ := rep65
  rw [hX1]
  go_wp2_with fail
  refine (split_any (X ++ [120]) w1 (by rw [List.length_append, hX2]; decide)).mono ?_
  rintro e w2 ⟨v, rfl, ov, gg, _⟩
  have K := K.trans gg
  rw [chunks65 X hX2] at ov
  obtain ⟨a, cap, rfl, _, _⟩ := Row.slice ov
  obtain ⟨g, off, rfl, _, c0⟩ := ov.reads.at 0 (by simp)
  obtain ⟨g2, off2, e2, _, c1⟩ := ov.reads.at 1 (by simp)
  cases e2
  have hz : (((bs X).size : Int) != 64) = false := by rw [bne_eq_false_iff_eq, bs_size, hX2]; rfl
  have hz1 : ((bs [120]).toList == [120]) = true := by rw [bs_toList]; rfl
  have c0 : w2.cell? ⟨g, off, none⟩ = some (.string (bs X)) := c0
  have c1 : w2.cell? ⟨g, off + 1, none⟩ = some (.string (bs [120])) := c1
  clear ov gg hX1
  go_wp2_with fail
  refine (split_any [] w2 (by decide)).mono ?_
  rintro e w3 ⟨v, rfl, ov, gg, _⟩
  have K := K.trans gg
  rw [chunks_nil] at ov
  obtain ⟨a, cap2, hv, _, _⟩ := Row.slice ov
  rw [List.length_nil] at hv
  subst hv
  clear ov gg c0 c1 hz hz1 hX2
  go_wp2_with fail
  have C := count_anyF (64) w3 (by unfold I64; omega)
  rw [show count (64) = 1 from by decide] at C
  refine C.mono ?_
  rintro e w4 ⟨rfl, gg⟩
  have K := K.trans gg
  clear gg C
  go_wp2_with fail
  have C := count_anyF (-1) w4 (by unfold I64; omega)
  rw [show count (-1) = 0 from by decide] at C
  refine C.mono ?_
  rintro e w5 ⟨rfl, gg⟩
  have K := K.trans gg
  clear gg C
  go_wp2_with fail
  have C := count_anyF (0) w5 (by unfold I64; omega)
  rw [show count (0) = 0 from by decide] at C
  refine C.mono ?_
  rintro e w6 ⟨rfl, gg⟩
  have K := K.trans gg
  clear gg C
  have I := ids_made w6 [1] #[.int .u32 1] rfl
  have ga : Frm (fun _ => False) w6 (w6.alloc (.cells #[.int .u32 1] 35)) := (Frm.refl _ w6).alloc _
  go_wp2_with fail
  refine (file_any (65) _ 1 1 _).mono ?_
  rintro e w7 ⟨rfl, gb⟩
  have I := I.keepF gb
  have K := (K.trans ga).trans gb
  clear gb ga
  have N := none_any false (65) _ [1] w7 (by unfold I64; omega) I (by decide)
  rw [show (!okV false (65) [1]) = true from by decide] at N
  have HN := Lib.hid N
  clear N I
  go_wp2_with fail
  refine HN.out.mono ?_
  rintro e w8 ⟨rfl, gg⟩
  have K := K.trans gg
  clear gg HN
  have I := ids_made w8 [1, 2, 3, 4, 5] #[.int .u32 1, .int .u32 2, .int .u32 3, .int .u32 4, .int .u32 5] rfl
  have ga : Frm (fun _ => False) w8 (w8.alloc (.cells #[.int .u32 1, .int .u32 2, .int .u32 3, .int .u32 4, .int .u32 5] 35)) := (Frm.refl _ w8).alloc _
  go_wp2_with fail
  refine (file_any (257) _ 5 5 _).mono ?_
  rintro e w9 ⟨rfl, gb⟩
  have I := I.keepF gb
  have K := (K.trans ga).trans gb
  clear gb ga
  have N := none_any false (257) _ [1, 2, 3, 4, 5] w9 (by unfold I64; omega) I (by decide)
  rw [show (!okV false (257) [1, 2, 3, 4, 5]) = true from by decide] at N
  have HN := Lib.hid N
  clear N I
  go_wp2_with fail
  refine HN.out.mono ?_
  rintro e w10 ⟨rfl, gg⟩
  have K := K.trans gg
  clear gg HN
  have I := ids_made w10 [0] #[.int .u32 0] rfl
  have ga : Frm (fun _ => False) w10 (w10.alloc (.cells #[.int .u32 0] 35)) := (Frm.refl _ w10).alloc _
  go_wp2_with fail
  refine (file_any (1) _ 1 1 _).mono ?_
  rintro e w11 ⟨rfl, gb⟩
  have I := I.keepF gb
  have K := (K.trans ga).trans gb
  clear gb ga
  have N := none_any false (1) _ [0] w11 (by unfold I64; omega) I (by decide)
  rw [show (!okV false (1) [0]) = true from by decide] at N
  have HN := Lib.hid N
  clear N I
  go_wp2_with fail
  refine HN.out.mono ?_
  rintro e w12 ⟨rfl, gg⟩
  have K := K.trans gg
  clear gg HN
  have N := none_any true (1) (.slice none 0 0) [] w12 (by unfold I64; omega) (nilIds _) (by simp)
  rw [show (!okV true (1) []) = true from by decide] at N
  have HN := Lib.hid N
  clear N
  go_wp2_with fail
  refine HN.out.mono ?_
  rintro e w13 ⟨rfl, gg⟩
  have K := K.trans gg
  clear gg HN
  have I := ids_made w13 [1] #[.int .u32 1] rfl
  have ga : Frm (fun _ => False) w13 (w13.alloc (.cells #[.int .u32 1] 35)) := (Frm.refl _ w13).alloc _
  have K := K.trans ga
  have N := none_any true (0) _ [1] _ (by unfold I64; omega) I (by decide)
  rw [show (!okV true (0) [1]) = true from by decide] at N
  have HN := Lib.hid N
  clear N I
  go_wp2_with fail
  refine HN.out.mono ?_
  rintro e w14 ⟨rfl, gg⟩
  have K := K.trans gg
  clear gg HN ga
  go_wp2_with fail
  refine (file_any (-1) none 0 0 w14).mono ?_
  rintro e w15 ⟨rfl, gb⟩
  have K := K.trans gb
  clear gb
  have N := none_any false (-1) (.slice none 0 0) [] w15 (by unfold I64; omega) (nilIds _) (by simp)
  rw [show (!okV false (-1) []) = true from by decide] at N
  have HN := Lib.hid N
  clear N
  go_wp2_with fail
  refine HN.out.mono ?_
  rintro e w16 ⟨rfl, gg⟩
  have K := K.trans gg
  clear gg HN
  go_wp2_with fail
  refine (file_any (0) none 0 0 w16).mono ?_
  rintro e w17 ⟨rfl, gb⟩
  have K := K.trans gb
  clear gb
  have N := none_any false (0) (.slice none 0 0) [] w17 (by unfold I64; omega) (nilIds _) (by simp)
  rw [show (!okV false (0) []) = false from by decide] at N
  have HN := Lib.hid N
  clear N
  go_wp2_with fail
  refine HN.out.mono ?_
  rintro e w18 ⟨rfl, gg⟩
  have K := K.trans gg
  clear gg HN
  have I := ids_made w18 [1, 2, 3, 4] #[.int .u32 1, .int .u32 2, .int .u32 3, .int .u32 4] rfl
  have ga : Frm (fun _ => False) w18 (w18.alloc (.cells #[.int .u32 1, .int .u32 2, .int .u32 3, .int .u32 4] 35)) := (Frm.refl _ w18).alloc _
  go_wp2_with fail
  refine (file_any (256) _ 4 4 _).mono ?_
  rintro e w19 ⟨rfl, gb⟩
  have I := I.keepF gb
  have K := (K.trans ga).trans gb
  clear gb ga
  have N := none_any false (256) _ [1, 2, 3, 4] w19 (by unfold I64; omega) I (by decide)
  rw [show (!okV false (256) [1, 2, 3, 4]) = false from by decide] at N
  have HN := Lib.hid N
  clear N I
  go_wp2_with fail
  refine HN.out.mono ?_
  rintro e w20 ⟨rfl, gg⟩
  have K := K.trans gg
  clear gg HN
  go_wp2_with fail
  have C := putc_any false [97, 98] w20 (by decide)
  rw [show putC false [97, 98] = ([0, 0, 2, 97, 98], 0) from by decide] at C
  refine C.mono ?_
  rintro e w21 ⟨rfl, gg⟩
  have K := K.trans gg
  clear gg C
  go_wp2_with fail
  refine (read_any [0, 0, 2, 97, 98, 99] w21 (by decide)).mono ?_
  rintro e w22 ⟨rfl, r1, gg⟩
  have hs1 := K.size
  have hr1 := r1.lt
  have K := K.trans gg
  obtain ⟨R, hR⟩ : ∃ R, w21.heap.size = R := ⟨_, rfl⟩
  rw [hR] at r1 hs1 hr1
  rw [hR]
  clear gg hR
  have T := takec_any R [0, 0, 2, 97, 98, 99] 0 w22 r1
  rw [show takeC [0, 0, 2, 97, 98, 99] 0 = ((false, [97, 98], 0), [99], 0) from by decide] at T
  go_wp2_with fail
  refine T.mono ?_
  rintro e w23 ⟨rfl, r2, gg⟩
  have K := K.new gg (fun j hj => by rw [hj]; exact hs1)
  have hr2 := r2.lt
  have B1 := Blk.alloc w23 38 #[.bool false, .string (bs [97, 98])]
  have fa : Frm (fun _ => False) w23 (w23.alloc (.cells #[.bool false, .string (bs [97, 98])] 38)) := (Frm.refl _ w23).alloc _
  have K := K.trans fa
  have r2 := r2.keep fa (fun h => h)
  obtain ⟨V1, hV1⟩ : ∃ V, w23.heap.size = V := ⟨_, rfl⟩
  rw [hV1] at B1
  clear r1 hr1 gg T fa
  go_upto_region 7 with fail
  clear hV1
  generalize w23.alloc (.cells #[.bool false, .string (bs [97, 98])] 38) = y1 at *
  go_wp2_with fail
  have C := putc_any true [97] y1 (by decide)
  rw [show putC true [97] = ([], 4) from by decide] at C
  refine C.mono ?_
  rintro e w24 ⟨rfl, gg⟩
  have K := K.trans gg
  have r2 := r2.keep gg (fun h => h)
  have B1 := B1.keep gg (fun h => h)
  clear gg C
  go_wp2_with fail
  refine (repeat_any 120 257 w24 (by decide)).mono ?_
  rintro e w25 ⟨rfl, gg⟩
  have K := K.trans gg
  have r2 := r2.keep gg (fun h => h)
  have B1 := B1.keep gg (fun h => h)
  clear gg
  have hl := rep257
  generalize Lib.repeatL [120] 257 = Y at *
  go_wp2_with fail
  have C := putc_any false Y w25 (by omega)
  rw [putC_long Y hl] at C
  refine C.mono ?_
  rintro e w26 ⟨rfl, gg⟩
  have K := K.trans gg
  have r2 := r2.keep gg (fun h => h)
  have B1 := B1.keep gg (fun h => h)
  clear gg C
  go_wp2_with fail
  refine (take_none w26).mono ?_
  rintro e w27 ⟨rfl, gg⟩
  have K := K.trans gg
  have r2 := r2.keep gg (fun h => h)
  have B1 := B1.keep gg (fun h => h)
  clear gg
  have fa : Frm (fun _ => False) w27 (w27.alloc (.cells av0 24)) := (Frm.refl _ w27).alloc _
  have K := K.trans fa
  have r2 := r2.keep fa (fun h => h)
  have B1 := B1.keep fa (fun h => h)
  go_upto_region 10 with fail
  generalize w27.alloc (.cells av0 24) = y2 at *
  clear fa
  go_wp2_with fail
  refine (read_any [1] y2 (by decide)).mono ?_
  rintro e w28 ⟨rfl, r3, gg⟩
  have hs3 := K.size
  have hb3 := B1.lt
  have hr3 := r2.lt
  have r2 := r2.keep gg (fun h => h)
  have B1 := B1.keep gg (fun h => h)
  have K := K.trans gg
  obtain ⟨Q, hQ⟩ : ∃ Q, y2.heap.size = Q := ⟨_, rfl⟩
  rw [hQ] at r3 hs3 hb3 hr3
  rw [hQ]
  clear gg hQ
  have T := takec_any Q [1] 0 w28 r3
  rw [show takeC [1] 0 = ((true, [], 0), [], 0) from by decide] at T
  go_wp2_with fail
  refine T.mono ?_
  rintro e w29 ⟨rfl, _, gg⟩
  have r2 := r2.keep gg (by omega)
  have B1 := B1.keep gg (by omega)
  have K := K.new gg (fun j hj => by rw [hj]; exact hs3)
  have B2 := Blk.alloc w29 38 #[.bool true, .string (bs [])]
  have fa : Frm (fun _ => False) w29 (w29.alloc (.cells #[.bool true, .string (bs [])] 38)) := (Frm.refl _ w29).alloc _
  have K := K.trans fa
  have r2 := r2.keep fa (fun h => h)
  have B1 := B1.keep fa (fun h => h)
  obtain ⟨V2, hV2⟩ : ∃ V, w29.heap.size = V := ⟨_, rfl⟩
  rw [hV2] at B2
  clear r3 gg T fa
  go_upto_region 11 with fail
  clear hV2
  generalize w29.alloc (.cells #[.bool true, .string (bs [])] 38) = y3 at *
  have i0 := B1.cell 0 rfl
  have i1 := B1.cell 1 rfl
  have j0 := B2.cell 0 rfl
  have j1 := B2.cell 1 rfl
  have hE1 : ∀ W, (Op.equalIn 10000 38 (.agg #[.bool false, .string (bs [97, 98])]) (.agg #[.bool false, .string ⟨#[97, 98]⟩])).run Try.prog W = .ok true W := fun W => run_eq_con false false [97, 98] [97, 98] W
  have hE2 : ∀ W, (Op.equalIn 10000 38 (.agg #[.bool true, .string (bs [])]) (.agg #[.bool true, .string ⟨#[]⟩])).run Try.prog W = .ok true W := fun W => run_eq_con true true [] [] W
  have hq1 : ((bs [0, 0, 2, 97, 98]).toList == [0, 0, 2, 97, 98]) = true := by rw [bs_toList]; rfl
  have hq2 : ((bs [99]).toList == [99]) = true := by rw [bs_toList]; rfl
  go_wp2_with fail
  refine (rest_any R [99] 0 y3 r2).mono ?_
  rintro e y4 ⟨rfl, rfl⟩
  go_wp2_with fail
  refine (fails_true [0, 0, 2, 97, 98, 99] 10 y3 (by decide) (by decide)).mono ?_
  rintro e w30 ⟨rfl, gg⟩
  have K := K.trans gg
  clear i0 i1 j0 j1 B1 B2 r2 hE1 hE2
  clear gg
  go_wp2_with fail
  refine (fails_true [2] 4 w30 (by decide) (by decide)).mono ?_
  rintro e w31 ⟨rfl, gg⟩
  have K := K.trans gg
  clear gg
  go_wp2_with fail
  refine (fails_true [0, 1, 1] 4 w31 (by decide) (by decide)).mono ?_
  rintro e w32 ⟨rfl, gg⟩
  have K := K.trans gg
  clear gg
  go_wp2_with fail
  refine (fails_true [0, 0, 1, 0, 0, 0, 0] 4 w32 (by decide) (by decide)).mono ?_
  rintro e w33 ⟨rfl, gg⟩
  have K := K.trans gg
  clear gg
  go_wp2_with fail
  refine (wawake_any w33).mono ?_
  rintro e y9 ⟨rfl, gg⟩
  have K := K.trans gg
  go_wp2_with fail
  go_ret
  exact ⟨rfl, K⟩
end Go.Proofs.Ytlajfmpgodcbmaa
