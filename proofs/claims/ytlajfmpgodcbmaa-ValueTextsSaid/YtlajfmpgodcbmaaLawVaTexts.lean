/- The statement ValueTexts, walked. -/
import Derived.Test.YtlajfmpgodcbmaaValZ
import Derived.Deep.Cut
namespace Go.Proofs.Ytlajfmpgodcbmaa
open Go.RowKit

set_option maxRecDepth 100000 in
set_option maxHeartbeats 8000000 in
theorem valueTexts_any (d : Bool) (s : Int) (c : Value) (l : List Nat) (d2 : Bool) (t u : List UInt8) (w : World) (hs : I64 s) (h : Ids w c l) (hfit : ∀ x ∈ l, x < 4294967296) (ht : t.length ≤ 9223372036854775807) (hu : u.length ≤ 9223372036854775807) :
    Calls Try.prog 4 #[.agg (av d s c), .agg #[.bool d2, .string (bs t)], .string (bs u)] w fun e w' => e = .returned (.bool true) ∧ Frm (fun _ => False) w w' := by
  have g0 : Frm (fun _ => False) w ((w.alloc (.cells (av d s c) 24)).alloc (.cells #[.bool d2, .string (bs t)] 38)) := ((Frm.refl _ w).alloc _).alloc _
  have b0 : Blk ((w.alloc (.cells (av d s c) 24)).alloc (.cells #[.bool d2, .string (bs t)] 38)) w.heap.size 24 (av d s c) := (Blk.alloc w _ _).old _
  have b1 : Blk ((w.alloc (.cells (av d s c) 24)).alloc (.cells #[.bool d2, .string (bs t)] 38)) (w.heap.size + 1) 38 #[.bool d2, .string (bs t)] := by
    have h := Blk.alloc (w.alloc (.cells (av d s c) 24)) 38 #[.bool d2, .string (bs t)]
    simpa using h
  have FW := few_any d s c l _ (h.keepF g0)
  by_cases h1 : l.length ≤ 60
  case neg =>
    rw [decide_eq_false h1] at FW
    have HF := Lib.hid FW
    clear FW
    go_enter Try.func4, Try.ntmps4
    go_wp2_with fail
    refine HF.out.mono ?_
    rintro e w1 ⟨rfl, g1⟩
    go_wp2_with fail
    refine (wawake_any _).mono ?_
    rintro e w9 ⟨rfl, g9⟩
    go_wp2_with fail
    go_ret
    exact ⟨rfl, (g0.trans g1).trans g9⟩
  rw [decide_eq_true h1] at FW
  have HF := Lib.hid FW
  clear FW
  by_cases h2 : t.length ≤ 3000
  case neg =>
    have h2' : (3000 : Int) < ((bs t).size : Int) := by rw [bs_size]; omega
    go_enter Try.func4, Try.ntmps4
    go_wp2_with fail
    refine HF.out.mono ?_
    rintro e w1 ⟨rfl, g1⟩
    have y1 := (b1.keep g1 (fun h => h)).cell 1 rfl
    go_wp2_with fail
    refine (wawake_any _).mono ?_
    rintro e w9 ⟨rfl, g9⟩
    go_wp2_with fail
    go_ret
    exact ⟨rfl, (g0.trans g1).trans g9⟩
  have h2' : ((bs t).size : Int) ≤ 3000 := by rw [bs_size]; omega
  by_cases h3 : u.length ≤ 3000
  case neg =>
    have h3' : (3000 : Int) < ((bs u).size : Int) := by rw [bs_size]; omega
    go_enter Try.func4, Try.ntmps4
    go_wp2_with fail
    refine HF.out.mono ?_
    rintro e w1 ⟨rfl, g1⟩
    have y1 := (b1.keep g1 (fun h => h)).cell 1 rfl
    go_wp2_with fail
    refine (wawake_any _).mono ?_
    rintro e w9 ⟨rfl, g9⟩
    go_wp2_with fail
    go_ret
    exact ⟨rfl, (g0.trans g1).trans g9⟩
  have h3' : ((bs u).size : Int) ≤ 3000 := by rw [bs_size]; omega
  go_enter Try.func4, Try.ntmps4
  go_wp2_with fail
  refine HF.out.mono ?_
  rintro e w1 ⟨rfl, g1⟩
  have b0 := b0.keep g1 (fun h => h)
  have b1 := b1.keep g1 (fun h => h)
  have k1 := g0.trans g1
  have y0 := b0.cell 0 rfl
  have y1 := b0.cell 1 rfl
  have y2 := b0.cell 2 rfl
  have z0 := b1.cell 0 rfl
  have z1 := b1.cell 1 rfl
  clear g0 g1 HF
  go_wp2_with fail
  refine (put_any7 d s c l w1 hs (h.keepF k1) hfit).mono ?_
  rintro e w2 ⟨rfl, g2⟩
  have b0 := b0.keep g2 (fun h => h)
  have b1 := b1.keep g2 (fun h => h)
  have k2 := k1.trans g2
  have y0 := b0.cell 0 rfl
  have y1 := b0.cell 1 rfl
  have y2 := b0.cell 2 rfl
  clear g2 z0 z1
  go_wp2_with fail
  refine (rput_any7 d s c l w2 hs (h.keepF k2) hfit).mono ?_
  rintro e w3 ⟨rfl, g3⟩
  have b1 := b1.keep g3 (fun h => h)
  have k3 := k2.trans g3
  have z0 := b1.cell 0 rfl
  have z1 := b1.cell 1 rfl
  clear g3 y0 y1 y2
  go_wp2_with fail
  refine (putc_any d2 t w3 h2).mono ?_
  rintro e w4 ⟨rfl, g4⟩
  have b1 := b1.keep g4 (fun h => h)
  have k4 := k3.trans g4
  have z0 := b1.cell 0 rfl
  have z1 := b1.cell 1 rfl
  clear g4
  go_wp2_with fail
  refine (rputc_any d2 t w4 h2).mono ?_
  rintro e w5 ⟨rfl, g5⟩
  have k5 := k4.trans g5
  clear g5 z0 z1
  obtain ⟨A, hA⟩ : ∃ A, bs (putV d s l).1 = A := ⟨_, rfl⟩
  obtain ⟨B, hB⟩ : ∃ B, bs (putC d2 t).1 = B := ⟨_, rfl⟩
  rw [hA, hB]
  generalize (putV d s l).2 = ea
  generalize (putC d2 t).2 = eb
  clear hA hB
  have n1 : (A.toList != A.toList) = false := bne_self_eq_false _
  have n2 : (B.toList != B.toList) = false := bne_self_eq_false _
  have n3 : ((ea : Int) != (ea : Int)) = false := bne_self_eq_false _
  have n4 : ((eb : Int) != (eb : Int)) = false := bne_self_eq_false _
  go_wp2_with fail
  refine (read_any u _ (by omega)).mono ?_
  rintro e w6 ⟨rfl, r6, g6⟩
  clear n1 n2 n3 n4
  have k6 := k5.trans g6
  have hR6 := r6.lt
  have hwR := k5.size
  have q7 : Rq (w6.alloc (.cells #[.string (bs u), .int .i64 0, .int .i64 0] 50)) w6.heap.size u u 0 := ⟨0, Blk.alloc w6 _ _, Nat.zero_le _, by omega, by omega, fun _ => rfl, fun h => absurd rfl h⟩
  have r7 := r6.keep (X := fun _ => False) ((Frm.refl _ w6).alloc (.cells #[.string (bs u), .int .i64 0, .int .i64 0] 50)) (fun h => h)
  have k7 := k6.alloc (.cells #[.string (bs u), .int .i64 0, .int .i64 0] 50)
  have hz7 : (w6.alloc (.cells #[.string (bs u), .int .i64 0, .int .i64 0] 50)).heap.size = w6.heap.size + 1 := by simp
  have Hz7 := Lib.hid hz7
  clear r6 g6 hz7
  go_wp2_with fail
  refine (read_any u _ (by omega)).mono ?_
  rintro e w8 ⟨rfl, r8, g8⟩
  rw [Hz7.out] at r8 ⊢
  have q8 := q7.keep g8 (fun h => h)
  have r8' := r7.keep g8 (fun h => h)
  have k8 := k7.trans g8
  have hT8 := r8.lt
  have q9 : Rq (w8.alloc (.cells #[.string (bs u), .int .i64 0, .int .i64 0] 50)) w8.heap.size u u 0 := ⟨0, Blk.alloc w8 _ _, Nat.zero_le _, by omega, by omega, fun _ => rfl, fun h => absurd rfl h⟩
  have fa : Frm (fun _ => False) w8 (w8.alloc (.cells #[.string (bs u), .int .i64 0, .int .i64 0] 50)) := (Frm.refl _ w8).alloc _
  have r9 := r8.keep fa (fun h => h)
  have r9' := r8'.keep fa (fun h => h)
  have q9' := q8.keep fa (fun h => h)
  have k9 := k8.trans fa
  clear r8 r8' q8 q7 r7 k8 k7 k6 k5 fa g8 Hz7 h1 h2 h2' h3'
  obtain ⟨R, hR⟩ : ∃ R, w5.heap.size = R := ⟨_, rfl⟩
  obtain ⟨Q, hQ⟩ : ∃ Q, w6.heap.size = Q := ⟨_, rfl⟩
  obtain ⟨U, hU⟩ : ∃ U, w8.heap.size = U := ⟨_, rfl⟩
  rw [hR] at hR6 hwR r9'
  rw [hQ] at hR6 hT8 q9' r9
  rw [hU] at hT8 q9
  rw [hR, hQ]
  clear hR hQ
  go_upto_region 11 with fail
  clear hU
  generalize w8.alloc (.cells #[.string (bs u), .int .i64 0, .int .i64 0] 50) = w10 at *
  go_wp2_with fail
  go_loopw [19] (fun i wr => ∃ (k : Nat) (l1 : List UInt8) (e1 : Nat) (l2 : List UInt8) (e2 : Nat), k ≤ 3 ∧ i = .int .i64 k ∧ Rd wr R l1 e1 ∧ Rq wr Q u l1 e1 ∧ Rd wr (Q + 1) l2 e2 ∧ Rq wr U u l2 e2 ∧ Frm (fun _ => False) w wr) (fun i _ => 3 - (intOf i).toNat)
  case atStart => exact ⟨0, u, 0, u, 0, by omega, rfl, r9', q9', r9, q9, k9⟩
  case round =>
    clear r9 r9' q9 q9' k9
    obtain ⟨k, l1, e1, l2, e2, hk, rfl, rr, qq, tt, uu, fr⟩ := hrel
    by_cases hlt : k < 3
    · have hk3 : (k : Int) < 3 := by omega
      go_wp2_with fail
      have hRw := rr.lt
      have hQw := qq.lt
      have hTw := tt.lt
      have hUw := uu.lt
      refine (take_any7 R l1 e1 wr rr).mono ?_
      rintro e w1 ⟨v1, rfl, o1, m1, r1, g1⟩
      obtain ⟨dd, nn, II, xx, l1', e1', hx⟩ : ∃ dd nn II xx l1' e1', takeV l1 e1 = ((dd, nn, II, xx), l1', e1') := ⟨_, _, _, _, _, _, rfl⟩
      simp only [hx] at o1 r1 ⊢
      have HX := Lib.hid hx
      obtain ⟨a1, c1, rfl, _, _⟩ := Row.slice o1
      have q1 := qq.keep g1 (by omega)
      have t1 := tt.keep g1 (by omega)
      have u1 := uu.keep g1 (by omega)
      have k1 := fr.new g1 (fun j hj => by rw [hj]; exact hwR)
      clear hx rr qq tt uu
      have B1 := Blk.alloc w1 24 (av dd nn (.slice a1 II.length c1))
      have fa : Frm (fun _ => False) w1 (w1.alloc (.cells (av dd nn (.slice a1 II.length c1)) 24)) := (Frm.refl _ w1).alloc _
      have o1 := o1.keep fa (fun _ _ h => h)
      have r1 := r1.keep fa (fun h => h)
      have q1 := q1.keep fa (fun h => h)
      have t1 := t1.keep fa (fun h => h)
      have u1 := u1.keep fa (fun h => h)
      have k1 := k1.trans fa
      obtain ⟨V1, hV1⟩ : ∃ V1, w1.heap.size = V1 := ⟨_, rfl⟩
      have sV1 := g1.size
      rw [hV1] at B1 sV1
      go_upto_region 15 with fail
      clear hV1 fa g1
      generalize w1.alloc (.cells (av dd nn (.slice a1 II.length c1)) 24) = x1 at *
      have hx1 : V1 < x1.heap.size := B1.lt
      go_wp2_with fail
      refine (rtake_any7 Q u l1 e1 x1 q1).mono ?_
      rintro e w2 ⟨v2, rfl, o2, m2, q1, g2⟩
      simp only [HX.out] at o2 q1 ⊢
      obtain ⟨a2, c2, rfl, _, _⟩ := Row.slice o2
      have r1 := r1.keep g2 (by omega)
      have t1 := t1.keep g2 (by omega)
      have u1 := u1.keep g2 (by omega)
      have k1 := k1.new g2 (fun j hj => by rw [hj]; omega)
      have B1 := B1.keep g2 (by omega)
      have o1 := o1.keep g2 (fun g hg => by have := m1 g hg; omega)
      have B2 := Blk.alloc w2 24 (av dd nn (.slice a2 II.length c2))
      have fa : Frm (fun _ => False) w2 (w2.alloc (.cells (av dd nn (.slice a2 II.length c2)) 24)) := (Frm.refl _ w2).alloc _
      have o1 := o1.keep fa (fun _ _ h => h)
      have o2 := o2.keep fa (fun _ _ h => h)
      have B1 := B1.keep fa (fun h => h)
      have r1 := r1.keep fa (fun h => h)
      have q1 := q1.keep fa (fun h => h)
      have t1 := t1.keep fa (fun h => h)
      have u1 := u1.keep fa (fun h => h)
      have k1 := k1.trans fa
      obtain ⟨V2, hV2⟩ : ∃ V2, w2.heap.size = V2 := ⟨_, rfl⟩
      have sV2 := g2.size
      rw [hV2] at B2 sV2
      go_upto_region 16 with fail
      clear hV2 fa g2
      generalize w2.alloc (.cells (av dd nn (.slice a2 II.length c2)) 24) = x2 at *
      have hx2 : V2 < x2.heap.size := B2.lt
      go_wp2_with fail
      refine (takec_any (Q + 1) l2 e2 x2 t1).mono ?_
      rintro e w3 ⟨rfl, t1, g3⟩
      obtain ⟨db, tb, xb, l2', e2', hy⟩ : ∃ db tb xb l2' e2', takeC l2 e2 = ((db, tb, xb), l2', e2') := ⟨_, _, _, _, _, rfl⟩
      simp only [hy] at t1 ⊢
      have HY := Lib.hid hy
      clear hy
      have r1 := r1.keep g3 (by omega)
      have q1 := q1.keep g3 (by omega)
      have u1 := u1.keep g3 (by omega)
      have k1 := k1.new g3 (fun j hj => by rw [hj]; omega)
      have B1 := B1.keep g3 (by omega)
      have B2 := B2.keep g3 (by omega)
      have o1 := o1.keep g3 (fun g hg => by have := m1 g hg; omega)
      have o2 := o2.keep g3 (fun g hg => by have := m2 g hg; omega)
      have B3 := Blk.alloc w3 38 #[.bool db, .string (bs tb)]
      have fa : Frm (fun _ => False) w3 (w3.alloc (.cells #[.bool db, .string (bs tb)] 38)) := (Frm.refl _ w3).alloc _
      have o1 := o1.keep fa (fun _ _ h => h)
      have o2 := o2.keep fa (fun _ _ h => h)
      have B1 := B1.keep fa (fun h => h)
      have B2 := B2.keep fa (fun h => h)
      have r1 := r1.keep fa (fun h => h)
      have q1 := q1.keep fa (fun h => h)
      have t1 := t1.keep fa (fun h => h)
      have u1 := u1.keep fa (fun h => h)
      have k1 := k1.trans fa
      obtain ⟨V3, hV3⟩ : ∃ V3, w3.heap.size = V3 := ⟨_, rfl⟩
      have sV3 := g3.size
      rw [hV3] at B3 sV3
      go_upto_region 17 with fail
      clear hV3 fa g3
      generalize w3.alloc (.cells #[.bool db, .string (bs tb)] 38) = x3 at *
      have hx3 : V3 < x3.heap.size := B3.lt
      go_wp2_with fail
      refine (rtakec_any U u l2 e2 x3 u1).mono ?_
      rintro e w4 ⟨rfl, u1, g4⟩
      simp only [HY.out] at u1 ⊢
      have r1 := r1.keep g4 (by omega)
      have q1 := q1.keep g4 (by omega)
      have t1 := t1.keep g4 (by omega)
      have k1 := k1.new g4 (fun j hj => by rw [hj]; omega)
      have B1 := B1.keep g4 (by omega)
      have B2 := B2.keep g4 (by omega)
      have B3 := B3.keep g4 (by omega)
      have o1 := o1.keep g4 (fun g hg => by have := m1 g hg; omega)
      have o2 := o2.keep g4 (fun g hg => by have := m2 g hg; omega)
      have B4 := Blk.alloc w4 45 #[.bool db, .string (bs tb)]
      have fa : Frm (fun _ => False) w4 (w4.alloc (.cells #[.bool db, .string (bs tb)] 45)) := (Frm.refl _ w4).alloc _
      have o1 := o1.keep fa (fun _ _ h => h)
      have o2 := o2.keep fa (fun _ _ h => h)
      have B1 := B1.keep fa (fun h => h)
      have B2 := B2.keep fa (fun h => h)
      have B3 := B3.keep fa (fun h => h)
      have r1 := r1.keep fa (fun h => h)
      have q1 := q1.keep fa (fun h => h)
      have t1 := t1.keep fa (fun h => h)
      have u1 := u1.keep fa (fun h => h)
      have k1 := k1.trans fa
      obtain ⟨V4, hV4⟩ : ∃ V4, w4.heap.size = V4 := ⟨_, rfl⟩
      have sV4 := g4.size
      rw [hV4] at B4 sV4
      go_upto_region 18 with fail
      clear hV4 fa g4
      generalize w4.alloc (.cells #[.bool db, .string (bs tb)] 45) = x4 at *
      have S := rsame_any dd nn _ II dd nn _ II x4 o1.ids o2.ids
      have es : sameV dd nn II dd nn II = true := by simp [sameV]
      rw [es] at S
      have HS := Lib.hid S
      clear S es o1 o2 m1 m2
      have b10 := B1.cell 0 rfl
      have b11 := B1.cell 1 rfl
      have b12 := B1.cell 2 rfl
      have b20 := B2.cell 0 rfl
      have b21 := B2.cell 1 rfl
      have b22 := B2.cell 2 rfl
      have hxx : ((xx : Int) != (xx : Int)) = false := bne_self_eq_false _
      have hxb : ((xb : Int) != (xb : Int)) = false := bne_self_eq_false _
      have n1 : ((bs l1').toList != (bs l1').toList) = false := bne_self_eq_false _
      have n2 : ((bs l2').toList != (bs l2').toList) = false := bne_self_eq_false _
      have hE : ∀ W, (Op.equalIn 10000 45 (.agg #[.bool db, .string (bs tb)]) (.agg #[.bool db, .string (bs tb)])).run Try.prog W = .ok true W := fun W => by rw [run_eq_rcon]; simp
      go_wp2_with fail
      refine HS.out.mono ?_
      rintro e w5 ⟨rfl, g5⟩
      clear b10 b11 b12 b20 b21 b22 HS B1 B2
      have r1 := r1.keep g5 (fun h => h)
      have q1 := q1.keep g5 (fun h => h)
      have t1 := t1.keep g5 (fun h => h)
      have u1 := u1.keep g5 (fun h => h)
      have B3 := B3.keep g5 (fun h => h)
      have B4 := B4.keep g5 (fun h => h)
      have k1 := k1.trans g5
      go_wp2_with fail
      refine (rest_any R l1' e1' w5 r1).mono ?_
      rintro e w6 ⟨rfl, rfl⟩
      go_wp2_with fail
      refine (q_rest Q u l1' e1' w5 q1).mono ?_
      rintro e w6 ⟨rfl, g6⟩
      have r1 := r1.keep g6 (fun h => h)
      have q1 := q1.keep g6 (fun h => h)
      have t1 := t1.keep g6 (fun h => h)
      have u1 := u1.keep g6 (fun h => h)
      have k1 := k1.trans g6
      have b30 := (B3.keep g6 (fun h => h)).cell 0 rfl
      have b31 := (B3.keep g6 (fun h => h)).cell 1 rfl
      have b40 := (B4.keep g6 (fun h => h)).cell 0 rfl
      have b41 := (B4.keep g6 (fun h => h)).cell 1 rfl
      clear g5 g6 B3 B4
      go_wp2_with fail
      refine (rest_any (Q + 1) l2' e2' w6 t1).mono ?_
      rintro e w7 ⟨rfl, rfl⟩
      go_wp2_with fail
      refine (q_rest U u l2' e2' w6 u1).mono ?_
      rintro e w7 ⟨rfl, g7⟩
      clear b30 b31 b40 b41
      go_wp2_with fail
      go_roundw
      case rel => exact ⟨k + 1, l1', e1', l2', e2', by omega, by go_num, r1.keep g7 (fun h => h), q1.keep g7 (fun h => h), t1.keep g7 (fun h => h), u1.keep g7 (fun h => h), k1.trans g7⟩
      case measure => simp [intOf]; omega
    · obtain rfl : k = 3 := by omega
      go_wp2_with fail
      refine (wawake_any _).mono ?_
      rintro e w9 ⟨rfl, g9⟩
      go_wp2_with fail
      go_ret
      exact ⟨rfl, fr.trans g9⟩
end Go.Proofs.Ytlajfmpgodcbmaa
