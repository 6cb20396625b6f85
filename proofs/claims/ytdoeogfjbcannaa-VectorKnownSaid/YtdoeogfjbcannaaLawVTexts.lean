/- VectorTexts: what the law's call answers. Of any vector, dot and text. No condition but that the numbers have their bits. -/
import Derived.Test.YtdoeogfjbcannaaLawVJoins
namespace Go.Proofs.Ytdoeogfjbcannaa
open Go.RowKit

theorem fPut (f : Nat → Nat) (hf : Fit8 f) : Ans 18 #[.agg (vv f)] (.tuple #[.string (bs (putS f).1), .int .i64 (putS f).2]) := Lib.hid fun w => put_any8 f w hf
theorem fPutD (r n : Nat) (hr : r < 256) (hn : n < 4294967296) : Ans 20 #[.agg (dv r n)] (.tuple #[.string (bs (putDS r n).1), .int .i64 (putDS r n).2]) := Lib.hid fun w => putDot_any r n w hr hn

set_option maxRecDepth 100000 in
set_option maxHeartbeats 4000000 in
theorem vectorTexts_few (f : Nat → Nat) (r n : Nat) (s : List UInt8) (w : World) (hf : Fit8 f) (hr : r < 256) (hn : n < 4294967296) (hl : s.length ≤ 300) :
    Calls Try.prog 4 #[.agg (vv f), .agg (dv r n), .string (bs s)] w fun e w' => e = .returned (.bool true) ∧ Frm (fun _ => False) w w' := by
  have hsz : (bs s).size ≤ 300 := hl
  have P1 := fPut f hf
  have P2 : Ans 19 #[.agg (vv f)] (.tuple #[.string (bs (putS f).1), .int .i64 (putS f).2]) := Lib.hid fun w => rput_any8 f w hf
  have P3 := fPutD r n hr hn
  have P4 : Ans 21 #[.agg (dv r n)] (.tuple #[.string (bs (putDS r n).1), .int .i64 (putDS r n).2]) := Lib.hid fun w => rputDot_any r n w hr hn
  generalize putS f = X at *
  generalize putDS r n = Y at *
  have x1 : ((bs X.1).toList == (bs X.1).toList) = true := beq_self_eq_true _
  have x2 : ((bs X.1).toList != (bs X.1).toList) = false := bne_self_eq_false _
  have x3 : ((X.2 : Int) != (X.2 : Int)) = false := bne_self_eq_false _
  have x4 : ((bs Y.1).toList == (bs Y.1).toList) = true := beq_self_eq_true _
  have x5 : ((bs Y.1).toList != (bs Y.1).toList) = false := bne_self_eq_false _
  have x6 : ((Y.2 : Int) != (Y.2 : Int)) = false := bne_self_eq_false _
  have b0 : Blk ((w.alloc (Obj.cells (vv f) 24)).alloc (Obj.cells (dv r n) 26)) w.heap.size 24 (vv f) := (Blk.alloc w _ _).old _
  have b1 : Blk ((w.alloc (Obj.cells (vv f) 24)).alloc (Obj.cells (dv r n) 26)) (w.heap.size + 1) 26 (dv r n) := Blk.at1 w _ _ _
  have g0 : Frm (fun _ => False) w ((w.alloc (Obj.cells (vv f) 24)).alloc (Obj.cells (dv r n) 26)) := ((Frm.refl _ w).alloc _).alloc _
  have l0 := vcells b0
  go_enter Try.func4, Try.ntmps4
  go_wp2_with fail
  refine (P1.out _).mono ?_
  rintro e w1 ⟨rfl, g1⟩
  have c0 := b0.keep g1 (fun h => h)
  have c1 := b1.keep g1 (fun h => h)
  have k1 := g0.trans g1
  clear b0 b1 g0 g1 l0 P1
  have l0 := vcells c0
  go_wp2_with fail
  refine (P2.out _).mono ?_
  rintro e w2 ⟨rfl, g2⟩
  have b1 := c1.keep g2 (fun h => h)
  have k2 := k1.trans g2
  clear c0 c1 k1 g2 l0 P2
  have d0 := b1.cell 0 rfl
  have d1 := b1.cell 1 rfl
  go_wp2_with fail
  refine (P3.out _).mono ?_
  rintro e w3 ⟨rfl, g3⟩
  have c1 := b1.keep g3 (fun h => h)
  have k3 := k2.trans g3
  clear b1 k2 g3 d0 d1 P3
  have d0 := c1.cell 0 rfl
  have d1 := c1.cell 1 rfl
  go_wp2_with fail
  refine (P4.out _).mono ?_
  rintro e w4 ⟨rfl, g4⟩
  have k4 := k3.trans g4
  clear c1 k3 g4 d0 d1 P4
  go_wp2_with fail
  refine (read_any s _ (by omega)).mono ?_
  rintro e w5 ⟨rfl, r5, g5⟩
  have k5 := k4.trans g5
  obtain ⟨b, hb⟩ : ∃ b, w4.heap.size = b := ⟨_, rfl⟩
  have hb4 := k4.size
  rw [hb] at r5 hb4 ⊢
  have hb5 := r5.lt
  clear k4 g5 hb
  go_wp2_with fail
  have hq0 : Rq (w5.alloc (.cells #[.string (bs s), .int .i64 0, .int .i64 0] 47)) w5.heap.size s s 0 := ⟨0, Blk.alloc w5 _ _, by omega, by omega, by omega, fun _ => rfl, fun h => absurd rfl h⟩
  have r6 := r5.keep ((Frm.refl (fun _ => False) w5).alloc (.cells #[.string (bs s), .int .i64 0, .int .i64 0] 47)) (fun h => h)
  have k6 := k5.alloc (.cells #[.string (bs s), .int .i64 0, .int .i64 0] 47)
  obtain ⟨q, hqe⟩ : ∃ q, w5.heap.size = q := ⟨_, rfl⟩
  rw [hqe] at hq0 hb5 ⊢
  clear hqe r5 k5
  go_loopw [17] (fun i wr => ∃ k : Nat, k ≤ 4 ∧ i = .int .i64 k ∧ (∃ l e, Rd wr b l e ∧ Rq wr q s l e) ∧ Frm (fun _ => False) w wr) (fun i _ => 4 - (intOf i).toNat)
  case atStart => exact ⟨0, by omega, rfl, ⟨s, 0, r6, hq0⟩, k6⟩
  case round =>
    clear r6 hq0 k6
    obtain ⟨k, hk, rfl, ⟨l, e, r0, q0⟩, k0⟩ := hrel
    by_cases hlt : k < 4
    · have hki : (k : Int) < 4 := by omega
      have hi : e ≠ 0 → l = [] := q0.inv
      have K1 := fun w h => take_any8 b l e w h hi
      have K2 := fun w h => rtake_any8 q s l e w h
      have hi2 : (readV l e).2.2 ≠ 0 → (readV l e).2.1 = [] := rdV_inv _ _ _ (nextS_inv (n := 1) hi) 8
      unfold TakeTo at K1
      generalize takeS l e = T at *
      generalize readV l e = R at *
      have K3 := fun w h => takeDot_any b R.2.1 R.2.2 w h hi2
      have K4 := fun w h => rtakeDot_any q s R.2.1 R.2.2 w h
      unfold TakeDTo at K3
      generalize takeDS R.2.1 R.2.2 = D at *
      generalize readD R.2.1 R.2.2 = M at *
      have HK1 := Lib.hid K1
      have HK2 := Lib.hid K2
      have HK3 := Lib.hid K3
      have HK4 := Lib.hid K4
      have E1 := fEq T.1 T.1 true (eq8_self _)
      have E2 : ∀ w, (Op.equalIn 10000 26 (.agg (dv D.1.1 D.1.2)) (.agg (dv D.1.1 D.1.2))).run Try.prog w = .ok true w := fun w => by rw [run_eq_dot]; simp
      have y1 : ((T.2 : Int) != (T.2 : Int)) = false := bne_self_eq_false _
      have y2 : ((D.2 : Int) != (D.2 : Int)) = false := bne_self_eq_false _
      have y3 : ((bs M.2.1).toList == (bs M.2.1).toList) = true := beq_self_eq_true _
      have y4 : ((bs M.2.1).toList != (bs M.2.1).toList) = false := bne_self_eq_false _
      clear K1 K2 K3 K4 hi hi2
      go_wp2_with fail
      refine (HK1.out _ r0).mono ?_
      rintro e1 w1 ⟨rfl, r1, g1⟩
      have q1 := q0.keep g1 (by omega)
      have k1 := k0.new g1 (fun j h => by omega)
      have n1 := Blk.alloc w1 24 vz
      clear r0 q0 k0 g1 HK1
      go_wp2_with ((with_reducible refine wpl_store_vec rfl _ _ rfl w1.heap.size T.1 vz ?_ ?_ n1 rfl ?_); (focus rfl); (focus rfl); intro w2 e2 g2 z2)
      have m2 := ((Frm.refl (fun _ => False) w1).alloc (.cells vz 24)).next (X := fun _ => False) g2 (fun k hk h => by omega)
      have r2 := r1.keep m2 (fun h => h)
      have q2 := q1.keep m2 (fun h => h)
      have k2 := k1.trans m2
      obtain ⟨B1, hB1⟩ : ∃ B, w1.heap.size = B := ⟨_, rfl⟩
      have hr1 := r1.lt
      have hq1 := q1.lt
      rw [hB1] at e2 hr1 hq1 ⊢
      have hB2 := e2.lt
      clear n1 g2 z2 m2 r1 q1 k1 hB1
      refine (HK2.out _ q2).mono ?_
      rintro e3 w3 ⟨rfl, q3, g3⟩
      have r3 := r2.keep g3 (by omega)
      have k3 := k2.new g3 (fun j h => by omega)
      have e3 := e2.keep g3 (by omega)
      have n3 := Blk.alloc w3 24 vz
      clear r2 q2 k2 g3 HK2 e2
      go_wp2_with ((with_reducible refine wpl_store_vec rfl _ _ rfl w3.heap.size T.1 vz ?_ ?_ n3 rfl ?_); (focus rfl); (focus rfl); intro w4 e4 g4 z4)
      have m4 := ((Frm.refl (fun _ => False) w3).alloc (.cells vz 24)).next (X := fun _ => False) g4 (fun k hk h => by omega)
      have r4 := r3.keep m4 (fun h => h)
      have q4 := q3.keep m4 (fun h => h)
      have k4 := k3.trans m4
      have f4 := e3.keep m4 (fun h => h)
      obtain ⟨B2, hB2'⟩ : ∃ B, w3.heap.size = B := ⟨_, rfl⟩
      have h31 := e3.lt
      have h32 := r3.lt
      have h33 := q3.lt
      rw [hB2'] at e4 h31 h32 h33 ⊢
      have hB3 := e4.lt
      clear n3 g4 z4 m4 r3 q3 k3 hB2' e3
      refine (HK3.out _ r4).mono ?_
      rintro e5 w5 ⟨rfl, r5, g5⟩
      have q5 := q4.keep g5 (by omega)
      have k5 := k4.new g5 (fun j h => by omega)
      have f5 := f4.keep g5 (by omega)
      have e5 := e4.keep g5 (by omega)
      have n5 := Blk.alloc w5 26 dz
      clear r4 q4 k4 g5 HK3 f4 e4
      go_wp2_with ((with_reducible refine wpl_store_dot rfl _ _ rfl w5.heap.size D.1.1 D.1.2 dz ?_ ?_ n5 rfl ?_); (focus rfl); (focus rfl); intro w6 e6 g6 z6)
      have m6 := ((Frm.refl (fun _ => False) w5).alloc (.cells dz 26)).next (X := fun _ => False) g6 (fun k hk h => by omega)
      have r6 := r5.keep m6 (fun h => h)
      have q6 := q5.keep m6 (fun h => h)
      have k6 := k5.trans m6
      have f6 := f5.keep m6 (fun h => h)
      have p6 := e5.keep m6 (fun h => h)
      obtain ⟨B3, hB3'⟩ : ∃ B, w5.heap.size = B := ⟨_, rfl⟩
      have h51 := e5.lt
      have h52 := r5.lt
      have h53 := q5.lt
      rw [hB3'] at e6 h51 h52 h53 ⊢
      have hB4 := e6.lt
      clear n5 g6 z6 m6 r5 q5 k5 hB3' e5 f5
      refine (HK4.out _ q6).mono ?_
      rintro e7 w7 ⟨rfl, q7, g7⟩
      have r7 := r6.keep g7 (by omega)
      have k7 := k6.new g7 (fun j h => by omega)
      have f7 := f6.keep g7 (by omega)
      have p7 := p6.keep g7 (by omega)
      have e7 := e6.keep g7 (by omega)
      have n7 := Blk.alloc w7 26 dz
      clear r6 q6 k6 g7 HK4 f6 p6 e6
      go_wp2_with ((with_reducible refine wpl_store_dot rfl _ _ rfl w7.heap.size D.1.1 D.1.2 dz ?_ ?_ n7 rfl ?_); (focus rfl); (focus rfl); intro w8 e8 g8 z8; have m8 := ((Frm.refl (fun _ => False) w7).alloc (.cells dz 26)).next (X := fun _ => False) g8 (fun k hk h => by omega); have r8 := r7.keep m8 (fun h => h); have q8 := q7.keep m8 (fun h => h); have k8 := k7.trans m8; have v1 := vcells (f7.keep m8 (fun h => h)); have v2 := vcells (p7.keep m8 (fun h => h)); have v3 := (e7.keep m8 (fun h => h)).cell 0 rfl; have v4 := (e7.keep m8 (fun h => h)).cell 1 rfl; have v5 := e8.cell 0 rfl; have v6 := e8.cell 1 rfl)
      refine (rest_any b M.2.1 M.2.2 _ r8).mono ?_
      rintro e9 w9 ⟨rfl, rfl⟩
      go_wp2_with fail
      refine (q_rest q s M.2.1 M.2.2 _ q8).mono ?_
      rintro e10 w10 ⟨rfl, g10⟩
      go_wp2_with fail
      go_roundw
      case rel => exact ⟨k + 1, by omega, by go_num, ⟨_, _, r8.keep g10 (fun h => h), q8.keep g10 (fun h => h)⟩, k8.trans g10⟩
      case measure => simp [intOf]; omega
    · obtain rfl : k = 4 := by omega
      go_wp2_with fail
      refine (vawake_any _).mono ?_
      rintro e1 w1 ⟨rfl, g1⟩
      go_wp2_with fail
      go_ret
      exact ⟨rfl, k0.trans g1⟩

set_option maxRecDepth 100000 in
set_option maxHeartbeats 4000000 in
theorem vectorTexts_any (f : Nat → Nat) (r n : Nat) (s : List UInt8) (w : World) (hf : Fit8 f) (hr : r < 256) (hn : n < 4294967296) (hs : s.length ≤ 9223372036854775807) :
    Calls Try.prog 4 #[.agg (vv f), .agg (dv r n), .string (bs s)] w fun e w' => e = .returned (.bool true) ∧ Frm (fun _ => False) w w' := by
  by_cases hl : s.length ≤ 300
  · exact vectorTexts_few f r n s w hf hr hn hl
  · have hsz : 300 < (bs s).size := by rw [bs_size]; omega
    have hsz2 : (bs s).size ≤ 9223372036854775807 := hs
    have g0 : Frm (fun _ => False) w ((w.alloc (Obj.cells (vv f) 24)).alloc (Obj.cells (dv r n) 26)) := ((Frm.refl _ w).alloc _).alloc _
    clear hl hs
    go_enter Try.func4, Try.ntmps4
    go_wp2_with fail
    refine (vawake_any _).mono ?_
    rintro e1 w1 ⟨rfl, g1⟩
    go_wp2_with fail
    go_ret
    exact ⟨rfl, g0.trans g1⟩
end Go.Proofs.Ytdoeogfjbcannaa
