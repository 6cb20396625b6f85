/- VectorBack: what the law's call answers. Of any vector, dot and text. No condition but that the numbers have their bits. -/
import Derived.Test.YtdoeogfjbcannaaLawVTexts
import Derived.Test.YtdoeogfjbcannaaVecP
namespace Go.Proofs.Ytdoeogfjbcannaa
open Go.RowKit

theorem encV_len (f : Nat → Nat) : (encV f).length ≤ 41 := by
  rw [encV, List.length_append, beB_len]
  have := putB_len f 8
  omega
theorem encD_len (r n : Nat) : (encD r n).length ≤ 6 := by
  rw [encD, List.length_append, beB_len]
  have := varB_len n
  omega
/-- Both were put, or one was not. -/
def BackW (f : Nat → Nat) (r n : Nat) (A B : List UInt8) (ea eb : Nat) : Prop :=
  (ea = 0 ∧ eb = 0 ∧ (∀ t, readV (A ++ t) 0 = (cut8 f 8, t, 0) ∧ takeS (A ++ t) 0 = (cut8 f 8, 0)) ∧ (∀ t, readD (B ++ t) 0 = ((r, n), t, 0) ∧ takeDS (B ++ t) 0 = ((r, n), 0))) ∨ (ea = 0 ∧ eb = 4) ∨ ea = 4

set_option maxRecDepth 100000 in
set_option maxHeartbeats 4000000 in
theorem vectorBack_few (f : Nat → Nat) (r n : Nat) (s : List UInt8) (A B : List UInt8) (ea eb : Nat) (w : World) (hl : s.length ≤ 300)
    (P1 : Ans 18 #[.agg (vv f)] (.tuple #[.string (bs A), .int .i64 ea])) (P3 : Ans 20 #[.agg (dv r n)] (.tuple #[.string (bs B), .int .i64 eb])) (hA : A.length ≤ 41) (hB : B.length ≤ 41) (hW : BackW f r n A B ea eb) :
    Calls Try.prog 7 #[.agg (vv f), .agg (dv r n), .string (bs s)] w fun e w' => e = .returned (.bool true) ∧ Frm (fun _ => False) w w' := by
  have hsz : (bs s).size ≤ 300 := hl
  have hAz : (bs A).size ≤ 41 := hA
  have hBz : (bs B).size ≤ 41 := hB
  have AW := fAwake
  have K5 : ∀ w b, Rd w b s 0 → Calls Try.prog 23 #[.pointer (some ⟨b, 0, none⟩)] w fun r w' => r = .returned (.tuple #[.agg (vv (takeS s 0).1), .int .i64 (takeS s 0).2]) ∧ Rd w' b (readV s 0).2.1 (readV s 0).2.2 ∧ Frm (· = b) w w' := fun w b h => take_any8 b s 0 w h (fun h => absurd rfl h)
  have K6 := fPut (takeS s 0).1 (takeS_fit s 0)
  have hZ : (takeS s 0).2 = 0 → (putS (takeS s 0).1).2 = 0 ∧ (putS (takeS s 0).1).1 ++ (readV s 0).2.1 = s ∧ (putS (takeS s 0).1).1.length ≤ 300 ∧ (readV s 0).2.1.length ≤ 300 := fun h => by
    obtain ⟨h1, h2⟩ := take_put s h
    have h3 : ((encV (takeS s 0).1) ++ (readV s 0).2.1).length ≤ 300 := by rw [h2]; exact hl
    rw [List.length_append] at h3
    rw [h1]
    exact ⟨rfl, h2, by show (encV (takeS s 0).1).length ≤ 300; omega, by omega⟩
  generalize putS (takeS s 0).1 = Z at *
  generalize takeS s 0 = T at *
  generalize readV s 0 = R at *
  have HK5 := Lib.hid K5
  have HZ := Lib.hid hZ
  have HW := Lib.hid hW
  clear K5 hZ hW
  have b0 : Blk ((w.alloc (Obj.cells (vv f) 24)).alloc (Obj.cells (dv r n) 26)) w.heap.size 24 (vv f) := (Blk.alloc w _ _).old _
  have b1 : Blk ((w.alloc (Obj.cells (vv f) 24)).alloc (Obj.cells (dv r n) 26)) (w.heap.size + 1) 26 (dv r n) := Blk.at1 w _ _ _
  have g0 : Frm (fun _ => False) w ((w.alloc (Obj.cells (vv f) 24)).alloc (Obj.cells (dv r n) 26)) := ((Frm.refl _ w).alloc _).alloc _
  have l0 := vcells b0
  go_enter Try.func7, Try.ntmps7
  go_wp2_with fail
  refine (P1.out _).mono ?_
  rintro e w1 ⟨rfl, g1⟩
  have c0 := b0.keep g1 (fun h => h)
  have c1 := b1.keep g1 (fun h => h)
  have k1 := g0.trans g1
  clear b0 b1 g0 g1 l0 P1
  have d0 := c1.cell 0 rfl
  have d1 := c1.cell 1 rfl
  go_wp2_with fail
  refine (P3.out _).mono ?_
  rintro e w2 ⟨rfl, g2⟩
  have b0 := c0.keep g2 (fun h => h)
  have b1 := c1.keep g2 (fun h => h)
  have k2 := k1.trans g2
  clear c0 c1 k1 g2 d0 d1 P3
  go_wp2_with fail
  rw [bs_append, bs_append]
  refine (read_any (A ++ B ++ s) _ (by rw [List.length_append, List.length_append]; omega)).mono ?_
  rintro e w3 ⟨rfl, r3, g3⟩
  have c0 := b0.keep g3 (fun h => h)
  have c1 := b1.keep g3 (fun h => h)
  have k3 := k2.trans g3
  obtain ⟨b, hb⟩ : ∃ b, w2.heap.size = b := ⟨_, rfl⟩
  have hbw := k2.size
  have hb0 := b0.lt
  have hb1 := b1.lt
  rw [hb] at r3 hbw hb0 hb1 ⊢
  clear b0 b1 k2 g3 hb
  have hb3 := r3.lt
  rcases HW.out with ⟨h1, h2, hv, hd⟩ | ⟨h1, h2⟩ | h1
  · subst h1
    subst h2
    have K1 : ∀ w, Rd w b (A ++ B ++ s) 0 → Calls Try.prog 23 #[.pointer (some ⟨b, 0, none⟩)] w fun r w' => r = .returned (.tuple #[.agg (vv (cut8 f 8)), .int .i64 0]) ∧ Rd w' b (B ++ s) 0 ∧ Frm (· = b) w w' := fun w h => by
      rw [List.append_assoc] at h
      have h3 := take_any8 b (A ++ (B ++ s)) 0 w h (fun h => absurd rfl h)
      unfold TakeTo at h3
      rw [(hv (B ++ s)).1, (hv (B ++ s)).2] at h3
      exact h3
    have K3 : ∀ w, Rd w b (B ++ s) 0 → Calls Try.prog 25 #[.pointer (some ⟨b, 0, none⟩)] w fun x w' => x = .returned (.tuple #[.agg (dv r n), .int .i64 0]) ∧ Rd w' b s 0 ∧ Frm (· = b) w w' := fun w h => by
      have h3 := takeDot_any b (B ++ s) 0 w h (fun h => absurd rfl h)
      unfold TakeDTo at h3
      rw [(hd s).1, (hd s).2] at h3
      exact h3
    have E1 := fEq (cut8 f 8) f true (eq8_cut f)
    have E2 : ∀ w, (Op.equalIn 10000 26 (.agg (dv r n)) (.agg (dv r n))).run Try.prog w = .ok true w := fun w => by rw [run_eq_dot]; simp
    have y3 : ((bs s).toList == (bs s).toList) = true := beq_self_eq_true _
    have y4 : ((bs s).toList != (bs s).toList) = false := bne_self_eq_false _
    generalize cut8 f 8 = F at *
    have HK1 := Lib.hid K1
    have HK3 := Lib.hid K3
    clear K1 K3 hv hd HW
    go_wp2_with fail
    refine (HK1.out _ r3).mono ?_
    rintro e w4 ⟨rfl, r4, g4⟩
    have b0 := c0.keep g4 (by omega)
    have b1 := c1.keep g4 (by omega)
    have k4 := k3.new g4 (fun j h => by omega)
    have n4 := Blk.alloc w4 24 vz
    clear r3 c0 c1 k3 g4 HK1
    go_wp2_with ((with_reducible refine wpl_store_vec rfl _ _ rfl w4.heap.size F vz ?_ ?_ n4 rfl ?_); (focus rfl); (focus rfl); intro w5 e5 g5 z5)
    have m5 := ((Frm.refl (fun _ => False) w4).alloc (.cells vz 24)).next (X := fun _ => False) g5 (fun k hk h => by omega)
    have r5 := r4.keep m5 (fun h => h)
    have k5 := k4.trans m5
    have c0 := b0.keep m5 (fun h => h)
    have c1 := b1.keep m5 (fun h => h)
    obtain ⟨C, hC⟩ : ∃ C, w4.heap.size = C := ⟨_, rfl⟩
    have hr4 := r4.lt
    rw [hC] at e5 hr4 ⊢
    have hC5 := e5.lt
    clear r4 b0 b1 k4 n4 g5 z5 m5 hC
    refine (HK3.out _ r5).mono ?_
    rintro e w6 ⟨rfl, r6, g6⟩
    have b0 := c0.keep g6 (by omega)
    have b1 := c1.keep g6 (by omega)
    have e6 := e5.keep g6 (by omega)
    have k6 := k5.new g6 (fun j h => by omega)
    have n6 := Blk.alloc w6 26 dz
    clear r5 c0 c1 k5 g6 HK3 e5
    go_wp2_with ((with_reducible refine wpl_store_dot rfl _ _ rfl w6.heap.size r n dz ?_ ?_ n6 rfl ?_); (focus rfl); (focus rfl); intro w7 e7 g7 z7; have m7 := ((Frm.refl (fun _ => False) w6).alloc (.cells dz 26)).next (X := fun _ => False) g7 (fun k hk h => by omega); have r7 := r6.keep m7 (fun h => h); have k7 := k6.trans m7; have v1 := vcells (b0.keep m7 (fun h => h)); have v2 := vcells (e6.keep m7 (fun h => h)); have v3 := (b1.keep m7 (fun h => h)).cell 0 rfl; have v4 := (b1.keep m7 (fun h => h)).cell 1 rfl; have v5 := e7.cell 0 rfl; have v6 := e7.cell 1 rfl)
    refine (rest_any b s 0 _ r7).mono ?_
    rintro e w8 ⟨rfl, rfl⟩
    clear v1 v2 v3 v4 v5 v6 r7 m7 g7 z7 e7 e6 n6 r6 k6 b0 b1 E1 E2
    go_wp2_with fail
    refine (read_any s _ (by omega)).mono ?_
    rintro e20 w20 ⟨rfl, r20, g20⟩
    have k20 := k7.trans g20
    obtain ⟨c, hc⟩ : ∃ c, w7.heap.size = c := ⟨_, rfl⟩
    have hcw := k7.size
    rw [hc] at r20 hcw ⊢
    clear hc g20
    go_wp2_with fail
    refine (HK5.out _ _ r20).mono ?_
    rintro e21 w21 ⟨rfl, r21, g21⟩
    have k21 := k20.new g21 (fun j h => by omega)
    have n21 := Blk.alloc w21 24 vz
    have hc21 := r21.lt
    clear r20 k20 g21
    go_wp2_with ((with_reducible refine wpl_store_vec rfl _ _ rfl w21.heap.size T.1 vz ?_ ?_ n21 rfl ?_); (focus rfl); (focus rfl); intro w22 e22 g22 z22; have m22 := ((Frm.refl (fun _ => False) w21).alloc (.cells vz 24)).next (X := fun _ => False) g22 (fun k hk h => by omega); have l22 := vcells e22)
    refine (K6.out _).mono ?_
    rintro e23 w23 ⟨rfl, g23⟩
    have r23 := (r21.keep m22 (fun h => h)).keep g23 (fun h => h)
    have k23 := (k21.trans m22).trans g23
    clear r21 m22 g23 k21 n21 e22 g22 z22 l22 hc21
    by_cases hT : T.2 = 0
    · obtain ⟨hZ1, hZ2, hZ3, hZ4⟩ := HZ.out hT
      have y1 : ((T.2 : Int) != 0) = false := by rw [hT]; rfl
      have y2 : ((Z.2 : Int) == 0) = true := by rw [hZ1]; rfl
      have y3 : ((bs Z.1 ++ bs R.2.1).toList == (bs s).toList) = true := by rw [bs_append, hZ2]; exact beq_self_eq_true _
      have y4 : (bs Z.1).size ≤ 300 := hZ3
      have y5 : (bs R.2.1).size ≤ 300 := hZ4
      clear hT hZ1 hZ2 hZ3 hZ4
      go_wp2_with fail
      refine (rest_any c R.2.1 R.2.2 _ r23).mono ?_
      rintro e24 w24 ⟨rfl, rfl⟩
      go_wp2_with fail
      refine (AW.out _).mono ?_
      rintro e25 w25 ⟨rfl, g25⟩
      go_wp2_with fail
      go_ret
      exact ⟨rfl, k23.trans g25⟩
    · have y1 : ((T.2 : Int) != 0) = true := by simpa using hT
      clear hT
      go_wp2_with fail
      refine (AW.out _).mono ?_
      rintro e25 w25 ⟨rfl, g25⟩
      go_wp2_with fail
      go_ret
      exact ⟨rfl, k23.trans g25⟩
  · subst h1
    subst h2
    clear HW c0 c1 r3
    go_wp2_with fail
    refine (read_any s _ (by omega)).mono ?_
    rintro e20 w20 ⟨rfl, r20, g20⟩
    have k20 := k3.trans g20
    obtain ⟨c, hc⟩ : ∃ c, w3.heap.size = c := ⟨_, rfl⟩
    have hcw := k3.size
    rw [hc] at r20 hcw ⊢
    clear hc g20
    go_wp2_with fail
    refine (HK5.out _ _ r20).mono ?_
    rintro e21 w21 ⟨rfl, r21, g21⟩
    have k21 := k20.new g21 (fun j h => by omega)
    have n21 := Blk.alloc w21 24 vz
    have hc21 := r21.lt
    clear r20 k20 g21
    go_wp2_with ((with_reducible refine wpl_store_vec rfl _ _ rfl w21.heap.size T.1 vz ?_ ?_ n21 rfl ?_); (focus rfl); (focus rfl); intro w22 e22 g22 z22; have m22 := ((Frm.refl (fun _ => False) w21).alloc (.cells vz 24)).next (X := fun _ => False) g22 (fun k hk h => by omega); have l22 := vcells e22)
    refine (K6.out _).mono ?_
    rintro e23 w23 ⟨rfl, g23⟩
    have r23 := (r21.keep m22 (fun h => h)).keep g23 (fun h => h)
    have k23 := (k21.trans m22).trans g23
    clear r21 m22 g23 k21 n21 e22 g22 z22 l22 hc21
    by_cases hT : T.2 = 0
    · obtain ⟨hZ1, hZ2, hZ3, hZ4⟩ := HZ.out hT
      have y1 : ((T.2 : Int) != 0) = false := by rw [hT]; rfl
      have y2 : ((Z.2 : Int) == 0) = true := by rw [hZ1]; rfl
      have y3 : ((bs Z.1 ++ bs R.2.1).toList == (bs s).toList) = true := by rw [bs_append, hZ2]; exact beq_self_eq_true _
      have y4 : (bs Z.1).size ≤ 300 := hZ3
      have y5 : (bs R.2.1).size ≤ 300 := hZ4
      clear hT hZ1 hZ2 hZ3 hZ4
      go_wp2_with fail
      refine (rest_any c R.2.1 R.2.2 _ r23).mono ?_
      rintro e24 w24 ⟨rfl, rfl⟩
      go_wp2_with fail
      refine (AW.out _).mono ?_
      rintro e25 w25 ⟨rfl, g25⟩
      go_wp2_with fail
      go_ret
      exact ⟨rfl, k23.trans g25⟩
    · have y1 : ((T.2 : Int) != 0) = true := by simpa using hT
      clear hT
      go_wp2_with fail
      refine (AW.out _).mono ?_
      rintro e25 w25 ⟨rfl, g25⟩
      go_wp2_with fail
      go_ret
      exact ⟨rfl, k23.trans g25⟩
  · subst h1
    clear HW c0 c1 r3
    go_wp2_with fail
    refine (read_any s _ (by omega)).mono ?_
    rintro e20 w20 ⟨rfl, r20, g20⟩
    have k20 := k3.trans g20
    obtain ⟨c, hc⟩ : ∃ c, w3.heap.size = c := ⟨_, rfl⟩
    have hcw := k3.size
    rw [hc] at r20 hcw ⊢
    clear hc g20
    go_wp2_with fail
    refine (HK5.out _ _ r20).mono ?_
    rintro e21 w21 ⟨rfl, r21, g21⟩
    have k21 := k20.new g21 (fun j h => by omega)
    have n21 := Blk.alloc w21 24 vz
    have hc21 := r21.lt
    clear r20 k20 g21
    go_wp2_with ((with_reducible refine wpl_store_vec rfl _ _ rfl w21.heap.size T.1 vz ?_ ?_ n21 rfl ?_); (focus rfl); (focus rfl); intro w22 e22 g22 z22; have m22 := ((Frm.refl (fun _ => False) w21).alloc (.cells vz 24)).next (X := fun _ => False) g22 (fun k hk h => by omega); have l22 := vcells e22)
    refine (K6.out _).mono ?_
    rintro e23 w23 ⟨rfl, g23⟩
    have r23 := (r21.keep m22 (fun h => h)).keep g23 (fun h => h)
    have k23 := (k21.trans m22).trans g23
    clear r21 m22 g23 k21 n21 e22 g22 z22 l22 hc21
    by_cases hT : T.2 = 0
    · obtain ⟨hZ1, hZ2, hZ3, hZ4⟩ := HZ.out hT
      have y1 : ((T.2 : Int) != 0) = false := by rw [hT]; rfl
      have y2 : ((Z.2 : Int) == 0) = true := by rw [hZ1]; rfl
      have y3 : ((bs Z.1 ++ bs R.2.1).toList == (bs s).toList) = true := by rw [bs_append, hZ2]; exact beq_self_eq_true _
      have y4 : (bs Z.1).size ≤ 300 := hZ3
      have y5 : (bs R.2.1).size ≤ 300 := hZ4
      clear hT hZ1 hZ2 hZ3 hZ4
      go_wp2_with fail
      refine (rest_any c R.2.1 R.2.2 _ r23).mono ?_
      rintro e24 w24 ⟨rfl, rfl⟩
      go_wp2_with fail
      refine (AW.out _).mono ?_
      rintro e25 w25 ⟨rfl, g25⟩
      go_wp2_with fail
      go_ret
      exact ⟨rfl, k23.trans g25⟩
    · have y1 : ((T.2 : Int) != 0) = true := by simpa using hT
      clear hT
      go_wp2_with fail
      refine (AW.out _).mono ?_
      rintro e25 w25 ⟨rfl, g25⟩
      go_wp2_with fail
      go_ret
      exact ⟨rfl, k23.trans g25⟩

set_option maxRecDepth 100000 in
set_option maxHeartbeats 4000000 in
theorem vectorBack_any (f : Nat → Nat) (r n : Nat) (s : List UInt8) (w : World) (hf : Fit8 f) (hr : r < 256) (hn : n < 4294967296) (hs : s.length ≤ 9223372036854775807) :
    Calls Try.prog 7 #[.agg (vv f), .agg (dv r n), .string (bs s)] w fun e w' => e = .returned (.bool true) ∧ Frm (fun _ => False) w w' := by
  by_cases hl : s.length ≤ 300
  · have P1 := fPut f hf
    have P3 := fPutD r n hr hn
    refine vectorBack_few f r n s (putS f).1 (putDS r n).1 (putS f).2 (putDS r n).2 w hl P1 P3 ?_ ?_ ?_
    · unfold putS
      split
      · exact encV_len f
      · simp
    · unfold putDS
      split
      · have h := encD_len r n
        show (encD r n).length ≤ 41
        omega
      · simp
    · by_cases hx : mx f 8 ≤ 65535
      · have h1 : putS f = (encV f, 0) := by simp [putS, hx]
        rw [h1]
        cases hok : okD r n with
        | true =>
          have h2 : putDS r n = (encD r n, 0) := by simp [putDS, hok]
          rw [h2]
          exact .inl ⟨rfl, rfl, fun t => take_back f hf hx t, fun t => takeDot_back r n hr hn hok t⟩
        | false =>
          have h2 : putDS r n = ([], 4) := by simp [putDS, hok]
          rw [h2]
          exact .inr (.inl ⟨rfl, rfl⟩)
      · have h1 : putS f = ([], 4) := by simp [putS, hx]
        rw [h1]
        exact .inr (.inr rfl)
  · have hsz : 300 < (bs s).size := by rw [bs_size]; omega
    have hsz2 : (bs s).size ≤ 9223372036854775807 := hs
    have g0 : Frm (fun _ => False) w ((w.alloc (Obj.cells (vv f) 24)).alloc (Obj.cells (dv r n) 26)) := ((Frm.refl _ w).alloc _).alloc _
    clear hl hs
    go_enter Try.func7, Try.ntmps7
    go_wp2_with fail
    refine (vawake_any _).mono ?_
    rintro e1 w1 ⟨rfl, g1⟩
    go_wp2_with fail
    go_ret
    exact ⟨rfl, g0.trans g1⟩
end Go.Proofs.Ytdoeogfjbcannaa
