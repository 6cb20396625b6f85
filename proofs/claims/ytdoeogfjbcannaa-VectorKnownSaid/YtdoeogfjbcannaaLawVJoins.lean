/- VectorJoins: what the law's call answers. Of any vectors and dot. No condition but that the numbers have their bits. -/
import Derived.Test.YtdoeogfjbcannaaVecN
namespace Go.Proofs.Ytdoeogfjbcannaa
open Go.RowKit

theorem eq8_self (f : Nat → Nat) : eq8 f f = true := (eq8_iff f f).2 fun _ _ => rfl
theorem fNext (f : Nat → Nat) (r : Nat) (hf : Fit8 f) (hr : r < 256) : Ans 9 #[.agg (vv f), .int .u8 r] (.tuple #[.agg (vv (nextS8 f r).1), .agg (dv (nextS8 f r).2.1.1 (nextS8 f r).2.1.2), .int .i64 (nextS8 f r).2.2]) :=
  Lib.hid fun w => next_any8 f r w hf hr
theorem fRNext (f : Nat → Nat) (r : Nat) (hf : Fit8 f) : Ans 10 #[.agg (vv f), .int .u8 r] (.tuple #[.agg (vv (nextS8 f r).1), .agg (dv (nextS8 f r).2.1.1 (nextS8 f r).2.1.2), .int .i64 (nextS8 f r).2.2]) :=
  Lib.hid fun w => rnext_any f r w hf
theorem fAwake : Ans 17 #[] (.bool true) := Lib.hid fun w => vawake_any w

set_option maxRecDepth 100000 in
set_option maxHeartbeats 4000000 in
theorem vectorJoins_any (f g : Nat → Nat) (r n : Nat) (w : World) (hf : Fit8 f) (hr : r < 256) (hn : n < 4294967296) :
    Calls Try.prog 3 #[.agg (vv f), .agg (vv g), .agg (dv r n)] w fun e w' => e = .returned (.bool true) ∧ Frm (fun _ => False) w w' := by
  have H1 := fNext f r hf hr
  have H2 := fRNext f r hf
  generalize nextS8 f r = N at *
  obtain ⟨v, ⟨x, y⟩, z⟩ := N
  have J1 := fJoin f g
  have J2 : Ans 12 #[.agg (vv f), .agg (vv g)] (.agg (vv (jn8 f g))) := Lib.hid fun w => rjoin_any f g w
  have J3 := fEq (jn8 f g) (jn8 f g) true (eq8_self _)
  have C1 : Ans 13 #[.agg (vv f), .agg (vv g)] (.int .i64 (cmp8 f g)) := Lib.hid fun w => cmp_any f g w
  have C2 : Ans 14 #[.agg (vv f), .agg (vv g)] (.int .i64 (cmp8 f g)) := Lib.hid fun w => rcmp_any f g w
  have D1 : Ans 15 #[.agg (vv f), .agg (dv r n)] (.bool (has8 f r n)) := Lib.hid fun w => has_any f r n w hr hn
  have D2 : Ans 16 #[.agg (vv f), .agg (dv r n)] (.bool (has8 f r n)) := Lib.hid fun w => rhas_any f r n w
  have E1 := fEq v v true (eq8_self _)
  have E2 : ∀ w, (Op.equalIn 10000 26 (.agg (dv x y)) (.agg (dv x y))).run Try.prog w = .ok true w := fun w => by rw [run_eq_dot]; simp
  have AW := fAwake
  generalize jn8 f g = j at *
  generalize cmp8 f g = c at *
  generalize has8 f r n = q at *
  have b0 : Blk (((w.alloc (Obj.cells (vv f) 24)).alloc (Obj.cells (vv g) 24)).alloc (Obj.cells (dv r n) 26)) w.heap.size 24 (vv f) := ((Blk.alloc w _ _).old _).old _
  have b1 : Blk (((w.alloc (Obj.cells (vv f) 24)).alloc (Obj.cells (vv g) 24)).alloc (Obj.cells (dv r n) 26)) (w.heap.size + 1) 24 (vv g) := (Blk.at1 w _ _ _).old _
  have b2 : Blk (((w.alloc (Obj.cells (vv f) 24)).alloc (Obj.cells (vv g) 24)).alloc (Obj.cells (dv r n) 26)) (w.heap.size + 1 + 1) 26 (dv r n) := Blk.at2 w _ _ _ _
  have g0 : Frm (fun _ => False) w (((w.alloc (Obj.cells (vv f) 24)).alloc (Obj.cells (vv g) 24)).alloc (Obj.cells (dv r n) 26)) := (((Frm.refl _ w).alloc _).alloc _).alloc _
  go_enter Try.func3, Try.ntmps3
  go_upto_region 1 with fail
  obtain ⟨w0, hw0⟩ : ∃ w0, ((w.alloc (Obj.cells (vv f) 24)).alloc (Obj.cells (vv g) 24)).alloc (Obj.cells (dv r n) 26) = w0 := ⟨_, rfl⟩
  rw [hw0] at b0 b1 b2 g0 ⊢
  clear hw0
  obtain ⟨A, hA⟩ : ∃ A, w.heap.size = A := ⟨_, rfl⟩
  rw [hA] at b0 b1 b2 ⊢
  have HA := Lib.hid hA
  have hA0 : A < w0.heap.size := b0.lt
  have hA2 : A + 2 < w0.heap.size := b2.lt
  clear hA
  have l0 := vcells b0
  have d0 := b2.cell 0 rfl
  have d1 := b2.cell 1 rfl
  go_wp2_with fail
  refine (H1.out _).mono ?_
  rintro e w1 ⟨rfl, g1⟩
  have c0 := b0.keep g1 (fun h => h)
  have c1 := b1.keep g1 (fun h => h)
  have c2 := b2.keep g1 (fun h => h)
  have k1 := g0.trans g1
  have hs1 := g1.size
  clear b0 b1 b2 l0 d0 d1 g0 g1
  have n7 : Blk ((w1.alloc (.cells vz 24)).alloc (.cells dz 26)) w1.heap.size 24 vz := (Blk.alloc w1 _ _).old _
  have n8 : Blk ((w1.alloc (.cells vz 24)).alloc (.cells dz 26)) (w1.heap.size + 1) 26 dz := Blk.at1 w1 _ _ _
  have m1 : Frm (fun _ => False) w1 ((w1.alloc (.cells vz 24)).alloc (.cells dz 26)) := ((Frm.refl _ w1).alloc _).alloc _
  go_upto_region 2 with (first
    | ((with_reducible refine wpl_store_vec rfl _ _ rfl w1.heap.size v vz ?_ ?_ n7 rfl ?_); (focus rfl); (focus rfl); intro w2 e7 g2 z2; have m8 := n8.keep g2 (by omega); have m2 := m1.next (X := fun _ => False) g2 (fun k hk h => by omega))
    | ((with_reducible refine wpl_store_dot rfl _ _ rfl (w1.heap.size + 1) x y dz ?_ ?_ m8 rfl ?_); (focus rfl); (focus rfl); intro w3 e8 g3 z3; have e7' := e7.keep g3 (by omega); have m3 := m2.next (X := fun _ => False) g3 (fun k hk h => by omega)))
  have b0 := c0.keep m3 (fun h => h)
  have b1 := c1.keep m3 (fun h => h)
  have b2 := c2.keep m3 (fun h => h)
  have k3 := k1.trans m3
  have hs3 := m3.size
  obtain ⟨B, hB⟩ : ∃ B, w1.heap.size = B := ⟨_, rfl⟩
  rw [hB] at e7' e8 hs1 ⊢
  have hB3 := e8.lt
  clear c0 c1 c2 k1 n7 n8 m1 e7 g2 z2 m8 m2 g3 z3 m3 hs3 hB
  have l0 := vcells b0
  have d0 := b2.cell 0 rfl
  have d1 := b2.cell 1 rfl
  go_wp2_with fail
  refine (H2.out _).mono ?_
  rintro e w4 ⟨rfl, g4⟩
  have c0 := b0.keep g4 (fun h => h)
  have c1 := b1.keep g4 (fun h => h)
  have c2 := b2.keep g4 (fun h => h)
  have c7 := e7'.keep g4 (fun h => h)
  have c8 := e8.keep g4 (fun h => h)
  have k4 := k3.trans g4
  have hs4 := g4.size
  clear b0 b1 b2 l0 d0 d1 k3 g4 e7' e8
  have n10 : Blk ((w4.alloc (.cells vz 24)).alloc (.cells dz 26)) w4.heap.size 24 vz := (Blk.alloc w4 _ _).old _
  have n11 : Blk ((w4.alloc (.cells vz 24)).alloc (.cells dz 26)) (w4.heap.size + 1) 26 dz := Blk.at1 w4 _ _ _
  have m1 : Frm (fun _ => False) w4 ((w4.alloc (.cells vz 24)).alloc (.cells dz 26)) := ((Frm.refl _ w4).alloc _).alloc _
  go_upto_region 3 with (first
    | ((with_reducible refine wpl_store_vec rfl _ _ rfl w4.heap.size v vz ?_ ?_ n10 rfl ?_); (focus rfl); (focus rfl); intro w5 e10 g5 z5; have m11 := n11.keep g5 (by omega); have m5 := m1.next (X := fun _ => False) g5 (fun k hk h => by omega))
    | ((with_reducible refine wpl_store_dot rfl _ _ rfl (w4.heap.size + 1) x y dz ?_ ?_ m11 rfl ?_); (focus rfl); (focus rfl); intro w6 e11 g6 z6; have e10' := e10.keep g6 (by omega); have m6 := m5.next (X := fun _ => False) g6 (fun k hk h => by omega)))
  have b0 := vcells (c0.keep m6 (fun h => h))
  have b1 := vcells (c1.keep m6 (fun h => h))
  have b2 := c2.keep m6 (fun h => h)
  have b7 := vcells (c7.keep m6 (fun h => h))
  have b8 := c8.keep m6 (fun h => h)
  have k6 := k4.trans m6
  have b10 := vcells e10'
  obtain ⟨C, hC⟩ : ∃ C, w4.heap.size = C := ⟨_, rfl⟩
  rw [hC] at b10 e11 ⊢
  have x0 := b2.cell 0 rfl
  have x1 := b2.cell 1 rfl
  have x2 := b8.cell 0 rfl
  have x3 := b8.cell 1 rfl
  have x4 := e11.cell 0 rfl
  have x5 := e11.cell 1 rfl
  clear c0 c1 c2 c7 c8 k4 n10 n11 m1 e10 g5 z5 m11 m5 g6 z6 m6 e10' e11 hC hs4 b2 b8 H1 H2
  have i1 : ((c : Int) == (c : Int)) = true := beq_self_eq_true _
  have i2 : (q == q) = true := beq_self_eq_true _
  have i3 : ((z : Int) == (z : Int)) = true := beq_self_eq_true _
  refine wp_region_canon (fun w' => (∀ k, k < 8 → w'.cell? ⟨A, k, none⟩ = some (.int .u32 (f k))) ∧ (∀ k, k < 8 → w'.cell? ⟨A + 1, k, none⟩ = some (.int .u32 (g k))) ∧ (∀ k, k < 8 → w'.cell? ⟨B, k, none⟩ = some (.int .u32 (v k))) ∧ (∀ k, k < 8 → w'.cell? ⟨C, k, none⟩ = some (.int .u32 (v k))) ∧ w'.cell? ⟨A + 1 + 1, 0, none⟩ = some (.int .u8 r) ∧ w'.cell? ⟨A + 1 + 1, 1, none⟩ = some (.int .u32 n) ∧ w'.cell? ⟨B + 1, 0, none⟩ = some (.int .u8 x) ∧ w'.cell? ⟨B + 1, 1, none⟩ = some (.int .u32 y) ∧ w'.cell? ⟨C + 1, 0, none⟩ = some (.int .u8 x) ∧ w'.cell? ⟨C + 1, 1, none⟩ = some (.int .u32 y) ∧ Frm (fun _ => False) w w') (by kernel_rfl) rfl (by kernel_rfl) (by kernel_rfl) (⟨b0, b1, b7, b10, x0, x1, x2, x3, x4, x5, k6.drew⟩) ?_
  repeat' first
    | (refine CanonL.skip (by rfl) ?_; (try simp only [Act.put, List.setIfInBounds_toArray, List.set_cons_zero, List.set_cons_succ]))
    | (refine CanonL.callT (by rfl) ?_ J1 ?_ ?_; (focus (intro w; go_simp; (try (with_reducible rfl)); done)); (focus (rintro w ww hs gg; exact (by obtain ⟨h1, h2, h3, h4, h5, h6, h7, h8, h9, h10, h11⟩ := hs; exact ⟨fun k hk => gg.cellF (h1 k hk), fun k hk => gg.cellF (h2 k hk), fun k hk => gg.cellF (h3 k hk), fun k hk => gg.cellF (h4 k hk), gg.cellF h5, gg.cellF h6, gg.cellF h7, gg.cellF h8, gg.cellF h9, gg.cellF h10, h11.trans gg⟩))); (try simp only [Act.put, List.setIfInBounds_toArray, List.set_cons_zero, List.set_cons_succ]))
    | (refine CanonL.callT (by rfl) ?_ J2 ?_ ?_; (focus (intro w; go_simp; (try (with_reducible rfl)); done)); (focus (rintro w ww hs gg; exact (by obtain ⟨h1, h2, h3, h4, h5, h6, h7, h8, h9, h10, h11⟩ := hs; exact ⟨fun k hk => gg.cellF (h1 k hk), fun k hk => gg.cellF (h2 k hk), fun k hk => gg.cellF (h3 k hk), fun k hk => gg.cellF (h4 k hk), gg.cellF h5, gg.cellF h6, gg.cellF h7, gg.cellF h8, gg.cellF h9, gg.cellF h10, h11.trans gg⟩))); (try simp only [Act.put, List.setIfInBounds_toArray, List.set_cons_zero, List.set_cons_succ]))
    | (refine CanonL.callT (by rfl) ?_ C1 ?_ ?_; (focus (intro w; go_simp; (try (with_reducible rfl)); done)); (focus (rintro w ww hs gg; exact (by obtain ⟨h1, h2, h3, h4, h5, h6, h7, h8, h9, h10, h11⟩ := hs; exact ⟨fun k hk => gg.cellF (h1 k hk), fun k hk => gg.cellF (h2 k hk), fun k hk => gg.cellF (h3 k hk), fun k hk => gg.cellF (h4 k hk), gg.cellF h5, gg.cellF h6, gg.cellF h7, gg.cellF h8, gg.cellF h9, gg.cellF h10, h11.trans gg⟩))); (try simp only [Act.put, List.setIfInBounds_toArray, List.set_cons_zero, List.set_cons_succ]))
    | (refine CanonL.callT (by rfl) ?_ C2 ?_ ?_; (focus (intro w; go_simp; (try (with_reducible rfl)); done)); (focus (rintro w ww hs gg; exact (by obtain ⟨h1, h2, h3, h4, h5, h6, h7, h8, h9, h10, h11⟩ := hs; exact ⟨fun k hk => gg.cellF (h1 k hk), fun k hk => gg.cellF (h2 k hk), fun k hk => gg.cellF (h3 k hk), fun k hk => gg.cellF (h4 k hk), gg.cellF h5, gg.cellF h6, gg.cellF h7, gg.cellF h8, gg.cellF h9, gg.cellF h10, h11.trans gg⟩))); (try simp only [Act.put, List.setIfInBounds_toArray, List.set_cons_zero, List.set_cons_succ]))
    | (refine CanonL.callT (by rfl) ?_ D1 ?_ ?_; (focus (intro w; go_simp; (try (with_reducible rfl)); done)); (focus (rintro w ww hs gg; exact (by obtain ⟨h1, h2, h3, h4, h5, h6, h7, h8, h9, h10, h11⟩ := hs; exact ⟨fun k hk => gg.cellF (h1 k hk), fun k hk => gg.cellF (h2 k hk), fun k hk => gg.cellF (h3 k hk), fun k hk => gg.cellF (h4 k hk), gg.cellF h5, gg.cellF h6, gg.cellF h7, gg.cellF h8, gg.cellF h9, gg.cellF h10, h11.trans gg⟩))); (try simp only [Act.put, List.setIfInBounds_toArray, List.set_cons_zero, List.set_cons_succ]))
    | (refine CanonL.callT (by rfl) ?_ D2 ?_ ?_; (focus (intro w; go_simp; (try (with_reducible rfl)); done)); (focus (rintro w ww hs gg; exact (by obtain ⟨h1, h2, h3, h4, h5, h6, h7, h8, h9, h10, h11⟩ := hs; exact ⟨fun k hk => gg.cellF (h1 k hk), fun k hk => gg.cellF (h2 k hk), fun k hk => gg.cellF (h3 k hk), fun k hk => gg.cellF (h4 k hk), gg.cellF h5, gg.cellF h6, gg.cellF h7, gg.cellF h8, gg.cellF h9, gg.cellF h10, h11.trans gg⟩))); (try simp only [Act.put, List.setIfInBounds_toArray, List.set_cons_zero, List.set_cons_succ]))
    | (refine CanonL.callT (by rfl) ?_ AW ?_ ?_; (focus (intro w; go_simp; (try (with_reducible rfl)); done)); (focus (rintro w ww hs gg; exact (by obtain ⟨h1, h2, h3, h4, h5, h6, h7, h8, h9, h10, h11⟩ := hs; exact ⟨fun k hk => gg.cellF (h1 k hk), fun k hk => gg.cellF (h2 k hk), fun k hk => gg.cellF (h3 k hk), fun k hk => gg.cellF (h4 k hk), gg.cellF h5, gg.cellF h6, gg.cellF h7, gg.cellF h8, gg.cellF h9, gg.cellF h10, h11.trans gg⟩))); (try simp only [Act.put, List.setIfInBounds_toArray, List.set_cons_zero, List.set_cons_succ]))
    | (refine CanonL.val (v := ?_) (by rfl) ?_ ?_; rotate_left 1; (focus (intro w hSw; (try dsimp only at hSw); go_simp; (try (with_reducible rfl)); done)); (try simp only [Act.put, List.setIfInBounds_toArray, List.set_cons_zero, List.set_cons_succ]))
  refine CanonL.done ?_
  intro w9 hS9
  obtain ⟨_, _, _, _, _, _, _, _, _, _, k9⟩ := hS9
  go_wp2_with fail
  go_ret
  exact ⟨rfl, k9⟩
end Go.Proofs.Ytdoeogfjbcannaa
