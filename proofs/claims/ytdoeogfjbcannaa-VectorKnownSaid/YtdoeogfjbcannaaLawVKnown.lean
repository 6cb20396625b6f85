/- VectorKnown: the examples of the chapter hold. No condition. -/
import Derived.Test.YtdoeogfjbcannaaLawVTexts
import Derived.Test.YtdoeogfjbcannaaVecI
namespace Go.Proofs.Ytdoeogfjbcannaa
open Go.RowKit

theorem fHas (f : Nat → Nat) (r n : Nat) (q : Bool) (hr : r < 256) (hn : n < 4294967296) (h : has8 f r n = q) : Ans 15 #[.agg (vv f), .agg (dv r n)] (.bool q) := Lib.hid fun w => by
  rw [← h]; exact has_any f r n w hr hn
theorem fNextN (f : Nat → Nat) (r : Nat) (N : (Nat → Nat) × (Nat × Nat) × Nat) (hf : Fit8 f) (hr : r < 256) (h : nextS8 f r = N) : Ans 9 #[.agg (vv f), .int .u8 r] (.tuple #[.agg (vv N.1), .agg (dv N.2.1.1 N.2.1.2), .int .i64 N.2.2]) := by
  rw [← h]; exact fNext f r hf hr
theorem fPutN (f : Nat → Nat) (N : List UInt8 × Nat) (hf : Fit8 f) (h : putS f = N) : Ans 18 #[.agg (vv f)] (.tuple #[.string (bs N.1), .int .i64 N.2]) := by
  rw [← h]; exact fPut f hf
theorem fPutDN (r n : Nat) (N : List UInt8 × Nat) (hr : r < 256) (hn : n < 4294967296) (h : putDS r n = N) : Ans 20 #[.agg (dv r n)] (.tuple #[.string (bs N.1), .int .i64 N.2]) := by
  rw [← h]; exact fPutD r n hr hn
/-- What Next makes of the vector 1 2, for 1 and for 0. -/
def nxt1 : Nat → Nat := upd8 (of2 1 2) 1 3
def nxt0 : Nat → Nat := upd8 (of2 1 2) 0 3
theorem read_hand (l : List UInt8) (w : World) (hl : l.length ≤ 10) :
    Calls Try.prog 22 #[.string (bs l)] w fun e w' => e = .returned (.pointer (some ⟨w.heap.size, 0, none⟩)) ∧ Rd w' w.heap.size l 0 ∧ Frm (fun _ => False) w w' := read_any l w (by omega)

set_option maxRecDepth 100000 in
set_option maxHeartbeats 8000000 in
theorem vectorKnown_any (w : World) : Calls Try.prog 5 #[] w fun e w' => e = .returned (.bool true) ∧ Frm (fun _ => False) w w' := by
  have o12 : Ans 29 #[.int .u32 1, .int .u32 2] (.agg (vv (of2 1 2))) := fOf 1 2
  have o13 : Ans 29 #[.int .u32 1, .int .u32 3] (.agg (vv (of2 1 3))) := fOf 1 3
  have o02 : Ans 29 #[.int .u32 0, .int .u32 2] (.agg (vv (of2 0 2))) := fOf 0 2
  have oB : Ans 29 #[.int .u32 1048576, .int .u32 0] (.agg (vv (of2 1048576 0))) := fOf 1048576 0
  have oC : Ans 29 #[.int .u32 0, .int .u32 65535] (.agg (vv (of2 0 65535))) := fOf 0 65535
  have o00 : Ans 29 #[.int .u32 0, .int .u32 0] (.agg (vv (of2 0 0))) := fOf 0 0
  have oD : Ans 29 #[.int .u32 65536, .int .u32 0] (.agg (vv (of2 65536 0))) := fOf 65536 0
  have o32 : Ans 29 #[.int .u32 3, .int .u32 2] (.agg (vv (of2 3 2))) := fOf 3 2
  have oE : Ans 29 #[.int .u32 65535, .int .u32 0] (.agg (vv (of2 65535 0))) := fOf 65535 0
  have c0 : Ans 13 #[.agg (vv (of2 1 2)), .agg (vv (of2 1 2))] (.int .i64 0) := fCmp (of2 1 2) (of2 1 2) 0 rfl
  have c1 : Ans 13 #[.agg (vv (of2 1 2)), .agg (vv (of2 1 3))] (.int .i64 1) := fCmp (of2 1 2) (of2 1 3) 1 rfl
  have c2 : Ans 13 #[.agg (vv (of2 1 2)), .agg (vv (of2 0 2))] (.int .i64 2) := fCmp (of2 1 2) (of2 0 2) 2 rfl
  have a1 : Ans 15 #[.agg (vv (of2 1 2)), .agg #[.int .u8 1, .int .u32 2]] (.bool true) := fHas (of2 1 2) 1 2 true (by omega) (by omega) (by kernel_rfl)
  have a2 : Ans 15 #[.agg (vv (of2 1 2)), .agg #[.int .u8 1, .int .u32 3]] (.bool false) := fHas (of2 1 2) 1 3 false (by omega) (by omega) (by kernel_rfl)
  have a3 : Ans 15 #[.agg (vv (of2 1 2)), .agg #[.int .u8 0, .int .u32 0]] (.bool false) := fHas (of2 1 2) 0 0 false (by omega) (by omega) (by kernel_rfl)
  have a4 : Ans 15 #[.agg (vv (of2 1 2)), .agg #[.int .u8 8, .int .u32 1]] (.bool false) := fHas (of2 1 2) 8 1 false (by omega) (by omega) (by kernel_rfl)
  have a5 : Ans 15 #[.agg (vv (of2 1048576 0)), .agg #[.int .u8 0, .int .u32 65536]] (.bool false) := fHas (of2 1048576 0) 0 65536 false (by omega) (by omega) (by kernel_rfl)
  have x1 : Ans 9 #[.agg (vv (of2 1 2)), .int .u8 1] (.tuple #[.agg (vv nxt1), .agg (dv 1 3), .int .i64 0]) := fNextN (of2 1 2) 1 (nxt1, (1, 3), 0) (of2_fit (by omega) (by omega)) (by omega) (by kernel_rfl)
  have x2 : Ans 9 #[.agg (vv (of2 1 2)), .int .u8 0] (.tuple #[.agg (vv nxt0), .agg (dv 0 3), .int .i64 0]) := fNextN (of2 1 2) 0 (nxt0, (0, 3), 0) (of2_fit (by omega) (by omega)) (by omega) (by kernel_rfl)
  have x3 : Ans 9 #[.agg (vv (of2 0 65535)), .int .u8 0] (.tuple #[.agg (vv fun _ => 0), .agg (dv 0 0), .int .i64 12]) := fNextN (of2 0 65535) 0 (fun _ => 0, (0, 0), 12) (of2_fit (by omega) (by omega)) (by omega) (by kernel_rfl)
  have x4 : Ans 9 #[.agg (vv (of2 0 0)), .int .u8 8] (.tuple #[.agg (vv fun _ => 0), .agg (dv 0 0), .int .i64 2]) := fNextN (of2 0 0) 8 (fun _ => 0, (0, 0), 2) (of2_fit (by omega) (by omega)) (by omega) (by kernel_rfl)
  have p1 : Ans 20 #[.agg #[.int .u8 2, .int .u32 5]] (.tuple #[.string ⟨#[2, 5]⟩, .int .i64 0]) := fPutDN 2 5 ([2, 5], 0) (by omega) (by omega) (by kernel_rfl)
  have p2 : Ans 20 #[.agg #[.int .u8 0, .int .u32 0]] (.tuple #[.string ⟨#[]⟩, .int .i64 4]) := fPutDN 0 0 ([], 4) (by omega) (by omega) (by kernel_rfl)
  have p3 : Ans 18 #[.agg (vv (of2 65536 0))] (.tuple #[.string ⟨#[]⟩, .int .i64 4]) := fPutN (of2 65536 0) ([], 4) (of2_fit (by omega) (by omega)) (by kernel_rfl)
  have e1 := fEq nxt1 (of2 1 3) true (by kernel_rfl)
  have e2 := fEq nxt0 (of2 3 2) true (by kernel_rfl)
  have e3 : ∀ w, (Op.equalIn 10000 26 (.agg #[.int .u8 1, .int .u32 3]) (.agg #[.int .u8 1, .int .u32 3])).run Try.prog w = .ok true w := fun w => run_eq_dot 1 3 1 3 w
  have e4 : ∀ w, (Op.equalIn 10000 26 (.agg #[.int .u8 0, .int .u32 3]) (.agg #[.int .u8 0, .int .u32 3])).run Try.prog w = .ok true w := fun w => run_eq_dot 0 3 0 3 w
  have e5 : ∀ w, (Op.equalIn 10000 26 (.agg #[.int .u8 0, .int .u32 0]) (.agg #[.int .u8 0, .int .u32 0])).run Try.prog w = .ok true w := fun w => run_eq_dot 0 0 0 0 w
  have tn : Ans 23 #[.pointer none] (.tuple #[.agg (vv fun _ => 0), .int .i64 1]) := Lib.hid fun w => take_none w
  have t1 : Ans 30 #[.agg (vv (of2 0 0)), .string ⟨#[0]⟩] (.bool true) := fText (of2 0 0) [0] (of2_fit (by omega) (by omega)) (by kernel_rfl)
  have k1 : Ans 31 #[.string ⟨#[3, 1, 0]⟩, .agg (vv (of2 0 0)), .int .i64 4] (.bool true) := fTakes [3, 1, 0] (of2 0 0) (takeS [3, 1, 0] 0).1 4 (by decide) (by kernel_rfl) (by kernel_rfl)
  have k2 : Ans 31 #[.string ⟨#[1, 255, 255, 3]⟩, .agg (vv (of2 65535 0)), .int .i64 0] (.bool true) := fTakes [1, 255, 255, 3] (of2 65535 0) (takeS [1, 255, 255, 3] 0).1 0 (by decide) (by kernel_rfl) (by kernel_rfl)
  have k3 : Ans 31 #[.string ⟨#[1, 128, 128, 4]⟩, .agg (vv (of2 0 0)), .int .i64 4] (.bool true) := fTakes [1, 128, 128, 4] (of2 0 0) (takeS [1, 128, 128, 4] 0).1 4 (by decide) (by kernel_rfl) (by kernel_rfl)
  have AW := fAwake
  have hTD : takeDS [8, 1] 0 = ((0, 0), 4) := by kernel_rfl
  have HTD := Lib.hid hTD
  clear hTD
  have k0 : Frm (fun _ => False) w w := Frm.refl _ w
  go_enter Try.func5, Try.ntmps5
  go_wp2_with fail
  refine (o12.out _).mono ?_
  rintro e w1 ⟨rfl, g2⟩
  have k3 := k0.trans g2
  clear k0 g2
  have m1 : Frm (fun _ => False) w1 (w1.alloc (.cells vz 24)) := (Frm.refl _ w1).alloc _
  have n1 := Blk.alloc w1 24 vz
  go_upto_region 2 with ((with_reducible refine wpl_store_vec rfl _ _ rfl w1.heap.size (of2 1 2) vz ?_ ?_ n1 rfl ?_); (focus rfl); (focus rfl); intro w5 e1 g1 z1; have m2 := m1.next (X := fun _ => False) g1 (fun k hk h => by omega))
  have B1 := e1
  have k6 := k3.trans m2
  obtain ⟨A4, hA⟩ : ∃ A, w1.heap.size = A := ⟨_, rfl⟩
  rw [hA] at B1 ⊢
  clear m1 n1 e1 g1 z1 m2 hA k3
  have v1 := vcells B1
  refine wp_region_canon (fun w' => (∀ k, k < 8 → w'.cell? ⟨A4, k, none⟩ = some (.int .u32 ((of2 1 2) k))) ∧ Frm (fun _ => False) w w') (by kernel_rfl) rfl (by kernel_rfl) (by kernel_rfl) (⟨v1, k6.drew⟩) ?_
  repeat' first
    | (refine CanonL.skip (by rfl) ?_; (try simp only [Act.put, List.setIfInBounds_toArray, List.set_cons_zero, List.set_cons_succ]))
    | (refine CanonL.callT (by rfl) ?_ o12 ?_ ?_; (focus (intro w; go_simp; (try (with_reducible rfl)); done)); (focus (rintro w ww hs gg; exact ⟨fun k hk => gg.cellF (hs.1 k hk), hs.2.trans gg⟩)); (try simp only [Act.put, List.setIfInBounds_toArray, List.set_cons_zero, List.set_cons_succ]))
    | (refine CanonL.callT (by rfl) ?_ o13 ?_ ?_; (focus (intro w; go_simp; (try (with_reducible rfl)); done)); (focus (rintro w ww hs gg; exact ⟨fun k hk => gg.cellF (hs.1 k hk), hs.2.trans gg⟩)); (try simp only [Act.put, List.setIfInBounds_toArray, List.set_cons_zero, List.set_cons_succ]))
    | (refine CanonL.callT (by rfl) ?_ o02 ?_ ?_; (focus (intro w; go_simp; (try (with_reducible rfl)); done)); (focus (rintro w ww hs gg; exact ⟨fun k hk => gg.cellF (hs.1 k hk), hs.2.trans gg⟩)); (try simp only [Act.put, List.setIfInBounds_toArray, List.set_cons_zero, List.set_cons_succ]))
    | (refine CanonL.callT (by rfl) ?_ oB ?_ ?_; (focus (intro w; go_simp; (try (with_reducible rfl)); done)); (focus (rintro w ww hs gg; exact ⟨fun k hk => gg.cellF (hs.1 k hk), hs.2.trans gg⟩)); (try simp only [Act.put, List.setIfInBounds_toArray, List.set_cons_zero, List.set_cons_succ]))
    | (refine CanonL.callT (by rfl) ?_ c0 ?_ ?_; (focus (intro w; go_simp; (try (with_reducible rfl)); done)); (focus (rintro w ww hs gg; exact ⟨fun k hk => gg.cellF (hs.1 k hk), hs.2.trans gg⟩)); (try simp only [Act.put, List.setIfInBounds_toArray, List.set_cons_zero, List.set_cons_succ]))
    | (refine CanonL.callT (by rfl) ?_ c1 ?_ ?_; (focus (intro w; go_simp; (try (with_reducible rfl)); done)); (focus (rintro w ww hs gg; exact ⟨fun k hk => gg.cellF (hs.1 k hk), hs.2.trans gg⟩)); (try simp only [Act.put, List.setIfInBounds_toArray, List.set_cons_zero, List.set_cons_succ]))
    | (refine CanonL.callT (by rfl) ?_ c2 ?_ ?_; (focus (intro w; go_simp; (try (with_reducible rfl)); done)); (focus (rintro w ww hs gg; exact ⟨fun k hk => gg.cellF (hs.1 k hk), hs.2.trans gg⟩)); (try simp only [Act.put, List.setIfInBounds_toArray, List.set_cons_zero, List.set_cons_succ]))
    | (refine CanonL.callT (by rfl) ?_ a1 ?_ ?_; (focus (intro w; go_simp; (try (with_reducible rfl)); done)); (focus (rintro w ww hs gg; exact ⟨fun k hk => gg.cellF (hs.1 k hk), hs.2.trans gg⟩)); (try simp only [Act.put, List.setIfInBounds_toArray, List.set_cons_zero, List.set_cons_succ]))
    | (refine CanonL.callT (by rfl) ?_ a2 ?_ ?_; (focus (intro w; go_simp; (try (with_reducible rfl)); done)); (focus (rintro w ww hs gg; exact ⟨fun k hk => gg.cellF (hs.1 k hk), hs.2.trans gg⟩)); (try simp only [Act.put, List.setIfInBounds_toArray, List.set_cons_zero, List.set_cons_succ]))
    | (refine CanonL.callT (by rfl) ?_ a3 ?_ ?_; (focus (intro w; go_simp; (try (with_reducible rfl)); done)); (focus (rintro w ww hs gg; exact ⟨fun k hk => gg.cellF (hs.1 k hk), hs.2.trans gg⟩)); (try simp only [Act.put, List.setIfInBounds_toArray, List.set_cons_zero, List.set_cons_succ]))
    | (refine CanonL.callT (by rfl) ?_ a4 ?_ ?_; (focus (intro w; go_simp; (try (with_reducible rfl)); done)); (focus (rintro w ww hs gg; exact ⟨fun k hk => gg.cellF (hs.1 k hk), hs.2.trans gg⟩)); (try simp only [Act.put, List.setIfInBounds_toArray, List.set_cons_zero, List.set_cons_succ]))
    | (refine CanonL.callT (by rfl) ?_ a5 ?_ ?_; (focus (intro w; go_simp; (try (with_reducible rfl)); done)); (focus (rintro w ww hs gg; exact ⟨fun k hk => gg.cellF (hs.1 k hk), hs.2.trans gg⟩)); (try simp only [Act.put, List.setIfInBounds_toArray, List.set_cons_zero, List.set_cons_succ]))
    | (refine CanonL.val (v := ?_) (by rfl) ?_ ?_; rotate_left 1; (focus (intro w hSw; (try dsimp only at hSw); go_simp; (try (with_reducible rfl)); done)); (try simp only [Act.put, List.setIfInBounds_toArray, List.set_cons_zero, List.set_cons_succ]))
  refine CanonL.done ?_
  intro w9 hS9
  obtain ⟨v1, k1z⟩ := hS9
  clear B1 k6
  go_wp2_with fail
  refine (x1.out _).mono ?_
  rintro e w7 ⟨rfl, g8⟩
  have v1 : (∀ k, k < 8 → w7.cell? ⟨A4, k, none⟩ = some (.int .u32 ((of2 1 2) k))) := fun k hk => g8.cellF (v1 k hk)
  have k9 := k1z.trans g8
  clear k1z g8
  have m1 : Frm (fun _ => False) w7 ((w7.alloc (.cells vz 24)).alloc (.cells dz 26)) := ((Frm.refl _ w7).alloc _).alloc _
  have n1 : Blk ((w7.alloc (.cells vz 24)).alloc (.cells dz 26)) w7.heap.size 24 vz := (Blk.alloc w7 _ _).old _
  have n2 : Blk ((w7.alloc (.cells vz 24)).alloc (.cells dz 26)) (w7.heap.size + 1) 26 dz := Blk.at1 w7 _ _ _
  go_upto_region 5 with (first
    | ((with_reducible refine wpl_store_vec rfl _ _ rfl w7.heap.size nxt1 vz ?_ ?_ n1 rfl ?_); (focus rfl); (focus rfl); intro w11 e1 g1 z1; have n3 := n2.keep g1 (by omega); have m2 := m1.next (X := fun _ => False) g1 (fun k hk h => by omega))
    | ((with_reducible refine wpl_store_dot rfl _ _ rfl (w7.heap.size + 1) 1 3 dz ?_ ?_ n3 rfl ?_); (focus rfl); (focus rfl); intro w12 e2 g2 z2; have B2 := e1.keep g2 (by omega); have m3 := m2.next (X := fun _ => False) g2 (fun k hk h => by omega)))
  have v1 : (∀ k, k < 8 → w12.cell? ⟨A4, k, none⟩ = some (.int .u32 ((of2 1 2) k))) := fun k hk => m3.cellF (v1 k hk)
  have B3 := e2
  have k13 := k9.trans m3
  obtain ⟨A10, hA⟩ : ∃ A, w7.heap.size = A := ⟨_, rfl⟩
  rw [hA] at B2 B3 ⊢
  clear m1 n1 n2 e1 g1 z1 n3 m2 g2 z2 m3 e2 hA k9
  go_wp2_with fail
  refine (x2.out _).mono ?_
  rintro e w14 ⟨rfl, g15⟩
  have v1 : (∀ k, k < 8 → w14.cell? ⟨A4, k, none⟩ = some (.int .u32 ((of2 1 2) k))) := fun k hk => g15.cellF (v1 k hk)
  have B2 := B2.keep g15 (fun h => h)
  have B3 := B3.keep g15 (fun h => h)
  have k16 := k13.trans g15
  clear k13 g15
  have m1 : Frm (fun _ => False) w14 ((w14.alloc (.cells vz 24)).alloc (.cells dz 26)) := ((Frm.refl _ w14).alloc _).alloc _
  have n1 : Blk ((w14.alloc (.cells vz 24)).alloc (.cells dz 26)) w14.heap.size 24 vz := (Blk.alloc w14 _ _).old _
  have n2 : Blk ((w14.alloc (.cells vz 24)).alloc (.cells dz 26)) (w14.heap.size + 1) 26 dz := Blk.at1 w14 _ _ _
  go_upto_region 6 with (first
    | ((with_reducible refine wpl_store_vec rfl _ _ rfl w14.heap.size nxt0 vz ?_ ?_ n1 rfl ?_); (focus rfl); (focus rfl); intro w18 e1 g1 z1; have n3 := n2.keep g1 (by omega); have m2 := m1.next (X := fun _ => False) g1 (fun k hk h => by omega))
    | ((with_reducible refine wpl_store_dot rfl _ _ rfl (w14.heap.size + 1) 0 3 dz ?_ ?_ n3 rfl ?_); (focus rfl); (focus rfl); intro w19 e2 g2 z2; have B5 := e1.keep g2 (by omega); have m3 := m2.next (X := fun _ => False) g2 (fun k hk h => by omega)))
  have v1 : (∀ k, k < 8 → w19.cell? ⟨A4, k, none⟩ = some (.int .u32 ((of2 1 2) k))) := fun k hk => m3.cellF (v1 k hk)
  have B6 := e2
  have B2 := B2.keep m3 (fun h => h)
  have B3 := B3.keep m3 (fun h => h)
  have k20 := k16.trans m3
  obtain ⟨A17, hA⟩ : ∃ A, w14.heap.size = A := ⟨_, rfl⟩
  rw [hA] at B5 B6 ⊢
  clear m1 n1 n2 e1 g1 z1 n3 m2 g2 z2 m3 e2 hA k16
  go_wp2_with fail
  refine (oC.out _).mono ?_
  rintro e w21 ⟨rfl, g22⟩
  have v1 : (∀ k, k < 8 → w21.cell? ⟨A4, k, none⟩ = some (.int .u32 ((of2 1 2) k))) := fun k hk => g22.cellF (v1 k hk)
  have B2 := B2.keep g22 (fun h => h)
  have B3 := B3.keep g22 (fun h => h)
  have B5 := B5.keep g22 (fun h => h)
  have B6 := B6.keep g22 (fun h => h)
  have k23 := k20.trans g22
  clear k20 g22
  go_wp2_with fail
  refine (x3.out _).mono ?_
  rintro e w24 ⟨rfl, g25⟩
  have v1 : (∀ k, k < 8 → w24.cell? ⟨A4, k, none⟩ = some (.int .u32 ((of2 1 2) k))) := fun k hk => g25.cellF (v1 k hk)
  have B2 := B2.keep g25 (fun h => h)
  have B3 := B3.keep g25 (fun h => h)
  have B5 := B5.keep g25 (fun h => h)
  have B6 := B6.keep g25 (fun h => h)
  have k26 := k23.trans g25
  clear k23 g25
  have m1 : Frm (fun _ => False) w24 ((w24.alloc (.cells vz 24)).alloc (.cells dz 26)) := ((Frm.refl _ w24).alloc _).alloc _
  have n1 : Blk ((w24.alloc (.cells vz 24)).alloc (.cells dz 26)) w24.heap.size 24 vz := (Blk.alloc w24 _ _).old _
  have n2 : Blk ((w24.alloc (.cells vz 24)).alloc (.cells dz 26)) (w24.heap.size + 1) 26 dz := Blk.at1 w24 _ _ _
  go_upto_region 7 with (first
    | ((with_reducible refine wpl_store_vec rfl _ _ rfl w24.heap.size (fun _ => 0) vz ?_ ?_ n1 rfl ?_); (focus rfl); (focus rfl); intro w28 e1 g1 z1; have n3 := n2.keep g1 (by omega); have m2 := m1.next (X := fun _ => False) g1 (fun k hk h => by omega))
    | ((with_reducible refine wpl_store_dot rfl _ _ rfl (w24.heap.size + 1) 0 0 dz ?_ ?_ n3 rfl ?_); (focus rfl); (focus rfl); intro w29 e2 g2 z2; have B8 := e1.keep g2 (by omega); have m3 := m2.next (X := fun _ => False) g2 (fun k hk h => by omega)))
  have v1 : (∀ k, k < 8 → w29.cell? ⟨A4, k, none⟩ = some (.int .u32 ((of2 1 2) k))) := fun k hk => m3.cellF (v1 k hk)
  have B9 := e2
  have B2 := B2.keep m3 (fun h => h)
  have B3 := B3.keep m3 (fun h => h)
  have B5 := B5.keep m3 (fun h => h)
  have B6 := B6.keep m3 (fun h => h)
  have k30 := k26.trans m3
  obtain ⟨A27, hA⟩ : ∃ A, w24.heap.size = A := ⟨_, rfl⟩
  rw [hA] at B8 B9 ⊢
  clear m1 n1 n2 e1 g1 z1 n3 m2 g2 z2 m3 e2 hA k26
  go_wp2_with fail
  refine (o00.out _).mono ?_
  rintro e w31 ⟨rfl, g32⟩
  have v1 : (∀ k, k < 8 → w31.cell? ⟨A4, k, none⟩ = some (.int .u32 ((of2 1 2) k))) := fun k hk => g32.cellF (v1 k hk)
  have B2 := B2.keep g32 (fun h => h)
  have B3 := B3.keep g32 (fun h => h)
  have B5 := B5.keep g32 (fun h => h)
  have B6 := B6.keep g32 (fun h => h)
  have B8 := B8.keep g32 (fun h => h)
  have B9 := B9.keep g32 (fun h => h)
  have k33 := k30.trans g32
  clear k30 g32
  go_wp2_with fail
  refine (x4.out _).mono ?_
  rintro e w34 ⟨rfl, g35⟩
  have v1 : (∀ k, k < 8 → w34.cell? ⟨A4, k, none⟩ = some (.int .u32 ((of2 1 2) k))) := fun k hk => g35.cellF (v1 k hk)
  have B2 := B2.keep g35 (fun h => h)
  have B3 := B3.keep g35 (fun h => h)
  have B5 := B5.keep g35 (fun h => h)
  have B6 := B6.keep g35 (fun h => h)
  have B8 := B8.keep g35 (fun h => h)
  have B9 := B9.keep g35 (fun h => h)
  have k36 := k33.trans g35
  clear k33 g35
  have m1 : Frm (fun _ => False) w34 ((w34.alloc (.cells vz 24)).alloc (.cells dz 26)) := ((Frm.refl _ w34).alloc _).alloc _
  have n1 : Blk ((w34.alloc (.cells vz 24)).alloc (.cells dz 26)) w34.heap.size 24 vz := (Blk.alloc w34 _ _).old _
  have n2 : Blk ((w34.alloc (.cells vz 24)).alloc (.cells dz 26)) (w34.heap.size + 1) 26 dz := Blk.at1 w34 _ _ _
  go_upto_region 8 with (first
    | ((with_reducible refine wpl_store_vec rfl _ _ rfl w34.heap.size (fun _ => 0) vz ?_ ?_ n1 rfl ?_); (focus rfl); (focus rfl); intro w38 e1 g1 z1; have n3 := n2.keep g1 (by omega); have m2 := m1.next (X := fun _ => False) g1 (fun k hk h => by omega))
    | ((with_reducible refine wpl_store_dot rfl _ _ rfl (w34.heap.size + 1) 0 0 dz ?_ ?_ n3 rfl ?_); (focus rfl); (focus rfl); intro w39 e2 g2 z2; have B11 := e1.keep g2 (by omega); have m3 := m2.next (X := fun _ => False) g2 (fun k hk h => by omega)))
  have v1 : (∀ k, k < 8 → w39.cell? ⟨A4, k, none⟩ = some (.int .u32 ((of2 1 2) k))) := fun k hk => m3.cellF (v1 k hk)
  have B12 := e2
  have B2 := B2.keep m3 (fun h => h)
  have B3 := B3.keep m3 (fun h => h)
  have B5 := B5.keep m3 (fun h => h)
  have B6 := B6.keep m3 (fun h => h)
  have B8 := B8.keep m3 (fun h => h)
  have B9 := B9.keep m3 (fun h => h)
  have k40 := k36.trans m3
  obtain ⟨A37, hA⟩ : ∃ A, w34.heap.size = A := ⟨_, rfl⟩
  rw [hA] at B11 B12 ⊢
  clear m1 n1 n2 e1 g1 z1 n3 m2 g2 z2 m3 e2 hA k36
  go_wp2_with fail
  refine (p1.out _).mono ?_
  rintro e w41 ⟨rfl, g42⟩
  have v1 : (∀ k, k < 8 → w41.cell? ⟨A4, k, none⟩ = some (.int .u32 ((of2 1 2) k))) := fun k hk => g42.cellF (v1 k hk)
  have B2 := B2.keep g42 (fun h => h)
  have B3 := B3.keep g42 (fun h => h)
  have B5 := B5.keep g42 (fun h => h)
  have B6 := B6.keep g42 (fun h => h)
  have B8 := B8.keep g42 (fun h => h)
  have B9 := B9.keep g42 (fun h => h)
  have B11 := B11.keep g42 (fun h => h)
  have B12 := B12.keep g42 (fun h => h)
  have k43 := k40.trans g42
  clear k40 g42
  go_wp2_with fail
  refine (p2.out _).mono ?_
  rintro e w44 ⟨rfl, g45⟩
  have v1 : (∀ k, k < 8 → w44.cell? ⟨A4, k, none⟩ = some (.int .u32 ((of2 1 2) k))) := fun k hk => g45.cellF (v1 k hk)
  have B2 := B2.keep g45 (fun h => h)
  have B3 := B3.keep g45 (fun h => h)
  have B5 := B5.keep g45 (fun h => h)
  have B6 := B6.keep g45 (fun h => h)
  have B8 := B8.keep g45 (fun h => h)
  have B9 := B9.keep g45 (fun h => h)
  have B11 := B11.keep g45 (fun h => h)
  have B12 := B12.keep g45 (fun h => h)
  have k46 := k43.trans g45
  clear k43 g45
  go_wp2_with fail
  refine (oD.out _).mono ?_
  rintro e w47 ⟨rfl, g48⟩
  have v1 : (∀ k, k < 8 → w47.cell? ⟨A4, k, none⟩ = some (.int .u32 ((of2 1 2) k))) := fun k hk => g48.cellF (v1 k hk)
  have B2 := B2.keep g48 (fun h => h)
  have B3 := B3.keep g48 (fun h => h)
  have B5 := B5.keep g48 (fun h => h)
  have B6 := B6.keep g48 (fun h => h)
  have B8 := B8.keep g48 (fun h => h)
  have B9 := B9.keep g48 (fun h => h)
  have B11 := B11.keep g48 (fun h => h)
  have B12 := B12.keep g48 (fun h => h)
  have k49 := k46.trans g48
  clear k46 g48
  go_wp2_with fail
  refine (p3.out _).mono ?_
  rintro e w50 ⟨rfl, g51⟩
  have v1 : (∀ k, k < 8 → w50.cell? ⟨A4, k, none⟩ = some (.int .u32 ((of2 1 2) k))) := fun k hk => g51.cellF (v1 k hk)
  have B2 := B2.keep g51 (fun h => h)
  have B3 := B3.keep g51 (fun h => h)
  have B5 := B5.keep g51 (fun h => h)
  have B6 := B6.keep g51 (fun h => h)
  have B8 := B8.keep g51 (fun h => h)
  have B9 := B9.keep g51 (fun h => h)
  have B11 := B11.keep g51 (fun h => h)
  have B12 := B12.keep g51 (fun h => h)
  have k52 := k49.trans g51
  clear k49 g51
  go_upto_region 11 with fail
  have v2 := vcells B2
  have v5 := vcells B5
  have y1 : w50.cell? ⟨A10 + 1, 0, none⟩ = some (.int .u8 1) := B3.cell 0 rfl
  have y2 : w50.cell? ⟨A10 + 1, 1, none⟩ = some (.int .u32 3) := B3.cell 1 rfl
  have y3 : w50.cell? ⟨A17 + 1, 0, none⟩ = some (.int .u8 0) := B6.cell 0 rfl
  have y4 : w50.cell? ⟨A17 + 1, 1, none⟩ = some (.int .u32 3) := B6.cell 1 rfl
  refine wp_region_canon (fun w' => (∀ k, k < 8 → w'.cell? ⟨A10, k, none⟩ = some (.int .u32 (nxt1 k))) ∧ (∀ k, k < 8 → w'.cell? ⟨A17, k, none⟩ = some (.int .u32 (nxt0 k))) ∧ w'.cell? ⟨A10 + 1, 0, none⟩ = some (.int .u8 1) ∧ w'.cell? ⟨A10 + 1, 1, none⟩ = some (.int .u32 3) ∧ w'.cell? ⟨A17 + 1, 0, none⟩ = some (.int .u8 0) ∧ w'.cell? ⟨A17 + 1, 1, none⟩ = some (.int .u32 3) ∧ Frm (fun _ => False) w w') (by kernel_rfl) rfl (by kernel_rfl) (by kernel_rfl) (⟨v2, v5, y1, y2, y3, y4, k52.drew⟩) ?_
  repeat' first
    | (refine CanonL.skip (by rfl) ?_; (try simp only [Act.put, List.setIfInBounds_toArray, List.set_cons_zero, List.set_cons_succ]))
    | (refine CanonL.callT (by rfl) ?_ o13 ?_ ?_; (focus (intro w; go_simp; (try (with_reducible rfl)); done)); (focus (rintro w ww hs gg; exact (by obtain ⟨h1, h2, h3, h4, h5, h6, h7⟩ := hs; exact ⟨fun k hk => gg.cellF (h1 k hk), fun k hk => gg.cellF (h2 k hk), gg.cellF h3, gg.cellF h4, gg.cellF h5, gg.cellF h6, h7.trans gg⟩))); (try simp only [Act.put, List.setIfInBounds_toArray, List.set_cons_zero, List.set_cons_succ]))
    | (refine CanonL.callT (by rfl) ?_ o32 ?_ ?_; (focus (intro w; go_simp; (try (with_reducible rfl)); done)); (focus (rintro w ww hs gg; exact (by obtain ⟨h1, h2, h3, h4, h5, h6, h7⟩ := hs; exact ⟨fun k hk => gg.cellF (h1 k hk), fun k hk => gg.cellF (h2 k hk), gg.cellF h3, gg.cellF h4, gg.cellF h5, gg.cellF h6, h7.trans gg⟩))); (try simp only [Act.put, List.setIfInBounds_toArray, List.set_cons_zero, List.set_cons_succ]))
    | (refine CanonL.val (v := ?_) (by rfl) ?_ ?_; rotate_left 1; (focus (intro w hSw; (try dsimp only at hSw); go_simp; (try (with_reducible rfl)); done)); (try simp only [Act.put, List.setIfInBounds_toArray, List.set_cons_zero, List.set_cons_succ]))
  refine CanonL.done ?_
  intro w9 hS9
  obtain ⟨_, _, _, _, _, _, k2z⟩ := hS9
  clear v1 v2 v5 y1 y2 y3 y4 B2 B3 B5 B6 B8 B9 B11 B12 k52
  go_wp2_with fail
  refine (tn.out _).mono ?_
  rintro e w53 ⟨rfl, g54⟩
  have k55 := k2z.trans g54
  clear k2z g54
  have m1 : Frm (fun _ => False) w53 (w53.alloc (.cells vz 24)) := (Frm.refl _ w53).alloc _
  have n1 := Blk.alloc w53 24 vz
  go_upto_region 14 with ((with_reducible refine wpl_store_vec rfl _ _ rfl w53.heap.size (fun _ => 0) vz ?_ ?_ n1 rfl ?_); (focus rfl); (focus rfl); intro w57 e1 g1 z1; have m2 := m1.next (X := fun _ => False) g1 (fun k hk h => by omega))
  have B20 := e1
  have k58 := k55.trans m2
  obtain ⟨A56, hA⟩ : ∃ A, w53.heap.size = A := ⟨_, rfl⟩
  rw [hA] at B20 ⊢
  clear m1 n1 e1 g1 z1 m2 hA k55
  go_wp2_with fail
  refine (read_hand [8, 1] _ (by decide)).mono ?_
  rintro e wr ⟨rfl, rr, gr⟩
  have kr := k58.trans gr
  have hwr := k58.size
  obtain ⟨br, hbr⟩ : ∃ b, w57.heap.size = b := ⟨_, rfl⟩
  rw [hbr] at rr hwr ⊢
  clear hbr gr B20 k58
  go_wp2_with fail
  refine ((takeDot_any br [8, 1] 0 _ rr (fun h => absurd rfl h)).mono fun x w' (ht : TakeDTo _ _ _ _ _ _) => (show x = .returned (.tuple #[.agg (dv 0 0), .int .i64 4]) ∧ Frm (· = br) wr w' from ⟨by rw [ht.1, HTD.out]; rfl, ht.2.2⟩)).mono ?_
  rintro e wt ⟨rfl, gt⟩
  have kt := kr.new gt (fun j h => by omega)
  have n1 := Blk.alloc wt 26 dz
  have m1 := (Frm.refl (fun _ => False) wt).alloc (.cells dz 26)
  go_upto_region 15 with ((with_reducible refine wpl_store_dot rfl _ _ rfl wt.heap.size 0 0 dz ?_ ?_ n1 rfl ?_); (focus rfl); (focus rfl); intro wu e22 g1 z1; have m2 := m1.next (X := fun _ => False) g1 (fun k hk h => by omega))
  have ku := kt.trans m2
  obtain ⟨A22, hA⟩ : ∃ A, wt.heap.size = A := ⟨_, rfl⟩
  rw [hA] at e22 ⊢
  have z1 : wu.cell? ⟨A22, 0, none⟩ = some (.int .u8 0) := e22.cell 0 rfl
  have z2 : wu.cell? ⟨A22, 1, none⟩ = some (.int .u32 0) := e22.cell 1 rfl
  clear n1 m1 g1 m2 hA kr kt gt rr
  refine wp_region_seq (fun w' => w'.cell? ⟨A22, 0, none⟩ = some (.int .u8 0) ∧ w'.cell? ⟨A22, 1, none⟩ = some (.int .u32 0) ∧ Frm (fun _ => False) w w') rfl (⟨z1, z2, ku⟩) ?_
  repeat' first
    | (refine CanonL.skip (by rfl) ?_; (try simp only [Act.put, List.setIfInBounds_toArray, List.set_cons_zero, List.set_cons_succ]))
    | (refine CanonL.callT (by rfl) ?_ o00 ?_ ?_; (focus (intro w; go_simp; (try (with_reducible rfl)); done)); (focus (rintro w ww hs gg; exact ⟨gg.cellF hs.1, gg.cellF hs.2.1, hs.2.2.trans gg⟩)); (try simp only [Act.put, List.setIfInBounds_toArray, List.set_cons_zero, List.set_cons_succ]))
    | (refine CanonL.callT (by rfl) ?_ t1 ?_ ?_; (focus (intro w; go_simp; (try (with_reducible rfl)); done)); (focus (rintro w ww hs gg; exact ⟨gg.cellF hs.1, gg.cellF hs.2.1, hs.2.2.trans gg⟩)); (try simp only [Act.put, List.setIfInBounds_toArray, List.set_cons_zero, List.set_cons_succ]))
    | (refine CanonL.callT (by rfl) ?_ k1 ?_ ?_; (focus (intro w; go_simp; (try (with_reducible rfl)); done)); (focus (rintro w ww hs gg; exact ⟨gg.cellF hs.1, gg.cellF hs.2.1, hs.2.2.trans gg⟩)); (try simp only [Act.put, List.setIfInBounds_toArray, List.set_cons_zero, List.set_cons_succ]))
    | (refine CanonL.callT (by rfl) ?_ oE ?_ ?_; (focus (intro w; go_simp; (try (with_reducible rfl)); done)); (focus (rintro w ww hs gg; exact ⟨gg.cellF hs.1, gg.cellF hs.2.1, hs.2.2.trans gg⟩)); (try simp only [Act.put, List.setIfInBounds_toArray, List.set_cons_zero, List.set_cons_succ]))
    | (refine CanonL.callT (by rfl) ?_ k2 ?_ ?_; (focus (intro w; go_simp; (try (with_reducible rfl)); done)); (focus (rintro w ww hs gg; exact ⟨gg.cellF hs.1, gg.cellF hs.2.1, hs.2.2.trans gg⟩)); (try simp only [Act.put, List.setIfInBounds_toArray, List.set_cons_zero, List.set_cons_succ]))
    | (refine CanonL.callT (by rfl) ?_ k3 ?_ ?_; (focus (intro w; go_simp; (try (with_reducible rfl)); done)); (focus (rintro w ww hs gg; exact ⟨gg.cellF hs.1, gg.cellF hs.2.1, hs.2.2.trans gg⟩)); (try simp only [Act.put, List.setIfInBounds_toArray, List.set_cons_zero, List.set_cons_succ]))
    | (refine CanonL.callT (by rfl) ?_ AW ?_ ?_; (focus (intro w; go_simp; (try (with_reducible rfl)); done)); (focus (rintro w ww hs gg; exact ⟨gg.cellF hs.1, gg.cellF hs.2.1, hs.2.2.trans gg⟩)); (try simp only [Act.put, List.setIfInBounds_toArray, List.set_cons_zero, List.set_cons_succ]))
    | (refine CanonL.val (v := ?_) (by rfl) ?_ ?_; rotate_left 1; (focus (intro w hSw; (try dsimp only at hSw); go_simp; (try (with_reducible rfl)); done)); (try simp only [Act.put, List.setIfInBounds_toArray, List.set_cons_zero, List.set_cons_succ]))
  refine CanonL.done ?_
  intro w9 hS9
  obtain ⟨_, _, k9⟩ := hS9
  go_wp2_with fail
  go_ret
  exact ⟨rfl, k9⟩
end Go.Proofs.Ytdoeogfjbcannaa
