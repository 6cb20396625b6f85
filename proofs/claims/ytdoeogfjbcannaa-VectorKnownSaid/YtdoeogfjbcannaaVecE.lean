/- What the document's own MayDot, Has, May, Cmp answer: the same. Of any vectors and dots. No condition but that the numbers have their bits. -/
import Derived.Test.YtdoeogfjbcannaaVecD
namespace Go.Proofs.Ytdoeogfjbcannaa
open Go.RowKit

set_option maxRecDepth 100000 in
set_option maxHeartbeats 1000000 in
theorem rmayDot_any (r n : Nat) (w : World) :
    Calls Try.prog 34 #[.agg (dv r n)] w fun e w' => e = .returned (.bool (okD r n)) ∧ Frm (fun _ => False) w w' := by
  have g0 : Frm (fun _ => False) w (w.alloc (Obj.cells (dv r n) 26)) := (Frm.refl _ w).alloc _
  have c0 : (w.alloc (Obj.cells (dv r n) 26)).cell? ⟨w.heap.size, 0, none⟩ = some (.int .u8 r) := (Blk.alloc w _ _).cell 0 rfl
  have c1 : (w.alloc (Obj.cells (dv r n) 26)).cell? ⟨w.heap.size, 1, none⟩ = some (.int .u32 n) := (Blk.alloc w _ _).cell 1 rfl
  unfold okD
  by_cases h1 : r < 8
  · have h1i : (r : Int) ≤ 7 := by omega
    by_cases h2 : 1 ≤ n
    · have h2i : (1 : Int) ≤ n := by omega
      by_cases h3 : n ≤ 65535
      · have h3i : (n : Int) ≤ 65535 := by omega
        go_enter Try.func34, Try.ntmps34
        go_wp2_with fail
        go_ret
        exact ⟨by first | rfl | simp [*], g0⟩
      · have h3i : ¬ (n : Int) ≤ 65535 := by omega
        go_enter Try.func34, Try.ntmps34
        go_wp2_with fail
        go_ret
        exact ⟨by first | rfl | simp [*], g0⟩
    · have h2i : ¬ (1 : Int) ≤ n := by omega
      go_enter Try.func34, Try.ntmps34
      go_wp2_with fail
      go_ret
      exact ⟨by first | rfl | simp [*], g0⟩
  · have h1i : ¬ (r : Int) ≤ 7 := by omega
    go_enter Try.func34, Try.ntmps34
    go_wp2_with fail
    go_ret
    exact ⟨by first | rfl | simp [*], g0⟩

set_option maxRecDepth 100000 in
set_option maxHeartbeats 1000000 in
theorem rhas_any (f : Nat → Nat) (r n : Nat) (w : World) :
    Calls Try.prog 16 #[.agg (vv f), .agg (dv r n)] w fun e w' => e = .returned (.bool (has8 f r n)) ∧ Frm (fun _ => False) w w' := by
  have b0 : Blk ((w.alloc (Obj.cells (vv f) 24)).alloc (Obj.cells (dv r n) 26)) w.heap.size 24 (vv f) := (Blk.alloc w _ _).old _
  have b1 : Blk ((w.alloc (Obj.cells (vv f) 24)).alloc (Obj.cells (dv r n) 26)) (w.heap.size + 1) 26 (dv r n) := Blk.at1 w _ _ _
  have g0 : Frm (fun _ => False) w ((w.alloc (Obj.cells (vv f) 24)).alloc (Obj.cells (dv r n) 26)) := ((Frm.refl _ w).alloc _).alloc _
  have c0 := b1.cell 0 rfl
  have c1 := b1.cell 1 rfl
  have H : ∀ w, Calls Try.prog 34 #[.agg (dv r n)] w fun e w' => e = .returned (.bool (okD r n)) ∧ Frm (fun _ => False) w w' := fun w => rmayDot_any r n w
  unfold has8
  cases hok : okD r n with
  | false =>
    rw [hok] at H
    have HH := Lib.hid H
    clear H hok
    go_enter Try.func16, Try.ntmps16
    go_wp2_with fail
    refine wp_region_canon (fun w' => w'.cell? ⟨w.heap.size + 1, 0, none⟩ = some (.int .u8 r) ∧ w'.cell? ⟨w.heap.size + 1, 1, none⟩ = some (.int .u32 n) ∧ Frm (fun _ => False) w w') (by kernel_rfl) rfl (by kernel_rfl) (by kernel_rfl) (⟨c0, c1, g0.drew⟩) ?_
    repeat' first
      | (refine CanonL.skip (by rfl) ?_; (try simp only [Act.put, List.setIfInBounds_toArray, List.set_cons_zero, List.set_cons_succ]))
      | (refine CanonL.callT (by rfl) ?_ HH ?_ ?_; (focus (intro w; go_simp; (try (with_reducible rfl)); done)); (focus (rintro w ww hs gg; exact ⟨gg.cellF hs.1, gg.cellF hs.2.1, hs.2.2.trans gg⟩)); (try simp only [Act.put, List.setIfInBounds_toArray, List.set_cons_zero, List.set_cons_succ]))
      | (refine CanonL.val (v := ?_) (by rfl) ?_ ?_; rotate_left 1; (focus (intro w hSw; (try dsimp only at hSw); go_simp; (try (with_reducible rfl)); done)); (try simp only [Act.put, List.setIfInBounds_toArray, List.set_cons_zero, List.set_cons_succ]))
    refine CanonL.done ?_
    intro w9 hS9
    obtain ⟨_, _, ff⟩ := hS9
    go_wp2_with fail
    go_ret
    exact ⟨rfl, ff⟩
  | true =>
    have hr8 := okD_lt hok
    rw [hok] at H
    have HH := Lib.hid H
    clear H hok
    have c2 := vblk_cell b0 hr8
    have hri : (r : Int) < 8 := by omega
    have hr0 : (0 : Int) ≤ (r : Int) := by omega
    have hq : ((n : Int) ≤ (f r : Int)) ↔ n ≤ f r := by omega
    go_enter Try.func16, Try.ntmps16
    go_wp2_with fail
    refine wp_region_canon (fun w' => w'.cell? ⟨w.heap.size + 1, 0, none⟩ = some (.int .u8 r) ∧ w'.cell? ⟨w.heap.size + 1, 1, none⟩ = some (.int .u32 n) ∧ w'.cell? ⟨w.heap.size, r, none⟩ = some (.int .u32 (f r)) ∧ Frm (fun _ => False) w w') (by kernel_rfl) rfl (by kernel_rfl) (by kernel_rfl) (⟨c0, c1, c2, g0.drew⟩) ?_
    repeat' first
      | (refine CanonL.skip (by rfl) ?_; (try simp only [Act.put, List.setIfInBounds_toArray, List.set_cons_zero, List.set_cons_succ]))
      | (refine CanonL.callT (by rfl) ?_ HH ?_ ?_; (focus (intro w; go_simp; (try (with_reducible rfl)); done)); (focus (rintro w ww hs gg; exact ⟨gg.cellF hs.1, gg.cellF hs.2.1, gg.cellF hs.2.2.1, hs.2.2.2.trans gg⟩)); (try simp only [Act.put, List.setIfInBounds_toArray, List.set_cons_zero, List.set_cons_succ]))
      | (refine CanonL.val (v := ?_) (by rfl) ?_ ?_; rotate_left 1; (focus (intro w hSw; (try dsimp only at hSw); go_simp; (try (with_reducible rfl)); done)); (try simp only [Act.put, List.setIfInBounds_toArray, List.set_cons_zero, List.set_cons_succ]))
    refine CanonL.done ?_
    intro w9 hS9
    obtain ⟨_, _, _, ff⟩ := hS9
    go_wp2_with fail
    go_ret
    exact ⟨rfl, ff⟩

set_option maxRecDepth 100000 in
set_option maxHeartbeats 1000000 in
theorem rmay_any (f : Nat → Nat) (w : World) :
    Calls Try.prog 40 #[.agg (vv f)] w fun e w' => e = .returned (.bool (decide (mx f 8 ≤ 65535))) ∧ Frm (fun _ => False) w w' := by
  have hb : Blk (w.alloc (Obj.cells (vv f) 24)) w.heap.size 24 (vv f) := Blk.alloc w _ _
  have g0 : Frm (fun _ => False) w (w.alloc (Obj.cells (vv f) 24)) := (Frm.refl _ w).alloc _
  obtain ⟨q, hq⟩ : ∃ q, decide (mx f 8 ≤ 65535) = q := ⟨_, rfl⟩
  have HQ := Lib.hid hq
  rw [hq]
  clear hq
  go_enter Try.func40, Try.ntmps40
  go_wp2
  go_loop [3] (fun i => ∃ k : Nat, k ≤ 8 ∧ i = .int .i64 k ∧ Hid (∀ j, j < k → f j ≤ 65535)) (fun i => 8 - (intOf i).toNat)
  case atStart => exact ⟨0, by omega, rfl, Lib.hid (fun j hj => by omega)⟩
  case round =>
    obtain ⟨k, hk, rfl, ha⟩ := hrel
    by_cases hlt : k < 8
    · have c0 := vblk_cell hb hlt
      have hki : (k : Int) < 8 := by omega
      have hk0 : (0 : Int) ≤ (k : Int) := by omega
      by_cases hx : f k ≤ 65535
      · have hxd : decide ((65535 : Int) < (f k : Int)) = false := by rw [decide_eq_false_iff_not]; omega
        have ha2 : Hid (∀ j, j < k + 1 → f j ≤ 65535) := Lib.hid fun j hj => by
          by_cases e : j = k
          · subst e; exact hx
          · exact ha.out j (by omega)
        clear hx
        go_wp2
        go_round
        case rel => exact ⟨k + 1, by omega, by go_num, ha2⟩
        case measure => simp [intOf]; omega
      · have hxd : decide ((65535 : Int) < (f k : Int)) = true := by rw [decide_eq_true_eq]; omega
        have hq2 : q = false := by
          rw [← HQ.out, decide_eq_false_iff_not, mx_le_iff]
          exact fun h => hx (h k hlt)
        subst hq2
        clear hx
        go_wp2
        go_ret
        exact ⟨rfl, g0⟩
    · obtain rfl : k = 8 := by omega
      have hq2 : q = true := by
        rw [← HQ.out, decide_eq_true_eq, mx_le_iff]
        exact ha.out
      subst hq2
      go_wp2
      go_ret
      exact ⟨rfl, g0⟩

set_option maxRecDepth 100000 in
set_option maxHeartbeats 1000000 in
theorem rcmp_any (f g : Nat → Nat) (w : World) :
    Calls Try.prog 14 #[.agg (vv f), .agg (vv g)] w fun e w' => e = .returned (.int .i64 (cmp8 f g)) ∧ Frm (fun _ => False) w w' := by
  have b0 : Blk ((w.alloc (Obj.cells (vv f) 24)).alloc (Obj.cells (vv g) 24)) w.heap.size 24 (vv f) := (Blk.alloc w _ _).old _
  have b1 : Blk ((w.alloc (Obj.cells (vv f) 24)).alloc (Obj.cells (vv g) 24)) (w.heap.size + 1) 24 (vv g) := Blk.at1 w _ _ _
  have g0 : Frm (fun _ => False) w ((w.alloc (Obj.cells (vv f) 24)).alloc (Obj.cells (vv g) 24)) := ((Frm.refl _ w).alloc _).alloc _
  obtain ⟨q, hq⟩ : ∃ q, cmp8 f g = q := ⟨_, rfl⟩
  rw [hq]
  rw [cmp8_abv] at hq
  have HQ := Lib.hid hq
  clear hq
  go_enter Try.func14, Try.ntmps14
  go_wp2_with fail
  obtain ⟨w0, hw0⟩ : ∃ w0, (w.alloc (Obj.cells (vv f) 24)).alloc (Obj.cells (vv g) 24) = w0 := ⟨_, rfl⟩
  rw [hw0] at b0 b1 g0 ⊢
  clear hw0
  obtain ⟨A, hA'⟩ : ∃ A, w.heap.size = A := ⟨_, rfl⟩
  rw [hA'] at b0 b1
  rw [hA']
  clear hA'
  go_loopw [5, 6, 7] (fun x y i wr => ∃ k : Nat, k ≤ 8 ∧ i = .int .i64 k ∧ x = .bool (abv f g k) ∧ y = .bool (abv g f k) ∧ Frm (fun _ => False) w0 wr) (fun _ _ i _ => 8 - (intOf i).toNat)
  case atStart => exact ⟨0, by omega, rfl, rfl, rfl, Frm.refl _ _⟩
  case round =>
    obtain ⟨k, hk, rfl, rfl, rfl, g1⟩ := hrel
    have d0 := b0.keep g1 (fun h => h)
    have d1 := b1.keep g1 (fun h => h)
    by_cases hlt : k < 8
    · have x0 := vblk_cell d0 hlt
      have x1 := vblk_cell d1 hlt
      have hki : (k : Int) < 8 := by omega
      have hk0 : (0 : Int) ≤ (k : Int) := by omega
      have s1 : abv f g (k + 1) = (abv f g k || decide (g k < f k)) := rfl
      have s2 : abv g f (k + 1) = (abv g f k || decide (f k < g k)) := rfl
      have S1 := Lib.hid s1
      have S2 := Lib.hid s2
      clear s1 s2
      generalize abv f g k = X at *
      generalize abv g f k = Y at *
      cases X with
      | false =>
        cases Y with
        | false =>
          go_wp2_with fail
          refine wp_region_canon (fun w' => w'.cell? ⟨A, k, none⟩ = some (.int .u32 (f k)) ∧ w'.cell? ⟨A + 1, k, none⟩ = some (.int .u32 (g k)) ∧ Frm (fun _ => False) w0 w') (by kernel_rfl) rfl (by kernel_rfl) (by kernel_rfl) (⟨x0, x1, g1.drew⟩) ?_
          repeat' first
            | (refine CanonL.skip (by rfl) ?_; (try simp only [Act.put, List.setIfInBounds_toArray, List.set_cons_zero, List.set_cons_succ]))
            | (refine CanonL.val (v := ?_) (by rfl) ?_ ?_; rotate_left 1; (focus (intro w hSw; (try dsimp only at hSw); go_simp; (try (with_reducible rfl)); done)); (try simp only [Act.put, List.setIfInBounds_toArray, List.set_cons_zero, List.set_cons_succ]))
          refine CanonL.done ?_
          intro w9 hS9
          obtain ⟨y0, y1, g2⟩ := hS9
          go_wp2_with fail
          refine wp_region_canon (fun w' => w'.cell? ⟨A, k, none⟩ = some (.int .u32 (f k)) ∧ w'.cell? ⟨A + 1, k, none⟩ = some (.int .u32 (g k)) ∧ Frm (fun _ => False) w0 w') (by kernel_rfl) rfl (by kernel_rfl) (by kernel_rfl) (⟨y0, y1, g2.drew⟩) ?_
          repeat' first
            | (refine CanonL.skip (by rfl) ?_; (try simp only [Act.put, List.setIfInBounds_toArray, List.set_cons_zero, List.set_cons_succ]))
            | (refine CanonL.val (v := ?_) (by rfl) ?_ ?_; rotate_left 1; (focus (intro w hSw; (try dsimp only at hSw); go_simp; (try (with_reducible rfl)); done)); (try simp only [Act.put, List.setIfInBounds_toArray, List.set_cons_zero, List.set_cons_succ]))
          refine CanonL.done ?_
          intro w9 hS9
          obtain ⟨_, _, g3⟩ := hS9
          go_wp2_with fail
          go_roundw
          case rel => exact ⟨k + 1, by omega, by go_num, by rw [S1.out]; rfl, by rw [S2.out]; rfl, g3⟩
          case measure => simp [intOf]; omega
        | true =>
          go_wp2_with fail
          refine wp_region_canon (fun w' => w'.cell? ⟨A, k, none⟩ = some (.int .u32 (f k)) ∧ w'.cell? ⟨A + 1, k, none⟩ = some (.int .u32 (g k)) ∧ Frm (fun _ => False) w0 w') (by kernel_rfl) rfl (by kernel_rfl) (by kernel_rfl) (⟨x0, x1, g1.drew⟩) ?_
          repeat' first
            | (refine CanonL.skip (by rfl) ?_; (try simp only [Act.put, List.setIfInBounds_toArray, List.set_cons_zero, List.set_cons_succ]))
            | (refine CanonL.val (v := ?_) (by rfl) ?_ ?_; rotate_left 1; (focus (intro w hSw; (try dsimp only at hSw); go_simp; (try (with_reducible rfl)); done)); (try simp only [Act.put, List.setIfInBounds_toArray, List.set_cons_zero, List.set_cons_succ]))
          refine CanonL.done ?_
          intro w9 hS9
          obtain ⟨y0, y1, g2⟩ := hS9
          go_wp2_with fail
          refine wp_region_canon (fun w' => w'.cell? ⟨A, k, none⟩ = some (.int .u32 (f k)) ∧ w'.cell? ⟨A + 1, k, none⟩ = some (.int .u32 (g k)) ∧ Frm (fun _ => False) w0 w') (by kernel_rfl) rfl (by kernel_rfl) (by kernel_rfl) (⟨y0, y1, g2.drew⟩) ?_
          repeat' first
            | (refine CanonL.skip (by rfl) ?_; (try simp only [Act.put, List.setIfInBounds_toArray, List.set_cons_zero, List.set_cons_succ]))
            | (refine CanonL.val (v := ?_) (by rfl) ?_ ?_; rotate_left 1; (focus (intro w hSw; (try dsimp only at hSw); go_simp; (try (with_reducible rfl)); done)); (try simp only [Act.put, List.setIfInBounds_toArray, List.set_cons_zero, List.set_cons_succ]))
          refine CanonL.done ?_
          intro w9 hS9
          obtain ⟨_, _, g3⟩ := hS9
          go_wp2_with fail
          go_roundw
          case rel => exact ⟨k + 1, by omega, by go_num, by rw [S1.out]; rfl, by rw [S2.out]; rfl, g3⟩
          case measure => simp [intOf]; omega
      | true =>
        cases Y with
        | false =>
          go_wp2_with fail
          refine wp_region_canon (fun w' => w'.cell? ⟨A, k, none⟩ = some (.int .u32 (f k)) ∧ w'.cell? ⟨A + 1, k, none⟩ = some (.int .u32 (g k)) ∧ Frm (fun _ => False) w0 w') (by kernel_rfl) rfl (by kernel_rfl) (by kernel_rfl) (⟨x0, x1, g1.drew⟩) ?_
          repeat' first
            | (refine CanonL.skip (by rfl) ?_; (try simp only [Act.put, List.setIfInBounds_toArray, List.set_cons_zero, List.set_cons_succ]))
            | (refine CanonL.val (v := ?_) (by rfl) ?_ ?_; rotate_left 1; (focus (intro w hSw; (try dsimp only at hSw); go_simp; (try (with_reducible rfl)); done)); (try simp only [Act.put, List.setIfInBounds_toArray, List.set_cons_zero, List.set_cons_succ]))
          refine CanonL.done ?_
          intro w9 hS9
          obtain ⟨y0, y1, g2⟩ := hS9
          go_wp2_with fail
          refine wp_region_canon (fun w' => w'.cell? ⟨A, k, none⟩ = some (.int .u32 (f k)) ∧ w'.cell? ⟨A + 1, k, none⟩ = some (.int .u32 (g k)) ∧ Frm (fun _ => False) w0 w') (by kernel_rfl) rfl (by kernel_rfl) (by kernel_rfl) (⟨y0, y1, g2.drew⟩) ?_
          repeat' first
            | (refine CanonL.skip (by rfl) ?_; (try simp only [Act.put, List.setIfInBounds_toArray, List.set_cons_zero, List.set_cons_succ]))
            | (refine CanonL.val (v := ?_) (by rfl) ?_ ?_; rotate_left 1; (focus (intro w hSw; (try dsimp only at hSw); go_simp; (try (with_reducible rfl)); done)); (try simp only [Act.put, List.setIfInBounds_toArray, List.set_cons_zero, List.set_cons_succ]))
          refine CanonL.done ?_
          intro w9 hS9
          obtain ⟨_, _, g3⟩ := hS9
          go_wp2_with fail
          go_roundw
          case rel => exact ⟨k + 1, by omega, by go_num, by rw [S1.out]; rfl, by rw [S2.out]; rfl, g3⟩
          case measure => simp [intOf]; omega
        | true =>
          go_wp2_with fail
          refine wp_region_canon (fun w' => w'.cell? ⟨A, k, none⟩ = some (.int .u32 (f k)) ∧ w'.cell? ⟨A + 1, k, none⟩ = some (.int .u32 (g k)) ∧ Frm (fun _ => False) w0 w') (by kernel_rfl) rfl (by kernel_rfl) (by kernel_rfl) (⟨x0, x1, g1.drew⟩) ?_
          repeat' first
            | (refine CanonL.skip (by rfl) ?_; (try simp only [Act.put, List.setIfInBounds_toArray, List.set_cons_zero, List.set_cons_succ]))
            | (refine CanonL.val (v := ?_) (by rfl) ?_ ?_; rotate_left 1; (focus (intro w hSw; (try dsimp only at hSw); go_simp; (try (with_reducible rfl)); done)); (try simp only [Act.put, List.setIfInBounds_toArray, List.set_cons_zero, List.set_cons_succ]))
          refine CanonL.done ?_
          intro w9 hS9
          obtain ⟨y0, y1, g2⟩ := hS9
          go_wp2_with fail
          refine wp_region_canon (fun w' => w'.cell? ⟨A, k, none⟩ = some (.int .u32 (f k)) ∧ w'.cell? ⟨A + 1, k, none⟩ = some (.int .u32 (g k)) ∧ Frm (fun _ => False) w0 w') (by kernel_rfl) rfl (by kernel_rfl) (by kernel_rfl) (⟨y0, y1, g2.drew⟩) ?_
          repeat' first
            | (refine CanonL.skip (by rfl) ?_; (try simp only [Act.put, List.setIfInBounds_toArray, List.set_cons_zero, List.set_cons_succ]))
            | (refine CanonL.val (v := ?_) (by rfl) ?_ ?_; rotate_left 1; (focus (intro w hSw; (try dsimp only at hSw); go_simp; (try (with_reducible rfl)); done)); (try simp only [Act.put, List.setIfInBounds_toArray, List.set_cons_zero, List.set_cons_succ]))
          refine CanonL.done ?_
          intro w9 hS9
          obtain ⟨_, _, g3⟩ := hS9
          go_wp2_with fail
          go_roundw
          case rel => exact ⟨k + 1, by omega, by go_num, by rw [S1.out]; rfl, by rw [S2.out]; rfl, g3⟩
          case measure => simp [intOf]; omega
    · obtain rfl : k = 8 := by omega
      have hh : (abv f g 8 = false ∧ abv g f 8 = false) ∨ (abv f g 8 = false ∧ abv g f 8 = true) ∨ (abv f g 8 = true ∧ abv g f 8 = false) ∨ (abv f g 8 = true ∧ abv g f 8 = true) := by
        cases abv f g 8 <;> cases abv g f 8 <;> simp
      rcases hh with hh | hh | hh | hh
      · obtain ⟨hX, hY⟩ := hh
        have hq : q = 0 := by rw [← HQ.out, hX, hY]; rfl
        subst hq
        rw [hX, hY]
        clear hX hY HQ
        go_wp2_with fail
        go_ret
        exact ⟨rfl, g0.trans g1⟩
      · obtain ⟨hX, hY⟩ := hh
        have hq : q = 1 := by rw [← HQ.out, hX, hY]; rfl
        subst hq
        rw [hX, hY]
        clear hX hY HQ
        go_wp2_with fail
        go_ret
        exact ⟨rfl, g0.trans g1⟩
      · obtain ⟨hX, hY⟩ := hh
        have hq : q = 2 := by rw [← HQ.out, hX, hY]; rfl
        subst hq
        rw [hX, hY]
        clear hX hY HQ
        go_wp2_with fail
        go_ret
        exact ⟨rfl, g0.trans g1⟩
      · obtain ⟨hX, hY⟩ := hh
        have hq : q = 3 := by rw [← HQ.out, hX, hY]; rfl
        subst hq
        rw [hX, hY]
        clear hX hY HQ
        go_wp2_with fail
        go_ret
        exact ⟨rfl, g0.trans g1⟩
end Go.Proofs.Ytdoeogfjbcannaa
