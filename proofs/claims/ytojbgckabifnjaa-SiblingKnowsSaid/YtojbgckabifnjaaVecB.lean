/- What the calls of package vector answer: Cmp, Has. Of any vectors and dots. No condition but that the numbers have their bits. -/
import Derived.Test.YtojbgckabifnjaaVecA
import Derived.Deep.RegionHeld3
import Derived.Test.YtojbgckabifnjaaCanon
namespace Go.Proofs.Ytojbgckabifnjaa
open Go.RowKit

theorem Frm.cellF {w w' : World} {a : Addr} {v : Value} (h : Frm (fun _ => False) w w') (hc : w.cell? a = some v) : w'.cell? a = some v :=
  (World.cell?_of_block (h.block _ (World.block_lt_of_cell? w a hc) fun e => e)).trans hc
/-- May a dot be? -/
def okD (r n : Nat) : Bool := decide (r < 8) && decide (1 ≤ n) && decide (n ≤ 65535)

set_option maxRecDepth 100000 in
set_option maxHeartbeats 1000000 in
theorem validDot_any (r n : Nat) (w : World) (hr : r < 256) (hn : n < 4294967296) :
    Calls Try.prog 49 #[.agg (dv r n)] w fun e w' => e = .returned (.bool (okD r n)) ∧ Frm (fun _ => False) w w' := by
  have g0 : Frm (fun _ => False) w (w.alloc (Obj.cells (dv r n) 27)) := (Frm.refl _ w).alloc _
  have c0 : (w.alloc (Obj.cells (dv r n) 27)).cell? ⟨w.heap.size, 0, none⟩ = some (.int .u8 r) := (Blk.alloc w _ _).cell 0 rfl
  have c1 : (w.alloc (Obj.cells (dv r n) 27)).cell? ⟨w.heap.size, 1, none⟩ = some (.int .u32 n) := (Blk.alloc w _ _).cell 1 rfl
  unfold okD
  by_cases h1 : r < 8
  · have h1i : (r : Int) < 8 := by omega
    by_cases h2 : 1 ≤ n
    · have h2i : (1 : Int) ≤ n := by omega
      by_cases h3 : n ≤ 65535
      · have h3i : (n : Int) ≤ 65535 := by omega
        go_enter Try.func49, Try.ntmps49
        go_wp2_with fail
        go_ret
        exact ⟨by first | rfl | simp [*], g0⟩
      · have h3i : ¬ (n : Int) ≤ 65535 := by omega
        go_enter Try.func49, Try.ntmps49
        go_wp2_with fail
        go_ret
        exact ⟨by first | rfl | simp [*], g0⟩
    · have h2i : ¬ (1 : Int) ≤ n := by omega
      go_enter Try.func49, Try.ntmps49
      go_wp2_with fail
      go_ret
      exact ⟨by first | rfl | simp [*], g0⟩
  · have h1i : ¬ (r : Int) < 8 := by omega
    go_enter Try.func49, Try.ntmps49
    go_wp2_with fail
    go_ret
    exact ⟨by first | rfl | simp [*], g0⟩

/-- What Next answers. -/
def nextS8 (f : Nat → Nat) (r : Nat) : (Nat → Nat) × (Nat × Nat) × Nat :=
  if 8 ≤ r then (fun _ => 0, (0, 0), 2) else if 65535 ≤ mx f 8 then (fun _ => 0, (0, 0), 12) else (upd8 f r (mx f 8 + 1), (r, mx f 8 + 1), 0)
def NextTo (f : Nat → Nat) (r : Nat) (w : World) (e : Ending) (w' : World) : Prop :=
  e = .returned (.tuple #[.agg (vv (nextS8 f r).1), .agg (dv (nextS8 f r).2.1.1 (nextS8 f r).2.1.2), .int .i64 (nextS8 f r).2.2]) ∧ Frm (fun _ => False) w w'
/-- Has f the dot? -/
def has8 (f : Nat → Nat) (r n : Nat) : Bool := okD r n && decide (n ≤ f r)
theorem okD_lt {r n : Nat} (h : okD r n = true) : r < 8 := by
  simp only [okD, Bool.and_eq_true, decide_eq_true_eq] at h
  exact h.1.1

set_option maxRecDepth 100000 in
set_option maxHeartbeats 1000000 in
theorem has_any (f : Nat → Nat) (r n : Nat) (w : World) (hr : r < 256) (hn : n < 4294967296) :
    Calls Try.prog 13 #[.agg (vv f), .agg (dv r n)] w fun e w' => e = .returned (.bool (has8 f r n)) ∧ Frm (fun _ => False) w w' := by
  have b0 : Blk ((w.alloc (Obj.cells (vv f) 24)).alloc (Obj.cells (dv r n) 27)) w.heap.size 24 (vv f) := (Blk.alloc w _ _).old _
  have b1 : Blk ((w.alloc (Obj.cells (vv f) 24)).alloc (Obj.cells (dv r n) 27)) (w.heap.size + 1) 27 (dv r n) := Blk.at1 w _ _ _
  have g0 : Frm (fun _ => False) w ((w.alloc (Obj.cells (vv f) 24)).alloc (Obj.cells (dv r n) 27)) := ((Frm.refl _ w).alloc _).alloc _
  have c0 := b1.cell 0 rfl
  have c1 := b1.cell 1 rfl
  have H : ∀ w, Calls Try.prog 49 #[.agg (dv r n)] w fun e w' => e = .returned (.bool (okD r n)) ∧ Frm (fun _ => False) w w' := fun w => validDot_any r n w hr hn
  unfold has8
  cases hok : okD r n with
  | false =>
    rw [hok] at H
    have HH := Lib.hid H
    clear H hok
    go_enter Try.func13, Try.ntmps13
    go_wp2_with fail
    refine wp_region_canon (fun w' => w'.cell? ⟨w.heap.size + 1, 0, none⟩ = some (.int .u8 r) ∧ w'.cell? ⟨w.heap.size + 1, 1, none⟩ = some (.int .u32 n) ∧ Frm (fun _ => False) w w') (by kernel_rfl) rfl (by kernel_rfl) (by kernel_rfl) (⟨c0, c1, g0.drew⟩) ?_
    repeat' first
      | (refine CanonL.skip (by rfl) ?_; (try simp only [Act.put, List.setIfInBounds_toArray, List.set_cons_zero, List.set_cons_succ]))
      | (refine CanonL.callT (by rfl) ?_ HH ?_ ?_; (focus (intro w; go_simp; (try (with_reducible rfl)); done)); (focus (rintro w ww hs gg; exact ⟨gg.cellF hs.1, gg.cellF hs.2.1, hs.2.2.trans gg⟩)); (try simp only [Act.put, List.setIfInBounds_toArray, List.set_cons_zero, List.set_cons_succ]))
      | (refine CanonL.val (v := ?_) (by rfl) ?_ ?_; rotate_left 1; (focus (intro w hSw; (try dsimp only at hSw); go_simp; (try (with_reducible rfl)); done)); (try simp only [Act.put, List.setIfInBounds_toArray, List.set_cons_zero, List.set_cons_succ]))
    refine CanonL.done ?_
    intro w9 hS9
    obtain ⟨_, _, ff⟩ := hS9
    go_wp2_with fail
    go_ret
    exact ⟨rfl, ff⟩
  | true =>
    have hr8 := okD_lt hok
    rw [hok] at H
    have HH := Lib.hid H
    clear H hok
    have c2 := vblk_cell b0 hr8
    have hri : (r : Int) < 8 := by omega
    have hr0 : (0 : Int) ≤ (r : Int) := by omega
    have hq : ((n : Int) ≤ (f r : Int)) ↔ n ≤ f r := by omega
    go_enter Try.func13, Try.ntmps13
    go_wp2_with fail
    refine wp_region_canon (fun w' => w'.cell? ⟨w.heap.size + 1, 0, none⟩ = some (.int .u8 r) ∧ w'.cell? ⟨w.heap.size + 1, 1, none⟩ = some (.int .u32 n) ∧ w'.cell? ⟨w.heap.size, r, none⟩ = some (.int .u32 (f r)) ∧ Frm (fun _ => False) w w') (by kernel_rfl) rfl (by kernel_rfl) (by kernel_rfl) (⟨c0, c1, c2, g0.drew⟩) ?_
    repeat' first
      | (refine CanonL.skip (by rfl) ?_; (try simp only [Act.put, List.setIfInBounds_toArray, List.set_cons_zero, List.set_cons_succ]))
      | (refine CanonL.callT (by rfl) ?_ HH ?_ ?_; (focus (intro w; go_simp; (try (with_reducible rfl)); done)); (focus (rintro w ww hs gg; exact ⟨gg.cellF hs.1, gg.cellF hs.2.1, gg.cellF hs.2.2.1, hs.2.2.2.trans gg⟩)); (try simp only [Act.put, List.setIfInBounds_toArray, List.set_cons_zero, List.set_cons_succ]))
      | (refine CanonL.val (v := ?_) (by rfl) ?_ ?_; rotate_left 1; (focus (intro w hSw; (try dsimp only at hSw); go_simp; (try (with_reducible rfl)); done)); (try simp only [Act.put, List.setIfInBounds_toArray, List.set_cons_zero, List.set_cons_succ]))
    refine CanonL.done ?_
    intro w9 hS9
    obtain ⟨_, _, _, ff⟩ := hS9
    go_wp2_with fail
    go_ret
    exact ⟨rfl, ff⟩

end Go.Proofs.Ytojbgckabifnjaa

