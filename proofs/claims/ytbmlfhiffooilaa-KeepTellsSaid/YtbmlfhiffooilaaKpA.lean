/- What Newer, Age, Check and the document's Newer, Age, May answer. Of any versions and policies. No condition. -/
import Derived.Test.YtbmlfhiffooilaaKpM
import Derived.Test.YtbmlfhiffooilaaFrm
import Derived.Test.YtbmlfhiffooilaaCanonQ
import Derived.RegionTactic
import Derived.Deep.QuietTactic
import Derived.BigQuiet
import Derived.IntWalk
namespace Go.Proofs.Ytbmlfhiffooilaa
open Go.RowKit

/-- A version, a policy, as values. -/
abbrev stv (s : StI) : Array Value := #[.int .u32 (s.id : Int), .int .u32 (s.tick : Int)]
abbrev pv (k a : Nat) (q : Int) : Array Value := #[.int .u8 (k : Int), .int .u32 (a : Int), .int .i64 q]
theorem Frm.cellF {w w' : World} {a : Addr} {v : Value} (h : Frm (fun _ => False) w w') (hc : w.cell? a = some v) : w'.cell? a = some v :=
  (World.cell?_of_block (h.block _ (World.block_lt_of_cell? w a hc) fun e => e)).trans hc
theorem Blk.atS (w : World) (t t' : TypeId) (cs cs' : Array Value) : Blk ((w.alloc (.cells cs t)).alloc (.cells cs' t')) (w.heap.size + 1) t' cs' := by
  have h := Blk.alloc (w.alloc (.cells cs t)) t' cs'
  simpa using h
theorem ret_int {k : IntKind} {a b : Int} (h : a = b) : Ending.returned (.int k a) = .returned (.int k b) := by rw [h]
set_option maxRecDepth 100000 in
set_option maxHeartbeats 2000000 in
theorem newer_any (a b : StI) (w : World) : Calls Try.prog 9 #[.agg (stv a), .agg (stv b)] w fun e w' => e = .returned (.bool (newer a b)) ∧ Frm (fun _ => False) w w' := by
  have b0 : Blk ((w.alloc (.cells (stv a) 24)).alloc (.cells (stv b) 24)) w.heap.size 24 (stv a) := (Blk.alloc w _ _).old _
  have b1 := Blk.atS w 24 24 (stv a) (stv b)
  have g0 : Frm (fun _ => False) w ((w.alloc (.cells (stv a) 24)).alloc (.cells (stv b) 24)) := ((Frm.refl _ w).alloc _).alloc _
  have c0 := b0.cell 0 rfl
  have c1 := b0.cell 1 rfl
  have d0 := b1.cell 0 rfl
  have d1 := b1.cell 1 rfl
  by_cases h1 : a.tick = b.tick
  · have h1i : (a.tick : Int) = (b.tick : Int) := by omega
    have hn : newer a b = decide (b.id < a.id) := by simp [newer, h1]
    rw [hn]
    by_cases h2 : b.id < a.id
    · have h2i : (b.id : Int) < (a.id : Int) := by omega
      have e : decide (b.id < a.id) = true := decide_eq_true h2
      rw [e]
      clear hn e
      go_enter Try.func9, Try.ntmps9
      go_wp2_with fail
      go_ret
      exact ⟨by first | rfl | simp [*], by first | exact g0 | (simp only [h1] at g0 ⊢; exact g0)⟩
    · have h2i : ¬ (b.id : Int) < (a.id : Int) := by omega
      have e : decide (b.id < a.id) = false := decide_eq_false h2
      rw [e]
      clear hn e
      go_enter Try.func9, Try.ntmps9
      go_wp2_with fail
      go_ret
      exact ⟨by first | rfl | simp [*], by first | exact g0 | (simp only [h1] at g0 ⊢; exact g0)⟩
  · have h1i : ¬ (a.tick : Int) = (b.tick : Int) := by omega
    have hn : newer a b = decide (b.tick < a.tick) := by simp [newer, h1]
    rw [hn]
    clear hn
    by_cases h2 : b.tick < a.tick
    · have h2i : (b.tick : Int) < (a.tick : Int) := by omega
      go_enter Try.func9, Try.ntmps9
      go_wp2_with fail
      go_ret
      exact ⟨by first | rfl | simp [*], g0⟩
    · have h2i : ¬ (b.tick : Int) < (a.tick : Int) := by omega
      go_enter Try.func9, Try.ntmps9
      go_wp2_with fail
      go_ret
      exact ⟨by first | rfl | simp [*], g0⟩
set_option maxRecDepth 100000 in
set_option maxHeartbeats 2000000 in
theorem rnewer_any (a b : StI) (w : World) : Calls Try.prog 10 #[.agg (stv a), .agg (stv b)] w fun e w' => e = .returned (.bool (newer a b)) ∧ Frm (fun _ => False) w w' := by
  have b0 : Blk ((w.alloc (.cells (stv a) 30)).alloc (.cells (stv b) 30)) w.heap.size 30 (stv a) := (Blk.alloc w _ _).old _
  have b1 := Blk.atS w 30 30 (stv a) (stv b)
  have g0 : Frm (fun _ => False) w ((w.alloc (.cells (stv a) 30)).alloc (.cells (stv b) 30)) := ((Frm.refl _ w).alloc _).alloc _
  have c0 := b0.cell 0 rfl
  have c1 := b0.cell 1 rfl
  have d0 := b1.cell 0 rfl
  have d1 := b1.cell 1 rfl
  by_cases h2 : b.tick < a.tick
  · have h2i : (b.tick : Int) < (a.tick : Int) := by omega
    have hn : newer a b = true := by simp [newer, h2]
    rw [hn]
    clear hn
    go_enter Try.func10, Try.ntmps10
    go_wp2_with fail
    go_ret
    exact ⟨by first | rfl | simp [*], g0⟩
  · have h2i : ¬ (b.tick : Int) < (a.tick : Int) := by omega
    by_cases h1 : a.tick = b.tick
    · have h1i : (a.tick : Int) = (b.tick : Int) := by omega
      have hn : newer a b = decide (b.id < a.id) := by simp [newer, h1]
      rw [hn]
      clear hn h2 h2i
      have h2i : ¬ (b.tick : Int) < (a.tick : Int) := by omega
      by_cases h3 : b.id < a.id
      · have h3i : (b.id : Int) < (a.id : Int) := by omega
        go_enter Try.func10, Try.ntmps10
        go_wp2_with fail
        go_ret
        exact ⟨by first | rfl | simp [*], by first | exact g0 | (simp only [h1] at g0 ⊢; exact g0)⟩
      · have h3i : ¬ (b.id : Int) < (a.id : Int) := by omega
        go_enter Try.func10, Try.ntmps10
        go_wp2_with fail
        go_ret
        exact ⟨by first | rfl | simp [*], by first | exact g0 | (simp only [h1] at g0 ⊢; exact g0)⟩
    · have h1i : ¬ (a.tick : Int) = (b.tick : Int) := by omega
      have hn : newer a b = false := by simp [newer, h1, h2]
      rw [hn]
      clear hn
      go_enter Try.func10, Try.ntmps10
      go_wp2_with fail
      go_ret
      exact ⟨by first | rfl | simp [*], g0⟩
set_option maxRecDepth 100000 in
set_option maxHeartbeats 2000000 in
theorem age_any (a : StI) (now : Nat) (w : World) (hn : now ≤ 4294967295) : Calls Try.prog 11 #[.agg (stv a), .int .u32 (now : Int)] w fun e w' => e = .returned (.int .u32 ((now - a.tick : Nat) : Int)) ∧ Frm (fun _ => False) w w' := by
  have b0 : Blk (w.alloc (.cells (stv a) 24)) w.heap.size 24 (stv a) := Blk.alloc w _ _
  have g0 : Frm (fun _ => False) w (w.alloc (.cells (stv a) 24)) := (Frm.refl _ w).alloc _
  have c1 := b0.cell 1 rfl
  have hb := a.ht
  by_cases h1 : now ≤ a.tick
  · have h1i : min (a.tick : Int) (now : Int) = (now : Int) := by omega
    have h1j : ¬ (a.tick : Int) < (now : Int) := by omega
    have e : now - a.tick = 0 := by omega
    rw [e]
    go_enter Try.func11, Try.ntmps11
    go_wp2_with fail
    all_goals
      go_ret
      exact ⟨ret_int (by omega), g0⟩
  · have h1i : min (a.tick : Int) (now : Int) = (a.tick : Int) := by omega
    have h1j : (a.tick : Int) < (now : Int) := by omega
    go_enter Try.func11, Try.ntmps11
    go_wp2_with fail
    all_goals
      go_ret
      exact ⟨ret_int (by omega), g0⟩
set_option maxRecDepth 100000 in
set_option maxHeartbeats 2000000 in
theorem rage_any (a : StI) (now : Nat) (w : World) (hn : now ≤ 4294967295) : Calls Try.prog 12 #[.agg (stv a), .int .u32 (now : Int)] w fun e w' => e = .returned (.int .u32 ((now - a.tick : Nat) : Int)) ∧ Frm (fun _ => False) w w' := by
  have b0 : Blk (w.alloc (.cells (stv a) 30)) w.heap.size 30 (stv a) := Blk.alloc w _ _
  have g0 : Frm (fun _ => False) w (w.alloc (.cells (stv a) 30)) := (Frm.refl _ w).alloc _
  have c1 := b0.cell 1 rfl
  have hb := a.ht
  by_cases h1 : now < a.tick
  · have h1i : (now : Int) < (a.tick : Int) := by omega
    go_enter Try.func12, Try.ntmps12
    go_wp2_with fail
    go_ret
    exact ⟨ret_int (by omega), g0⟩
  · have h1i : ¬ (now : Int) < (a.tick : Int) := by omega
    go_enter Try.func12, Try.ntmps12
    go_wp2_with fail
    go_ret
    exact ⟨ret_int (by omega), g0⟩
end Go.Proofs.Ytbmlfhiffooilaa
