/- What Check answers. Of any value. No condition but that a size is an int. -/
import Derived.Test.YtlajfmpgodcbmaaValA
namespace Go.Proofs.Ytlajfmpgodcbmaa
open Go.RowKit

theorem Frm.cellF' {w w' : World} (h : Frm (fun _ => False) w w') {b i : Nat} {v : Value} (hc : w.cell? ⟨b, i, none⟩ = some v) : w'.cell? ⟨b, i, none⟩ = some v := by
  have hb : b < w.heap.size := World.block_lt_of_cell? w _ hc
  exact (World.cell?_of_block (a := ⟨b, i, none⟩) (h.block b hb (fun h => h))).trans hc

theorem frm_of_eq {w w' : World} (h : w' = w) : Frm (fun _ => False) w w' := by subst h; exact Frm.refl _ _
theorem count_anyF (s : Int) (w : World) (hs : I64 s) : Calls Try.prog 12 #[.int .i64 s] w fun e w' => e = .returned (.int .i64 (count s)) ∧ Frm (fun _ => False) w w' :=
  (count_any s w hs).mono fun _ _ h => ⟨h.1, frm_of_eq h.2⟩
theorem rcount_anyF (s : Int) (w : World) (hs : I64 s) : Calls Try.prog 13 #[.int .i64 s] w fun e w' => e = .returned (.int .i64 (count s)) ∧ Frm (fun _ => False) w w' :=
  (rcount_any s w hs).mono fun _ _ h => ⟨h.1, frm_of_eq h.2⟩
theorem most_anyF (d : Bool) (w : World) : Calls Try.prog 36 #[.bool d] w fun e w' => e = .returned (.int .i64 (most d)) ∧ Frm (fun _ => False) w w' :=
  (most_any d w).mono fun _ _ h => ⟨h.1, frm_of_eq h.2⟩
theorem contains_anyF (v : Value) (l : List Nat) (x : Nat) (w : World) (h : Ids w v l) :
    Calls Try.prog 37 #[v, .int .u32 x] w fun e w' => e = .returned (.bool (decide (x ∈ l))) ∧ Frm (fun _ => False) w w' :=
  (contains_any v l x w h).mono fun _ w' h => ⟨h.1, by obtain ⟨n, rfl⟩ := h.2; exact (Frm.refl _ _).drewN n⟩

set_option maxRecDepth 100000 in
set_option maxHeartbeats 2000000 in
theorem check_any (d : Bool) (s : Int) (c : Value) (l : List Nat) (w : World) (hs : I64 s) (h : Ids w c l) :
    Calls Try.prog 14 #[.agg (av d s c)] w fun e w' => e = .returned (.int .i64 (if okV d s l then 0 else 4)) ∧ Frm (fun _ => False) w w' := by
  obtain ⟨a, cap, rfl, hc1, hc2⟩ := h.slice
  unfold maxLen at hc2
  have g0 : Frm (fun _ => False) w (w.alloc (.cells (av d s (.slice a l.length cap)) 24)) := (Frm.refl _ w).alloc _
  have b0 : Blk (w.alloc (.cells (av d s (.slice a l.length cap)) 24)) w.heap.size 24 (av d s (.slice a l.length cap)) := Blk.alloc w _ _
  have c0 := b0.cell 0 rfl
  have c1 := b0.cell 1 rfl
  have c2 := b0.cell 2 rfl
  have HM := Lib.hid (fun W => most_anyF d W)
  have HC := Lib.hid (fun W => count_anyF s W hs)
  have HOK := Lib.hid (show okV d s l = !(decide (s < 0) || decide ((most d : Int) < s) || decide (l.length ≠ count s) || decide (0 ∈ l)) from rfl)
  generalize okV d s l = ok at *
  by_cases h1 : s < 0
  · have e : ok = false := by rw [HOK.out, decide_eq_true h1]; rfl
    subst e
    go_enter Try.func14, Try.ntmps14
    go_wp2_with fail
    refine wp_region_canon (fun W => W.cell? ⟨w.heap.size, 0, none⟩ = some (.bool d) ∧ W.cell? ⟨w.heap.size, 1, none⟩ = some (.int .i64 s) ∧ W.cell? ⟨w.heap.size, 2, none⟩ = some (.slice a l.length cap) ∧ Frm (fun _ => False) w W) (by kernel_rfl) rfl (by kernel_rfl) (by kernel_rfl) (⟨c0, c1, c2, g0.drew⟩) ?_
    repeat' first
      | (refine CanonL.skip (by rfl) ?_; (try simp only [Act.put, List.setIfInBounds_toArray, List.set_cons_zero, List.set_cons_succ]))
      | (refine CanonL.callQ (by rfl) (by rfl) ?_ HM ?_ ?_; (focus (intro w; go_simp; (try (with_reducible rfl)); done)); (focus (rintro w ww hs gg; exact ⟨gg.cellF' hs.1, gg.cellF' hs.2.1, gg.cellF' hs.2.2.1, hs.2.2.2.trans gg⟩)); (try simp only [Act.put, List.setIfInBounds_toArray, List.set_cons_zero, List.set_cons_succ]))
      | (refine CanonL.callQ (by rfl) (by rfl) ?_ HC ?_ ?_; (focus (intro w; go_simp; (try (with_reducible rfl)); done)); (focus (rintro w ww hs gg; exact ⟨gg.cellF' hs.1, gg.cellF' hs.2.1, gg.cellF' hs.2.2.1, hs.2.2.2.trans gg⟩)); (try simp only [Act.put, List.setIfInBounds_toArray, List.set_cons_zero, List.set_cons_succ]))
      | (refine CanonL.val (v := ?_) (by rfl) ?_ ?_; rotate_left 1; (focus (intro w hSw; (try dsimp only at hSw); go_simp; (try (with_reducible rfl)); done)); (try simp only [Act.put, List.setIfInBounds_toArray, List.set_cons_zero, List.set_cons_succ]))
    refine CanonL.done ?_
    intro w9 hS9
    obtain ⟨_, _, _, ff⟩ := hS9
    go_wp2_with fail
    go_ret
    exact ⟨rfl, ff⟩
  · obtain ⟨m, hm⟩ : ∃ m, most d = m := ⟨_, rfl⟩
    obtain ⟨k, hk⟩ : ∃ k, count s = k := ⟨_, rfl⟩
    simp only [hm, hk] at HM HC HOK
    clear hm hk
    have d1 := decide_eq_false h1
    by_cases h2 : (m : Int) < s
    · have e : ok = false := by rw [HOK.out, decide_eq_true h2, Bool.or_true]; rfl
      subst e
      go_enter Try.func14, Try.ntmps14
      go_wp2_with fail
      refine wp_region_canon (fun W => W.cell? ⟨w.heap.size, 0, none⟩ = some (.bool d) ∧ W.cell? ⟨w.heap.size, 1, none⟩ = some (.int .i64 s) ∧ W.cell? ⟨w.heap.size, 2, none⟩ = some (.slice a l.length cap) ∧ Frm (fun _ => False) w W) (by kernel_rfl) rfl (by kernel_rfl) (by kernel_rfl) (⟨c0, c1, c2, g0.drew⟩) ?_
      repeat' first
        | (refine CanonL.skip (by rfl) ?_; (try simp only [Act.put, List.setIfInBounds_toArray, List.set_cons_zero, List.set_cons_succ]))
        | (refine CanonL.callQ (by rfl) (by rfl) ?_ HM ?_ ?_; (focus (intro w; go_simp; (try (with_reducible rfl)); done)); (focus (rintro w ww hs gg; exact ⟨gg.cellF' hs.1, gg.cellF' hs.2.1, gg.cellF' hs.2.2.1, hs.2.2.2.trans gg⟩)); (try simp only [Act.put, List.setIfInBounds_toArray, List.set_cons_zero, List.set_cons_succ]))
        | (refine CanonL.callQ (by rfl) (by rfl) ?_ HC ?_ ?_; (focus (intro w; go_simp; (try (with_reducible rfl)); done)); (focus (rintro w ww hs gg; exact ⟨gg.cellF' hs.1, gg.cellF' hs.2.1, gg.cellF' hs.2.2.1, hs.2.2.2.trans gg⟩)); (try simp only [Act.put, List.setIfInBounds_toArray, List.set_cons_zero, List.set_cons_succ]))
        | (refine CanonL.val (v := ?_) (by rfl) ?_ ?_; rotate_left 1; (focus (intro w hSw; (try dsimp only at hSw); go_simp; (try (with_reducible rfl)); done)); (try simp only [Act.put, List.setIfInBounds_toArray, List.set_cons_zero, List.set_cons_succ]))
      refine CanonL.done ?_
      intro w9 hS9
      obtain ⟨_, _, _, ff⟩ := hS9
      go_wp2_with fail
      go_ret
      exact ⟨rfl, ff⟩
    · have d2 := decide_eq_false h2
      have h2' : s ≤ (m : Int) := by omega
      by_cases h3 : l.length ≠ k
      · have e : ok = false := by rw [HOK.out, decide_eq_true h3, Bool.or_true]; rfl
        subst e
        have h3' : ((l.length : Int) != (k : Int)) = true := by rw [bne_iff_ne]; omega
        go_enter Try.func14, Try.ntmps14
        go_wp2_with fail
        refine wp_region_canon (fun W => W.cell? ⟨w.heap.size, 0, none⟩ = some (.bool d) ∧ W.cell? ⟨w.heap.size, 1, none⟩ = some (.int .i64 s) ∧ W.cell? ⟨w.heap.size, 2, none⟩ = some (.slice a l.length cap) ∧ Frm (fun _ => False) w W) (by kernel_rfl) rfl (by kernel_rfl) (by kernel_rfl) (⟨c0, c1, c2, g0.drew⟩) ?_
        repeat' first
          | (refine CanonL.skip (by rfl) ?_; (try simp only [Act.put, List.setIfInBounds_toArray, List.set_cons_zero, List.set_cons_succ]))
          | (refine CanonL.callQ (by rfl) (by rfl) ?_ HM ?_ ?_; (focus (intro w; go_simp; (try (with_reducible rfl)); done)); (focus (rintro w ww hs gg; exact ⟨gg.cellF' hs.1, gg.cellF' hs.2.1, gg.cellF' hs.2.2.1, hs.2.2.2.trans gg⟩)); (try simp only [Act.put, List.setIfInBounds_toArray, List.set_cons_zero, List.set_cons_succ]))
          | (refine CanonL.callQ (by rfl) (by rfl) ?_ HC ?_ ?_; (focus (intro w; go_simp; (try (with_reducible rfl)); done)); (focus (rintro w ww hs gg; exact ⟨gg.cellF' hs.1, gg.cellF' hs.2.1, gg.cellF' hs.2.2.1, hs.2.2.2.trans gg⟩)); (try simp only [Act.put, List.setIfInBounds_toArray, List.set_cons_zero, List.set_cons_succ]))
          | (refine CanonL.val (v := ?_) (by rfl) ?_ ?_; rotate_left 1; (focus (intro w hSw; (try dsimp only at hSw); go_simp; (try (with_reducible rfl)); done)); (try simp only [Act.put, List.setIfInBounds_toArray, List.set_cons_zero, List.set_cons_succ]))
        refine CanonL.done ?_
        intro w9 hS9
        obtain ⟨_, _, _, ff⟩ := hS9
        go_wp2_with fail
        go_ret
        exact ⟨rfl, ff⟩
      · have d3 := decide_eq_false h3
        have h3' : ((l.length : Int) != (k : Int)) = false := by rw [bne_eq_false_iff_eq]; omega
        have HK := fun (W : World) (hs : W.cell? ⟨w.heap.size, 0, none⟩ = some (.bool d) ∧ W.cell? ⟨w.heap.size, 1, none⟩ = some (.int .i64 s) ∧ W.cell? ⟨w.heap.size, 2, none⟩ = some (.slice a l.length cap) ∧ Frm (fun _ => False) w W) => contains_anyF _ l 0 W (h.keepF hs.2.2.2)
        have e : ok = !decide (0 ∈ l) := by rw [HOK.out, d1, d2, d3]; rfl
        obtain ⟨q, hq⟩ : ∃ q, decide (0 ∈ l) = q := ⟨_, rfl⟩
        rw [hq] at e
        simp only [hq] at HK
        subst e
        clear hq HOK
        cases q with
        | true =>
          go_enter Try.func14, Try.ntmps14
          go_wp2_with fail
          refine wp_region_canon (fun W => W.cell? ⟨w.heap.size, 0, none⟩ = some (.bool d) ∧ W.cell? ⟨w.heap.size, 1, none⟩ = some (.int .i64 s) ∧ W.cell? ⟨w.heap.size, 2, none⟩ = some (.slice a l.length cap) ∧ Frm (fun _ => False) w W) (by kernel_rfl) rfl (by kernel_rfl) (by kernel_rfl) (⟨c0, c1, c2, g0.drew⟩) ?_
          repeat' first
            | (refine CanonL.skip (by rfl) ?_; (try simp only [Act.put, List.setIfInBounds_toArray, List.set_cons_zero, List.set_cons_succ]))
            | (refine CanonL.callQ (by rfl) (by rfl) ?_ HM ?_ ?_; (focus (intro w; go_simp; (try (with_reducible rfl)); done)); (focus (rintro w ww hs gg; exact ⟨gg.cellF' hs.1, gg.cellF' hs.2.1, gg.cellF' hs.2.2.1, hs.2.2.2.trans gg⟩)); (try simp only [Act.put, List.setIfInBounds_toArray, List.set_cons_zero, List.set_cons_succ]))
            | (refine CanonL.callQ (by rfl) (by rfl) ?_ HC ?_ ?_; (focus (intro w; go_simp; (try (with_reducible rfl)); done)); (focus (rintro w ww hs gg; exact ⟨gg.cellF' hs.1, gg.cellF' hs.2.1, gg.cellF' hs.2.2.1, hs.2.2.2.trans gg⟩)); (try simp only [Act.put, List.setIfInBounds_toArray, List.set_cons_zero, List.set_cons_succ]))
            | (refine CanonL.callS (by rfl) (by rfl) ?_ HK ?_ ?_; (focus (intro w; go_simp; (try (with_reducible rfl)); done)); (focus (rintro w ww hs gg; exact ⟨gg.cellF' hs.1, gg.cellF' hs.2.1, gg.cellF' hs.2.2.1, hs.2.2.2.trans gg⟩)); (try simp only [Act.put, List.setIfInBounds_toArray, List.set_cons_zero, List.set_cons_succ]))
            | (refine CanonL.val (v := ?_) (by rfl) ?_ ?_; rotate_left 1; (focus (intro w hSw; (try dsimp only at hSw); go_simp; (try (with_reducible rfl)); done)); (try simp only [Act.put, List.setIfInBounds_toArray, List.set_cons_zero, List.set_cons_succ]))
          refine CanonL.done ?_
          intro w9 hS9
          obtain ⟨_, _, _, ff⟩ := hS9
          go_wp2_with fail
          go_ret
          exact ⟨rfl, ff⟩
        | false =>
          go_enter Try.func14, Try.ntmps14
          go_wp2_with fail
          refine wp_region_canon (fun W => W.cell? ⟨w.heap.size, 0, none⟩ = some (.bool d) ∧ W.cell? ⟨w.heap.size, 1, none⟩ = some (.int .i64 s) ∧ W.cell? ⟨w.heap.size, 2, none⟩ = some (.slice a l.length cap) ∧ Frm (fun _ => False) w W) (by kernel_rfl) rfl (by kernel_rfl) (by kernel_rfl) (⟨c0, c1, c2, g0.drew⟩) ?_
          repeat' first
            | (refine CanonL.skip (by rfl) ?_; (try simp only [Act.put, List.setIfInBounds_toArray, List.set_cons_zero, List.set_cons_succ]))
            | (refine CanonL.callQ (by rfl) (by rfl) ?_ HM ?_ ?_; (focus (intro w; go_simp; (try (with_reducible rfl)); done)); (focus (rintro w ww hs gg; exact ⟨gg.cellF' hs.1, gg.cellF' hs.2.1, gg.cellF' hs.2.2.1, hs.2.2.2.trans gg⟩)); (try simp only [Act.put, List.setIfInBounds_toArray, List.set_cons_zero, List.set_cons_succ]))
            | (refine CanonL.callQ (by rfl) (by rfl) ?_ HC ?_ ?_; (focus (intro w; go_simp; (try (with_reducible rfl)); done)); (focus (rintro w ww hs gg; exact ⟨gg.cellF' hs.1, gg.cellF' hs.2.1, gg.cellF' hs.2.2.1, hs.2.2.2.trans gg⟩)); (try simp only [Act.put, List.setIfInBounds_toArray, List.set_cons_zero, List.set_cons_succ]))
            | (refine CanonL.callS (by rfl) (by rfl) ?_ HK ?_ ?_; (focus (intro w; go_simp; (try (with_reducible rfl)); done)); (focus (rintro w ww hs gg; exact ⟨gg.cellF' hs.1, gg.cellF' hs.2.1, gg.cellF' hs.2.2.1, hs.2.2.2.trans gg⟩)); (try simp only [Act.put, List.setIfInBounds_toArray, List.set_cons_zero, List.set_cons_succ]))
            | (refine CanonL.val (v := ?_) (by rfl) ?_ ?_; rotate_left 1; (focus (intro w hSw; (try dsimp only at hSw); go_simp; (try (with_reducible rfl)); done)); (try simp only [Act.put, List.setIfInBounds_toArray, List.set_cons_zero, List.set_cons_succ]))
          refine CanonL.done ?_
          intro w9 hS9
          obtain ⟨_, _, _, ff⟩ := hS9
          go_wp2_with fail
          go_ret
          exact ⟨rfl, ff⟩
end Go.Proofs.Ytlajfmpgodcbmaa
