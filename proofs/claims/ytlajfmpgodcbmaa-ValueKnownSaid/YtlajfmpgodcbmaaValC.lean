/- What the document's May answers. Of any value. No condition but that a size is an int. -/
import Derived.Test.YtlajfmpgodcbmaaValB
namespace Go.Proofs.Ytlajfmpgodcbmaa
open Go.RowKit

theorem notin_take_succ {l : List Nat} {k : Nat} (hk : k < l.length) (h : 0 ∉ l.take k) (h2 : l[k] ≠ 0) : 0 ∉ l.take (k + 1) := by
  rw [List.take_succ_eq_append_getElem hk, List.mem_append]
  rintro (h3 | h3)
  · exact h h3
  · exact h2 (List.mem_singleton.1 h3).symm

set_option maxRecDepth 100000 in
set_option maxHeartbeats 2000000 in
theorem may_any (d : Bool) (s : Int) (c : Value) (l : List Nat) (w : World) (hs : I64 s) (h : Ids w c l) :
    Calls Try.prog 15 #[.agg (av d s c)] w fun e w' => e = .returned (.bool (okV d s l)) ∧ Frm (fun _ => False) w w' := by
  obtain ⟨a, cap, rfl, hc1, hc2⟩ := h.slice
  unfold maxLen at hc2
  have g0 : Frm (fun _ => False) w (w.alloc (.cells (av d s (.slice a l.length cap)) 24)) := (Frm.refl _ w).alloc _
  have b0 : Blk (w.alloc (.cells (av d s (.slice a l.length cap)) 24)) w.heap.size 24 (av d s (.slice a l.length cap)) := Blk.alloc w _ _
  have c0 := b0.cell 0 rfl
  have c1 := b0.cell 1 rfl
  have c2 := b0.cell 2 rfl
  have HC := Lib.hid (fun W => rcount_anyF s W hs)
  cases d with
  | true =>
    rw [okV_dir]
    by_cases h1 : s = 0
    · subst h1
      by_cases h2 : l = []
      · subst h2
        go_enter Try.func15, Try.ntmps15
        go_wp2_with fail
        go_ret
        exact ⟨rfl, g0⟩
      · have h3 : ((l.length : Int) == 0) = false := by
          rw [beq_eq_false_iff_ne]
          intro e
          exact h2 (List.eq_nil_of_length_eq_zero (by omega))
        have e : decide (l = []) = false := decide_eq_false h2
        rw [e]
        clear e h2
        go_enter Try.func15, Try.ntmps15
        go_wp2_with fail
        go_ret
        exact ⟨rfl, g0⟩
    · have h3 : (s == 0) = false := by rw [beq_eq_false_iff_ne]; exact h1
      have e : decide (s = 0) = false := decide_eq_false h1
      rw [e]
      clear e h1
      go_enter Try.func15, Try.ntmps15
      go_wp2_with fail
      go_ret
      exact ⟨rfl, g0⟩
  | false =>
    have HOK := Lib.hid (show okV false s l = !(decide (s < 0) || decide (((256 : Nat) : Int) < s) || decide (l.length ≠ count s) || decide (0 ∈ l)) from rfl)
    generalize okV false s l = ok at *
    by_cases h1 : s < 0
    · have e : ok = false := by rw [HOK.out, decide_eq_true h1]; rfl
      subst e
      go_enter Try.func15, Try.ntmps15
      go_wp2_with fail
      refine wp_region_canon (fun W => W.cell? ⟨w.heap.size, 0, none⟩ = some (.bool false) ∧ W.cell? ⟨w.heap.size, 1, none⟩ = some (.int .i64 s) ∧ W.cell? ⟨w.heap.size, 2, none⟩ = some (.slice a l.length cap) ∧ Frm (fun _ => False) w W) (by kernel_rfl) rfl (by kernel_rfl) (by kernel_rfl) (⟨c0, c1, c2, g0.drew⟩) ?_
      repeat' first
        | (refine CanonL.skip (by rfl) ?_; (try simp only [Act.put, List.setIfInBounds_toArray, List.set_cons_zero, List.set_cons_succ]))
        | (refine CanonL.callQ (by rfl) (by rfl) ?_ HC ?_ ?_; (focus (intro w; go_simp; (try (with_reducible rfl)); done)); (focus (rintro w ww hs gg; exact ⟨gg.cellF' hs.1, gg.cellF' hs.2.1, gg.cellF' hs.2.2.1, hs.2.2.2.trans gg⟩)); (try simp only [Act.put, List.setIfInBounds_toArray, List.set_cons_zero, List.set_cons_succ]))
        | (refine CanonL.val (v := ?_) (by rfl) ?_ ?_; rotate_left 1; (focus (intro w hSw; (try dsimp only at hSw); go_simp; (try (with_reducible rfl)); done)); (try simp only [Act.put, List.setIfInBounds_toArray, List.set_cons_zero, List.set_cons_succ]))
      refine CanonL.done ?_
      intro w9 hS9
      obtain ⟨x0, x1, x2, ff⟩ := hS9
      go_wp2_with fail
      go_ret
      exact ⟨rfl, ff⟩
    · obtain ⟨k, hk⟩ : ∃ k, count s = k := ⟨_, rfl⟩
      simp only [hk] at HC HOK
      clear hk
      have d1 := decide_eq_false h1
      have h1' : 0 ≤ s := by omega
      by_cases h2 : 256 < s
      · have e : ok = false := by rw [HOK.out, decide_eq_true (show ((256 : Nat) : Int) < s from h2), Bool.or_true]; rfl
        subst e
        go_enter Try.func15, Try.ntmps15
        go_wp2_with fail
        refine wp_region_canon (fun W => W.cell? ⟨w.heap.size, 0, none⟩ = some (.bool false) ∧ W.cell? ⟨w.heap.size, 1, none⟩ = some (.int .i64 s) ∧ W.cell? ⟨w.heap.size, 2, none⟩ = some (.slice a l.length cap) ∧ Frm (fun _ => False) w W) (by kernel_rfl) rfl (by kernel_rfl) (by kernel_rfl) (⟨c0, c1, c2, g0.drew⟩) ?_
        repeat' first
          | (refine CanonL.skip (by rfl) ?_; (try simp only [Act.put, List.setIfInBounds_toArray, List.set_cons_zero, List.set_cons_succ]))
          | (refine CanonL.callQ (by rfl) (by rfl) ?_ HC ?_ ?_; (focus (intro w; go_simp; (try (with_reducible rfl)); done)); (focus (rintro w ww hs gg; exact ⟨gg.cellF' hs.1, gg.cellF' hs.2.1, gg.cellF' hs.2.2.1, hs.2.2.2.trans gg⟩)); (try simp only [Act.put, List.setIfInBounds_toArray, List.set_cons_zero, List.set_cons_succ]))
          | (refine CanonL.val (v := ?_) (by rfl) ?_ ?_; rotate_left 1; (focus (intro w hSw; (try dsimp only at hSw); go_simp; (try (with_reducible rfl)); done)); (try simp only [Act.put, List.setIfInBounds_toArray, List.set_cons_zero, List.set_cons_succ]))
        refine CanonL.done ?_
        intro w9 hS9
        obtain ⟨x0, x1, x2, ff⟩ := hS9
        go_wp2_with fail
        go_ret
        exact ⟨rfl, ff⟩
      · have d2 : decide (256 < s) = false := decide_eq_false h2
        have h2' : s ≤ 256 := by omega
        by_cases h3 : l.length ≠ k
        · have e : ok = false := by rw [HOK.out, decide_eq_true h3, Bool.or_true]; rfl
          subst e
          have h3' : ((l.length : Int) != (k : Int)) = true := by rw [bne_iff_ne]; omega
          go_enter Try.func15, Try.ntmps15
          go_wp2_with fail
          refine wp_region_canon (fun W => W.cell? ⟨w.heap.size, 0, none⟩ = some (.bool false) ∧ W.cell? ⟨w.heap.size, 1, none⟩ = some (.int .i64 s) ∧ W.cell? ⟨w.heap.size, 2, none⟩ = some (.slice a l.length cap) ∧ Frm (fun _ => False) w W) (by kernel_rfl) rfl (by kernel_rfl) (by kernel_rfl) (⟨c0, c1, c2, g0.drew⟩) ?_
          repeat' first
            | (refine CanonL.skip (by rfl) ?_; (try simp only [Act.put, List.setIfInBounds_toArray, List.set_cons_zero, List.set_cons_succ]))
            | (refine CanonL.callQ (by rfl) (by rfl) ?_ HC ?_ ?_; (focus (intro w; go_simp; (try (with_reducible rfl)); done)); (focus (rintro w ww hs gg; exact ⟨gg.cellF' hs.1, gg.cellF' hs.2.1, gg.cellF' hs.2.2.1, hs.2.2.2.trans gg⟩)); (try simp only [Act.put, List.setIfInBounds_toArray, List.set_cons_zero, List.set_cons_succ]))
            | (refine CanonL.val (v := ?_) (by rfl) ?_ ?_; rotate_left 1; (focus (intro w hSw; (try dsimp only at hSw); go_simp; (try (with_reducible rfl)); done)); (try simp only [Act.put, List.setIfInBounds_toArray, List.set_cons_zero, List.set_cons_succ]))
          refine CanonL.done ?_
          intro w9 hS9
          obtain ⟨x0, x1, x2, ff⟩ := hS9
          go_wp2_with fail
          go_ret
          exact ⟨rfl, ff⟩
        · have d3 := decide_eq_false h3
          have h3' : ((l.length : Int) != (k : Int)) = false := by rw [bne_eq_false_iff_eq]; omega
          have e : ok = !decide (0 ∈ l) := by rw [HOK.out, d1, show decide (((256 : Nat) : Int) < s) = false from d2, d3]; rfl
          have He := Lib.hid e
          clear e HOK
          go_enter Try.func15, Try.ntmps15
          go_wp2_with fail
          refine wp_region_canon (fun W => W.cell? ⟨w.heap.size, 0, none⟩ = some (.bool false) ∧ W.cell? ⟨w.heap.size, 1, none⟩ = some (.int .i64 s) ∧ W.cell? ⟨w.heap.size, 2, none⟩ = some (.slice a l.length cap) ∧ Frm (fun _ => False) w W) (by kernel_rfl) rfl (by kernel_rfl) (by kernel_rfl) (⟨c0, c1, c2, g0.drew⟩) ?_
          repeat' first
            | (refine CanonL.skip (by rfl) ?_; (try simp only [Act.put, List.setIfInBounds_toArray, List.set_cons_zero, List.set_cons_succ]))
            | (refine CanonL.callQ (by rfl) (by rfl) ?_ HC ?_ ?_; (focus (intro w; go_simp; (try (with_reducible rfl)); done)); (focus (rintro w ww hs gg; exact ⟨gg.cellF' hs.1, gg.cellF' hs.2.1, gg.cellF' hs.2.2.1, hs.2.2.2.trans gg⟩)); (try simp only [Act.put, List.setIfInBounds_toArray, List.set_cons_zero, List.set_cons_succ]))
            | (refine CanonL.val (v := ?_) (by rfl) ?_ ?_; rotate_left 1; (focus (intro w hSw; (try dsimp only at hSw); go_simp; (try (with_reducible rfl)); done)); (try simp only [Act.put, List.setIfInBounds_toArray, List.set_cons_zero, List.set_cons_succ]))
          refine CanonL.done ?_
          intro w9 hS9
          obtain ⟨x0, x1, x2, ff⟩ := hS9
          go_wp2_with fail
          clear h3' d1 d2 d3 h1 h2 h3 h1' h2' c0 c1 c2
          have HX0 := Lib.hid x0
          have HX2 := Lib.hid x2
          clear x0 x1 x2
          go_loopw [3] (fun i wr => ∃ k : Nat, k ≤ l.length ∧ i = .int .i64 k ∧ 0 ∉ l.take k ∧ Frm (fun _ => False) w9 wr) (fun i _ => l.length - (intOf i).toNat)
          case atStart => exact ⟨0, Nat.zero_le _, rfl, by simp, Frm.refl _ _⟩
          case round =>
            obtain ⟨k, hk, rfl, hin, fr⟩ := hrel
            have Hin := Lib.hid hin
            clear hin
            have c2 := fr.cellF' HX2.out
            by_cases hlt : k < l.length
            · obtain ⟨g, off, rfl, _, cl⟩ := (h.keepF (ff.trans fr)).at k hlt
              have clD : wr.drew.cell? ⟨g, off + k, none⟩ = some (.int .u32 l[k]) := cl
              by_cases hz : l[k] = 0
              · have hz' : ((l[k] : Int) == 0) = true := by rw [beq_iff_eq]; omega
                have hm : 0 ∈ l := hz ▸ List.getElem_mem hlt
                have e : ok = false := by rw [He.out, decide_eq_true hm]; rfl
                subst e
                clear hz hm
                go_wp2_with fail
                go_ret
                exact ⟨rfl, ff.trans fr⟩
              · have hz' : ((l[k] : Int) == 0) = false := by rw [beq_eq_false_iff_ne]; omega
                have Hz := Lib.hid hz
                clear hz
                go_wp2_with fail
                go_roundw
                case rel => exact ⟨k + 1, by omega, by go_num, notin_take_succ hlt Hin.out Hz.out, fr⟩
                case measure => simp [intOf]; omega
            · obtain rfl : k = l.length := by omega
              have e : ok = true := by
                have := Hin.out
                rw [List.take_length] at this
                rw [He.out, decide_eq_false this]; rfl
              subst e
              go_wp2_with fail
              go_ret
              exact ⟨rfl, ff.trans fr⟩
end Go.Proofs.Ytlajfmpgodcbmaa
