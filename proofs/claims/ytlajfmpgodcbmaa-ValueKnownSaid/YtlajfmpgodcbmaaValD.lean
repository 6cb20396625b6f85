/- slices.Equal on ids; Same, the program's and the document's. Of any values. No condition but that sizes are ints. -/
import Derived.Test.YtlajfmpgodcbmaaValC
namespace Go.Proofs.Ytlajfmpgodcbmaa
open Go.RowKit

theorem take_succ_eq {l m : List Nat} {k : Nat} (hk : k < l.length) (hk2 : k < m.length) (h : l.take k = m.take k) (h2 : l[k] = m[k]) : l.take (k + 1) = m.take (k + 1) := by
  rw [List.take_succ_eq_append_getElem hk, List.take_succ_eq_append_getElem hk2, h, h2]
theorem ne_of_at {l m : List Nat} {k : Nat} (hk : k < l.length) (hk2 : k < m.length) (h2 : l[k] ≠ m[k]) : decide (l = m) = false := decide_eq_false fun e => h2 (by subst e; rfl)
theorem ne_of_len {l m : List Nat} (h2 : l.length ≠ m.length) : decide (l = m) = false := decide_eq_false fun e => h2 (by subst e; rfl)
theorem eq_of_take {l m : List Nat} (h : l.length = m.length) (h2 : l.take l.length = m.take l.length) : decide (l = m) = true := decide_eq_true (by
  rw [List.take_length, List.take_of_length_le (by omega)] at h2
  exact h2)

set_option maxRecDepth 100000 in
set_option maxHeartbeats 2000000 in
theorem equal_any (v u : Value) (l m : List Nat) (w : World) (h : Ids w v l) (h2 : Ids w u m) :
    Calls Try.prog 38 #[v, u] w fun e w' => e = .returned (.bool (decide (l = m))) ∧ Frm (fun _ => False) w w' := by
  obtain ⟨a, cap, rfl, hc1, hc2⟩ := h.slice
  obtain ⟨b, cap', rfl, hc3, hc4⟩ := h2.slice
  unfold maxLen at hc2 hc4
  obtain ⟨q, hq⟩ : ∃ q, decide (l = m) = q := ⟨_, rfl⟩
  rw [hq]
  have HQ := Lib.hid hq
  clear hq
  by_cases hl : l.length = m.length
  · have hl' : ((l.length : Int) != (m.length : Int)) = false := by rw [bne_eq_false_iff_eq]; omega
    have HL := Lib.hid hl
    have hlm : (m.length : Int) = l.length := by omega
    clear hl
    go_enter Try.func38, Try.ntmps38
    go_wp2_with fail
    clear hl' hlm
    go_loopw [13] (fun i wr => ∃ k : Nat, k ≤ l.length ∧ i = .int .i64 k ∧ l.take k = m.take k ∧ Frm (fun _ => False) w wr) (fun i _ => l.length - (intOf i).toNat)
    case atStart => exact ⟨0, Nat.zero_le _, rfl, by simp, Frm.refl _ _⟩
    case round =>
      obtain ⟨k, hk, rfl, hin, fr⟩ := hrel
      have Hin := Lib.hid hin
      clear hin
      by_cases hlt : k < l.length
      · have hlt2 : k < m.length := by rw [← HL.out]; exact hlt
        obtain ⟨g, off, rfl, _, cl⟩ := (h.keepF fr).at k hlt
        obtain ⟨g2, off2, rfl, _, cl2⟩ := (h2.keepF fr).at k hlt2
        have y1 : wr.drew.cell? ⟨g, off + k, none⟩ = some (.int .u32 l[k]) := cl
        have y2 : wr.drew.cell? ⟨g2, off2 + k, none⟩ = some (.int .u32 m[k]) := cl2
        have hkm : (k : Int) < m.length := by omega
        by_cases hz : l[k] = m[k]
        · have hz' : ((l[k] : Int) != (m[k] : Int)) = false := by rw [bne_eq_false_iff_eq]; omega
          have HT := Lib.hid (take_succ_eq hlt hlt2 Hin.out hz)
          clear hz
          go_wp2_with fail
          refine wp_region_canon (fun W => W.cell? ⟨g, off + k, none⟩ = some (.int .u32 l[k]) ∧ W.cell? ⟨g2, off2 + k, none⟩ = some (.int .u32 m[k]) ∧ Frm (fun _ => False) w W) (by kernel_rfl) rfl (by kernel_rfl) (by kernel_rfl) (⟨y1, y2, fr.drew⟩) ?_
          repeat' first
            | (refine CanonL.skip (by rfl) ?_; (try simp only [Act.put, List.setIfInBounds_toArray, List.set_cons_zero, List.set_cons_succ]))
            | (refine CanonL.val (v := ?_) (by rfl) ?_ ?_; rotate_left 1; (focus (intro w hSw; (try dsimp only at hSw); go_simp; (try (with_reducible rfl)); done)); (try simp only [Act.put, List.setIfInBounds_toArray, List.set_cons_zero, List.set_cons_succ]))
          refine CanonL.done ?_
          intro w9 hS9
          obtain ⟨_, _, ff⟩ := hS9
          go_wp2_with fail
          go_roundw
          case rel => exact ⟨k + 1, by omega, by go_num, HT.out, ff⟩
          case measure => simp [intOf]; omega
        · have hz' : ((l[k] : Int) != (m[k] : Int)) = true := by rw [bne_iff_ne]; omega
          obtain rfl : q = false := by rw [← HQ.out]; exact ne_of_at hlt hlt2 hz
          clear hz
          go_wp2_with fail
          refine wp_region_canon (fun W => W.cell? ⟨g, off + k, none⟩ = some (.int .u32 l[k]) ∧ W.cell? ⟨g2, off2 + k, none⟩ = some (.int .u32 m[k]) ∧ Frm (fun _ => False) w W) (by kernel_rfl) rfl (by kernel_rfl) (by kernel_rfl) (⟨y1, y2, fr.drew⟩) ?_
          repeat' first
            | (refine CanonL.skip (by rfl) ?_; (try simp only [Act.put, List.setIfInBounds_toArray, List.set_cons_zero, List.set_cons_succ]))
            | (refine CanonL.val (v := ?_) (by rfl) ?_ ?_; rotate_left 1; (focus (intro w hSw; (try dsimp only at hSw); go_simp; (try (with_reducible rfl)); done)); (try simp only [Act.put, List.setIfInBounds_toArray, List.set_cons_zero, List.set_cons_succ]))
          refine CanonL.done ?_
          intro w9 hS9
          obtain ⟨_, _, ff⟩ := hS9
          go_wp2_with fail
          go_ret
          exact ⟨rfl, ff⟩
      · obtain rfl : k = l.length := by omega
        obtain rfl : q = true := by rw [← HQ.out]; exact eq_of_take HL.out Hin.out
        go_wp2_with fail
        go_ret
        exact ⟨rfl, fr⟩
  · have hl' : ((l.length : Int) != (m.length : Int)) = true := by rw [bne_iff_ne]; omega
    obtain rfl : q = false := by rw [← HQ.out]; exact ne_of_len hl
    clear hl
    go_enter Try.func38, Try.ntmps38
    go_wp2_with fail
    go_ret
    exact ⟨rfl, Frm.refl _ _⟩

set_option maxRecDepth 100000 in
set_option maxHeartbeats 2000000 in
theorem same_any (d : Bool) (s : Int) (c : Value) (l : List Nat) (d' : Bool) (s' : Int) (c' : Value) (l' : List Nat) (w : World) (h : Ids w c l) (h' : Ids w c' l') :
    Calls Try.prog 16 #[.agg (av d s c), .agg (av d' s' c')] w fun e w' => e = .returned (.bool (sameV d s l d' s' l')) ∧ Frm (fun _ => False) w w' := by
  obtain ⟨a, cap, rfl, hc1, hc2⟩ := h.slice
  obtain ⟨b, cap', rfl, hc3, hc4⟩ := h'.slice
  have g0 : Frm (fun _ => False) w ((w.alloc (.cells (av d s (.slice a l.length cap)) 24)).alloc (.cells (av d' s' (.slice b l'.length cap')) 24)) := ((Frm.refl _ w).alloc _).alloc _
  have b0 : Blk ((w.alloc (.cells (av d s (.slice a l.length cap)) 24)).alloc (.cells (av d' s' (.slice b l'.length cap')) 24)) w.heap.size 24 (av d s (.slice a l.length cap)) := (Blk.alloc w _ _).old _
  have b1 : Blk ((w.alloc (.cells (av d s (.slice a l.length cap)) 24)).alloc (.cells (av d' s' (.slice b l'.length cap')) 24)) (w.heap.size + 1) 24 (av d' s' (.slice b l'.length cap')) := by
    have h := Blk.alloc (w.alloc (.cells (av d s (.slice a l.length cap)) 24)) 24 (av d' s' (.slice b l'.length cap'))
    simpa using h
  have c0 := b0.cell 0 rfl
  have c1 := b0.cell 1 rfl
  have c2 := b0.cell 2 rfl
  have e0 := b1.cell 0 rfl
  have e1 := b1.cell 1 rfl
  have e2 := b1.cell 2 rfl
  unfold sameV
  by_cases h1 : d = d'
  · obtain rfl := h1
    have h1' : (d == d) = true := beq_self_eq_true _
    rw [decide_eq_true (rfl : d = d), Bool.true_and]
    by_cases h2 : s = s'
    · obtain rfl := h2
      have h2' : (s == s) = true := beq_self_eq_true _
      rw [decide_eq_true (rfl : s = s), Bool.true_and]
      have E := equal_any _ _ l l' _ (h.keepF g0) (h'.keepF g0)
      obtain ⟨q, hq⟩ : ∃ q, decide (l = l') = q := ⟨_, rfl⟩
      rw [hq] at E ⊢
      clear hq
      have HE := Lib.hid E
      clear E
      go_enter Try.func16, Try.ntmps16
      go_wp2_with fail
      refine HE.out.mono ?_
      rintro e w1 ⟨rfl, g1⟩
      go_wp2_with fail
      go_ret
      exact ⟨rfl, g0.trans g1⟩
    · have h2' : (s == s') = false := by rw [beq_eq_false_iff_ne]; exact h2
      rw [decide_eq_false h2, Bool.false_and]
      clear h2
      go_enter Try.func16, Try.ntmps16
      go_wp2_with fail
      go_ret
      exact ⟨rfl, g0⟩
  · rw [decide_eq_false h1, Bool.false_and, Bool.false_and]
    cases d <;> cases d' <;> first
      | exact absurd rfl h1
      | (go_enter Try.func16, Try.ntmps16
         go_wp2_with fail
         go_ret
         exact ⟨rfl, g0⟩)

set_option maxRecDepth 100000 in
set_option maxHeartbeats 2000000 in
theorem rsame_any (d : Bool) (s : Int) (c : Value) (l : List Nat) (d' : Bool) (s' : Int) (c' : Value) (l' : List Nat) (w : World) (h : Ids w c l) (h' : Ids w c' l') :
    Calls Try.prog 17 #[.agg (av d s c), .agg (av d' s' c')] w fun e w' => e = .returned (.bool (sameV d s l d' s' l')) ∧ Frm (fun _ => False) w w' := by
  obtain ⟨a, cap, rfl, hc1, hc2⟩ := h.slice
  obtain ⟨b, cap', rfl, hc3, hc4⟩ := h'.slice
  unfold maxLen at hc2 hc4
  have g0 : Frm (fun _ => False) w ((w.alloc (.cells (av d s (.slice a l.length cap)) 24)).alloc (.cells (av d' s' (.slice b l'.length cap')) 24)) := ((Frm.refl _ w).alloc _).alloc _
  have b0 : Blk ((w.alloc (.cells (av d s (.slice a l.length cap)) 24)).alloc (.cells (av d' s' (.slice b l'.length cap')) 24)) w.heap.size 24 (av d s (.slice a l.length cap)) := (Blk.alloc w _ _).old _
  have b1 : Blk ((w.alloc (.cells (av d s (.slice a l.length cap)) 24)).alloc (.cells (av d' s' (.slice b l'.length cap')) 24)) (w.heap.size + 1) 24 (av d' s' (.slice b l'.length cap')) := by
    have h := Blk.alloc (w.alloc (.cells (av d s (.slice a l.length cap)) 24)) 24 (av d' s' (.slice b l'.length cap'))
    simpa using h
  have c0 := b0.cell 0 rfl
  have c1 := b0.cell 1 rfl
  have c2 := b0.cell 2 rfl
  have e0 := b1.cell 0 rfl
  have e1 := b1.cell 1 rfl
  have e2 := b1.cell 2 rfl
  unfold sameV
  by_cases h1 : d = d'
  · obtain rfl := h1
    have h1' : (d != d) = false := bne_self_eq_false _
    rw [decide_eq_true (rfl : d = d), Bool.true_and]
    by_cases h2 : s = s'
    · obtain rfl := h2
      have h2' : (s != s) = false := bne_self_eq_false _
      rw [decide_eq_true (rfl : s = s), Bool.true_and]
      obtain ⟨q, hq⟩ : ∃ q, decide (l = l') = q := ⟨_, rfl⟩
      rw [hq]
      have HQ := Lib.hid hq
      clear hq
      by_cases hl : l.length = l'.length
      · have hl' : ((l.length : Int) != (l'.length : Int)) = false := by rw [bne_eq_false_iff_eq]; omega
        have HL := Lib.hid hl
        clear hl
        go_enter Try.func17, Try.ntmps17
        go_wp2_with fail
        clear hl'
        generalize hw0 : (w.alloc (.cells (av d s (.slice a l.length cap)) 24)).alloc (.cells (av d s (.slice b l'.length cap')) 24) = w0 at *
        have HC2 := Lib.hid c2
        have HE2 := Lib.hid e2
        clear c0 c1 c2 e0 e1 e2 b0 b1 hw0
        go_loopw [5] (fun i wr => ∃ k : Nat, k ≤ l.length ∧ i = .int .i64 k ∧ l.take k = l'.take k ∧ Frm (fun _ => False) w0 wr) (fun i _ => l.length - (intOf i).toNat)
        case atStart => exact ⟨0, Nat.zero_le _, rfl, by simp, Frm.refl _ _⟩
        case round =>
          obtain ⟨k, hk, rfl, hin, fr⟩ := hrel
          have Hin := Lib.hid hin
          clear hin
          have c2 := fr.cellF' HC2.out
          have e2 := fr.cellF' HE2.out
          by_cases hlt : k < l.length
          · have hlt2 : k < l'.length := by rw [← HL.out]; exact hlt
            obtain ⟨g, off, rfl, _, cl⟩ := (h.keepF (g0.trans fr)).at k hlt
            obtain ⟨g2, off2, rfl, _, cl2⟩ := (h'.keepF (g0.trans fr)).at k hlt2
            have y1 : wr.drew.cell? ⟨g, off + k, none⟩ = some (.int .u32 l[k]) := cl
            have y2 : wr.drew.cell? ⟨g2, off2 + k, none⟩ = some (.int .u32 l'[k]) := cl2
            have hkm : (k : Int) < l'.length := by omega
            by_cases hz : l[k] = l'[k]
            · have hz' : ((l[k] : Int) != (l'[k] : Int)) = false := by rw [bne_eq_false_iff_eq]; omega
              have HT := Lib.hid (take_succ_eq hlt hlt2 Hin.out hz)
              clear hz
              go_wp2_with fail
              refine wp_region_canon (fun W => W.cell? ⟨g, off + k, none⟩ = some (.int .u32 l[k]) ∧ W.cell? ⟨g2, off2 + k, none⟩ = some (.int .u32 l'[k]) ∧ W.cell? ⟨w.heap.size, 2, none⟩ = some (.slice (some ⟨g, off, none⟩) l.length cap) ∧ W.cell? ⟨w.heap.size + 1, 2, none⟩ = some (.slice (some ⟨g2, off2, none⟩) l'.length cap') ∧ Frm (fun _ => False) w0 W) (by kernel_rfl) rfl (by kernel_rfl) (by kernel_rfl) (⟨y1, y2, c2, e2, fr.drew⟩) ?_
              repeat' first
                | (refine CanonL.skip (by rfl) ?_; (try simp only [Act.put, List.setIfInBounds_toArray, List.set_cons_zero, List.set_cons_succ]))
                | (refine CanonL.val (v := ?_) (by rfl) ?_ ?_; rotate_left 1; (focus (intro w hSw; (try dsimp only at hSw); go_simp; (try (with_reducible rfl)); done)); (try simp only [Act.put, List.setIfInBounds_toArray, List.set_cons_zero, List.set_cons_succ]))
              refine CanonL.done ?_
              intro w9 hS9
              obtain ⟨_, _, _, _, ff⟩ := hS9
              go_wp2_with fail
              go_roundw
              case rel => exact ⟨k + 1, by omega, by go_num, HT.out, ff⟩
              case measure => simp [intOf]; omega
            · have hz' : ((l[k] : Int) != (l'[k] : Int)) = true := by rw [bne_iff_ne]; omega
              obtain rfl : q = false := by rw [← HQ.out]; exact ne_of_at hlt hlt2 hz
              clear hz
              go_wp2_with fail
              refine wp_region_canon (fun W => W.cell? ⟨g, off + k, none⟩ = some (.int .u32 l[k]) ∧ W.cell? ⟨g2, off2 + k, none⟩ = some (.int .u32 l'[k]) ∧ W.cell? ⟨w.heap.size, 2, none⟩ = some (.slice (some ⟨g, off, none⟩) l.length cap) ∧ W.cell? ⟨w.heap.size + 1, 2, none⟩ = some (.slice (some ⟨g2, off2, none⟩) l'.length cap') ∧ Frm (fun _ => False) w0 W) (by kernel_rfl) rfl (by kernel_rfl) (by kernel_rfl) (⟨y1, y2, c2, e2, fr.drew⟩) ?_
              repeat' first
                | (refine CanonL.skip (by rfl) ?_; (try simp only [Act.put, List.setIfInBounds_toArray, List.set_cons_zero, List.set_cons_succ]))
                | (refine CanonL.val (v := ?_) (by rfl) ?_ ?_; rotate_left 1; (focus (intro w hSw; (try dsimp only at hSw); go_simp; (try (with_reducible rfl)); done)); (try simp only [Act.put, List.setIfInBounds_toArray, List.set_cons_zero, List.set_cons_succ]))
              refine CanonL.done ?_
              intro w9 hS9
              obtain ⟨_, _, _, _, ff⟩ := hS9
              go_wp2_with fail
              go_ret
              exact ⟨rfl, g0.trans ff⟩
          · obtain rfl : k = l.length := by omega
            obtain rfl : q = true := by rw [← HQ.out]; exact eq_of_take HL.out Hin.out
            go_wp2_with fail
            go_ret
            exact ⟨rfl, g0.trans fr⟩
      · have hl' : ((l.length : Int) != (l'.length : Int)) = true := by rw [bne_iff_ne]; omega
        obtain rfl : q = false := by rw [← HQ.out]; exact ne_of_len hl
        clear hl
        go_enter Try.func17, Try.ntmps17
        go_wp2_with fail
        go_ret
        exact ⟨rfl, g0⟩
    · have h2' : (s != s') = true := by rw [bne_iff_ne]; exact h2
      rw [decide_eq_false h2, Bool.false_and]
      clear h2
      go_enter Try.func17, Try.ntmps17
      go_wp2_with fail
      go_ret
      exact ⟨rfl, g0⟩
  · rw [decide_eq_false h1, Bool.false_and, Bool.false_and]
    cases d <;> cases d' <;> first
      | exact absurd rfl h1
      | (go_enter Try.func17, Try.ntmps17
         go_wp2_with fail
         go_ret
         exact ⟨rfl, g0⟩)
end Go.Proofs.Ytlajfmpgodcbmaa
