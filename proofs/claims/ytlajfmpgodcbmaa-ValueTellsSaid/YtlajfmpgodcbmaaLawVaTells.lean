/- The statement ValueTells, walked. -/
import Derived.Test.YtlajfmpgodcbmaaValZ
import Derived.Deep.Cut
namespace Go.Proofs.Ytlajfmpgodcbmaa
open Go.RowKit

/-- A slice whose cells may be written. -/
def WrC (w : World) (n : Nat) (v : Value) : Prop := ∃ a cap, v = .slice a n cap ∧ n ≤ cap ∧ ∀ j, j < n → ∃ g, a = some ⟨g, 0, none⟩ ∧ g < w.heap.size ∧ (w.cell? ⟨g, j, none⟩).isSome = true ∧ w.frozen? ⟨g, j, none⟩ = false
theorem Own.wr {w : World} {v : Value} {l : List Nat} (h : Own w v l) : WrC w l.length v := by
  rcases h.2 with ⟨rfl, h0⟩ | ⟨g, cap, rfl, h1, h2, ⟨o, ho, _⟩, h4, h5⟩
  · exact ⟨none, 0, by rw [h0], by omega, fun j hj => by omega⟩
  · refine ⟨_, cap, rfl, h1, fun j hj => ⟨g, rfl, (Array.getElem?_eq_some_iff.1 ho).1, ?_⟩⟩
    have := h5 j (by omega)
    exact this
theorem WrC.set {w : World} {n : Nat} {v : Value} (h : WrC w n v) (p : Addr) (u : Value) : WrC (w.setCell p u) n v := by
  obtain ⟨a, cap, rfl, h1, h2⟩ := h
  refine ⟨a, cap, rfl, h1, fun j hj => ?_⟩
  obtain ⟨g, rfl, hg, hc, hf⟩ := h2 j hj
  obtain ⟨x, hx⟩ := Option.isSome_iff_exists.1 hc
  obtain ⟨y, hy⟩ := cell?_setCell_some (p := p) (x := u) hx
  exact ⟨g, rfl, by simpa [World.setCell] using hg, by rw [hy]; rfl, by rw [World.frozen?_setCell]; exact hf⟩
theorem WrC.keep {X : Nat → Prop} {w w' : World} {n : Nat} {v : Value} (h : WrC w n v) (f : Frm X w w') (hn : ∀ g, v.ownBlock = some g → ¬ X g) : WrC w' n v := by
  obtain ⟨a, cap, rfl, h1, h2⟩ := h
  refine ⟨a, cap, rfl, h1, fun j hj => ?_⟩
  obtain ⟨g, rfl, hg, hc, hf⟩ := h2 j hj
  have hb := f.block g hg (hn g rfl)
  exact ⟨g, rfl, Nat.lt_of_lt_of_le hg f.size, by rw [World.cell?_of_block (a := ⟨g, j, none⟩) hb]; exact hc, by rw [← hf]; simp only [World.frozen?, hb]⟩
/-- Two values, one behind the other. -/
abbrev vv2 (d : Bool) (s : Int) (c : Value) (d' : Bool) (s' : Int) (c' : Value) : Array Value := #[.bool d, .int .i64 s, c, .bool d', .int .i64 s', c']

set_option maxRecDepth 100000 in
set_option maxHeartbeats 8000000 in
theorem valueTells_any (u : List UInt8) (n : Int) (d : Bool) (s : Int) (c : Value) (l : List Nat) (d' : Bool) (s' : Int) (c' : Value) (l' : List Nat) (w : World) (hu : u.length ≤ 9223372036854775807) (hn : I64 n) (hs : I64 s) (h : Ids w c l) (_ : ∀ x ∈ l, x < 4294967296) (_ : I64 s') (h' : Ids w c' l') (_ : ∀ x ∈ l', x < 4294967296) :
    Calls Try.prog 3 #[.string (bs u), .int .i64 n, .agg (vv2 d s c d' s' c')] w fun e w' => e = .returned (.bool true) ∧ Frm (fun _ => False) w w' := by
  obtain ⟨a, cap, rfl, hc1, hc2⟩ := h.slice
  obtain ⟨a', cap', rfl, hc3, hc4⟩ := h'.slice
  unfold maxLen at hc2 hc4
  have g0 : Frm (fun _ => False) w (w.alloc (.cells (vv2 d s (.slice a l.length cap) d' s' (.slice a' l'.length cap')) 25)) := (Frm.refl _ w).alloc _
  have b0 := Blk.alloc w 25 (vv2 d s (.slice a l.length cap) d' s' (.slice a' l'.length cap'))
  have FW := few_any d s _ l _ (h.keepF g0)
  have FW' := fun W (f : Frm (fun _ => False) w W) => few_any d' s' _ l' W (h'.keepF f)
  have x0 := b0.cell 0 rfl
  have x1 := b0.cell 1 rfl
  have x2 := b0.cell 2 rfl
  by_cases h1 : u.length ≤ 3000
  case neg =>
    have h1' : (3000 : Int) < ((bs u).size : Int) := by rw [bs_size]; omega
    go_enter Try.func3, Try.ntmps3
    go_wp2_with fail
    refine (wawake_any _).mono ?_
    rintro e w9 ⟨rfl, g9⟩
    go_wp2_with fail
    go_ret
    exact ⟨rfl, g0.trans g9⟩
  have h1' : ((bs u).size : Int) ≤ 3000 := by rw [bs_size]; omega
  by_cases h2 : l.length ≤ 60
  case neg =>
    rw [decide_eq_false h2] at FW
    have HF := Lib.hid FW
    clear FW
    go_enter Try.func3, Try.ntmps3
    go_wp2_with fail
    refine HF.out.mono ?_
    rintro e w1 ⟨rfl, g1⟩
    go_wp2_with fail
    refine (wawake_any _).mono ?_
    rintro e w9 ⟨rfl, g9⟩
    go_wp2_with fail
    go_ret
    exact ⟨rfl, (g0.trans g1).trans g9⟩
  rw [decide_eq_true h2] at FW
  have HF := Lib.hid FW
  clear FW
  by_cases h3 : l'.length ≤ 60
  case neg =>
    simp only [decide_eq_false h3] at FW'
    have HF' := Lib.hid FW'
    clear FW'
    go_enter Try.func3, Try.ntmps3
    go_wp2_with fail
    refine HF.out.mono ?_
    rintro e w1 ⟨rfl, g1⟩
    have b1 := b0.keep g1 (fun h => h)
    have y3 := b1.cell 3 rfl
    have y4 := b1.cell 4 rfl
    have y5 := b1.cell 5 rfl
    go_wp2_with fail
    refine (HF'.out _ (g0.trans g1)).mono ?_
    rintro e w2 ⟨rfl, g2⟩
    go_wp2_with fail
    refine (wawake_any _).mono ?_
    rintro e w9 ⟨rfl, g9⟩
    go_wp2_with fail
    go_ret
    exact ⟨rfl, ((g0.trans g1).trans g2).trans g9⟩
  simp only [decide_eq_true h3] at FW'
  have HF' := Lib.hid FW'
  clear FW'
  go_enter Try.func3, Try.ntmps3
  go_wp2_with fail
  refine HF.out.mono ?_
  rintro e w1 ⟨rfl, g1⟩
  have b1 := b0.keep g1 (fun h => h)
  have y3 := b1.cell 3 rfl
  have y4 := b1.cell 4 rfl
  have y5 := b1.cell 5 rfl
  clear x0 x1 x2
  go_wp2_with fail
  refine (HF'.out _ (g0.trans g1)).mono ?_
  rintro e w2 ⟨rfl, g2⟩
  have b2 := b1.keep g2 (fun h => h)
  have k2 := (g0.trans g1).trans g2
  clear y3 y4 y5 b0 b1 g0 g1 g2 HF HF'
  go_wp2_with fail
  refine (split_any u w2 h1).mono ?_
  rintro e w3 ⟨va, rfl, oa, g3, _⟩
  have b3 := b2.keep g3 (fun h => h)
  have k3 := k2.trans g3
  clear b2 k2 g3
  go_wp2_with fail
  refine (rsplit_any u w3 h1).mono ?_
  rintro e w4 ⟨vb, rfl, ob, g4, _⟩
  have b4 := b3.keep g4 (fun h => h)
  have k4 := k3.trans g4
  have oa := oa.keep g4 (fun _ _ h => h)
  clear b3 k3 g4
  have hch : (chunks u).length ≤ 60 := by rw [chunks_count]; unfold count; omega
  generalize chunks u = L at *
  obtain ⟨aa, ca, rfl, _, _⟩ := Row.slice oa
  obtain ⟨ab, cb, rfl, _, _⟩ := Row.slice ob
  go_upto_region 4 with fail
  have c0 := b4.cell 0 rfl
  have c1 := b4.cell 1 rfl
  have c2 := b4.cell 2 rfl
  have c3 := b4.cell 3 rfl
  have c4 := b4.cell 4 rfl
  have c5 := b4.cell 5 rfl
  have HC := Lib.hid (fun W => count_anyF n W hn)
  have HR := Lib.hid (fun W => rcount_anyF n W hn)
  obtain ⟨q, hq⟩ : ∃ q, okV d s l = q := ⟨_, rfl⟩
  obtain ⟨p, hp⟩ : ∃ p, sameV d s l d' s' l' = p := ⟨_, rfl⟩
  have HK := fun (W : World) (hh : W.cell? ⟨w.heap.size, 0, none⟩ = some (.bool d) ∧ W.cell? ⟨w.heap.size, 1, none⟩ = some (.int .i64 s) ∧ W.cell? ⟨w.heap.size, 2, none⟩ = some (.slice a l.length cap) ∧ W.cell? ⟨w.heap.size, 3, none⟩ = some (.bool d') ∧ W.cell? ⟨w.heap.size, 4, none⟩ = some (.int .i64 s') ∧ W.cell? ⟨w.heap.size, 5, none⟩ = some (.slice a' l'.length cap') ∧ Frm (fun _ => False) w4 W) => check_any d s _ l W hs (h.keepF (k4.trans hh.2.2.2.2.2.2))
  have HM := fun (W : World) (hh : W.cell? ⟨w.heap.size, 0, none⟩ = some (.bool d) ∧ W.cell? ⟨w.heap.size, 1, none⟩ = some (.int .i64 s) ∧ W.cell? ⟨w.heap.size, 2, none⟩ = some (.slice a l.length cap) ∧ W.cell? ⟨w.heap.size, 3, none⟩ = some (.bool d') ∧ W.cell? ⟨w.heap.size, 4, none⟩ = some (.int .i64 s') ∧ W.cell? ⟨w.heap.size, 5, none⟩ = some (.slice a' l'.length cap') ∧ Frm (fun _ => False) w4 W) => may_any d s _ l W hs (h.keepF (k4.trans hh.2.2.2.2.2.2))
  have HS := fun (W : World) (hh : W.cell? ⟨w.heap.size, 0, none⟩ = some (.bool d) ∧ W.cell? ⟨w.heap.size, 1, none⟩ = some (.int .i64 s) ∧ W.cell? ⟨w.heap.size, 2, none⟩ = some (.slice a l.length cap) ∧ W.cell? ⟨w.heap.size, 3, none⟩ = some (.bool d') ∧ W.cell? ⟨w.heap.size, 4, none⟩ = some (.int .i64 s') ∧ W.cell? ⟨w.heap.size, 5, none⟩ = some (.slice a' l'.length cap') ∧ Frm (fun _ => False) w4 W) => same_any d s _ l d' s' _ l' W (h.keepF (k4.trans hh.2.2.2.2.2.2)) (h'.keepF (k4.trans hh.2.2.2.2.2.2))
  have HT := fun (W : World) (hh : W.cell? ⟨w.heap.size, 0, none⟩ = some (.bool d) ∧ W.cell? ⟨w.heap.size, 1, none⟩ = some (.int .i64 s) ∧ W.cell? ⟨w.heap.size, 2, none⟩ = some (.slice a l.length cap) ∧ W.cell? ⟨w.heap.size, 3, none⟩ = some (.bool d') ∧ W.cell? ⟨w.heap.size, 4, none⟩ = some (.int .i64 s') ∧ W.cell? ⟨w.heap.size, 5, none⟩ = some (.slice a' l'.length cap') ∧ Frm (fun _ => False) w4 W) => rsame_any d s _ l d' s' _ l' W (h.keepF (k4.trans hh.2.2.2.2.2.2)) (h'.keepF (k4.trans hh.2.2.2.2.2.2))
  simp only [hq] at HK HM
  simp only [hp] at HS HT
  have hx4 : ((if q then 0 else 4 : Int) == 0) = q := by cases q <;> rfl
  obtain ⟨x4, hx4'⟩ : ∃ x4, (if q then 0 else 4 : Int) = x4 := ⟨_, rfl⟩
  rw [hx4'] at hx4
  simp only [hx4'] at HK
  have n1 : (q != q) = false := bne_self_eq_false _
  have n2 : (p != p) = false := bne_self_eq_false _
  have n3 : (((count n : Nat) : Int) != ((count n : Nat) : Int)) = false := bne_self_eq_false _
  have n4 : ((L.length : Int) != (L.length : Int)) = false := bne_self_eq_false _
  clear hq hp hx4'
  refine wp_region_canon (fun W => W.cell? ⟨w.heap.size, 0, none⟩ = some (.bool d) ∧ W.cell? ⟨w.heap.size, 1, none⟩ = some (.int .i64 s) ∧ W.cell? ⟨w.heap.size, 2, none⟩ = some (.slice a l.length cap) ∧ W.cell? ⟨w.heap.size, 3, none⟩ = some (.bool d') ∧ W.cell? ⟨w.heap.size, 4, none⟩ = some (.int .i64 s') ∧ W.cell? ⟨w.heap.size, 5, none⟩ = some (.slice a' l'.length cap') ∧ Frm (fun _ => False) w4 W) (by kernel_rfl) rfl (by kernel_rfl) (by kernel_rfl) (⟨c0, c1, c2, c3, c4, c5, (Frm.refl _ w4).drew⟩) ?_
  repeat' first
    | (refine CanonL.skip (by rfl) ?_; (try simp only [Act.put, List.setIfInBounds_toArray, List.set_cons_zero, List.set_cons_succ]))
    | (refine CanonL.callQ (by rfl) (by rfl) ?_ HC ?_ ?_; (focus (intro w; go_simp; (try (with_reducible rfl)); done)); (focus (rintro w ww hs gg; exact (by obtain ⟨t0, t1, t2, t3, t4, t5, t6⟩ := hs; exact ⟨gg.cellF' t0, gg.cellF' t1, gg.cellF' t2, gg.cellF' t3, gg.cellF' t4, gg.cellF' t5, t6.trans gg⟩))); (try simp only [Act.put, List.setIfInBounds_toArray, List.set_cons_zero, List.set_cons_succ]))
    | (refine CanonL.callQ (by rfl) (by rfl) ?_ HR ?_ ?_; (focus (intro w; go_simp; (try (with_reducible rfl)); done)); (focus (rintro w ww hs gg; exact (by obtain ⟨t0, t1, t2, t3, t4, t5, t6⟩ := hs; exact ⟨gg.cellF' t0, gg.cellF' t1, gg.cellF' t2, gg.cellF' t3, gg.cellF' t4, gg.cellF' t5, t6.trans gg⟩))); (try simp only [Act.put, List.setIfInBounds_toArray, List.set_cons_zero, List.set_cons_succ]))
    | (refine CanonL.callS (by rfl) (by rfl) ?_ HK ?_ ?_; (focus (intro w; go_simp; (try (with_reducible rfl)); done)); (focus (rintro w ww hs gg; exact (by obtain ⟨t0, t1, t2, t3, t4, t5, t6⟩ := hs; exact ⟨gg.cellF' t0, gg.cellF' t1, gg.cellF' t2, gg.cellF' t3, gg.cellF' t4, gg.cellF' t5, t6.trans gg⟩))); (try simp only [Act.put, List.setIfInBounds_toArray, List.set_cons_zero, List.set_cons_succ]))
    | (refine CanonL.callS (by rfl) (by rfl) ?_ HM ?_ ?_; (focus (intro w; go_simp; (try (with_reducible rfl)); done)); (focus (rintro w ww hs gg; exact (by obtain ⟨t0, t1, t2, t3, t4, t5, t6⟩ := hs; exact ⟨gg.cellF' t0, gg.cellF' t1, gg.cellF' t2, gg.cellF' t3, gg.cellF' t4, gg.cellF' t5, t6.trans gg⟩))); (try simp only [Act.put, List.setIfInBounds_toArray, List.set_cons_zero, List.set_cons_succ]))
    | (refine CanonL.callS (by rfl) (by rfl) ?_ HS ?_ ?_; (focus (intro w; go_simp; (try (with_reducible rfl)); done)); (focus (rintro w ww hs gg; exact (by obtain ⟨t0, t1, t2, t3, t4, t5, t6⟩ := hs; exact ⟨gg.cellF' t0, gg.cellF' t1, gg.cellF' t2, gg.cellF' t3, gg.cellF' t4, gg.cellF' t5, t6.trans gg⟩))); (try simp only [Act.put, List.setIfInBounds_toArray, List.set_cons_zero, List.set_cons_succ]))
    | (refine CanonL.callS (by rfl) (by rfl) ?_ HT ?_ ?_; (focus (intro w; go_simp; (try (with_reducible rfl)); done)); (focus (rintro w ww hs gg; exact (by obtain ⟨t0, t1, t2, t3, t4, t5, t6⟩ := hs; exact ⟨gg.cellF' t0, gg.cellF' t1, gg.cellF' t2, gg.cellF' t3, gg.cellF' t4, gg.cellF' t5, t6.trans gg⟩))); (try simp only [Act.put, List.setIfInBounds_toArray, List.set_cons_zero, List.set_cons_succ]))
    | (refine CanonL.val (v := ?_) (by rfl) ?_ ?_; rotate_left 1; (focus (intro w hSw; (try dsimp only at hSw); go_simp; (try (with_reducible rfl)); done)); (try simp only [Act.put, List.setIfInBounds_toArray, List.set_cons_zero, List.set_cons_succ]))
  refine CanonL.done ?_
  intro w9 hS9
  obtain ⟨_, _, _, _, _, _, f4⟩ := hS9
  have b9 := b4.keep f4 (fun h => h)
  have k9 := k4.trans f4
  have oa9 := (oa.keep f4 (fun _ _ h => h)).reads
  have ob9 := (ob.keep f4 (fun _ _ h => h)).reads
  clear HC HR HK HM HS HT n1 n2 n3 hx4 c0 c1 c2 c3 c4 c5 oa ob b4 k4 f4
  go_wp2_with fail
  go_loopw [9] (fun i wr => ∃ k : Nat, k ≤ L.length ∧ i = .int .i64 k ∧ Frm (fun _ => False) w9 wr) (fun i _ => L.length - (intOf i).toNat)
  case atStart => exact ⟨0, Nat.zero_le _, rfl, Frm.refl _ _⟩
  case round =>
    obtain ⟨k, hk, rfl, fr⟩ := hrel
    by_cases hlt : k < L.length
    · obtain ⟨g, off, rfl, _, cl⟩ := (oa9.keepF fr).at k hlt
      obtain ⟨g2, off2, rfl, _, cl2⟩ := (ob9.keepF fr).at k hlt
      have e1 : wr.drew.cell? ⟨g, off + k, none⟩ = some (.string (bs L[k])) := cl
      have e2 : wr.drew.cell? ⟨g2, off2 + k, none⟩ = some (.string (bs L[k])) := cl2
      have hki : (k : Int) < L.length := by omega
      obtain ⟨x, hx⟩ : ∃ x, bs L[k] = x := ⟨_, rfl⟩
      rw [hx] at e1 e2
      have n5 : (x.toList != x.toList) = false := bne_self_eq_false _
      clear cl cl2 hx
      go_wp2_with fail
      refine wp_region_canon (fun W => W.cell? ⟨g, off + k, none⟩ = some (.string x) ∧ W.cell? ⟨g2, off2 + k, none⟩ = some (.string x) ∧ Frm (fun _ => False) w9 W) (by kernel_rfl) rfl (by kernel_rfl) (by kernel_rfl) (⟨e1, e2, fr.drew⟩) ?_
      repeat' first
        | (refine CanonL.skip (by rfl) ?_; (try simp only [Act.put, List.setIfInBounds_toArray, List.set_cons_zero, List.set_cons_succ]))
        | (refine CanonL.val (v := ?_) (by rfl) ?_ ?_; rotate_left 1; (focus (intro w hSw; (try dsimp only at hSw); go_simp; (try (with_reducible rfl)); done)); (try simp only [Act.put, List.setIfInBounds_toArray, List.set_cons_zero, List.set_cons_succ]))
      refine CanonL.done ?_
      intro w9 hS9
      obtain ⟨_, _, f5⟩ := hS9
      go_wp2_with fail
      go_roundw
      case rel => exact ⟨k + 1, by omega, by go_num, f5⟩
      case measure => simp [intOf]; omega
    · obtain rfl : k = L.length := by omega
      have bR := b9.keep fr (fun h => h)
      have kR := k9.trans fr
      have r0 := bR.cell 0 rfl
      have r1 := bR.cell 1 rfl
      have r2 := bR.cell 2 rfl
      clear oa9 ob9 b9 k9 fr
      go_wp2_with fail
      refine (copy_any d s _ l wr (h.keepF kR) (by omega)).mono ?_
      rintro e w5 ⟨cv, rfl, oc, g5, nc⟩
      obtain ⟨ac, cc, rfl, _, _⟩ := Row.slice oc
      have b5 := bR.keep g5 (fun h => h)
      have k5 := kR.trans g5
      have sz5 := g5.size
      have hA := bR.lt
      have B5 := Blk.alloc w5 24 (av d s (.slice ac l.length cc))
      have fa : Frm (fun _ => False) w5 (w5.alloc (.cells (av d s (.slice ac l.length cc)) 24)) := (Frm.refl _ w5).alloc _
      have hcl0 := oc.blk
      have oc := oc.keep fa (fun _ _ h => h)
      have b5 := b5.keep fa (fun h => h)
      have k5 := k5.trans fa
      obtain ⟨V, hV⟩ : ∃ V, w5.heap.size = V := ⟨_, rfl⟩
      have hX : ∀ g, Value.ownBlock (.slice ac l.length cc) = some g → g ≠ w.heap.size ∧ g ≠ V ∧ w.heap.size < g := fun g hg => by
        have e1 := hcl0 g hg
        have e2 := nc g hg
        omega
      rw [hV] at B5 sz5
      clear g5 fa r0 r1 r2 bR kR
      go_upto_region 12 with fail
      clear hV
      generalize w5.alloc (.cells (av d s (.slice ac l.length cc)) 24) = w6 at *
      have S := rsame_any d s _ l d s _ l w6 oc.ids (h.keepF k5)
      have es : sameV d s l d s l = true := by simp [sameV]
      rw [es] at S
      have HS := Lib.hid S
      clear S es
      have i0 := B5.cell 0 rfl
      have i1 := B5.cell 1 rfl
      have i2 := B5.cell 2 rfl
      have j0 := b5.cell 0 rfl
      have j1 := b5.cell 1 rfl
      have j2 := b5.cell 2 rfl
      go_wp2_with fail
      refine HS.out.mono ?_
      rintro e w7 ⟨rfl, g7⟩
      have B7 := B5.keep g7 (fun h => h)
      have b7 := b5.keep g7 (fun h => h)
      have k7 := k5.trans g7
      have o7 := oc.keep g7 (fun _ _ h => h)
      have W7 := o7.wr
      clear i0 i1 i2 j0 j1 j2 HS B5 b5 k5 oc g7
      have hVA := B7.lt
      have HB7 := Lib.hid B7
      have Hb7 := Lib.hid b7
      have HX := Lib.hid hX
      clear B7 b7 hX o7 hcl0 nc sz5 hVA hA
      go_wp2_with fail
      go_loopw [12] (fun i wr => ∃ k : Nat, k ≤ l.length ∧ i = .int .i64 k ∧ Frm (fun j => Value.ownBlock (.slice ac l.length cc) = some j) w7 wr ∧ WrC wr l.length (.slice ac l.length cc)) (fun i _ => l.length - (intOf i).toNat)
      case atStart => exact ⟨0, Nat.zero_le _, rfl, Frm.refl _ _, W7⟩
      case round =>
        clear W7
        obtain ⟨k, hk, rfl, fr, wc⟩ := hrel
        have B8 := HB7.out.keep fr (fun e => (HX.out _ e).2.1 rfl)
        have b8 := Hb7.out.keep fr (fun e => (HX.out _ e).1 rfl)
        have i2 := B8.cell 2 rfl
        have j2 := b8.cell 2 rfl
        by_cases hlt : k < l.length
        · obtain ⟨g0, off0, rfl, hg0, cl⟩ := h.at k hlt
          have hki : (k : Int) < l.length := by omega
          have cl7 := k7.cellF' cl
          obtain ⟨a3, c3, e3, _, hw⟩ := id wc
          cases e3
          obtain ⟨gc, rfl, hgc, hcs, hfz⟩ := hw k hlt
          obtain ⟨y, hy⟩ := Option.isSome_iff_exists.1 hcs
          have hgc2 := HX.out gc rfl
          have cl8 : wr.cell? ⟨g0, off0 + k, none⟩ = some (.int .u32 l[k]) := (World.cell?_of_block (a := ⟨g0, off0 + k, none⟩) (fr.block g0 (World.block_lt_of_cell? w7 _ cl7) (fun e => by have := HX.out _ e; omega))).trans cl7
          have y1 : ∀ v, (wr.setCell ⟨gc, k, none⟩ v).cell? ⟨g0, off0 + k, none⟩ = some (.int .u32 l[k]) := fun v => (World.cell?_of_block (a := ⟨g0, off0 + k, none⟩) (Below.heap_setCell wr ⟨gc, k, none⟩ v g0 (by show g0 ≠ gc; omega))).trans cl8
          have y2 : ∀ v, (wr.setCell ⟨gc, k, none⟩ v).cell? ⟨w.heap.size, 2, none⟩ = some (.slice (some ⟨g0, off0, none⟩) l.length cap) := fun v => (World.cell?_of_block (a := ⟨w.heap.size, 2, none⟩) (Below.heap_setCell wr ⟨gc, k, none⟩ v w.heap.size (by show w.heap.size ≠ gc; omega))).trans j2
          have n6 : ((l[k] : Int) != (l[k] : Int)) = false := bne_self_eq_false _
          have Hw := Lib.hid wc
          clear cl cl7 wc hw hcs hgc2 hgc B8 b8
          go_wp2_with fail
          go_roundw
          case rel => exact ⟨k + 1, by omega, by go_num, fr.setCell (p := ⟨gc, k, none⟩) (fun _ => rfl) _, Hw.out.set _ _⟩
          case measure => simp [intOf]; omega
        · obtain rfl : k = l.length := by omega
          have kf := k7.new fr (fun j hj => by have := HX.out j hj; omega)
          go_wp2_with fail
          refine (wawake_any wr).mono ?_
          rintro e w9 ⟨rfl, g9⟩
          go_wp2_with fail
          go_ret
          exact ⟨rfl, kf.trans g9⟩
end Go.Proofs.Ytlajfmpgodcbmaa
