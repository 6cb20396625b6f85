/- What Copy answers: an equal value, in new memory. Of any value of at most a million chunks. -/
import Derived.Test.YtlajfmpgodcbmaaValD
import Derived.Deep.Cut
import Derived.Lib.SlBuf
import Derived.OwnWalk
namespace Go.Proofs.Ytlajfmpgodcbmaa
open Go.RowKit

/-- A value like one, whose chunks lie in new memory. -/
def CopyTo (d : Bool) (s : Int) (l : List Nat) (w : World) (e : Ending) (w' : World) : Prop :=
  ∃ c, e = .returned (.agg (av d s c)) ∧ Own w' c l ∧ Frm (fun _ => False) w w' ∧ ∀ g, c.ownBlock = some g → w.heap.size ≤ g

set_option maxRecDepth 100000 in
set_option maxHeartbeats 2000000 in
theorem copy_any (d : Bool) (s : Int) (c : Value) (l : List Nat) (w : World) (h : Ids w c l) (hl : l.length ≤ 1000000) :
    Calls Try.prog 18 #[.agg (av d s c)] w (CopyTo d s l w) := by
  obtain ⟨a, cap, rfl, hc1, hc2⟩ := h.slice
  unfold maxLen at hc2
  have g0 : Frm (fun _ => False) w (w.alloc (.cells (av d s (.slice a l.length cap)) 24)) := (Frm.refl _ w).alloc _
  have b0 : Blk (w.alloc (.cells (av d s (.slice a l.length cap)) 24)) w.heap.size 24 (av d s (.slice a l.length cap)) := Blk.alloc w _ _
  by_cases h0 : l.length = 0
  · obtain rfl : l = [] := List.eq_nil_of_length_eq_zero h0
    go_enter Try.func18, Try.ntmps18
    have d1 : Blk ((w.alloc (.cells (av d s (.slice none 0 0)) 24)).alloc (.cells (av d s (.slice none 0 0)) 24)) (w.heap.size + 1) 24 (av d s (.slice none 0 0)) := by
      have h := Blk.alloc (w.alloc (.cells (av d s (.slice none 0 0)) 24)) 24 (av d s (.slice none 0 0))
      simpa using h
    have p0 := d1.cell 0 rfl
    have p1 := d1.cell 1 rfl
    have p2 := d1.cell 2 rfl
    go_wp2_with fail
    refine bodyPost_ret (v := .agg (av d s (.slice none 0 0))) (by simp [results, Try.results18, go_sem, p0, p1, p2]) rfl ?_
    exact ⟨.slice none 0 0, rfl, Own.nil_ _, ((Frm.refl _ w).alloc _).alloc _, fun g hg => by cases hg⟩
  · have h0' : 0 < l.length := by omega
    obtain ⟨ga, off, rfl, hga, _⟩ := h.at 0 h0'
    obtain ⟨i0, hi, hz0, hz1, hz2⟩ := info_parts Try.info35
    have g1 : Frm (fun _ => False) w ((w.alloc (.cells (av d s (.slice (some ⟨ga, off, none⟩) l.length cap)) 24)).alloc (.cells #[.bool false, .int .i64 0, .slice none 0 0] 24)) := g0.alloc _
    have d0 := b0.old (.cells #[.bool false, .int .i64 0, .slice none 0 0] 24)
    have d1 : Blk ((w.alloc (.cells (av d s (.slice (some ⟨ga, off, none⟩) l.length cap)) 24)).alloc (.cells #[.bool false, .int .i64 0, .slice none 0 0] 24)) (w.heap.size + 1) 24 #[.bool false, .int .i64 0, .slice none 0 0] := by
      have h := Blk.alloc (w.alloc (.cells (av d s (.slice (some ⟨ga, off, none⟩) l.length cap)) 24)) 24 #[.bool false, .int .i64 0, .slice none 0 0]
      simpa using h
    go_enter Try.func18, Try.ntmps18
    go_upto_region 4 with fail
    generalize hw2 : (w.alloc (.cells (av d s (.slice (some ⟨ga, off, none⟩) l.length cap)) 24)).alloc (.cells #[.bool false, .int .i64 0, .slice none 0 0] 24) = w2 at *
    have hz : w2.heap.size = w.heap.size + 2 := by rw [← hw2]; simp
    have Hz := Lib.hid hz
    clear hz hw2 g0 b0
    have hmk := run_make (P := Try.prog) w2 22 35 i0 (.int .u32 0) Try.underlying22 hi hz0 .i64 .i64 l.length l.length (by omega) (by omega) (by rw [hz2]; omega) (by omega)
    rw [Int.toNat_natCast, hz1, Nat.mul_one] at hmk
    have hsz : (madeCells (Value.int .u32 0).cells l.length).size = l.length := size_madeCells _ _
    have b3 := Blk.alloc w2 35 (madeCells (Value.int .u32 0).cells l.length)
    generalize madeCells (Value.int .u32 0).cells l.length = mc at *
    have hu : (Try.prog.info? 35).map (·.size) = some 1 := by kernel_rfl
    have h3 := (h.keepF g1).keepF ((Frm.refl _ w2).alloc (.cells mc 35))
    have hrun := run_copy_cells (P := Try.prog) (w2.alloc (.cells mc 35)) 22 22 3 35 w2.heap.size 0 l.length l.length ⟨ga, off, none⟩ l.length cap (u32s l) Try.underlying22 hu (by rw [u32s_length]; exact (Nat.min_self _).symm)
      (fun j u hj => by
        have hj2 : j < l.length := by have := (List.getElem?_eq_some_iff.1 hj).1; rwa [u32s_length] at this
        obtain ⟨g', off', e, _, hc⟩ := h3.at j hj2
        cases e
        rw [u32s_get l j hj2] at hj
        cases hj
        have hadd : (⟨ga, off, none⟩ : Addr).add j = ⟨ga, off + j, none⟩ := by unfold Addr.add; split <;> simp_all
        rw [hadd]; exact hc)
      (fun j hj => by
        rw [u32s_length] at hj
        rw [Nat.zero_add, b3.cell j (v := mc[j]) (by simp [hsz, hj])]; rfl)
      (fun j hj => by rw [Nat.zero_add]; exact b3.free j) (u32s_one l)
    rw [u32s_length] at hrun
    have hrow : Row ((w2.alloc (.cells mc 35)).setCells w2.heap.size 0 (u32s l)) 1 (.slice (some ⟨w2.heap.size, 0, none⟩) l.length l.length) l.length (u32s l) := by
      refine ⟨by simp [u32s_length], .inr ⟨_, _, rfl, Nat.le_refl _, by unfold maxLen; omega, setCells_isCells _ _ _ _ _ ⟨_, b3, rfl⟩, fun j hj => ?_, fun j hj => ?_⟩⟩
      · have hj2 : j < (u32s l).length := by rw [u32s_length]; omega
        have := World.cell?_setCells_in w2.heap.size (u32s l) 0 (w2.alloc (.cells mc 35)) (fun j hj => by rw [u32s_length] at hj; rw [Nat.zero_add, b3.cell j (v := mc[j]) (by simp [hsz, hj])]; rfl) j hj2
        rw [Nat.zero_add] at this
        rw [this, List.getElem?_eq_getElem hj2]
      · have hj2 : j < (u32s l).length := by rw [u32s_length]; omega
        have := World.cell?_setCells_in w2.heap.size (u32s l) 0 (w2.alloc (.cells mc 35)) (fun j hj => by rw [u32s_length] at hj; rw [Nat.zero_add, b3.cell j (v := mc[j]) (by simp [hsz, hj])]; rfl) j hj2
        rw [Nat.zero_add] at this
        rw [this, World.frozen?_setCells]
        exact ⟨rfl, b3.free j⟩
    have hfr : Frm (fun _ => False) w2 ((w2.alloc (.cells mc 35)).setCells w2.heap.size 0 (u32s l)) := by
      obtain ⟨e1, e2, e3, e4⟩ := setCells_rest w2.heap.size (u32s l) 0 (w2.alloc (.cells mc 35))
      exact ⟨e1, e2, e3, by rw [e4]; simp, fun k hk _ => (setCells_blk w2.heap.size (u32s l) 0 _ k (by omega)).trans (Below.heap_alloc w2 _ k hk)⟩
    have hz4 : ((w2.alloc (.cells mc 35)).setCells w2.heap.size 0 (u32s l)).heap.size = w2.heap.size + 1 := by
      obtain ⟨e1, e2, e3, e4⟩ := setCells_rest w2.heap.size (u32s l) 0 (w2.alloc (.cells mc 35))
      rw [e4]; simp
    have e0 := d0.keep hfr (fun h => h)
    have e1 := d1.keep hfr (fun h => h)
    have d0o := d0.old (.cells mc 35)
    have q2 := d0o.cell 2 rfl
    generalize hw4 : (w2.alloc (.cells mc 35)).setCells w2.heap.size 0 (u32s l) = w4 at *
    have Hz4 := Lib.hid hz4
    have e3 := e0.set 2 (.slice (some ⟨w2.heap.size, 0, none⟩) l.length l.length)
    have y0 := e3.cell 0 rfl
    have y1 := e3.cell 1 rfl
    have y2 := e3.cell 2 rfl
    have s2 := e0.free 2
    have e0' := e0.cell 2 rfl
    have e1' := e1.other (p := ⟨w.heap.size, 2, none⟩) (by simp) (.slice (some ⟨w2.heap.size, 0, none⟩) l.length l.length)
    have n0 := e1'.free 0
    have n1 := e1'.free 1
    have n2 := e1'.free 2
    have m0 := e1'.cell 0 rfl
    have m1 := e1'.cell 1 rfl
    have m2 := e1'.cell 2 rfl
    clear hz4 hw4
    go_wp2_with fail
    have E1 := ((e1'.set 0 (.bool d)).set 1 (.int .i64 s)).set 2 (.slice (some ⟨w2.heap.size, 0, none⟩) l.length l.length)
    have z0 := E1.cell 0 rfl
    have z1 := E1.cell 1 rfl
    have z2 := E1.cell 2 rfl
    have hn := Hz.out
    have R1 := (((hrow.setOther (p := ⟨w.heap.size, 2, none⟩) (by simp [Value.ownBlock]; omega) (.slice (some ⟨w2.heap.size, 0, none⟩) l.length l.length)).setOther (p := ⟨w.heap.size + 1, 0, none⟩) (by simp [Value.ownBlock]; omega) (.bool d)).setOther (p := ⟨w.heap.size + 1, 1, none⟩) (by simp [Value.ownBlock]; omega) (.int .i64 s)).setOther (p := ⟨w.heap.size + 1, 2, none⟩) (by simp [Value.ownBlock]; omega) (.slice (some ⟨w2.heap.size, 0, none⟩) l.length l.length)
    have F1 := ((((g1.trans hfr).setCell (p := ⟨w.heap.size, 2, none⟩) (fun h => absurd h (by simp)) (.slice (some ⟨w2.heap.size, 0, none⟩) l.length l.length)).setCell (p := ⟨w.heap.size + 1, 0, none⟩) (fun h => absurd h (by simp)) (.bool d)).setCell (p := ⟨w.heap.size + 1, 1, none⟩) (fun h => absurd h (by simp)) (.int .i64 s)).setCell (p := ⟨w.heap.size + 1, 2, none⟩) (fun h => absurd h (by simp)) (.slice (some ⟨w2.heap.size, 0, none⟩) l.length l.length)
    refine bodyPost_ret (v := .agg (av d s (.slice (some ⟨w2.heap.size, 0, none⟩) l.length l.length))) (by simp [results, Try.results18, go_sem, z0, z1, z2]) rfl ?_
    exact ⟨_, rfl, R1, F1, fun g hg => by have e : w2.heap.size = g := Option.some.inj hg; omega⟩
end Go.Proofs.Ytlajfmpgodcbmaa
