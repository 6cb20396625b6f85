/- The law's moves, opened out of the argument. No condition. -/
import Derived.Test.YtmohegglclgcbaaOpen
import Derived.Test.YtmohegglclgcbaaRisesW
namespace Go.Proofs.Ytmohegglclgcbaa
open Go.ChangeShapes Go.WideShapes Go.ChangeAt Go.RowKit Go.Deep
theorem moveFields : ∃ fs : Array Field, Try.prog.underlying 43 = some (.struct fs) ∧ oneCellFields Try.prog fs = true ∧ Try.prog.cellsOf 43 = fs.size ∧ fs.size = 3 ∧
    (fs[0]?.map (·.type)) = some 5 ∧ (fs[1]?.map (·.type)) = some 5 ∧ (fs[2]?.map (·.type)) = some 4 := ⟨_, Try.underlying43, by kernel_rfl, by kernel_rfl, by kernel_rfl, by kernel_rfl, by kernel_rfl, by kernel_rfl⟩
theorem openMoves {H : Type} {enc : TypeId × Value → H} {w : World} {base : Nat} {spare : Nat → Bool} {held : Bool} {v : Value} {d : DataW H} {p : List MemPlace}
    (h : DataW.Trod enc Try.prog w base spare held 37 v d p) (hv : ∃ a n c, v = .slice a n c) : ∃ L, Mv w v L := by
  obtain ⟨fs, he, hone, hC, h3, t0, t1, t2⟩ := moveFields
  obtain ⟨fuel, hf⟩ := h
  obtain ⟨a, n, c, rfl⟩ := hv
  rcases rowCells Try.underlying37 he hone hC hf with h0 | ⟨a', len, cap, h0, hl, hm, hi⟩
  · simp [Value.cells] at h0
    obtain ⟨rfl, rfl, rfl⟩ := h0
    exact ⟨[], none, 0, rfl, Nat.le_refl _, by decide, fun i h => by simp at h⟩
  · simp [Value.cells] at h0
    obtain ⟨rfl, rfl, rfl⟩ := h0
    rw [h3] at hi
    obtain ⟨f0, hf0, e0⟩ := Option.map_eq_some_iff.1 t0
    obtain ⟨f1, hf1, e1⟩ := Option.map_eq_some_iff.1 t1
    obtain ⟨f2, hf2, e2⟩ := Option.map_eq_some_iff.1 t2
    obtain ⟨L, hL, hp⟩ := listOf (p := fun i (x : MoveI) => ∃ b off, a' = ⟨b, off, none⟩ ∧ b < w.heap.size ∧ w.cell? ⟨b, off + i * 3, none⟩ = some (.int .u8 x.who) ∧ w.cell? ⟨b, off + i * 3 + 1, none⟩ = some (.int .u8 x.frm) ∧
        w.cell? ⟨b, off + i * 3 + 2, none⟩ = some (.bool x.joins) ∧ x.who < 256 ∧ x.frm < 256) n fun i hin => by
      obtain ⟨v00, _, _, c00, _⟩ := hi 0 (by omega) 0 f0 hf0
      obtain ⟨b, off, rfl, hb⟩ := addr_of_cell (a := a') (by simpa using c00)
      obtain ⟨v0, y0, n0, c0, d0⟩ := hi i hin 0 f0 hf0
      obtain ⟨v1, y1, n1, c1, d1⟩ := hi i hin 1 f1 hf1
      obtain ⟨v2, y2, n2, c2, d2⟩ := hi i hin 2 f2 hf2
      rw [e0] at d0
      rw [e1] at d1
      rw [e2] at d2
      obtain ⟨k, hk, _, wk⟩ := DataW.trod_int Try.underlying5 d0
      obtain ⟨m, hm', _, wm⟩ := DataW.trod_int Try.underlying5 d1
      obtain ⟨q, hq, _⟩ := DataW.trod_bool Try.underlying4 d2
      simp only [List.cons.injEq, and_true] at hk hm' hq
      subst hk hm' hq
      have bk := bounds_u8 wk
      have bm := bounds_u8 wm
      obtain ⟨k, rfl⟩ := Int.eq_ofNat_of_zero_le bk.1
      obtain ⟨m, rfl⟩ := Int.eq_ofNat_of_zero_le bm.1
      rw [Addr.add_lit] at c0 c1 c2
      exact ⟨⟨k, m, q⟩, b, off, rfl, hb, by simpa using c0, by rw [Nat.add_assoc]; exact c1, by rw [Nat.add_assoc]; exact c2, by show k < 256; omega, by show m < 256; omega⟩
    refine ⟨L, some a', c, by rw [hL], by omega, hm, fun i hil => ?_⟩
    obtain ⟨b, off, ha, r⟩ := hp i hil
    exact ⟨b, off, by rw [ha], r⟩
end Go.Proofs.Ytmohegglclgcbaa
