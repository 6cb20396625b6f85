/- Pages, opened out of the argument. No condition. -/
import Derived.Test.YtnhihadnaiaojaaDvActO
import Derived.Test.YtnhihadnaiaojaaDvPg
namespace Go.Proofs.Ytnhihadnaiaojaa
open Go.ChangeShapes Go.WideShapes Go.ChangeAt Go.RowKit Go.Deep
section
variable {H : Type} {enc : TypeId × Value → H} {w : World} {base : Nat} {spare : Nat → Bool} {held : Bool}
theorem pageFields : ∃ fs : Array Field, Try.prog.underlying 64 = some (.struct fs) ∧ oneCellFields Try.prog fs = true ∧ Try.prog.cellsOf 64 = fs.size ∧ fs.size = 2 ∧
    (fs[0]?.map (·.type)) = some 5 ∧ (fs[1]?.map (·.type)) = some 9 := ⟨_, Try.underlying64, by kernel_rfl, by kernel_rfl, by kernel_rfl, by kernel_rfl, by kernel_rfl⟩
theorem openPages {v : Value} {d : DataW H} {p : List MemPlace}
    (h : DataW.Trod enc Try.prog w base spare held 61 v d p) (hv : ∃ a n c, v = .slice a n c) : ∃ L, Pgs w v L := by
  obtain ⟨fs, he, hone, hC, h3, t0, t1⟩ := pageFields
  obtain ⟨fuel, hf⟩ := h
  obtain ⟨a, n, c, rfl⟩ := hv
  rcases rowCells Try.underlying61 he hone hC hf with h0 | ⟨a', len, cap, h0, hl, hm, hi⟩
  · simp [Value.cells] at h0
    obtain ⟨rfl, rfl, rfl⟩ := h0
    exact ⟨[], none, 0, rfl, Nat.le_refl _, by decide, fun i h => by simp at h⟩
  · simp [Value.cells] at h0
    obtain ⟨rfl, rfl, rfl⟩ := h0
    rw [h3] at hi
    obtain ⟨f0, hf0, e0⟩ := Option.map_eq_some_iff.1 t0
    obtain ⟨f1, hf1, e1⟩ := Option.map_eq_some_iff.1 t1
    obtain ⟨L, hL, hp⟩ := listOf (p := fun i (x : PgI) => ∃ b off, a' = ⟨b, off, none⟩ ∧ PgAt w b (off + i * 2) x) n fun i hin => by
      obtain ⟨v00, _, _, c00, _⟩ := hi 0 (by omega) 0 f0 hf0
      obtain ⟨b, off, rfl, hb⟩ := addr_of_cell (a := a') (by simpa using c00)
      obtain ⟨v0, y0, n0, c0, d0⟩ := hi i hin 0 f0 hf0
      obtain ⟨v1, y1, n1, c1, d1⟩ := hi i hin 1 f1 hf1
      rw [e0] at d0
      rw [e1] at d1
      obtain ⟨k, hk, _, wk⟩ := DataW.trod_int Try.underlying5 d0
      obtain ⟨s, hs, _, ws⟩ := DataW.trod_string Try.underlying9 d1
      simp only [List.cons.injEq, and_true] at hk hs
      subst hk hs
      have bk := ab_u8 wk
      obtain ⟨k, rfl⟩ := Int.eq_ofNat_of_zero_le bk.1
      rw [Addr.add_lit] at c0 c1
      have hsl : s.data.toList.length ≤ 9223372036854775807 := by
        unfold maxLen at ws
        have : s.data.toList.length = s.size := by simp
        omega
      exact ⟨⟨k, s.data.toList⟩, b, off, rfl, hb, by simpa using c0, by rw [Nat.add_assoc]; exact c1, (by show k < 256; omega), hsl⟩
    refine ⟨L, some a', c, by rw [hL], by omega, hm, fun i hil => ?_⟩
    obtain ⟨b, off, ha, r⟩ := hp i hil
    exact ⟨b, off, by rw [ha], r⟩
end
end Go.Proofs.Ytnhihadnaiaojaa
