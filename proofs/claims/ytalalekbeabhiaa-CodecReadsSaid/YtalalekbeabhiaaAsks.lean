/- The law's asks, as they lie in the argument's memory, and opened out of it. No condition. -/
import Derived.Test.YtalalekbeabhiaaOpen
import Derived.Test.YtalalekbeabhiaaLawA
namespace Go.Proofs.Ytalalekbeabhiaa
open Go.ChangeShapes Go.WideShapes Go.ChangeAt Go.RowKit Go.Deep
/-- Something that is read. -/
structure Ask where
  k : Nat
  n : Int
/-- The slice value v reads as these asks. -/
def As (w : World) (v : Value) (L : List Ask) : Prop :=
  ∃ a cap, v = .slice a L.length cap ∧ L.length ≤ cap ∧ cap ≤ maxLen ∧ ∀ i (h : i < L.length), ∃ b off, a = some ⟨b, off, none⟩ ∧ b < w.heap.size ∧
    w.cell? ⟨b, off + i * 2, none⟩ = some (.int .u8 L[i].k) ∧ w.cell? ⟨b, off + i * 2 + 1, none⟩ = some (.int .i64 L[i].n) ∧
    L[i].k < 256 ∧ -9223372036854775808 ≤ L[i].n ∧ L[i].n ≤ 9223372036854775807
theorem As.keep {X : Nat → Prop} {w w' : World} {v : Value} {L : List Ask} (h : As w v L) (hf : Frm X w w') (hn : ∀ k, k < w.heap.size → ¬ X k) : As w' v L := by
  obtain ⟨a, cap, hv, h1, h2, h3⟩ := h
  refine ⟨a, cap, hv, h1, h2, fun i hi => ?_⟩
  obtain ⟨b, off, ha, hb, c0, c1, r⟩ := h3 i hi
  have e := hf.block b hb (hn b hb)
  have ec : ∀ j, w'.cell? ⟨b, j, none⟩ = w.cell? ⟨b, j, none⟩ := fun j => World.cell?_of_block (a := ⟨b, j, none⟩) e
  exact ⟨b, off, ha, Nat.lt_of_lt_of_le hb hf.size, by rw [ec]; exact c0, by rw [ec]; exact c1, r⟩
theorem askFields : ∃ fs : Array Field, Try.prog.underlying 42 = some (.struct fs) ∧ oneCellFields Try.prog fs = true ∧ Try.prog.cellsOf 42 = fs.size ∧ fs.size = 2 ∧
    (fs[0]?.map (·.type)) = some 5 ∧ (fs[1]?.map (·.type)) = some 3 := ⟨_, Try.underlying42, by kernel_rfl, by kernel_rfl, by kernel_rfl, by kernel_rfl, by kernel_rfl⟩
theorem openAsks {H : Type} {enc : TypeId × Value → H} {w : World} {base : Nat} {spare : Nat → Bool} {held : Bool} {v : Value} {d : DataW H} {p : List MemPlace}
    (h : DataW.Trod enc Try.prog w base spare held 34 v d p) (hv : ∃ a n c, v = .slice a n c) : ∃ L, As w v L := by
  obtain ⟨fs, he, hone, hC, h3, t0, t1⟩ := askFields
  obtain ⟨fuel, hf⟩ := h
  obtain ⟨a, n, c, rfl⟩ := hv
  rcases rowCells Try.underlying34 he hone hC hf with h0 | ⟨a', len, cap, h0, hl, hm, hi⟩
  · simp [Value.cells] at h0
    obtain ⟨rfl, rfl, rfl⟩ := h0
    exact ⟨[], none, 0, rfl, Nat.le_refl _, by decide, fun i h => by simp at h⟩
  · simp [Value.cells] at h0
    obtain ⟨rfl, rfl, rfl⟩ := h0
    rw [h3] at hi
    obtain ⟨f0, hf0, e0⟩ := Option.map_eq_some_iff.1 t0
    obtain ⟨f1, hf1, e1⟩ := Option.map_eq_some_iff.1 t1
    obtain ⟨L, hL, hp⟩ := listOf (p := fun i (x : Ask) => ∃ b off, a' = ⟨b, off, none⟩ ∧ b < w.heap.size ∧ w.cell? ⟨b, off + i * 2, none⟩ = some (.int .u8 x.k) ∧ w.cell? ⟨b, off + i * 2 + 1, none⟩ = some (.int .i64 x.n) ∧
        x.k < 256 ∧ -9223372036854775808 ≤ x.n ∧ x.n ≤ 9223372036854775807) n fun i hin => by
      obtain ⟨v00, _, _, c00, _⟩ := hi 0 (by omega) 0 f0 hf0
      obtain ⟨b, off, rfl, hb⟩ := addr_of_cell (a := a') (by simpa using c00)
      obtain ⟨v0, y0, n0, c0, d0⟩ := hi i hin 0 f0 hf0
      obtain ⟨v1, y1, n1, c1, d1⟩ := hi i hin 1 f1 hf1
      rw [e0] at d0
      rw [e1] at d1
      obtain ⟨k, hk, _, wk⟩ := DataW.trod_int Try.underlying5 d0
      obtain ⟨m, hm', _, wm⟩ := DataW.trod_int Try.underlying3 d1
      simp only [List.cons.injEq, and_true] at hk hm'
      subst hk hm'
      have bk := bounds_u8 wk
      have bm := bounds_i64 wm
      obtain ⟨k, rfl⟩ := Int.eq_ofNat_of_zero_le bk.1
      rw [Addr.add_lit] at c0 c1
      exact ⟨⟨k, m⟩, b, off, rfl, hb, by simpa using c0, by rw [Nat.add_assoc]; exact c1, by show k < 256; omega, by show _ ≤ m; omega, by show m ≤ _; omega⟩
    refine ⟨L, some a', c, by rw [hL], by omega, hm, fun i hil => ?_⟩
    obtain ⟨b, off, ha, r⟩ := hp i hil
    exact ⟨b, off, by rw [ha], r⟩
end Go.Proofs.Ytalalekbeabhiaa
