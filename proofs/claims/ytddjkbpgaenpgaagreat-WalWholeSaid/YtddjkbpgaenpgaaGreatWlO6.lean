/- WalWhole's lives, opened out of the argument. No condition. -/
import Derived.Test.YtddjkbpgaenpgaaGreatDvActO
import Derived.Test.YtddjkbpgaenpgaaGreatLawWlWhole
namespace Go.Proofs.YtddjkbpgaenpgaaGreat
open Go.ChangeShapes Go.WideShapes Go.ChangeAt Go.RowKit Go.Deep
theorem abw_u16 {n : Int} (h : (Lit.int .u16 n).wf = true) : 0 ≤ n ∧ n ≤ 65535 := by
  have h1 : IntKind.u16.min = 0 := by decide
  have h2 : IntKind.u16.max = 65535 := by decide
  simp [Lit.wf, h1, h2] at h
  exact h
section
variable {H : Type} {enc : TypeId × Value → H} {w : World} {base : Nat} {spare : Nat → Bool} {held : Bool}
/-- A slice of texts that came in. -/
theorem openSs {P : Program} {t e : TypeId} {fuel : Nat} {c : Value} {y : DataW H × List MemPlace} (ht : P.underlying t = some (.slice e)) (he : P.underlying e = some .string) (hC : P.cellsOf e = 1)
    (h : DataW.trod enc P w base spare held fuel t [c] = some y) : ∃ l, Strs w c l ∧ ∀ s ∈ l, s.length ≤ 9223372036854775807 := by
  rcases open_slice ht h with ⟨h0, _⟩ | ⟨a', len, cap, m, n', D, Pl, hcs, _, hl, hm, hmm, _, hi⟩
  · simp only [List.cons.injEq, and_true] at h0
    subst h0
    exact ⟨[], Strs.none_ w, by simp⟩
  · simp only [List.cons.injEq, and_true] at hcs
    subst hcs
    obtain ⟨L, hL, hp⟩ := listOf (p := fun i (s : List UInt8) => ∃ b off, a' = ⟨b, off, none⟩ ∧ b < w.heap.size ∧ w.cell? ⟨b, off + i, none⟩ = some (.string (bs s)) ∧ s.length ≤ 9223372036854775807) len fun i hin => by
      have h00 : 0 < m := by rw [hmm]; split <;> omega
      obtain ⟨row0, hrow0, htrod0⟩ := hi 0 h00
      obtain ⟨_, _, hcell0⟩ := World.cells?_some hrow0
      have hc0 := hcell0 0 (by rw [hC]; omega)
      have him : i < m := by rw [hmm]; split <;> omega
      obtain ⟨row, hrow, htrod⟩ := hi i him
      obtain ⟨_, hlen, hcell⟩ := World.cells?_some hrow
      have hc := hcell 0 (by rw [hC]; omega)
      obtain ⟨s, e0, _, ws⟩ := DataW.trod_string he htrod
      obtain ⟨s0, e00, _, _⟩ := DataW.trod_string he htrod0
      rw [e00] at hc0
      obtain ⟨b, off, rfl, hb⟩ := addr_of_cell (a := a') (by simpa [Addr.add] using hc0)
      rw [e0, hC] at hc
      have hadd : ∀ (o j : Nat), (⟨b, o, none⟩ : Addr).add j = ⟨b, o + j, none⟩ := fun o j => by unfold Addr.add; split <;> simp_all
      rw [hadd, hadd, Nat.mul_one, Nat.add_zero] at hc
      refine ⟨s.data.toList, b, off, rfl, hb, by rw [bs_data, hc]; rfl, ?_⟩
      unfold maxLen at ws
      have : s.data.toList.length = s.size := by simp
      omega
    subst hL
    refine ⟨L, ⟨by simp [strs], some a', cap, rfl, hl, hm, ?_⟩, fun s hs => ?_⟩
    · rcases Nat.eq_zero_or_pos L.length with h0 | h0
      · exact .inl h0
      · obtain ⟨b, off, rfl, hb, _⟩ := hp 0 h0
        refine .inr ⟨b, off, rfl, hb, fun j hj => ?_⟩
        have hj2 : j < L.length := by omega
        obtain ⟨b', off', e, _, hc, _⟩ := hp j hj2
        cases e
        rw [hc, strs_get L j hj2]
    · obtain ⟨j, hj, rfl⟩ := List.getElem_of_mem hs
      obtain ⟨_, _, _, _, _, hl2⟩ := hp j hj
      exact hl2
theorem lfFields : ∃ fs : Array Field, Tryz.prog.underlying 82 = some (.struct fs) ∧ oneCellFields Tryz.prog fs = true ∧ Tryz.prog.cellsOf 82 = fs.size ∧ fs.size = 6 ∧
    (fs[0]?.map (·.type)) = some 9 ∧ (fs[1]?.map (·.type)) = some 60 ∧ (fs[2]?.map (·.type)) = some 5 ∧ (fs[3]?.map (·.type)) = some 9 ∧ (fs[4]?.map (·.type)) = some 66 ∧ (fs[5]?.map (·.type)) = some 23 := ⟨_, Tryz.underlying82, by kernel_rfl, by kernel_rfl, by kernel_rfl, by kernel_rfl, by kernel_rfl, by kernel_rfl, by kernel_rfl, by kernel_rfl, by kernel_rfl⟩
theorem openLf {v : Value} {d : DataW H} {p : List MemPlace}
    (h : DataW.Trod enc Tryz.prog w base spare held 72 v d p) (hv : ∃ a n c, v = .slice a n c) : ∃ L, Lfs w v L := by
  obtain ⟨fs, he, hone, hC, h3, t0, t1, t2, t3, t4, t5⟩ := lfFields
  obtain ⟨fuel, hf⟩ := h
  obtain ⟨a, n, c, rfl⟩ := hv
  rcases rowCells Tryz.underlying72 he hone hC hf with h0 | ⟨a', len, cap, h0, hl, hm, hi⟩
  · simp [Value.cells] at h0
    obtain ⟨rfl, rfl, rfl⟩ := h0
    exact ⟨[], none, 0, rfl, Nat.le_refl _, by decide, fun i h => by simp at h⟩
  · simp [Value.cells] at h0
    obtain ⟨rfl, rfl, rfl⟩ := h0
    rw [h3] at hi
    obtain ⟨f0, hf0, e0⟩ := Option.map_eq_some_iff.1 t0
    obtain ⟨f1, hf1, e1⟩ := Option.map_eq_some_iff.1 t1
    obtain ⟨f2, hf2, e2⟩ := Option.map_eq_some_iff.1 t2
    obtain ⟨f3, hf3, e3⟩ := Option.map_eq_some_iff.1 t3
    obtain ⟨f4, hf4, e4⟩ := Option.map_eq_some_iff.1 t4
    obtain ⟨f5, hf5, e5⟩ := Option.map_eq_some_iff.1 t5
    obtain ⟨L, hL, hp⟩ := listOf (p := fun i (x : LfI) => ∃ b off lv cv, a' = ⟨b, off, none⟩ ∧ LfAt w b (off + i * 6) x lv cv) n fun i hin => by
      obtain ⟨v00, _, _, c00, _⟩ := hi 0 (by omega) 0 f0 hf0
      obtain ⟨b, off, rfl, hb⟩ := addr_of_cell (a := a') (by simpa using c00)
      obtain ⟨v0, y0, n0, c0, d0⟩ := hi i hin 0 f0 hf0
      obtain ⟨v1, y1, n1, c1, d1⟩ := hi i hin 1 f1 hf1
      obtain ⟨v2, y2, n2, c2, d2⟩ := hi i hin 2 f2 hf2
      obtain ⟨v3, y3, n3, c3, d3⟩ := hi i hin 3 f3 hf3
      obtain ⟨v4, y4, n4, c4, d4⟩ := hi i hin 4 f4 hf4
      obtain ⟨v5, y5, n5, c5, d5⟩ := hi i hin 5 f5 hf5
      rw [e0] at d0
      rw [e1] at d1
      rw [e2] at d2
      rw [e3] at d3
      rw [e4] at d4
      rw [e5] at d5
      obtain ⟨s0, hs0, _, ws0⟩ := DataW.trod_string Tryz.underlying9 d0
      obtain ⟨l1, hl1, hl1l⟩ := openSs Tryz.underlying60 Tryz.underlying9 (by kernel_rfl) d1
      obtain ⟨k, hk, _, wk⟩ := DataW.trod_int Tryz.underlying5 d2
      obtain ⟨s3, hs3, _, ws3⟩ := DataW.trod_string Tryz.underlying9 d3
      obtain ⟨q, hq, _, wq⟩ := DataW.trod_int Tryz.underlying66 d4
      obtain ⟨l5, hz, hzl⟩ := openZs Tryz.underlying23 Tryz.underlying3 (by kernel_rfl) d5
      simp only [List.cons.injEq, and_true] at hk hq hs0 hs3
      subst hk hq hs0 hs3
      have bk := ab_u8 wk
      obtain ⟨k, rfl⟩ := Int.eq_ofNat_of_zero_le bk.1
      have bq := abw_u16 wq
      obtain ⟨q, rfl⟩ := Int.eq_ofNat_of_zero_le bq.1
      rw [Addr.add_lit] at c0 c1 c2 c3 c4 c5
      have hl0 : s0.data.toList.length ≤ 9223372036854775807 := by
        unfold maxLen at ws0
        have : s0.data.toList.length = s0.size := by simp
        omega
      have hl3 : s3.data.toList.length ≤ 9223372036854775807 := by
        unfold maxLen at ws3
        have : s3.data.toList.length = s3.size := by simp
        omega
      exact ⟨⟨s0.data.toList, l1, k, s3.data.toList, q, l5⟩, b, off, v1, v5, rfl, hb, by rw [bs_data]; simpa using c0, by rw [Nat.add_assoc]; exact c1, by rw [Nat.add_assoc]; exact c2, by rw [Nat.add_assoc, bs_data]; exact c3, by rw [Nat.add_assoc]; exact c4, by rw [Nat.add_assoc]; exact c5, hl1, hz, hl0, hl1l, (by show k < 256; omega), hl3, (by show q < 65536; omega), hzl⟩
    refine ⟨L, some a', c, by rw [hL], by omega, hm, fun i hil => ?_⟩
    obtain ⟨b, off, lv, cv, ha, r⟩ := hp i hil
    exact ⟨b, off, lv, cv, by rw [ha], r⟩
end
end Go.Proofs.YtddjkbpgaenpgaaGreat

