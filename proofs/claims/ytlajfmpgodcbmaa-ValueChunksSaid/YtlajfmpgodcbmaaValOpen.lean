/- Values, two values, a content that come in: what they are. Of no function of the program. No condition. -/
import Derived.Test.YtlajfmpgodcbmaaLaw
import Derived.Test.YtlajfmpgodcbmaaStrs
import Derived.Test.YtlajfmpgodcbmaaValA
import Derived.Laws.IdiomArrays
namespace Go.Proofs.Ytlajfmpgodcbmaa
open Go.ChangeShapes Go.WideShapes Go.ChangeAt Go.RowKit Go.Deep
section
variable {H : Type} {enc : TypeId × Value → H} {P : Program} {w : World} {base : Nat} {spare : Nat → Bool} {held : Bool}
theorem okWide_structV {r : Reach} {b0 : Nat} {t : TypeId} {fs : Array Field} {v : Value} (ht : P.underlying t = some (.struct fs)) (h : Value.okWide P w r b0 t v) : ∃ cs : Array Value, v = .agg cs ∧ cs.size = P.cellsOf t := by
  simp only [Value.okWide, ht] at h
  obtain ⟨cs, h1, h2, _⟩ := h
  exact ⟨cs, h1, h2⟩
theorem okWide_arrV {r : Reach} {b0 n : Nat} {t e : TypeId} {v : Value} (ht : P.underlying t = some (.array n e)) (h : Value.okWide P w r b0 t v) : ∃ cs : Array Value, v = .agg cs ∧ cs.size = P.cellsOf t := by
  simp only [Value.okWide, ht] at h
  obtain ⟨cs, h1, h2, _⟩ := h
  exact ⟨cs, h1, h2⟩
/-- A slice of ids that came in. -/
theorem openIds {t e : TypeId} {fuel : Nat} {c : Value} {y : DataW H × List MemPlace} (ht : P.underlying t = some (.slice e)) (he : P.underlying e = some (.int .u32)) (hC : P.cellsOf e = 1)
    (h : DataW.trod enc P w base spare held fuel t [c] = some y) : ∃ l, Ids w c l ∧ ∀ x ∈ l, x < 4294967296 := by
  rcases open_slice ht h with ⟨h0, _⟩ | ⟨a', len, cap, m, n', D, Pl, hcs, _, hl, hm, hmm, _, hi⟩
  · simp only [List.cons.injEq, and_true] at h0
    subst h0
    exact ⟨[], Sl.nil_ w 1 none 0 (by decide), by simp⟩
  · simp only [List.cons.injEq, and_true] at hcs
    subst hcs
    obtain ⟨L, hL, hp⟩ := listOf (p := fun i (x : Nat) => ∃ b off, a' = ⟨b, off, none⟩ ∧ b < w.heap.size ∧ w.cell? ⟨b, off + i, none⟩ = some (.int .u32 x) ∧ x < 4294967296) len fun i hin => by
      have h00 : 0 < m := by rw [hmm]; split <;> omega
      obtain ⟨row0, hrow0, htrod0⟩ := hi 0 h00
      obtain ⟨_, _, hcell0⟩ := World.cells?_some hrow0
      have hc0 := hcell0 0 (by rw [hC]; omega)
      have him : i < m := by rw [hmm]; split <;> omega
      obtain ⟨row, hrow, htrod⟩ := hi i him
      obtain ⟨_, hlen, hcell⟩ := World.cells?_some hrow
      have hc := hcell 0 (by rw [hC]; omega)
      obtain ⟨x, e0, _, ws⟩ := DataW.trod_int he htrod
      obtain ⟨x0, e00, _, _⟩ := DataW.trod_int he htrod0
      rw [e00] at hc0
      obtain ⟨b, off, rfl, hb⟩ := addr_of_cell (a := a') (by simpa [Addr.add] using hc0)
      rw [e0, hC] at hc
      have hadd : ∀ (o j : Nat), (⟨b, o, none⟩ : Addr).add j = ⟨b, o + j, none⟩ := fun o j => by unfold Addr.add; split <;> simp_all
      rw [hadd, hadd, Nat.mul_one, Nat.add_zero] at hc
      have bd := bounds_u32 ws
      obtain ⟨x, rfl⟩ := Int.eq_ofNat_of_zero_le bd.1
      exact ⟨x, b, off, rfl, hb, by rw [hc]; rfl, by omega⟩
    subst hL
    refine ⟨L, ⟨by simp [u32s], some a', cap, rfl, hl, hm, ?_⟩, fun x hx => ?_⟩
    · rcases Nat.eq_zero_or_pos L.length with h0 | h0
      · exact .inl h0
      · obtain ⟨b, off, rfl, hb, _⟩ := hp 0 h0
        refine .inr ⟨b, off, rfl, hb, fun j hj => ?_⟩
        have hj2 : j < L.length := by omega
        obtain ⟨b', off', e, _, hc, _⟩ := hp j hj2
        cases e
        rw [hc, u32s_get L j hj2]
    · obtain ⟨j, hj, rfl⟩ := List.getElem_of_mem hx
      obtain ⟨_, _, _, _, _, hl2⟩ := hp j hj
      exact hl2
/-- A value's cells. -/
theorem three_val {t e : TypeId} {f0 f1 f2 : Field} {fuel : Nat} {c0 c1 c2 : Value} {y : DataW H × List MemPlace} (ht : P.underlying t = some (.struct #[f0, f1, f2])) (o0 : f0.offset = 0) (o1 : f1.offset = 1) (o2 : f2.offset = 2)
    (k0 : P.underlying f0.type = some .bool) (k1 : P.underlying f1.type = some (.int .i64)) (k2 : P.underlying f2.type = some (.slice e)) (he : P.underlying e = some (.int .u32)) (hC : P.cellsOf e = 1) (s0 : P.cellsOf f0.type = 1) (s1 : P.cellsOf f1.type = 1) (s2 : P.cellsOf f2.type = 1)
    (h : DataW.trod enc P w base spare held fuel t [c0, c1, c2] = some y) : ∃ (d : Bool) (s : Int) (l : List Nat), c0 = .bool d ∧ c1 = .int .i64 s ∧ I64 s ∧ Ids w c2 l ∧ ∀ x ∈ l, x < 4294967296 := by
  obtain ⟨ys, n', _, _, hlen, hyl, hx⟩ := DataW.trod_struct ht h
  have h0 := hx 0 f0 rfl
  have h1 := hx 1 f1 rfl
  have h2 := hx 2 f2 rfl
  simp only [o0, o1, o2, s0, s1, s2, List.drop_zero, List.drop_succ_cons, List.take_succ_cons, List.take_zero] at h0 h1 h2
  have hyl' : ys.length = 3 := hyl
  rw [List.getElem?_eq_getElem (by omega)] at h0 h1 h2
  obtain ⟨d, e0, _⟩ := DataW.trod_bool k0 h0
  obtain ⟨n, e1, _, w1⟩ := DataW.trod_int k1 h1
  obtain ⟨l, hl, hf⟩ := openIds k2 he hC h2
  simp only [List.cons.injEq, and_true] at e0 e1
  exact ⟨d, n, l, e0, e1, bounds_i64 w1, hl, hf⟩
theorem open_val {t e : TypeId} {f0 f1 f2 : Field} {v : Value} {d : DataW H} {p : List MemPlace} {r : Reach} {b0 : Nat} (ht : P.underlying t = some (.struct #[f0, f1, f2])) (o0 : f0.offset = 0) (o1 : f1.offset = 1) (o2 : f2.offset = 2)
    (k0 : P.underlying f0.type = some .bool) (k1 : P.underlying f1.type = some (.int .i64)) (k2 : P.underlying f2.type = some (.slice e)) (he : P.underlying e = some (.int .u32)) (hC : P.cellsOf e = 1) (s0 : P.cellsOf f0.type = 1) (s1 : P.cellsOf f1.type = 1) (s2 : P.cellsOf f2.type = 1) (hct : P.cellsOf t = 3)
    (hv : Value.okWide P w r b0 t v) (hd : DataW.Trod enc P w base spare held t v d p) : ∃ (b : Bool) (s : Int) (c : Value) (l : List Nat), v = .agg (av b s c) ∧ I64 s ∧ Ids w c l ∧ ∀ x ∈ l, x < 4294967296 := by
  obtain ⟨cs, rfl, hs⟩ := okWide_structV ht hv
  rw [hct] at hs
  obtain ⟨l⟩ := cs
  match l, hs with
  | [c0, c1, c2], _ =>
    obtain ⟨fuel, hf⟩ := hd
    obtain ⟨b, s, l, rfl, rfl, h1, h2, h3⟩ := three_val ht o0 o1 o2 k0 k1 k2 he hC s0 s1 s2 hf
    exact ⟨b, s, c2, l, rfl, h1, h2, h3⟩
theorem open_vals {t u e : TypeId} {f0 f1 f2 : Field} {v : Value} {d : DataW H} {p : List MemPlace} {r : Reach} {b0 : Nat} (hu : P.underlying u = some (.array 2 t)) (ht : P.underlying t = some (.struct #[f0, f1, f2])) (o0 : f0.offset = 0) (o1 : f1.offset = 1) (o2 : f2.offset = 2)
    (k0 : P.underlying f0.type = some .bool) (k1 : P.underlying f1.type = some (.int .i64)) (k2 : P.underlying f2.type = some (.slice e)) (he : P.underlying e = some (.int .u32)) (hC : P.cellsOf e = 1) (s0 : P.cellsOf f0.type = 1) (s1 : P.cellsOf f1.type = 1) (s2 : P.cellsOf f2.type = 1) (hct : P.cellsOf t = 3) (hcu : P.cellsOf u = 6)
    (hv : Value.okWide P w r b0 u v) (hd : DataW.Trod enc P w base spare held u v d p) :
    ∃ (b : Bool) (s : Int) (c : Value) (l : List Nat) (b' : Bool) (s' : Int) (c' : Value) (l' : List Nat), v = .agg #[.bool b, .int .i64 s, c, .bool b', .int .i64 s', c'] ∧ (I64 s ∧ Ids w c l ∧ ∀ x ∈ l, x < 4294967296) ∧ (I64 s' ∧ Ids w c' l' ∧ ∀ x ∈ l', x < 4294967296) := by
  obtain ⟨cs, rfl, hs⟩ := okWide_arrV hu hv
  rw [hcu] at hs
  obtain ⟨l⟩ := cs
  match l, hs with
  | [c0, c1, c2, c3, c4, c5], _ =>
    obtain ⟨fuel, hf⟩ := hd
    obtain ⟨xs, m1, _, _, _, hn, hel⟩ := DataW.trod_array hu hf
    have h0 := hel 0 (by decide)
    have h1 := hel 1 (by decide)
    rw [hct] at h0 h1
    match xs, hn with
    | [y0, y1], _ =>
      obtain ⟨b, s, l, rfl, rfl, a1, a2, a3⟩ := three_val ht o0 o1 o2 k0 k1 k2 he hC s0 s1 s2 (show DataW.trod enc P w base spare held m1 t [c0, c1, c2] = some y0 from h0)
      obtain ⟨b', s', l', rfl, rfl, a4, a5, a6⟩ := three_val ht o0 o1 o2 k0 k1 k2 he hC s0 s1 s2 (show DataW.trod enc P w base spare held m1 t [c3, c4, c5] = some y1 from h1)
      exact ⟨b, s, c2, l, b', s', c5, l', rfl, ⟨a1, a2, a3⟩, ⟨a4, a5, a6⟩⟩
theorem open_content {t : TypeId} {f0 f1 : Field} {v : Value} {d : DataW H} {p : List MemPlace} {r : Reach} {b0 : Nat} (ht : P.underlying t = some (.struct #[f0, f1])) (o0 : f0.offset = 0) (o1 : f1.offset = 1)
    (k0 : P.underlying f0.type = some .bool) (k1 : P.underlying f1.type = some .string) (s0 : P.cellsOf f0.type = 1) (s1 : P.cellsOf f1.type = 1) (hct : P.cellsOf t = 2)
    (hv : Value.okWide P w r b0 t v) (hd : DataW.Trod enc P w base spare held t v d p) : ∃ (b : Bool) (s : List UInt8), v = .agg #[.bool b, .string (bs s)] ∧ s.length ≤ 9223372036854775807 := by
  obtain ⟨cs, rfl, hs⟩ := okWide_structV ht hv
  rw [hct] at hs
  obtain ⟨l⟩ := cs
  match l, hs with
  | [c0, c1], _ =>
    obtain ⟨fuel, hf⟩ := hd
    obtain ⟨ys, n', _, _, hlen, hyl, hx⟩ := DataW.trod_struct ht hf
    have h0 := hx 0 f0 rfl
    have h1 := hx 1 f1 rfl
    simp only [Value.cells, o0, o1, s0, s1, List.drop_zero, List.drop_succ_cons, List.take_succ_cons, List.take_zero] at h0 h1
    have hyl' : ys.length = 2 := hyl
    rw [List.getElem?_eq_getElem (by omega)] at h0 h1
    obtain ⟨b, e0, _⟩ := DataW.trod_bool k0 h0
    obtain ⟨s, e1, _, w1⟩ := DataW.trod_string k1 h1
    simp only [List.cons.injEq, and_true] at e0 e1
    refine ⟨b, s.data.toList, by rw [e0, e1, bs_data], ?_⟩
    unfold maxLen at w1
    have : s.data.toList.length = s.size := by simp
    omega
end
end Go.Proofs.Ytlajfmpgodcbmaa
