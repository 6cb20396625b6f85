/- Vectors, a dot that come in by value, opened. Of no function of the program. No condition. -/
import Derived.Test.YtiokabhidjafeaaDoorNames
import Derived.Test.YtiokabhidjafeaaDoorVecA
import Derived.Laws.IdiomArrays
import Derived.Test.YtiokabhidjafeaaDoorSibD
section
namespace Go.Proofs.YtiokabhidjafeaaDoor
open Go.ChangeShapes Go.WideShapes Go.ChangeAt Go.RowKit
section
variable {H : Type} {enc : TypeId × Value → H} {P : Program} {w : World} {base : Nat} {spare : Nat → Bool} {held : Bool}
theorem vec_of_trod {t e : TypeId} {fuel : Nat} {l : List Value} {y : DataW H × List MemPlace} (ht : P.underlying t = some (.array 8 e)) (he : P.underlying e = some (.int .u32)) (hce : P.cellsOf e = 1) (hl8 : l.length = 8)
    (h : DataW.trod enc P w base spare held fuel t l = some y) : ∃ f : Nat → Nat, l = (vv f).toList ∧ Fit8 f := by
  obtain ⟨xs, m, _, _, hl, hxl, hx⟩ := DataW.trod_array ht h
  have each : ∀ i, i < 8 → ∃ n : Nat, l[i]? = some (.int .u32 n) ∧ n < 4294967296 := fun i hi => by
    have h := hx i hi
    have hil : i < l.length := by omega
    rw [hce, Nat.mul_one, List.drop_eq_getElem_cons hil, List.take_succ_cons, List.take_zero, List.getElem?_eq_getElem (by omega)] at h
    obtain ⟨n, e0, _, w0⟩ := DataW.trod_int he h
    simp only [List.cons.injEq, and_true] at e0
    have b := bounds_u32 w0
    obtain ⟨n, rfl⟩ := Int.eq_ofNat_of_zero_le b.1
    exact ⟨n, by rw [List.getElem?_eq_getElem hil, e0], by omega⟩
  have hch : ∃ f : Nat → Nat, ∀ i, i < 8 → l[i]? = some (.int .u32 (f i)) ∧ f i < 4294967296 := by
    refine ⟨fun i => if h : i < 8 then Classical.choose (each i h) else 0, fun i hi => ?_⟩
    simp only [dif_pos hi]
    exact Classical.choose_spec (each i hi)
  obtain ⟨f, hf'⟩ := hch
  refine ⟨f, ?_, fun i hi => (hf' i hi).2⟩
  apply List.ext_getElem?
  intro i
  by_cases hi : i < 8
  · rw [(hf' i hi).1, Array.getElem?_toList, vv_get f i hi]
  · rw [List.getElem?_eq_none (by omega), List.getElem?_eq_none (by simp; omega)]
end
end Go.Proofs.YtiokabhidjafeaaDoor
end
section
namespace Go.Proofs.YtiokabhidjafeaaDoor
open Go.ChangeShapes Go.WideShapes Go.ChangeAt Go.RowKit Go.Deep
section
variable {H : Type} {enc : TypeId × Value → H} {P : Program} {w : World} {base : Nat} {spare : Nat → Bool} {held : Bool}
theorem okWide_structV {r : Reach} {b0 : Nat} {t : TypeId} {fs : Array Field} {v : Value} (ht : P.underlying t = some (.struct fs)) (h : Value.okWide P w r b0 t v) : ∃ cs : Array Value, v = .agg cs ∧ cs.size = P.cellsOf t := by
  simp only [Value.okWide, ht] at h
  obtain ⟨cs, h1, h2, _⟩ := h
  exact ⟨cs, h1, h2⟩
/-- A slice of elements that came in. -/
theorem openFlat {α : Type} (en : α → List Value) {c : Nat} (hc0 : 0 < c) (hlen : ∀ x, (en x).length = c) {t e : TypeId} {fuel : Nat} {cv : Value} {y : DataW H × List MemPlace} (ht : P.underlying t = some (.slice e)) (hC : P.cellsOf e = c)
    (hx : ∀ (m : Nat) (row : List Value) (y : DataW H × List MemPlace), row.length = c → DataW.trod enc P w base spare held m e row = some y → ∃ x, row = en x)
    (h : DataW.trod enc P w base spare held fuel t [cv] = some y) : ∃ l : List α, Sl w c cv l.length (flat en l) := by
  rcases open_slice ht h with ⟨h0, _⟩ | ⟨a', len, cap, m, n', D, Pl, hcs, _, hl, hm, hmm, _, hi⟩
  · simp only [List.cons.injEq, and_true] at h0
    subst h0
    exact ⟨[], Sl.nil_ w c none 0 (by decide)⟩
  · simp only [List.cons.injEq, and_true] at hcs
    subst hcs
    have hadd : ∀ (b o j : Nat), (⟨b, o, none⟩ : Addr).add j = ⟨b, o + j, none⟩ := fun b o j => by unfold Addr.add; split <;> simp_all
    obtain ⟨L, hL, hp⟩ := listOf (p := fun i (x : α) => ∃ b off, a' = ⟨b, off, none⟩ ∧ b < w.heap.size ∧ ∀ j, j < c → w.cell? ⟨b, off + (i * c + j), none⟩ = (en x)[j]?) len fun i hin => by
      have h00 : 0 < m := by rw [hmm]; split <;> omega
      obtain ⟨row0, hrow0, htrod0⟩ := hi 0 h00
      obtain ⟨_, hlen0, hcell0⟩ := World.cells?_some hrow0
      have hc0' := hcell0 0 (by rw [hC]; omega)
      obtain ⟨x0, e00⟩ := hx _ row0 _ (by rw [hlen0, hC]) htrod0
      have him : i < m := by rw [hmm]; split <;> omega
      obtain ⟨row, hrow, htrod⟩ := hi i him
      obtain ⟨_, hlen1, hcell⟩ := World.cells?_some hrow
      obtain ⟨x, e0⟩ := hx _ row _ (by rw [hlen1, hC]) htrod
      have hr0 : row0[0]? = some (row0[0]'(by rw [hlen0, hC]; exact hc0)) := List.getElem?_eq_getElem _
      rw [hr0] at hc0'
      obtain ⟨b, off, rfl, hb⟩ := addr_of_cell (a := a') (by simpa [Addr.add] using hc0')
      refine ⟨x, b, off, rfl, hb, fun j hj => ?_⟩
      have h1 := hcell j (by rw [hC]; exact hj)
      rw [hadd, hadd, hC, e0, Nat.add_assoc] at h1
      exact h1
    subst hL
    refine ⟨L, ⟨flat_len en hlen L, some a', cap, rfl, hl, hm, ?_⟩⟩
    rcases Nat.eq_zero_or_pos L.length with h0 | h0
    · exact .inl h0
    · obtain ⟨b, off, rfl, hb, _⟩ := hp 0 h0
      refine .inr ⟨b, off, rfl, hb, fun j hj => ?_⟩
      have hq : j / c < L.length := Nat.div_lt_of_lt_mul (by rw [Nat.mul_comm]; exact hj)
      obtain ⟨b', off', e, _, hcj⟩ := hp (j / c) hq
      cases e
      have hm := hcj (j % c) (Nat.mod_lt _ hc0)
      have hdm : j / c * c + j % c = j := by rw [Nat.mul_comm]; exact Nat.div_add_mod j c
      rw [← flat_at en hlen L (j / c) hq (j % c) (Nat.mod_lt _ hc0), hdm] at hm
      exact hm
/-- A dot's cells. -/
theorem dot_of_trod {t : TypeId} {f0 f1 : Field} {fuel : Nat} {l : List Value} {y : DataW H × List MemPlace} (ht : P.underlying t = some (.struct #[f0, f1])) (o0 : f0.offset = 0) (o1 : f1.offset = 1)
    (k0 : P.underlying f0.type = some (.int .u8)) (k1 : P.underlying f1.type = some (.int .u32)) (s0 : P.cellsOf f0.type = 1) (s1 : P.cellsOf f1.type = 1) (hl : l.length = 2)
    (h : DataW.trod enc P w base spare held fuel t l = some y) : ∃ x : DotI, l = dotc x := by
  match l, hl with
  | [c0, c1], _ =>
    obtain ⟨ys, n', _, _, hlen, hyl, hx⟩ := DataW.trod_struct ht h
    have h0 := hx 0 f0 rfl
    have h1 := hx 1 f1 rfl
    simp only [o0, o1, s0, s1, List.drop_zero, List.drop_succ_cons, List.take_succ_cons, List.take_zero] at h0 h1
    have hyl' : ys.length = 2 := hyl
    rw [List.getElem?_eq_getElem (by omega)] at h0 h1
    obtain ⟨r, e0, _, w0⟩ := DataW.trod_int k0 h0
    obtain ⟨n, e1, _, w1⟩ := DataW.trod_int k1 h1
    simp only [List.cons.injEq, and_true] at e0 e1
    have b0 := bounds_u8 w0
    have b1 := bounds_u32 w1
    obtain ⟨r, rfl⟩ := Int.eq_ofNat_of_zero_le b0.1
    obtain ⟨n, rfl⟩ := Int.eq_ofNat_of_zero_le b1.1
    exact ⟨⟨r, n, by omega, by omega⟩, by rw [e0, e1]; rfl⟩
/-- A sibling's cells. -/
theorem sib_of_trod {t td : TypeId} {g0 g1 f0 f1 : Field} {fuel : Nat} {l : List Value} {y : DataW H × List MemPlace} (ht : P.underlying t = some (.struct #[g0, g1])) (p0 : g0.offset = 0) (p1 : g1.offset = 2) (hd0 : g0.type = td) (hd1 : P.underlying g1.type = some .string) (q0 : P.cellsOf td = 2) (q1 : P.cellsOf g1.type = 1)
    (htd : P.underlying td = some (.struct #[f0, f1])) (o0 : f0.offset = 0) (o1 : f1.offset = 1) (k0 : P.underlying f0.type = some (.int .u8)) (k1 : P.underlying f1.type = some (.int .u32)) (s0 : P.cellsOf f0.type = 1) (s1 : P.cellsOf f1.type = 1) (hl : l.length = 3)
    (h : DataW.trod enc P w base spare held fuel t l = some y) : ∃ x : SibI, l = sibc x := by
  match l, hl with
  | [c0, c1, c2], _ =>
    obtain ⟨ys, n', _, _, hlen, hyl, hx⟩ := DataW.trod_struct ht h
    have h0 := hx 0 g0 rfl
    have h1 := hx 1 g1 rfl
    rw [hd0] at h0
    simp only [p0, p1, q0, q1, List.drop_zero, List.drop_succ_cons, List.take_succ_cons, List.take_zero] at h0 h1
    have hyl' : ys.length = 2 := hyl
    rw [List.getElem?_eq_getElem (by omega)] at h0 h1
    obtain ⟨d, e0⟩ := dot_of_trod htd o0 o1 k0 k1 s0 s1 rfl h0
    obtain ⟨s, e1, _, w1⟩ := DataW.trod_string hd1 h1
    simp only [List.cons.injEq, and_true, dotc] at e0 e1
    obtain ⟨rfl, rfl⟩ := e0
    subst e1
    have hs : s.data.toList.length ≤ 9223372036854775807 := by
      unfold maxLen at w1
      have : s.data.toList.length = s.size := by simp
      omega
    exact ⟨⟨d.r, d.n, s.data.toList, d.hr, d.hn, hs⟩, by unfold sibc; rw [bs_data]⟩
end
section
variable {H : Type} {enc : TypeId × Value → H} {w : World} {base : Nat} {spare : Nat → Bool} {held : Bool}
set_option maxRecDepth 100000 in
theorem sib_cells (m : Nat) (row : List Value) (y : DataW H × List MemPlace) (hl : row.length = 3) (h : DataW.trod enc Tryd.prog w base spare held m 63 row = some y) : ∃ x : SibI, row = sibc x :=
  sib_of_trod Tryd.underlying63 rfl rfl rfl Tryd.underlying9 (by kernel_rfl) (by kernel_rfl) Tryd.underlying61 rfl rfl Tryd.underlying5 Tryd.underlying22 (by kernel_rfl) (by kernel_rfl) hl h
theorem regFields : ∃ g0 g1 : Field, Tryd.prog.underlying 27 = some (.struct #[g0, g1]) ∧ g0.offset = 0 ∧ g1.offset = 8 ∧ g0.type = 24 ∧ g1.type = 25 := ⟨_, _, Tryd.underlying27, rfl, rfl, rfl, rfl⟩
/-- A register's cells. -/
theorem reg_of_trod {fuel : Nat} {l : List Value} {y : DataW H × List MemPlace} (hl : l.length = 9) (hf : DataW.trod enc Tryd.prog w base spare held fuel 27 l = some y) :
    ∃ (f : Nat → Nat) (c : Value) (L : List SibI), l = (rgc f c).toList ∧ Fit8 f ∧ SL w c L := by
  obtain ⟨g0, g1, ht, o0, o1, t0, t1⟩ := regFields
  match l, hl with
  | [c0, c1, c2, c3, c4, c5, c6, c7, c8], _ =>
    obtain ⟨ys, n', _, _, hlen, hyl, hx⟩ := DataW.trod_struct ht hf
    have h0 := hx 0 g0 rfl
    have h1 := hx 1 g1 rfl
    have hyl' : ys.length = 2 := hyl
    rw [List.getElem?_eq_getElem (by omega)] at h0 h1
    rw [t0, show Tryd.prog.cellsOf 24 = 8 from by kernel_rfl, o0] at h0
    rw [t1, show Tryd.prog.cellsOf 25 = 1 from by kernel_rfl, o1] at h1
    simp only [List.drop_zero, List.drop_succ_cons, List.take_succ_cons, List.take_zero] at h0 h1
    obtain ⟨f, e0, hfit⟩ := vec_of_trod Tryd.underlying24 Tryd.underlying22 (by kernel_rfl) rfl h0
    obtain ⟨L, hL⟩ := openFlat sibc (by decide) sibc_len Tryd.underlying25 (by kernel_rfl) sib_cells h1
    simp only [List.cons.injEq, and_true] at e0
    obtain ⟨rfl, rfl, rfl, rfl, rfl, rfl, rfl, rfl⟩ := e0
    exact ⟨f, c8, L, rfl, hfit, hL⟩
set_option maxRecDepth 100000 in
theorem open_reg {v : Value} {d : DataW H} {p : List MemPlace} {r : Reach} {b0 : Nat} (hv : Value.okWide Tryd.prog w r b0 27 v) (h : DataW.Trod enc Tryd.prog w base spare held 27 v d p) :
    ∃ (f : Nat → Nat) (c : Value) (l : List SibI), v = rg f c ∧ Fit8 f ∧ SL w c l := by
  obtain ⟨cs, rfl, hs⟩ := okWide_structV Tryd.underlying27 hv
  rw [show Tryd.prog.cellsOf 27 = 9 from by kernel_rfl] at hs
  obtain ⟨fuel, hf⟩ := h
  obtain ⟨f, c, L, e, h1, h2⟩ := reg_of_trod (by simpa [Value.cells] using hs) hf
  exact ⟨f, c, L, by rw [show cs = rgc f c from Array.ext' (by simpa [Value.cells] using e)], h1, h2⟩
end
end Go.Proofs.YtiokabhidjafeaaDoor
end
