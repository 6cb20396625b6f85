/- The laws' acts, and ints, opened out of the argument. No condition. -/
import Derived.Test.YtdhnidmeeocajaaGreatStrs
import Derived.Test.YtdhnidmeeocajaaGreatDvAct
import Derived.Test.YtdhnidmeeocajaaGreatRgPo
import Derived.Test.YtdhnidmeeocajaaGreatRows
import Derived.WalkKit
import Derived.ProofKit
import Derived.OpenShut
import Derived.ChangeSame
section
namespace Go.Proofs.YtdhnidmeeocajaaGreat
open Go.ChangeShapes Go.WideShapes Go.ChangeAt Go.RowKit Go.Deep
theorem ab_u8 {n : Int} (h : (Lit.int .u8 n).wf = true) : 0 ≤ n ∧ n ≤ 255 := by
  have h1 : IntKind.u8.min = 0 := by decide
  have h2 : IntKind.u8.max = 255 := by decide
  simp [Lit.wf, h1, h2] at h
  exact h
theorem ab_i64 {n : Int} (h : (Lit.int .i64 n).wf = true) : Z64 n := by
  have h1 : IntKind.i64.min = -9223372036854775808 := by decide
  have h2 : IntKind.i64.max = 9223372036854775807 := by decide
  simp [Lit.wf, h1, h2] at h
  exact h
section
variable {H : Type} {enc : TypeId × Value → H} {w : World} {base : Nat} {spare : Nat → Bool} {held : Bool}
/-- A slice of ints that came in. -/
theorem openZs {P : Program} {t e : TypeId} {fuel : Nat} {c : Value} {y : DataW H × List MemPlace} (ht : P.underlying t = some (.slice e)) (he : P.underlying e = some (.int .i64)) (hC : P.cellsOf e = 1)
    (h : DataW.trod enc P w base spare held fuel t [c] = some y) : ∃ l, Zs w c l ∧ ∀ z ∈ l, Z64 z := by
  rcases open_slice ht h with ⟨h0, _⟩ | ⟨a', len, cap, m, n', D, Pl, hcs, _, hl, hm, hmm, _, hi⟩
  · simp only [List.cons.injEq, and_true] at h0
    subst h0
    exact ⟨[], Sl.nil_ w 1 none 0 (by decide), by simp⟩
  · simp only [List.cons.injEq, and_true] at hcs
    subst hcs
    obtain ⟨L, hL, hp⟩ := listOf (p := fun i (x : Int) => ∃ b off, a' = ⟨b, off, none⟩ ∧ b < w.heap.size ∧ w.cell? ⟨b, off + i, none⟩ = some (.int .i64 x) ∧ Z64 x) len fun i hin => by
      have h00 : 0 < m := by rw [hmm]; split <;> omega
      obtain ⟨row0, hrow0, htrod0⟩ := hi 0 h00
      obtain ⟨_, _, hcell0⟩ := World.cells?_some hrow0
      have hc0 := hcell0 0 (by rw [hC]; omega)
      have him : i < m := by rw [hmm]; split <;> omega
      obtain ⟨row, hrow, htrod⟩ := hi i him
      obtain ⟨_, hlen, hcell⟩ := World.cells?_some hrow
      have hc := hcell 0 (by rw [hC]; omega)
      obtain ⟨x, e0, _, ws⟩ := DataW.trod_int he htrod
      obtain ⟨x0, e00, _, _⟩ := DataW.trod_int he htrod0
      rw [e00] at hc0
      obtain ⟨b, off, rfl, hb⟩ := addr_of_cell (a := a') (by simpa [Addr.add] using hc0)
      rw [e0, hC] at hc
      have hadd : ∀ (o j : Nat), (⟨b, o, none⟩ : Addr).add j = ⟨b, o + j, none⟩ := fun o j => by unfold Addr.add; split <;> simp_all
      rw [hadd, hadd, Nat.mul_one, Nat.add_zero] at hc
      exact ⟨x, b, off, rfl, hb, by rw [hc]; rfl, ab_i64 ws⟩
    subst hL
    refine ⟨L, ⟨by simp [zcs], some a', cap, rfl, hl, hm, ?_⟩, fun x hx => ?_⟩
    · rcases Nat.eq_zero_or_pos L.length with h0 | h0
      · exact .inl h0
      · obtain ⟨b, off, rfl, hb, _⟩ := hp 0 h0
        refine .inr ⟨b, off, rfl, hb, fun j hj => ?_⟩
        have hj2 : j < L.length := by omega
        obtain ⟨b', off', e, _, hc, _⟩ := hp j hj2
        cases e
        rw [hc, zcs_get L j hj2]
    · obtain ⟨j, hj, rfl⟩ := List.getElem_of_mem hx
      obtain ⟨_, _, _, _, _, hl2⟩ := hp j hj
      exact hl2
end
end Go.Proofs.YtdhnidmeeocajaaGreat
end
section
namespace Go.Proofs.YtdhnidmeeocajaaGreat
open Go.ChangeShapes Go.WideShapes Go.ChangeAt Go.RowKit Go.Deep
section
variable {H : Type} {enc : TypeId × Value → H} {P : Program} {w : World} {base : Nat} {spare : Nat → Bool} {held : Bool}
/-- A slice of elements that came in. -/
theorem openFlat {α : Type} (en : α → List Value) {c : Nat} (hc0 : 0 < c) (hlen : ∀ x, (en x).length = c) {t e : TypeId} {fuel : Nat} {cv : Value} {y : DataW H × List MemPlace} (ht : P.underlying t = some (.slice e)) (hC : P.cellsOf e = c)
    (hx : ∀ (m : Nat) (row : List Value) (y : DataW H × List MemPlace), row.length = c → DataW.trod enc P w base spare held m e row = some y → ∃ x, row = en x)
    (h : DataW.trod enc P w base spare held fuel t [cv] = some y) : ∃ l : List α, Sl w c cv l.length (flat en l) := by
  rcases open_slice ht h with ⟨h0, _⟩ | ⟨a', len, cap, m, n', D, Pl, hcs, _, hl, hm, hmm, _, hi⟩
  · simp only [List.cons.injEq, and_true] at h0
    subst h0
    exact ⟨[], Sl.nil_ w c none 0 (by decide)⟩
  · simp only [List.cons.injEq, and_true] at hcs
    subst hcs
    have hadd : ∀ (b o j : Nat), (⟨b, o, none⟩ : Addr).add j = ⟨b, o + j, none⟩ := fun b o j => by unfold Addr.add; split <;> simp_all
    obtain ⟨L, hL, hp⟩ := listOf (p := fun i (x : α) => ∃ b off, a' = ⟨b, off, none⟩ ∧ b < w.heap.size ∧ ∀ j, j < c → w.cell? ⟨b, off + (i * c + j), none⟩ = (en x)[j]?) len fun i hin => by
      have h00 : 0 < m := by rw [hmm]; split <;> omega
      obtain ⟨row0, hrow0, htrod0⟩ := hi 0 h00
      obtain ⟨_, hlen0, hcell0⟩ := World.cells?_some hrow0
      have hc0' := hcell0 0 (by rw [hC]; omega)
      obtain ⟨x0, e00⟩ := hx _ row0 _ (by rw [hlen0, hC]) htrod0
      have him : i < m := by rw [hmm]; split <;> omega
      obtain ⟨row, hrow, htrod⟩ := hi i him
      obtain ⟨_, hlen1, hcell⟩ := World.cells?_some hrow
      obtain ⟨x, e0⟩ := hx _ row _ (by rw [hlen1, hC]) htrod
      have hr0 : row0[0]? = some (row0[0]'(by rw [hlen0, hC]; exact hc0)) := List.getElem?_eq_getElem _
      rw [hr0] at hc0'
      obtain ⟨b, off, rfl, hb⟩ := addr_of_cell (a := a') (by simpa [Addr.add] using hc0')
      refine ⟨x, b, off, rfl, hb, fun j hj => ?_⟩
      have h1 := hcell j (by rw [hC]; exact hj)
      rw [hadd, hadd, hC, e0, Nat.add_assoc] at h1
      exact h1
    subst hL
    refine ⟨L, ⟨flat_len en hlen L, some a', cap, rfl, hl, hm, ?_⟩⟩
    rcases Nat.eq_zero_or_pos L.length with h0 | h0
    · exact .inl h0
    · obtain ⟨b, off, rfl, hb, _⟩ := hp 0 h0
      refine .inr ⟨b, off, rfl, hb, fun j hj => ?_⟩
      have hq : j / c < L.length := Nat.div_lt_of_lt_mul (by rw [Nat.mul_comm]; exact hj)
      obtain ⟨b', off', e, _, hcj⟩ := hp (j / c) hq
      cases e
      have hm := hcj (j % c) (Nat.mod_lt _ hc0)
      have hdm : j / c * c + j % c = j := by rw [Nat.mul_comm]; exact Nat.div_add_mod j c
      rw [← flat_at en hlen L (j / c) hq (j % c) (Nat.mod_lt _ hc0), hdm] at hm
      exact hm
end
end Go.Proofs.YtdhnidmeeocajaaGreat
end
section
namespace Go.Proofs.YtdhnidmeeocajaaGreat
open Go.ChangeShapes Go.WideShapes Go.ChangeAt Go.RowKit Go.Deep
section
variable {H : Type} {enc : TypeId × Value → H} {w : World} {base : Nat} {spare : Nat → Bool} {held : Bool}
theorem ab_u32 {n : Int} (h : (Lit.int .u32 n).wf = true) : 0 ≤ n ∧ n ≤ 4294967295 := by
  have h1 : IntKind.u32.min = 0 := by decide
  have h2 : IntKind.u32.max = 4294967295 := by decide
  simp [Lit.wf, h1, h2] at h
  exact h
theorem a5_of_trod {P : Program} {t : TypeId} {f0 f1 f2 f3 f4 : Field} {fuel : Nat} {l : List Value} {y : DataW H × List MemPlace} (ht : P.underlying t = some (.struct #[f0, f1, f2, f3, f4])) (o0 : f0.offset = 0) (o1 : f1.offset = 1) (o2 : f2.offset = 2) (o3 : f3.offset = 3) (o4 : f4.offset = 4)
    (k0 : P.underlying f0.type = some (.int .u8)) (k1 : P.underlying f1.type = some .string) (k2 : P.underlying f2.type = some (.int .u32)) (k3 : P.underlying f3.type = some (.int .i64)) (k4 : P.underlying f4.type = some (.int .i64)) (s0 : P.cellsOf f0.type = 1) (s1 : P.cellsOf f1.type = 1) (s2 : P.cellsOf f2.type = 1) (s3 : P.cellsOf f3.type = 1) (s4 : P.cellsOf f4.type = 1) (hl : l.length = 5)
    (h : DataW.trod enc P w base spare held fuel t l = some y) : ∃ x : A5, l = a5c x := by
  match l, hl with
  | [c0, c1, c2, c3, c4], _ =>
    obtain ⟨ys, n', _, _, hlen, hyl, hx⟩ := DataW.trod_struct ht h
    have h0 := hx 0 f0 rfl
    have h1 := hx 1 f1 rfl
    have h2 := hx 2 f2 rfl
    have h3 := hx 3 f3 rfl
    have h4 := hx 4 f4 rfl
    simp only [o0, o1, o2, o3, o4, s0, s1, s2, s3, s4, List.drop_zero, List.drop_succ_cons, List.take_succ_cons, List.take_zero] at h0 h1 h2 h3 h4
    have hyl' : ys.length = 5 := hyl
    rw [List.getElem?_eq_getElem (by omega)] at h0 h1 h2 h3 h4
    obtain ⟨k, e0, _, w0⟩ := DataW.trod_int k0 h0
    obtain ⟨s, e1, _, w1⟩ := DataW.trod_string k1 h1
    obtain ⟨g, e2, _, w2⟩ := DataW.trod_int k2 h2
    obtain ⟨q, e3, _, w3⟩ := DataW.trod_int k3 h3
    obtain ⟨n, e4, _, w4⟩ := DataW.trod_int k4 h4
    simp only [List.cons.injEq, and_true] at e0 e1 e2 e3 e4
    have b0 := ab_u8 w0
    have b2 := ab_u32 w2
    have b3 := ab_i64 w3
    have b4 := ab_i64 w4
    obtain ⟨k, rfl⟩ := Int.eq_ofNat_of_zero_le b0.1
    obtain ⟨g, rfl⟩ := Int.eq_ofNat_of_zero_le b2.1
    have hs : s.data.toList.length ≤ 9223372036854775807 := by unfold maxLen at w1; simpa using w1
    exact ⟨⟨k, s.data.toList, g, q, n, by omega, hs, by omega, b3, b4⟩, by rw [e0, e1, e2, e3, e4]; rfl⟩
theorem openA5 {v : Value} {d : DataW H} {p : List MemPlace} (hd : DataW.Trod enc Tryz.prog w base spare held 22 v d p) (hv : ∃ a n c, v = .slice a n c) : ∃ l, A5L w v l := by
  obtain ⟨a, n, c, rfl⟩ := hv
  obtain ⟨fuel, hf⟩ := hd
  exact openFlat a5c (by decide) a5c_len Tryz.underlying22 (by kernel_rfl) (fun m row y hl h => a5_of_trod Tryz.underlying46 rfl rfl rfl rfl rfl Tryz.underlying5 Tryz.underlying9 Tryz.underlying44 Tryz.underlying3 Tryz.underlying3 (by kernel_rfl) (by kernel_rfl) (by kernel_rfl) (by kernel_rfl) (by kernel_rfl) hl h) hf
end
end Go.Proofs.YtdhnidmeeocajaaGreat
end
section
namespace Go.Proofs.YtdhnidmeeocajaaGreat
open Go.ChangeShapes Go.WideShapes Go.ChangeAt Go.RowKit
section
variable {H : Type} {enc : TypeId × Value → H} {P : Program} {w : World} {base : Nat} {spare : Nat → Bool} {held : Bool}
theorem okWide_struct {r : Reach} {b0 : Nat} {t : TypeId} {fs : Array Field} {v : Value} (ht : P.underlying t = some (.struct fs)) (h : Value.okWide P w r b0 t v) : ∃ cs : Array Value, v = .agg cs ∧ cs.size = P.cellsOf t := by
  simp only [Value.okWide, ht] at h
  obtain ⟨cs, h1, h2, _⟩ := h
  exact ⟨cs, h1, h2⟩
end
end Go.Proofs.YtdhnidmeeocajaaGreat
end
section
namespace Go.Proofs.YtdhnidmeeocajaaGreat
open Go.ChangeShapes Go.WideShapes Go.ChangeAt Go.RowKit Go.Deep
section
variable {H : Type} {enc : TypeId × Value → H} {w : World} {base : Nat} {spare : Nat → Bool} {held : Bool}
theorem openLine0 {P : Program} {t : TypeId} {f0 f1 : Field} {v : Value} {d : DataW H} {p : List MemPlace} {r : Reach} {b0 : Nat} (ht : P.underlying t = some (.struct #[f0, f1])) (o0 : f0.offset = 0) (o1 : f1.offset = 1)
    (k0 : P.underlying f0.type = some (.int .i64)) {e : TypeId} (k1 : P.underlying f1.type = some (.slice e)) (ke : P.underlying e = some (.int .i64)) (s0 : P.cellsOf f0.type = 1) (s1 : P.cellsOf f1.type = 1) (se : P.cellsOf e = 1) (hct : P.cellsOf t = 2)
    (hv : Value.okWide P w r b0 t v) (hd : DataW.Trod enc P w base spare held t v d p) : ∃ (q : Int) (c : Value) (l : List Int), v = .agg #[.int .i64 q, c] ∧ Z64 q ∧ Zs w c l ∧ ∀ z ∈ l, Z64 z := by
  obtain ⟨cs, rfl, hs⟩ := okWide_struct ht hv
  rw [hct] at hs
  obtain ⟨l⟩ := cs
  match l, hs with
  | [c0, c1], _ =>
    obtain ⟨fuel, hf⟩ := hd
    obtain ⟨y0, y1, m, _, _, h0, h1⟩ := trod_struct2 ht hf
    rw [o0, s0] at h0
    rw [o1, s1] at h1
    obtain ⟨q, e0, _, w0⟩ := DataW.trod_int k0 (show DataW.trod enc P w base spare held m f0.type [c0] = some y0 from h0)
    obtain ⟨l, hl, hz⟩ := openZs k1 ke se (show DataW.trod enc P w base spare held m f1.type [c1] = some y1 from h1)
    simp only [List.cons.injEq, and_true] at e0
    subst e0
    exact ⟨q, c1, l, rfl, ab_i64 w0, hl, hz⟩
set_option maxRecDepth 100000 in
theorem openLine {v : Value} {d : DataW H} {p : List MemPlace} {r : Reach} {b0 : Nat} (hd : DataW.Trod enc Tryz.prog w base spare held 25 v d p) (hv : Value.okWide Tryz.prog w r b0 25 v) : ∃ (q : Int) (c : Value) (l : List Int), v = .agg #[.int .i64 q, c] ∧ Z64 q ∧ Zs w c l ∧ ∀ z ∈ l, Z64 z :=
  openLine0 Tryz.underlying25 rfl rfl Tryz.underlying3 Tryz.underlying23 Tryz.underlying3 (by kernel_rfl) (by kernel_rfl) (by kernel_rfl) (by kernel_rfl) hv hd
end
end Go.Proofs.YtdhnidmeeocajaaGreat
end
