/- The statements' acts on spaces, and an array of two ints, opened out of the argument. No condition. -/
import Derived.Test.YtdhnidmeeocajaaDvActO
import Derived.Test.YtdhnidmeeocajaaOpenF
import Derived.Test.YtdhnidmeeocajaaArr
import Derived.Test.YtdhnidmeeocajaaSpH
namespace Go.Proofs.Ytdhnidmeeocajaa
open Go.ChangeShapes Go.WideShapes Go.ChangeAt Go.RowKit Go.Deep
section
variable {H : Type} {enc : TypeId × Value → H} {w : World} {base : Nat} {spare : Nat → Bool} {held : Bool}
theorem abs_u8 {n : Int} (h : (Lit.int .u8 n).wf = true) : 0 ≤ n ∧ n ≤ 255 := by
  have h1 : IntKind.u8.min = 0 := by decide
  have h2 : IntKind.u8.max = 255 := by decide
  simp [Lit.wf, h1, h2] at h
  exact h
theorem ab_u16 {n : Int} (h : (Lit.int .u16 n).wf = true) : 0 ≤ n ∧ n ≤ 65535 := by
  have h1 : IntKind.u16.min = 0 := by decide
  have h2 : IntKind.u16.max = 65535 := by decide
  simp [Lit.wf, h1, h2] at h
  exact h
theorem a2_of_trod {P : Program} {t : TypeId} {f0 f1 : Field} {fuel : Nat} {l : List Value} {y : DataW H × List MemPlace} (ht : P.underlying t = some (.struct #[f0, f1])) (o0 : f0.offset = 0) (o1 : f1.offset = 1)
    (k0 : P.underlying f0.type = some (.int .u8)) (k1 : P.underlying f1.type = some (.int .i64)) (s0 : P.cellsOf f0.type = 1) (s1 : P.cellsOf f1.type = 1) (hl : l.length = 2)
    (h : DataW.trod enc P w base spare held fuel t l = some y) : ∃ x : A2, l = a2c x := by
  match l, hl with
  | [c0, c1], _ =>
    obtain ⟨ys, n', _, _, hlen, hyl, hx⟩ := DataW.trod_struct ht h
    have h0 := hx 0 f0 rfl
    have h1 := hx 1 f1 rfl
    simp only [o0, o1, s0, s1, List.drop_zero, List.drop_succ_cons, List.take_succ_cons, List.take_zero] at h0 h1
    have hyl' : ys.length = 2 := hyl
    rw [List.getElem?_eq_getElem (by omega)] at h0 h1
    obtain ⟨k, e0, _, w0⟩ := DataW.trod_int k0 h0
    obtain ⟨q, e1, _, w1⟩ := DataW.trod_int k1 h1
    simp only [List.cons.injEq, and_true] at e0 e1
    have b0 := abs_u8 w0
    have b1 := ab_i64 w1
    obtain ⟨k, rfl⟩ := Int.eq_ofNat_of_zero_le b0.1
    exact ⟨⟨k, q, by omega, b1⟩, by rw [e0, e1]; rfl⟩
theorem openA2 {v : Value} {d : DataW H} {p : List MemPlace} (hd : DataW.Trod enc Try.prog w base spare held 24 v d p) (hv : ∃ a n c, v = .slice a n c) : ∃ l, A2L w v l := by
  obtain ⟨a, n, c, rfl⟩ := hv
  obtain ⟨fuel, hf⟩ := hd
  exact openFlat a2c (by decide) a2c_len Try.underlying24 (by kernel_rfl) (fun m row y hl h => a2_of_trod Try.underlying36 rfl rfl Try.underlying5 Try.underlying3 (by kernel_rfl) (by kernel_rfl) hl h) hf
theorem open_two_i {P : Program} {t e : TypeId} {v : Value} {d : DataW H} {p : List MemPlace} {r : Reach} {b0 : Nat} (ht : P.underlying t = some (.array 2 e)) (he : P.underlying e = some (.int .i64)) (hce : P.cellsOf e = 1) (hct : P.cellsOf t = 2)
    (hv : Value.okWide P w r b0 t v) (hd : DataW.Trod enc P w base spare held t v d p) : ∃ x y : Int, v = .agg #[.int .i64 x, .int .i64 y] ∧ Z64 x ∧ Z64 y := by
  obtain ⟨cs, rfl, hs⟩ := okWide_array ht hv
  rw [hct] at hs
  obtain ⟨l⟩ := cs
  match l, hs with
  | [c0, c1], _ =>
    obtain ⟨fuel, hf⟩ := hd
    obtain ⟨y0, y1, m, _, h0, h1⟩ := trod_array2 ht hce hf
    obtain ⟨x, e0, _, w0⟩ := DataW.trod_int he h0
    obtain ⟨y, e1, _, w1⟩ := DataW.trod_int he h1
    simp only [List.cons.injEq, and_true] at e0 e1
    subst e0
    subst e1
    exact ⟨x, y, rfl, ab_i64 w0, ab_i64 w1⟩
set_option maxRecDepth 100000 in
theorem openTwo {v : Value} {d : DataW H} {p : List MemPlace} {r : Reach} {b0 : Nat} (hd : DataW.Trod enc Try.prog w base spare held 22 v d p) (hv : Value.okWide Try.prog w r b0 22 v) : ∃ x y : Int, v = .agg #[.int .i64 x, .int .i64 y] ∧ Z64 x ∧ Z64 y :=
  open_two_i Try.underlying22 Try.underlying3 (by kernel_rfl) (by kernel_rfl) hv hd
end
end Go.Proofs.Ytdhnidmeeocajaa
