/- A dot, and two dots, that come in by value: what they are. Of no program. No condition. -/
import Derived.Test.YtffhakomnkicoaaDoorRows
import Derived.WalkKit
import Derived.ProofKit
import Derived.OpenShut
import Derived.ChangeSame
namespace Go.Proofs.YtffhakomnkicoaaDoor
open Go.ChangeShapes Go.WideShapes Go.ChangeAt Go.RowKit
section
variable {H : Type} {enc : TypeId × Value → H} {P : Program} {w : World} {base : Nat} {spare : Nat → Bool} {held : Bool}
theorem okWide_struct {r : Reach} {b0 : Nat} {t : TypeId} {fs : Array Field} {v : Value} (ht : P.underlying t = some (.struct fs)) (h : Value.okWide P w r b0 t v) : ∃ cs : Array Value, v = .agg cs ∧ cs.size = P.cellsOf t := by
  simp only [Value.okWide, ht] at h
  obtain ⟨cs, h1, h2, _⟩ := h
  exact ⟨cs, h1, h2⟩
theorem okWide_arr {r : Reach} {b0 n : Nat} {t e : TypeId} {v : Value} (ht : P.underlying t = some (.array n e)) (h : Value.okWide P w r b0 t v) : ∃ cs : Array Value, v = .agg cs ∧ cs.size = P.cellsOf t := by
  simp only [Value.okWide, ht] at h
  obtain ⟨cs, h1, h2, _⟩ := h
  exact ⟨cs, h1, h2⟩
theorem two_dot {t : TypeId} {f0 f1 : Field} {fuel : Nat} {c0 c1 : Value} {x : DataW H × List MemPlace} (ht : P.underlying t = some (.struct #[f0, f1])) (o0 : f0.offset = 0) (o1 : f1.offset = 1)
    (k0 : P.underlying f0.type = some (.int .u8)) (k1 : P.underlying f1.type = some (.int .u32)) (s0 : P.cellsOf f0.type = 1) (s1 : P.cellsOf f1.type = 1) (h : DataW.trod enc P w base spare held fuel t [c0, c1] = some x) :
    ∃ r n : Nat, c0 = .int .u8 r ∧ c1 = .int .u32 n ∧ r < 256 ∧ n < 4294967296 := by
  obtain ⟨y0, y1, m, _, _, h0, h1⟩ := trod_struct2 ht h
  rw [o0, s0] at h0
  rw [o1, s1] at h1
  obtain ⟨r, e0, _, w0⟩ := DataW.trod_int k0 (show DataW.trod enc P w base spare held m f0.type [c0] = some y0 from h0)
  obtain ⟨n, e1, _, w1⟩ := DataW.trod_int k1 (show DataW.trod enc P w base spare held m f1.type [c1] = some y1 from h1)
  simp at e0 e1
  have b0 := bounds_u8 w0
  have b1 := bounds_u32 w1
  obtain ⟨r, rfl⟩ := Int.eq_ofNat_of_zero_le b0.1
  obtain ⟨n, rfl⟩ := Int.eq_ofNat_of_zero_le b1.1
  exact ⟨r, n, e0, e1, by omega, by omega⟩
theorem open_dot {t : TypeId} {f0 f1 : Field} {v : Value} {d : DataW H} {p : List MemPlace} {r : Reach} {b0 : Nat} (ht : P.underlying t = some (.struct #[f0, f1])) (o0 : f0.offset = 0) (o1 : f1.offset = 1)
    (k0 : P.underlying f0.type = some (.int .u8)) (k1 : P.underlying f1.type = some (.int .u32)) (s0 : P.cellsOf f0.type = 1) (s1 : P.cellsOf f1.type = 1) (hct : P.cellsOf t = 2)
    (hv : Value.okWide P w r b0 t v) (hd : DataW.Trod enc P w base spare held t v d p) : ∃ r n : Nat, v = .agg #[.int .u8 r, .int .u32 n] ∧ r < 256 ∧ n < 4294967296 := by
  obtain ⟨cs, rfl, hs⟩ := okWide_struct ht hv
  rw [hct] at hs
  obtain ⟨l⟩ := cs
  match l, hs with
  | [c0, c1], _ =>
    obtain ⟨fuel, hf⟩ := hd
    obtain ⟨r, n, rfl, rfl, h1, h2⟩ := two_dot ht o0 o1 k0 k1 s0 s1 hf
    exact ⟨r, n, rfl, h1, h2⟩
theorem open_dots {t e : TypeId} {f0 f1 : Field} {v : Value} {d : DataW H} {p : List MemPlace} {r : Reach} {b0 : Nat} (ht : P.underlying t = some (.array 2 e)) (he : P.underlying e = some (.struct #[f0, f1])) (o0 : f0.offset = 0) (o1 : f1.offset = 1)
    (k0 : P.underlying f0.type = some (.int .u8)) (k1 : P.underlying f1.type = some (.int .u32)) (s0 : P.cellsOf f0.type = 1) (s1 : P.cellsOf f1.type = 1) (hce : P.cellsOf e = 2) (hct : P.cellsOf t = 4)
    (hv : Value.okWide P w r b0 t v) (hd : DataW.Trod enc P w base spare held t v d p) :
    ∃ r n q m : Nat, v = .agg #[.int .u8 r, .int .u32 n, .int .u8 q, .int .u32 m] ∧ r < 256 ∧ n < 4294967296 ∧ q < 256 ∧ m < 4294967296 := by
  obtain ⟨cs, rfl, hs⟩ := okWide_arr ht hv
  rw [hct] at hs
  obtain ⟨l⟩ := cs
  match l, hs with
  | [c0, c1, c2, c3], _ =>
    obtain ⟨fuel, hf⟩ := hd
    obtain ⟨xs, m1, _, _, _, hn, hel⟩ := DataW.trod_array ht hf
    have h0 := hel 0 (by decide)
    have h1 := hel 1 (by decide)
    rw [hce] at h0 h1
    match xs, hn with
    | [y0, y1], _ =>
      obtain ⟨r, n, rfl, rfl, a1, a2⟩ := two_dot he o0 o1 k0 k1 s0 s1 (show DataW.trod enc P w base spare held m1 e [c0, c1] = some y0 from h0)
      obtain ⟨q, m, rfl, rfl, a3, a4⟩ := two_dot he o0 o1 k0 k1 s0 s1 (show DataW.trod enc P w base spare held m1 e [c2, c3] = some y1 from h1)
      exact ⟨r, n, q, m, rfl, a1, a2, a3, a4⟩
end
end Go.Proofs.YtffhakomnkicoaaDoor
