/- Items that come in: what they are. Of no function of the program. No condition. -/
import Derived.Test.YtpabblkdepefcaaLaw
import Derived.Test.YtpabblkdepefcaaOpenF
import Derived.Test.YtpabblkdepefcaaQB
namespace Go.Proofs.Ytpabblkdepefcaa
open Go.ChangeShapes Go.WideShapes Go.ChangeAt Go.RowKit Go.Deep
section
variable {H : Type} {enc : TypeId × Value → H} {w : World} {base : Nat} {spare : Nat → Bool} {held : Bool}
theorem qb_u32 {n : Int} (h : (Lit.int .u32 n).wf = true) : 0 ≤ n ∧ n ≤ 4294967295 := by
  have h1 : IntKind.u32.min = 0 := by decide
  have h2 : IntKind.u32.max = 4294967295 := by decide
  simp [Lit.wf, h1, h2] at h
  exact h
theorem qb_i64 {n : Int} (h : (Lit.int .i64 n).wf = true) : -9223372036854775808 ≤ n ∧ n ≤ 9223372036854775807 := by
  have h1 : IntKind.i64.min = -9223372036854775808 := by decide
  have h2 : IntKind.i64.max = 9223372036854775807 := by decide
  simp [Lit.wf, h1, h2] at h
  exact h
theorem qi_of_trod {P : Program} {t : TypeId} {f0 f1 f2 f3 : Field} {fuel : Nat} {l : List Value} {y : DataW H × List MemPlace} (ht : P.underlying t = some (.struct #[f0, f1, f2, f3])) (o0 : f0.offset = 0) (o1 : f1.offset = 1) (o2 : f2.offset = 2) (o3 : f3.offset = 3)
    (k0 : P.underlying f0.type = some .string) (k1 : P.underlying f1.type = some (.int .u32)) (k2 : P.underlying f2.type = some (.int .u32)) (k3 : P.underlying f3.type = some (.int .i64)) (s0 : P.cellsOf f0.type = 1) (s1 : P.cellsOf f1.type = 1) (s2 : P.cellsOf f2.type = 1) (s3 : P.cellsOf f3.type = 1) (hl : l.length = 4)
    (h : DataW.trod enc P w base spare held fuel t l = some y) : ∃ x : QI, l = qic x := by
  match l, hl with
  | [c0, c1, c2, c3], _ =>
    obtain ⟨ys, n', _, _, hlen, hyl, hx⟩ := DataW.trod_struct ht h
    have h0 := hx 0 f0 rfl
    have h1 := hx 1 f1 rfl
    have h2 := hx 2 f2 rfl
    have h3 := hx 3 f3 rfl
    simp only [o0, o1, o2, o3, s0, s1, s2, s3, List.drop_zero, List.drop_succ_cons, List.take_succ_cons, List.take_zero] at h0 h1 h2 h3
    have hyl' : ys.length = 4 := hyl
    rw [List.getElem?_eq_getElem (by omega)] at h0 h1 h2 h3
    obtain ⟨s, e0, _, w0⟩ := DataW.trod_string k0 h0
    obtain ⟨i, e1, _, w1⟩ := DataW.trod_int k1 h1
    obtain ⟨t, e2, _, w2⟩ := DataW.trod_int k2 h2
    obtain ⟨z, e3, _, w3⟩ := DataW.trod_int k3 h3
    simp only [List.cons.injEq, and_true] at e0 e1 e2 e3
    have b1 := qb_u32 w1
    have b2 := qb_u32 w2
    have b3 := qb_i64 w3
    obtain ⟨i, rfl⟩ := Int.eq_ofNat_of_zero_le b1.1
    obtain ⟨t, rfl⟩ := Int.eq_ofNat_of_zero_le b2.1
    have hs : s.data.toList.length ≤ 9223372036854775807 := by unfold maxLen at w0; simpa using w0
    exact ⟨⟨s.data.toList, i, t, z, hs, by omega, by omega, b3⟩, by rw [e0, e1, e2, e3]; rfl⟩
theorem open_qisL {v : Value} {d : DataW H} {p : List MemPlace} {r : Reach} {b0 : Nat} (hv : Value.okWide Try.prog w r b0 22 v) (hd : DataW.Trod enc Try.prog w base spare held 22 v d p) : ∃ l, QL w v l := by
  obtain ⟨a, n, c, rfl⟩ := okWide_slice Try.underlying22 hv
  obtain ⟨fuel, hf⟩ := hd
  exact openFlat qic (by decide) qic_len Try.underlying22 (by kernel_rfl) (fun m row y hl h => qi_of_trod Try.underlying36 rfl rfl rfl rfl Try.underlying9 Try.underlying34 Try.underlying34 Try.underlying3 (by kernel_rfl) (by kernel_rfl) (by kernel_rfl) (by kernel_rfl) hl h) hf
end
end Go.Proofs.Ytpabblkdepefcaa
