/- The statements' acts on lines, opened out of the argument. No condition. -/
import Derived.Test.YtdhngbfigklaoaaDvActO
import Derived.Test.YtdhngbfigklaoaaOpenF
import Derived.Test.YtdhngbfigklaoaaLnE
namespace Go.Proofs.Ytdhngbfigklaoaa
open Go.ChangeShapes Go.WideShapes Go.ChangeAt Go.RowKit Go.Deep
section
variable {H : Type} {enc : TypeId × Value → H} {w : World} {base : Nat} {spare : Nat → Bool} {held : Bool}
theorem a3_of_trod {P : Program} {t : TypeId} {f0 f1 f2 : Field} {fuel : Nat} {l : List Value} {y : DataW H × List MemPlace} (ht : P.underlying t = some (.struct #[f0, f1, f2])) (o0 : f0.offset = 0) (o1 : f1.offset = 1) (o2 : f2.offset = 2)
    (k0 : P.underlying f0.type = some (.int .u8)) (k1 : P.underlying f1.type = some (.int .i64)) (k2 : P.underlying f2.type = some .string) (s0 : P.cellsOf f0.type = 1) (s1 : P.cellsOf f1.type = 1) (s2 : P.cellsOf f2.type = 1) (hl : l.length = 3)
    (h : DataW.trod enc P w base spare held fuel t l = some y) : ∃ x : A3, l = a3c x := by
  match l, hl with
  | [c0, c1, c2], _ =>
    obtain ⟨ys, n', _, _, hlen, hyl, hx⟩ := DataW.trod_struct ht h
    have h0 := hx 0 f0 rfl
    have h1 := hx 1 f1 rfl
    have h2 := hx 2 f2 rfl
    simp only [o0, o1, o2, s0, s1, s2, List.drop_zero, List.drop_succ_cons, List.take_succ_cons, List.take_zero] at h0 h1 h2
    have hyl' : ys.length = 3 := hyl
    rw [List.getElem?_eq_getElem (by omega)] at h0 h1 h2
    obtain ⟨k, e0, _, w0⟩ := DataW.trod_int k0 h0
    obtain ⟨q, e1, _, w1⟩ := DataW.trod_int k1 h1
    obtain ⟨s, e2, _, w2⟩ := DataW.trod_string k2 h2
    simp only [List.cons.injEq, and_true] at e0 e1 e2
    have b0 := ab_u8 w0
    have b1 := ab_i64 w1
    obtain ⟨k, rfl⟩ := Int.eq_ofNat_of_zero_le b0.1
    have hs : s.data.toList.length ≤ 9223372036854775807 := by unfold maxLen at w2; simpa using w2
    exact ⟨⟨k, q, s.data.toList, by omega, b1, hs⟩, by rw [e0, e1, e2]; rfl⟩
theorem openA3 {v : Value} {d : DataW H} {p : List MemPlace} (hd : DataW.Trod enc Try.prog w base spare held 23 v d p) (hv : ∃ a n c, v = .slice a n c) : ∃ l, A3L w v l := by
  obtain ⟨a, n, c, rfl⟩ := hv
  obtain ⟨fuel, hf⟩ := hd
  exact openFlat a3c (by decide) a3c_len Try.underlying23 (by kernel_rfl) (fun m row y hl h => a3_of_trod Try.underlying38 rfl rfl rfl Try.underlying5 Try.underlying3 Try.underlying9 (by kernel_rfl) (by kernel_rfl) (by kernel_rfl) hl h) hf
end
end Go.Proofs.Ytdhngbfigklaoaa
