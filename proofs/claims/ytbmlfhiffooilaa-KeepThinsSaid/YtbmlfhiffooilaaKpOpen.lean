/- Versions, policies, pairs of numbers that come in: what they are. Of no function of the program. No condition. -/
import Derived.Test.YtbmlfhiffooilaaLaw
import Derived.Test.YtbmlfhiffooilaaOpenF
import Derived.Test.YtbmlfhiffooilaaArr
import Derived.Test.YtbmlfhiffooilaaKpE
namespace Go.Proofs.Ytbmlfhiffooilaa
open Go.ChangeShapes Go.WideShapes Go.ChangeAt Go.RowKit Go.Deep
section
variable {H : Type} {enc : TypeId × Value → H} {w : World} {base : Nat} {spare : Nat → Bool} {held : Bool}
theorem okWide_structV {P : Program} {r : Reach} {b0 : Nat} {t : TypeId} {fs : Array Field} {v : Value} (ht : P.underlying t = some (.struct fs)) (h : Value.okWide P w r b0 t v) : ∃ cs : Array Value, v = .agg cs ∧ cs.size = P.cellsOf t := by
  simp only [Value.okWide, ht] at h
  obtain ⟨cs, h1, h2, _⟩ := h
  exact ⟨cs, h1, h2⟩
theorem two_u32 {P : Program} {t : TypeId} {f0 f1 : Field} {fuel : Nat} {c0 c1 : Value} {y : DataW H × List MemPlace} (ht : P.underlying t = some (.struct #[f0, f1])) (o0 : f0.offset = 0) (o1 : f1.offset = 1)
    (k0 : P.underlying f0.type = some (.int .u32)) (k1 : P.underlying f1.type = some (.int .u32)) (s0 : P.cellsOf f0.type = 1) (s1 : P.cellsOf f1.type = 1)
    (h : DataW.trod enc P w base spare held fuel t [c0, c1] = some y) : ∃ a b : Nat, c0 = .int .u32 a ∧ c1 = .int .u32 b ∧ a < 4294967296 ∧ b < 4294967296 := by
  obtain ⟨ys, n', _, _, hlen, hyl, hx⟩ := DataW.trod_struct ht h
  have h0 := hx 0 f0 rfl
  have h1 := hx 1 f1 rfl
  simp only [o0, o1, s0, s1, List.drop_zero, List.drop_succ_cons, List.take_succ_cons, List.take_zero] at h0 h1
  have hyl' : ys.length = 2 := hyl
  rw [List.getElem?_eq_getElem (by omega)] at h0 h1
  obtain ⟨a, e0, a0⟩ := one_u32 k0 h0
  obtain ⟨b, e1, b0⟩ := one_u32 k1 h1
  exact ⟨a, b, e0, e1, a0, b0⟩
theorem three_pol {P : Program} {t : TypeId} {f0 f1 f2 : Field} {fuel : Nat} {c0 c1 c2 : Value} {y : DataW H × List MemPlace} (ht : P.underlying t = some (.struct #[f0, f1, f2])) (o0 : f0.offset = 0) (o1 : f1.offset = 1) (o2 : f2.offset = 2)
    (k0 : P.underlying f0.type = some (.int .u8)) (k1 : P.underlying f1.type = some (.int .u32)) (k2 : P.underlying f2.type = some (.int .i64)) (s0 : P.cellsOf f0.type = 1) (s1 : P.cellsOf f1.type = 1) (s2 : P.cellsOf f2.type = 1)
    (h : DataW.trod enc P w base spare held fuel t [c0, c1, c2] = some y) : ∃ (k a : Nat) (q : Int), c0 = .int .u8 k ∧ c1 = .int .u32 a ∧ c2 = .int .i64 q ∧ k ≤ 255 ∧ a < 4294967296 ∧ -9223372036854775808 ≤ q ∧ q ≤ 9223372036854775807 := by
  obtain ⟨ys, n', _, _, hlen, hyl, hx⟩ := DataW.trod_struct ht h
  have h0 := hx 0 f0 rfl
  have h1 := hx 1 f1 rfl
  have h2 := hx 2 f2 rfl
  simp only [o0, o1, o2, s0, s1, s2, List.drop_zero, List.drop_succ_cons, List.take_succ_cons, List.take_zero] at h0 h1 h2
  have hyl' : ys.length = 3 := hyl
  rw [List.getElem?_eq_getElem (by omega)] at h0 h1 h2
  obtain ⟨k, e0, _, w0⟩ := DataW.trod_int k0 h0
  obtain ⟨a, e1, a0⟩ := one_u32 k1 h1
  obtain ⟨q, e2, _, w2⟩ := DataW.trod_int k2 h2
  simp only [List.cons.injEq, and_true] at e0 e2
  have bd := bounds_u8 w0
  obtain ⟨k, rfl⟩ := Int.eq_ofNat_of_zero_le bd.1
  have bq := bounds_i64 w2
  exact ⟨k, a, q, e0, e1, e2, by omega, a0, bq.1, bq.2⟩
theorem st_of_trod {fuel : Nat} {l : List Value} {y : DataW H × List MemPlace} (hl : l.length = 2) (h : DataW.trod enc Try.prog w base spare held fuel 24 l = some y) : ∃ x : StI, l = stc x := by
  match l, hl with
  | [c0, c1], _ =>
    obtain ⟨a, b, rfl, rfl, a0, b0⟩ := two_u32 Try.underlying24 rfl rfl Try.underlying22 Try.underlying22 (by kernel_rfl) (by kernel_rfl) h
    exact ⟨⟨a, b, by omega, by omega⟩, rfl⟩
/-- Versions that came in. -/
theorem open_stL {v : Value} {d : DataW H} {p : List MemPlace} (hd : DataW.Trod enc Try.prog w base spare held 38 v d p) (hv : v.cells.toList = [v]) : ∃ l, StL w v l := by
  obtain ⟨fuel, hf⟩ := hd
  rw [hv] at hf
  exact openFlat stc (by decide) stc_len Try.underlying38 (by kernel_rfl) (fun m row y hl h => st_of_trod hl h) hf
theorem open_stL' {v : Value} {d : DataW H} {p : List MemPlace} {r : Reach} {b0 : Nat} (hv : Value.okWide Try.prog w r b0 38 v) (hd : DataW.Trod enc Try.prog w base spare held 38 v d p) : ∃ l, StL w v l := by
  obtain ⟨a00, n00, c00, hv0⟩ := okWide_slice Try.underlying38 hv
  exact open_stL hd (by rw [hv0]; rfl)
/-- Two versions that came in. -/
theorem open_st2 {v : Value} {d : DataW H} {p : List MemPlace} {r : Reach} {b0 : Nat} (hv : Value.okWide Try.prog w r b0 25 v) (hd : DataW.Trod enc Try.prog w base spare held 25 v d p) :
    ∃ a b : StI, v = .agg #[.int .u32 (a.id : Int), .int .u32 (a.tick : Int), .int .u32 (b.id : Int), .int .u32 (b.tick : Int)] := by
  obtain ⟨cs, rfl, hs⟩ := okWide_array Try.underlying25 hv
  have hct : Try.prog.cellsOf 25 = 4 := by kernel_rfl
  rw [hct] at hs
  obtain ⟨l⟩ := cs
  match l, hs with
  | [c0, c1, c2, c3], _ =>
    obtain ⟨fuel, hf⟩ := hd
    obtain ⟨xs, m1, _, _, _, hn, hel⟩ := DataW.trod_array Try.underlying25 hf
    have h0 := hel 0 (by decide)
    have h1 := hel 1 (by decide)
    have hce : Try.prog.cellsOf 24 = 2 := by kernel_rfl
    rw [hce] at h0 h1
    match xs, hn with
    | [y0, y1], _ =>
      obtain ⟨a, ha⟩ := st_of_trod (l := [c0, c1]) rfl h0
      obtain ⟨b, hb⟩ := st_of_trod (l := [c2, c3]) rfl h1
      simp only [stc, List.cons.injEq, and_true] at ha hb
      obtain ⟨rfl, rfl⟩ := ha
      obtain ⟨rfl, rfl⟩ := hb
      exact ⟨a, b, rfl⟩
/-- A policy that came in. -/
theorem open_pol {v : Value} {d : DataW H} {p : List MemPlace} {r : Reach} {b0 : Nat} (hv : Value.okWide Try.prog w r b0 27 v) (hd : DataW.Trod enc Try.prog w base spare held 27 v d p) :
    ∃ (k a : Nat) (q : Int), v = .agg (pv k a q) ∧ k ≤ 255 ∧ a ≤ 4294967295 ∧ -9223372036854775808 ≤ q ∧ q ≤ 9223372036854775807 := by
  obtain ⟨cs, rfl, hs⟩ := okWide_structV Try.underlying27 hv
  have hct : Try.prog.cellsOf 27 = 3 := by kernel_rfl
  rw [hct] at hs
  obtain ⟨l⟩ := cs
  match l, hs with
  | [c0, c1, c2], _ =>
    obtain ⟨fuel, hf⟩ := hd
    obtain ⟨k, a, q, rfl, rfl, rfl, h1, h2, h3, h4⟩ := three_pol Try.underlying27 rfl rfl rfl Try.underlying5 Try.underlying22 Try.underlying3 (by kernel_rfl) (by kernel_rfl) (by kernel_rfl) hf
    exact ⟨k, a, q, rfl, h1, by omega, h3, h4⟩
end
end Go.Proofs.Ytbmlfhiffooilaa
