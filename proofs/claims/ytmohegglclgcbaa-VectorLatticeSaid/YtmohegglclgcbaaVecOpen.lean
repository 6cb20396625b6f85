/- Vectors, a dot that come in by value, opened. Of no function of the program. No condition. -/
import Derived.Test.YtmohegglclgcbaaLaw
import Derived.Test.YtmohegglclgcbaaVec
import Derived.Laws.IdiomArrays
namespace Go.Proofs.Ytmohegglclgcbaa
open Go.ChangeShapes Go.WideShapes Go.ChangeAt Go.RowKit
section
variable {H : Type} {enc : TypeId × Value → H} {P : Program} {w : World} {base : Nat} {spare : Nat → Bool} {held : Bool}
theorem okWide_arrV {r : Reach} {b0 n : Nat} {t e : TypeId} {v : Value} (ht : P.underlying t = some (.array n e)) (h : Value.okWide P w r b0 t v) : ∃ cs : Array Value, v = .agg cs ∧ cs.size = P.cellsOf t := by
  simp only [Value.okWide, ht] at h
  obtain ⟨cs, h1, h2, _⟩ := h
  exact ⟨cs, h1, h2⟩
theorem vec_of_trod {t e : TypeId} {fuel : Nat} {l : List Value} {y : DataW H × List MemPlace} (ht : P.underlying t = some (.array 8 e)) (he : P.underlying e = some (.int .u32)) (hce : P.cellsOf e = 1) (hl8 : l.length = 8)
    (h : DataW.trod enc P w base spare held fuel t l = some y) : ∃ f : Nat → Nat, l = (vv f).toList ∧ Fit8 f := by
  obtain ⟨xs, m, _, _, hl, hxl, hx⟩ := DataW.trod_array ht h
  have each : ∀ i, i < 8 → ∃ n : Nat, l[i]? = some (.int .u32 n) ∧ n < 4294967296 := fun i hi => by
    have h := hx i hi
    have hil : i < l.length := by omega
    rw [hce, Nat.mul_one, List.drop_eq_getElem_cons hil, List.take_succ_cons, List.take_zero, List.getElem?_eq_getElem (by omega)] at h
    obtain ⟨n, e0, _, w0⟩ := DataW.trod_int he h
    simp only [List.cons.injEq, and_true] at e0
    have b := bounds_u32 w0
    obtain ⟨n, rfl⟩ := Int.eq_ofNat_of_zero_le b.1
    exact ⟨n, by rw [List.getElem?_eq_getElem hil, e0], by omega⟩
  have hch : ∃ f : Nat → Nat, ∀ i, i < 8 → l[i]? = some (.int .u32 (f i)) ∧ f i < 4294967296 := by
    refine ⟨fun i => if h : i < 8 then Classical.choose (each i h) else 0, fun i hi => ?_⟩
    simp only [dif_pos hi]
    exact Classical.choose_spec (each i hi)
  obtain ⟨f, hf'⟩ := hch
  refine ⟨f, ?_, fun i hi => (hf' i hi).2⟩
  apply List.ext_getElem?
  intro i
  by_cases hi : i < 8
  · rw [(hf' i hi).1, Array.getElem?_toList, vv_get f i hi]
  · rw [List.getElem?_eq_none (by omega), List.getElem?_eq_none (by simp; omega)]
theorem open_vec {t e : TypeId} {v : Value} {d : DataW H} {p : List MemPlace} {r : Reach} {b0 : Nat} (ht : P.underlying t = some (.array 8 e)) (he : P.underlying e = some (.int .u32)) (hce : P.cellsOf e = 1) (hct : P.cellsOf t = 8)
    (hv : Value.okWide P w r b0 t v) (hd : DataW.Trod enc P w base spare held t v d p) : ∃ f : Nat → Nat, v = .agg (vv f) ∧ Fit8 f := by
  obtain ⟨cs, rfl, hs⟩ := okWide_arrV ht hv
  rw [hct] at hs
  obtain ⟨fuel, hf⟩ := hd
  obtain ⟨f, h1, h2⟩ := vec_of_trod ht he hce (by simpa [Value.cells] using hs) hf
  exact ⟨f, by rw [show cs = vv f from Array.ext' (by simpa [Value.cells] using h1)], h2⟩
theorem two_dotV {t : TypeId} {f0 f1 : Field} {v : Value} {d : DataW H} {p : List MemPlace} {r : Reach} {b0 : Nat} (ht : P.underlying t = some (.struct #[f0, f1])) (o0 : f0.offset = 0) (o1 : f1.offset = 1)
    (k0 : P.underlying f0.type = some (.int .u8)) (k1 : P.underlying f1.type = some (.int .u32)) (s0 : P.cellsOf f0.type = 1) (s1 : P.cellsOf f1.type = 1) (hct : P.cellsOf t = 2)
    (hv : Value.okWide P w r b0 t v) (hd : DataW.Trod enc P w base spare held t v d p) : ∃ r n : Nat, v = .agg (dv r n) ∧ r < 256 ∧ n < 4294967296 := by
  obtain ⟨cs, rfl, hs⟩ := okWide_struct ht hv
  rw [hct] at hs
  obtain ⟨l⟩ := cs
  match l, hs with
  | [c0, c1], _ =>
    obtain ⟨fuel, hf⟩ := hd
    obtain ⟨ys, n', _, _, hlen, hyl, hx⟩ := DataW.trod_struct ht hf
    have h0 := hx 0 f0 rfl
    have h1 := hx 1 f1 rfl
    simp only [Value.cells, o0, o1, s0, s1, List.drop_zero, List.drop_succ_cons, List.take_succ_cons, List.take_zero] at h0 h1
    have hyl' : ys.length = 2 := hyl
    rw [List.getElem?_eq_getElem (by omega)] at h0 h1
    obtain ⟨r, e0, _, w0⟩ := DataW.trod_int k0 h0
    obtain ⟨n, e1, _, w1⟩ := DataW.trod_int k1 h1
    simp only [List.cons.injEq, and_true] at e0 e1
    have b0 := bounds_u8 w0
    have b1 := bounds_u32 w1
    obtain ⟨r, rfl⟩ := Int.eq_ofNat_of_zero_le b0.1
    obtain ⟨n, rfl⟩ := Int.eq_ofNat_of_zero_le b1.1
    exact ⟨r, n, by rw [e0, e1], by omega, by omega⟩
/-- Three vectors, one behind the other. -/
abbrev vv3 (a b c : Nat → Nat) : Array Value := vv a ++ vv b ++ vv c
theorem open_vec3 {t u e : TypeId} {v : Value} {d : DataW H} {p : List MemPlace} {r : Reach} {b0 : Nat} (htt : P.underlying t = some (.array 3 u)) (ht : P.underlying u = some (.array 8 e)) (he : P.underlying e = some (.int .u32)) (hce : P.cellsOf e = 1) (hcu : P.cellsOf u = 8) (hct : P.cellsOf t = 24)
    (hv : Value.okWide P w r b0 t v) (hd : DataW.Trod enc P w base spare held t v d p) : ∃ f g h : Nat → Nat, v = .agg (vv3 f g h) ∧ Fit8 f ∧ Fit8 g ∧ Fit8 h := by
  obtain ⟨cs, rfl, hs⟩ := okWide_arrV htt hv
  rw [hct] at hs
  obtain ⟨fuel, hf⟩ := hd
  obtain ⟨xs, m, _, _, hl, hxl, hx⟩ := DataW.trod_array htt hf
  have hcl : cs.toList.length = 24 := by simpa using hs
  have each : ∀ i, i < 3 → ∃ f : Nat → Nat, (cs.toList.drop (i * 8)).take 8 = (vv f).toList ∧ Fit8 f := fun i hi => by
    have h := hx i hi
    rw [hcu, List.getElem?_eq_getElem (by omega)] at h
    exact vec_of_trod ht he hce (by rw [List.length_take, List.length_drop]; omega) h
  obtain ⟨f, hf1, hf2⟩ := each 0 (by omega)
  obtain ⟨g, hg1, hg2⟩ := each 1 (by omega)
  obtain ⟨h, hh1, hh2⟩ := each 2 (by omega)
  refine ⟨f, g, h, ?_, hf2, hg2, hh2⟩
  congr 1
  apply Array.ext'
  rw [show (vv3 f g h).toList = (vv f).toList ++ (vv g).toList ++ (vv h).toList from by simp [vv3]]
  rw [← hf1, ← hg1, ← hh1]
  have e1 : cs.toList = cs.toList.take 8 ++ cs.toList.drop 8 := (List.take_append_drop 8 _).symm
  have e2 : cs.toList.drop 8 = (cs.toList.drop 8).take 8 ++ cs.toList.drop 16 := by
    have := (List.take_append_drop 8 (cs.toList.drop 8)).symm
    rw [List.drop_drop] at this
    exact this
  have e3 : (cs.toList.drop 16).take 8 = cs.toList.drop 16 := List.take_of_length_le (by rw [List.length_drop]; omega)
  simp only [Nat.zero_mul, Nat.one_mul, List.drop_zero, show 2 * 8 = 16 from rfl]
  rw [e3, List.append_assoc, ← e2, ← e1]
end
end Go.Proofs.Ytmohegglclgcbaa
