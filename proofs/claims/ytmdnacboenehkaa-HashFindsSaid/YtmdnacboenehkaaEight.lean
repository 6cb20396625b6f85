/- An array of eight texts that comes in by value, opened. No condition. -/
import Derived.Test.YtmdnacboenehkaaLaw
import Derived.Test.YtmdnacboenehkaaFrm
namespace Go.Proofs.Ytmdnacboenehkaa
open Go.ChangeShapes Go.WideShapes Go.ChangeAt Go.RowKit
/-- Eight texts, as cells. -/
def row8 (t : Nat → List UInt8) : Array Value := ((List.range 8).map fun i => Value.string (bs (t i))).toArray
theorem row8_at (t : Nat → List UInt8) (k : Nat) (hk : k < 8) : (row8 t)[k]? = some (.string (bs (t k))) := by
  unfold row8; simp [hk]
section
variable {H : Type} {enc : TypeId × Value → H} {P : Program} {w : World} {base : Nat} {spare : Nat → Bool} {held : Bool}
theorem okWide_array {r : Reach} {b0 n : Nat} {t e : TypeId} {v : Value} (ht : P.underlying t = some (.array n e)) (h : Value.okWide P w r b0 t v) : ∃ cs : Array Value, v = .agg cs ∧ cs.size = P.cellsOf t := by
  simp only [Value.okWide, ht] at h
  obtain ⟨cs, h1, h2, _⟩ := h
  exact ⟨cs, h1, h2⟩
theorem open_eight {t e : TypeId} {v : Value} {d : DataW H} {p : List MemPlace} {r : Reach} {b0 : Nat} (ht : P.underlying t = some (.array 8 e)) (he : P.underlying e = some .string) (hce : P.cellsOf e = 1) (hct : P.cellsOf t = 8)
    (hv : Value.okWide P w r b0 t v) (hd : DataW.Trod enc P w base spare held t v d p) : ∃ f : Nat → List UInt8, v = .agg (row8 f) ∧ ∀ i, i < 8 → (f i).length ≤ 9223372036854775807 := by
  obtain ⟨cs, rfl, hs⟩ := okWide_array ht hv
  rw [hct] at hs
  obtain ⟨fuel, hf⟩ := hd
  obtain ⟨xs, m, _, _, hl, hxl, hx⟩ := DataW.trod_array ht hf
  have each : ∀ i, i < 8 → ∃ s : List UInt8, cs[i]? = some (.string (bs s)) ∧ s.length ≤ 9223372036854775807 := fun i hi => by
    have h := hx i hi
    have hil : i < cs.toList.length := by simp; omega
    rw [hce, Nat.mul_one, show (Value.agg cs).cells = cs from rfl, List.drop_eq_getElem_cons hil, List.take_succ_cons, List.take_zero, List.getElem?_eq_getElem (by omega)] at h
    obtain ⟨s, e0, _, ws⟩ := DataW.trod_string he h
    simp only [List.cons.injEq, and_true] at e0
    refine ⟨s.data.toList, ?_, ?_⟩
    · rw [Array.getElem?_eq_getElem (by simpa using hil)]
      rw [bs_data]
      simpa using e0
    · unfold maxLen at ws
      have : s.data.toList.length = s.size := by simp
      omega
  have hch : ∃ f : Nat → List UInt8, ∀ i, i < 8 → cs[i]? = some (.string (bs (f i))) ∧ (f i).length ≤ 9223372036854775807 := by
    refine ⟨fun i => if h : i < 8 then Classical.choose (each i h) else [], fun i hi => ?_⟩
    simp only [dif_pos hi]
    exact Classical.choose_spec (each i hi)
  obtain ⟨f, hf'⟩ := hch
  refine ⟨f, ?_, fun i hi => (hf' i hi).2⟩
  congr 1
  apply Array.ext_getElem?
  intro i
  by_cases hi : i < 8
  · rw [(hf' i hi).1, row8_at f i hi]
  · rw [Array.getElem?_eq_none (by omega), Array.getElem?_eq_none (by simp [row8]; omega)]
end
end Go.Proofs.Ytmdnacboenehkaa
