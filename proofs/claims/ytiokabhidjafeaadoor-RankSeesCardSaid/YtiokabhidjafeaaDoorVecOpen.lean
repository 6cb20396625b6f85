/- Vectors, a dot that come in by value, opened. Of no function of the program. No condition. -/
import Derived.Test.YtiokabhidjafeaaDoorNames
import Derived.Test.YtiokabhidjafeaaDoorVecA
import Derived.Laws.IdiomArrays
namespace Go.Proofs.YtiokabhidjafeaaDoor
open Go.ChangeShapes Go.WideShapes Go.ChangeAt Go.RowKit
section
variable {H : Type} {enc : TypeId × Value → H} {P : Program} {w : World} {base : Nat} {spare : Nat → Bool} {held : Bool}
theorem vec_of_trod {t e : TypeId} {fuel : Nat} {l : List Value} {y : DataW H × List MemPlace} (ht : P.underlying t = some (.array 8 e)) (he : P.underlying e = some (.int .u32)) (hce : P.cellsOf e = 1) (hl8 : l.length = 8)
    (h : DataW.trod enc P w base spare held fuel t l = some y) : ∃ f : Nat → Nat, l = (vv f).toList ∧ Fit8 f := by
  obtain ⟨xs, m, _, _, hl, hxl, hx⟩ := DataW.trod_array ht h
  have each : ∀ i, i < 8 → ∃ n : Nat, l[i]? = some (.int .u32 n) ∧ n < 4294967296 := fun i hi => by
    have h := hx i hi
    have hil : i < l.length := by omega
    rw [hce, Nat.mul_one, List.drop_eq_getElem_cons hil, List.take_succ_cons, List.take_zero, List.getElem?_eq_getElem (by omega)] at h
    obtain ⟨n, e0, _, w0⟩ := DataW.trod_int he h
    simp only [List.cons.injEq, and_true] at e0
    have b := bounds_u32 w0
    obtain ⟨n, rfl⟩ := Int.eq_ofNat_of_zero_le b.1
    exact ⟨n, by rw [List.getElem?_eq_getElem hil, e0], by omega⟩
  have hch : ∃ f : Nat → Nat, ∀ i, i < 8 → l[i]? = some (.int .u32 (f i)) ∧ f i < 4294967296 := by
    refine ⟨fun i => if h : i < 8 then Classical.choose (each i h) else 0, fun i hi => ?_⟩
    simp only [dif_pos hi]
    exact Classical.choose_spec (each i hi)
  obtain ⟨f, hf'⟩ := hch
  refine ⟨f, ?_, fun i hi => (hf' i hi).2⟩
  apply List.ext_getElem?
  intro i
  by_cases hi : i < 8
  · rw [(hf' i hi).1, Array.getElem?_toList, vv_get f i hi]
  · rw [List.getElem?_eq_none (by omega), List.getElem?_eq_none (by simp; omega)]
end
end Go.Proofs.YtiokabhidjafeaaDoor

