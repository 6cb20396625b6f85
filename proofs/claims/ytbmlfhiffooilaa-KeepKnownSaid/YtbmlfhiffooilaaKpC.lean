/- The newest versions of buckets, in a map that a call has made. No condition. -/
import Derived.Test.YtbmlfhiffooilaaKpA
import Derived.Maps.Keyed
import Derived.Maps.Own
import Derived.Maps.OwnSet
import Derived.Maps.OwnIn
import Derived.Maps.Views
import Derived.Carry
import Derived.MapKept
namespace Go.Proofs.Ytbmlfhiffooilaa
open Go.RowKit

/-- How a version reads. -/
def stD (s : StI) : DataW Unit := .agg [.lit (.int .u32 (s.id : Int)), .lit (.int .u32 (s.tick : Int))]
def stElem (v : Value) : Option (DataW Unit × List MemPlace) := match v with
  | .agg cs => match cs.toList with
    | [.int .u32 i, .int .u32 t] => some (.agg [.lit (.int .u32 i), .lit (.int .u32 t)], [])
    | _ => none
  | _ => none
theorem stElem_mk (s : StI) : stElem (.agg (stv s)) = some (stD s, []) := rfl
theorem stElem_inv {v : Value} {s : StI} {ps : List MemPlace} (h : stElem v = some (stD s, ps)) : v = .agg (stv s) := by
  unfold stElem at h
  split at h
  · rename_i cs
    split at h
    · rename_i i t hl
      simp only [Option.some.injEq, Prod.mk.injEq, stD, DataW.agg.injEq, List.cons.injEq, DataW.lit.injEq, Lit.int.injEq, true_and, and_true] at h
      obtain ⟨⟨rfl, rfl⟩, _⟩ := h
      congr 1
      apply Array.ext'
      rw [hl]
    · cases h
  · cases h
theorem u32_key (q : Nat) (h : q ≤ 4294967295) : keyOf Try.prog 22 (.int .u32 (q : Int)) = some (.int .u32 (q : Int)) := by
  have h1 : IntKind.u32.min = 0 := by decide
  have h2 : IntKind.u32.max = 4294967295 := by decide
  exact Go.Maps.keyOf_int_mk Try.underlying22 (by simp [Lit.wf, h1, h2]; omega)
/-- Block b is a map of the newest ones of buckets. -/
def TopM (W : World) (b wd : Nat) (l : List StI) : Prop :=
  ∃ (n : Nat) (D : DataW Unit), W.ownsMap Try.prog 22 stElem b n D ∧ n ≤ l.length ∧ Go.Maps.IsMap D ∧ ∀ q : Nat, q ≤ 4294967295 → D.atKey (.int .u32 (q : Int)) (stD zSt) = stD (top l wd q)
theorem TopM.start (w : World) (wd : Nat) : TopM (w.alloc (.map #[] 0)) w.heap.size wd [] :=
  ⟨0, .map [], World.ownsMap_made w _ _ _, Nat.le_refl _, Go.Maps.isMap_empty, fun q _ => by simp [DataW.atKey, top]⟩
theorem TopM.keepB {w w' : World} {b wd : Nat} {l : List StI} (h : TopM w b wd l) (e : w'.heap[b]? = w.heap[b]?) : TopM w' b wd l := by
  obtain ⟨n, D, ⟨es, clock, h1, h2, h3, h4⟩, h5⟩ := h
  exact ⟨n, D, ⟨es, clock, e.trans h1, h2, h3, h4⟩, h5⟩
theorem TopM.lt {w : World} {b wd : Nat} {l : List StI} (h : TopM w b wd l) : b < w.heap.size := by
  obtain ⟨n, D, h1, _⟩ := h
  exact h1.lt
theorem TopM.keep {X : Nat → Prop} {w w' : World} {b wd : Nat} {l : List StI} (h : TopM w b wd l) (hf : Frm X w w') (hn : ¬ X b) : TopM w' b wd l := h.keepB (hf.block b h.lt hn)
theorem zero_st (w : World) : (zeroValue 24).run Try.prog w = .ok (.agg (stv zSt)) w := by
  simp [Try.zeroValue24, zSt, go_sem]
theorem TopM.look {W : World} {b wd : Nat} {l : List StI} (h : TopM W b wd l) (q : Nat) (hq : q ≤ 4294967295) : (Instr.lookup 67 (.map (some b)) (.int .u32 (q : Int)) false).run Try.prog W = .ok (.agg (stv (top l wd q))) W := by
  obtain ⟨n, D, h1, h2, h3, h4⟩ := h
  obtain ⟨v, ps, hrun, hv⟩ := h1.lookup (Go.Maps.int_keyed Try.underlying22) Try.underlying67 (zero_st W) (stElem_mk zSt) (u32_key q hq)
  rw [h4 q hq] at hv
  rw [stElem_inv hv] at hrun
  exact hrun
theorem TopM.put {wd : Nat} {l : List StI} {D : DataW Unit} (s : StI) (hm : Go.Maps.IsMap D) (h : ∀ q : Nat, q ≤ 4294967295 → D.atKey (.int .u32 (q : Int)) (stD zSt) = stD (top l wd q)) (hn : newer s (top l wd (s.tick / wd)) = true) :
    ∀ q : Nat, q ≤ 4294967295 → (D.put (.int .u32 ((s.tick / wd : Nat) : Int)) (stD s)).atKey (.int .u32 (q : Int)) (stD zSt) = stD (top (l ++ [s]) wd q) := fun q hq => by
  rw [top_snoc]
  unfold topF
  by_cases e : s.tick / wd = q
  · subst e
    rw [if_pos ⟨rfl, hn⟩]
    exact Go.Maps.atKey_put_same hm ((Go.Maps.int_keyed Try.underlying22).key (u32_key _ hq)) _ _
  · rw [if_neg (fun h => e h.1), ← h q hq]
    refine Go.Maps.atKey_put_other (fun h => e ?_) _ _
    simp only [Lit.int.injEq, true_and] at h
    omega
theorem TopM.skip {W : World} {b wd : Nat} {l : List StI} (h : TopM W b wd l) (s : StI) (hn : newer s (top l wd (s.tick / wd)) = false) : TopM W b wd (l ++ [s]) := by
  obtain ⟨n, D, h1, h2, h3, h4⟩ := h
  refine ⟨n, D, h1, by rw [List.length_append]; omega, h3, fun q hq => ?_⟩
  rw [h4 q hq, top_snoc]
  unfold topF
  rw [if_neg]
  rintro ⟨rfl, e⟩
  rw [hn] at e
  cases e
end Go.Proofs.Ytbmlfhiffooilaa
