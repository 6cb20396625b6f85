/- Which index a path has last, in a map that the call has made; a sorted slice. No condition but that there are fewer than forty items. -/
import Derived.Test.YtpabblkdepefcaaQB
import Derived.Test.YtpabblkdepefcaaQN
import Derived.Maps.Keyed
import Derived.Maps.Own
import Derived.Maps.OwnSet
import Derived.Maps.OwnIn
import Derived.Maps.Views
import Derived.Carry
import Derived.MapKept
import Derived.StringKeys
namespace Go.Proofs.Ytpabblkdepefcaa
open Go.RowKit

theorem qpath_key (p : List UInt8) (h : p.length ≤ 9223372036854775807) : keyOf Try.prog 9 (.string (bs p)) = some (.string p) := by
  have := Go.WideMaps.keyOf_string_mk (P := Try.prog) (k := 9) (s := bs p) Try.underlying9 (by rw [bs_size]; unfold maxLen; omega)
  rw [this]
  simp [bs]
/-- Block b is a map of the last indices of paths. -/
def LastM (W : World) (b : Nat) (l : List QI) : Prop :=
  ∃ (n : Nat) (D : DataW Unit), W.ownsMap Try.prog 9 (plainElem Try.prog 3) b n D ∧ n ≤ l.length ∧ Go.Maps.IsMap D ∧ ∀ p : List UInt8, D.atKey (.string p) (.lit (.int .i64 0)) = .lit (.int .i64 (lastIx l p : Int))
theorem LastM.start (w : World) : LastM (w.alloc (.map #[] 0)) w.heap.size [] :=
  ⟨0, .map [], World.ownsMap_made w _ _ _, Nat.le_refl _, Go.Maps.isMap_empty, fun p => by simp [DataW.atKey, lastIx_nil]⟩
theorem LastM.keepB {w w' : World} {b : Nat} {l : List QI} (h : LastM w b l) (e : w'.heap[b]? = w.heap[b]?) : LastM w' b l := by
  obtain ⟨n, D, ⟨es, clock, h1, h2, h3, h4⟩, h5⟩ := h
  exact ⟨n, D, ⟨es, clock, e.trans h1, h2, h3, h4⟩, h5⟩
theorem LastM.isMap {w : World} {b : Nat} {l : List QI} (h : LastM w b l) : ∃ o : Obj, w.heap[b]? = some o ∧ o.isWalk = true := by
  obtain ⟨n, D, ⟨es, clock, h1, h2, h3, h4⟩, h5⟩ := h
  exact ⟨_, h1, rfl⟩
theorem LastM.lt {w : World} {b : Nat} {l : List QI} (h : LastM w b l) : b < w.heap.size := by
  obtain ⟨n, D, h1, _⟩ := h
  exact h1.lt
theorem LastM.keep {X : Nat → Prop} {w w' : World} {b : Nat} {l : List QI} (h : LastM w b l) (hf : Frm X w w') (hn : ¬ X b) : LastM w' b l := h.keepB (hf.block b h.lt hn)
theorem LastM.look {W : World} {b : Nat} {l : List QI} (h : LastM W b l) (p : List UInt8) (hp : p.length ≤ 9223372036854775807) : (Instr.lookup 53 (.map (some b)) (.string (bs p)) false).run Try.prog W = .ok (.int .i64 (lastIx l p : Int)) W := by
  obtain ⟨n, D, h1, h2, h3, h4⟩ := h
  obtain ⟨c, hrun, hat, hwc⟩ := h1.lookup_int (Go.Maps.string_keyed Try.underlying9) Try.underlying53 Try.underlying3 (Try.zeroValue3 W) (qpath_key p hp)
  rw [h4 p] at hat
  simp only [DataW.lit.injEq, Lit.int.injEq, true_and] at hat
  rw [hat]
  exact hrun
theorem LastM.put {l : List QI} {D : DataW Unit} (x : QI) (hm : Go.Maps.IsMap D) (h : ∀ p : List UInt8, D.atKey (.string p) (.lit (.int .i64 0)) = .lit (.int .i64 (lastIx l p : Int))) :
    ∀ p : List UInt8, (D.put (.string x.path) (.lit (.int .i64 (l.length : Int)))).atKey (.string p) (.lit (.int .i64 0)) = .lit (.int .i64 (lastIx (l ++ [x]) p : Int)) := fun p => by
  rw [lastIx_snoc]
  by_cases e : x.path = p
  · rw [if_pos e, ← e]
    exact Go.Maps.atKey_put_same hm ((Go.Maps.string_keyed Try.underlying9).key (qpath_key _ x.hp)) _ _
  · rw [if_neg e, ← h p]
    refine Go.Maps.atKey_put_other (fun h => e ?_) _ _
    simp only [Lit.string.injEq] at h
    exact h.symm
theorem run_makeLast (w : World) : (Instr.makeMap 53 none).run Try.prog w = .ok (.map (some w.heap.size)) (w.alloc (.map #[] 0)) := by
  simp [Instr.makeMap, go_sem]
set_option maxRecDepth 100000 in
set_option maxHeartbeats 2000000 in
/-- At the nil slice nothing is done. -/
theorem qins_nil (fv : Value) (w : World) : Calls Try.prog 34 #[.slice none 0 0, .int .i64 0, .int .i64 0, fv] w fun e w' => e = .returned (.tuple #[]) ∧ w' = w := by
  go_enter Try.func34, Try.ntmps34
  go_wp2
  refine wp_loop_rounds 1 ?_
  rw [rounds_succ]
  go_wp2
  go_end0
  exact ⟨rfl, rfl⟩
set_option maxRecDepth 100000 in
set_option maxHeartbeats 2000000 in
theorem qstable_nil (fv : Value) (w : World) : Calls Try.prog 31 #[.slice none 0 0, .int .i64 0, fv] w fun e w' => e = .returned (.tuple #[]) ∧ w' = w := by
  have HI := Lib.hid (qins_nil fv w)
  go_enter Try.func31, Try.ntmps31
  go_wp2
  refine wp_loop_rounds 1 ?_
  rw [rounds_succ]
  go_wp2_with fail
  refine HI.out.mono ?_
  rintro e w1 ⟨rfl, rfl⟩
  go_wp2_with fail
  refine wp_loop_rounds 1 ?_
  rw [rounds_succ]
  go_wp2_with fail
  go_end0
  exact ⟨rfl, rfl⟩
set_option maxHeartbeats 1000000 in
theorem qsort_nil (fv : Value) (w : World) : Calls Try.prog 27 #[.slice none 0 0, fv] w fun e w' => e = .returned (.tuple #[]) ∧ w' = w := by
  have HI := Lib.hid (qstable_nil fv w)
  go_enter Try.func27, Try.ntmps27
  go_wp2_with fail
  refine HI.out.mono ?_
  rintro e w1 ⟨rfl, rfl⟩
  go_wp2_with fail
  go_end0
  exact ⟨rfl, rfl⟩
/-- The sorted items. -/
def srtI (l : List QI) : List QI := (srtQ l.zipIdx).map (·.1)
theorem srtI_len (l : List QI) : (srtI l).length = l.length := by
  unfold srtI
  rw [List.length_map, (srtQ_perm _).length_eq, List.length_zipIdx]
theorem qsort_own (v : Value) (l : List QI) (w : World) (h : QOwn w v l) (ht : QTag w v) (h40 : l.length < 40) :
    Calls Try.prog 27 #[v, .func (.func 28) #[] #[]] w fun e w' => e = .returned (.tuple #[]) ∧ QOwn w' v (srtI l) ∧ QTag w' v ∧ Frm (fun k => v.ownBlock = some k) w w' := by
  have h0 := h
  rcases h.2 with ⟨rfl, hn⟩ | ⟨g, cap, rfl, _⟩
  · refine (qsort_nil _ w).mono fun e w' ⟨h1, h2⟩ => ⟨h1, ?_, fun _ hg => (by cases hg), by rw [h2]; exact Frm.refl _ _⟩
    have hl : l = [] := List.eq_nil_of_length_eq_zero hn
    subst hl
    rw [h2]
    have e : srtI [] = [] := List.eq_nil_of_length_eq_zero (srtI_len [])
    rw [e]
    exact Row.nil_ _ _
  · exact (qsort_any g cap l w h0 ht h40).mono fun e w' ⟨h1, h2, h2t, h3⟩ => ⟨h1, h2, h2t, h3.mono fun k _ e => by rw [e]; rfl⟩
end Go.Proofs.Ytpabblkdepefcaa
