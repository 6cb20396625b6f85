/- A device as a function of its blocks: firm bytes, fresh bytes; what is written, flushed, crashed. Of no program. No condition. -/
import Derived.Test.YtdhngbfigklaoaaFrm
namespace Go.Proofs.Ytdhngbfigklaoaa

/-- The bytes of a block of bytes 0. -/
def zb : List UInt8 := List.replicate 64 0
theorem zb_len : zb.length = 64 := rfl
/-- A text, and bytes 0 behind it. -/
def padB (s : List UInt8) : List UInt8 := s ++ List.replicate (64 - s.length) 0
theorem padB_len {s : List UInt8} (h : s.length ≤ 64) : (padB s).length = 64 := by
  unfold padB
  rw [List.length_append, List.length_replicate]
  omega
/-- How many first bytes of the i-th fresh block survive. -/
def surv (cs : List Int) (i : Nat) : Nat := if cs.length = 0 then 0 else min ((cs.getD (i % cs.length) 0) % 66).toNat 64
theorem surv_le (cs : List Int) (i : Nat) : surv cs i ≤ 64 := by
  unfold surv
  split
  · omega
  · exact Nat.min_le_right _ _

structure DV where
  n : Nat
  F : Nat → List UInt8
  X : Nat → Option (List UInt8)
namespace DV
structure ok (D : DV) : Prop where
  lo : 256 ≤ D.n
  hi : D.n ≤ 2048
  fl : ∀ k, (D.F k).length = 64
  fz : ∀ k, D.n ≤ k → D.F k = zb
  xl : ∀ k l, D.X k = some l → l.length = 64 ∧ k < D.n
def new (n : Nat) : DV := ⟨n, fun _ => zb, fun _ => none⟩
def write (D : DV) (k : Nat) (s : List UInt8) : DV := ⟨D.n, D.F, fun j => if j = k then some (padB s) else D.X j⟩
def read (D : DV) (k : Nat) : List UInt8 := (D.X k).getD (D.F k)
def flush (D : DV) : DV := ⟨D.n, D.read, fun _ => none⟩
def fresh (D : DV) : List Nat := (List.range D.n).filter fun k => (D.X k).isSome
def rank (D : DV) (k : Nat) : Nat := ((List.range k).filter fun j => (D.X j).isSome).length
/-- What a crash by these choices leaves of a block. -/
def left (D : DV) (cs : List Int) (k : Nat) : List UInt8 := match D.X k with
  | some x => x.take (surv cs (D.rank k)) ++ (D.F k).drop (surv cs (D.rank k))
  | none => D.F k
def crash (D : DV) (cs : List Int) : DV := ⟨D.n, D.left cs, fun _ => none⟩

variable {D : DV}
theorem ok_new {n : Nat} (h1 : 256 ≤ n) (h2 : n ≤ 2048) : (new n).ok := ⟨h1, h2, fun _ => rfl, fun _ _ => rfl, fun _ _ h => by cases h⟩
theorem ok.write (h : D.ok) {k : Nat} (hk : k < D.n) {s : List UInt8} (hs : s.length ≤ 64) : (D.write k s).ok := by
  refine ⟨h.lo, h.hi, h.fl, h.fz, fun j l hj => ?_⟩
  simp only [DV.write] at hj ⊢
  split at hj
  · rename_i e
    subst e
    cases hj
    exact ⟨padB_len hs, hk⟩
  · exact h.xl j l hj
theorem ok.none (h : D.ok) {k : Nat} (hk : D.n ≤ k) : D.X k = none := by
  cases e : D.X k with
  | none => rfl
  | some l => have := (h.xl k l e).2; omega
theorem ok.rlen (h : D.ok) (k : Nat) : (D.read k).length = 64 := by
  unfold DV.read
  cases e : D.X k with
  | none => exact h.fl k
  | some l => exact (h.xl k l e).1
theorem ok.flush (h : D.ok) : D.flush.ok := by
  refine ⟨h.lo, h.hi, h.rlen, fun k hk => ?_, fun _ _ e => by cases e⟩
  simp only [DV.flush] at hk ⊢
  unfold DV.read
  rw [h.none hk]
  exact h.fz k hk
theorem ok.llen (h : D.ok) (cs : List Int) (k : Nat) : (D.left cs k).length = 64 := by
  unfold left
  split
  · rename_i x e
    have := (h.xl k x e).1
    have := h.fl k
    have := surv_le cs (D.rank k)
    rw [List.length_append, List.length_take, List.length_drop]
    omega
  · exact h.fl k
theorem ok.crash (h : D.ok) (cs : List Int) : (D.crash cs).ok := by
  refine ⟨h.lo, h.hi, h.llen cs, fun k hk => ?_, fun _ _ e => by cases e⟩
  simp only [DV.crash] at hk ⊢
  unfold left
  rw [h.none hk]
  exact h.fz k hk
theorem mem_fresh {k : Nat} : k ∈ D.fresh ↔ k < D.n ∧ (D.X k).isSome = true := by
  unfold fresh
  rw [List.mem_filter, List.mem_range]
theorem ok.mem (h : D.ok) {k : Nat} : k ∈ D.fresh ↔ (D.X k).isSome = true := by
  rw [mem_fresh]
  refine ⟨fun h => h.2, fun hx => ⟨?_, hx⟩⟩
  obtain ⟨l, hl⟩ := Option.isSome_iff_exists.1 hx
  exact (h.xl k l hl).2
theorem fresh_sorted (D : DV) : D.fresh.Pairwise (· < ·) := (List.pairwise_lt_range).filter _
theorem fresh_len (D : DV) : D.fresh.length ≤ D.n := by
  have := List.length_filter_le (fun k => (D.X k).isSome) (List.range D.n)
  rw [List.length_range] at this
  exact this
/-- The i-th fresh block has rank i. -/
theorem rank_at (D : DV) (i : Nat) (h : i < D.fresh.length) : D.rank D.fresh[i] = i := by
  obtain ⟨k, hk⟩ : ∃ k, D.fresh[i] = k := ⟨_, rfl⟩
  have hm := mem_fresh.1 (hk ▸ List.getElem_mem h : k ∈ D.fresh)
  have hs := D.fresh_sorted
  rw [hk]
  have e1 : (List.range k).filter (fun j => (D.X j).isSome) = D.fresh.filter (fun j => decide (j < k)) := by
    unfold fresh
    have e0 : List.range D.n = List.range' 0 k ++ List.range' k (D.n - k) := by
      have := List.range'_append_1 (s := 0) (m := k) (n := D.n - k)
      rw [Nat.zero_add, show k + (D.n - k) = D.n by omega] at this
      rw [List.range_eq_range']
      exact this.symm
    rw [List.filter_filter, e0, List.filter_append, List.range_eq_range']
    rw [show ((List.range' k (D.n - k)).filter fun a => decide (a < k) && (D.X a).isSome) = [] from ?_, List.append_nil]
    · refine List.filter_congr fun j hj => ?_
      rw [List.mem_range'_1] at hj
      simp only [show j < k by omega, decide_true, Bool.true_and]
    · rw [List.filter_eq_nil_iff]
      intro j hj
      rw [List.mem_range'_1] at hj
      simp only [show ¬ j < k by omega, decide_false, Bool.false_and, Bool.false_eq_true, not_false_eq_true]
  unfold rank
  rw [e1]
  have e2 : D.fresh = D.fresh.take i ++ D.fresh.drop i := (List.take_append_drop i _).symm
  have hp := hs
  rw [List.pairwise_iff_getElem] at hp
  rw [e2, List.filter_append]
  have e3 : (D.fresh.take i).filter (fun j => decide (j < k)) = D.fresh.take i := by
    rw [List.filter_eq_self]
    intro j hj
    obtain ⟨m, hm, rfl⟩ := List.getElem_of_mem hj
    rw [List.length_take] at hm
    have := hp m i (by omega) h (by omega)
    rw [List.getElem_take]
    rw [hk] at this
    simpa using this
  have e4 : (D.fresh.drop i).filter (fun j => decide (j < k)) = [] := by
    rw [List.filter_eq_nil_iff]
    intro j hj
    obtain ⟨m, hm, rfl⟩ := List.getElem_of_mem hj
    rw [List.length_drop] at hm
    rw [List.getElem_drop]
    rcases Nat.eq_zero_or_pos m with rfl | hpos
    · simp [hk]
    · have := hp i (i + m) h (by omega) (by omega)
      rw [hk] at this
      simp; omega
  rw [e3, e4, List.append_nil, List.length_take]
  omega
end DV
end Go.Proofs.Ytdhngbfigklaoaa

