/- What a crash leaves, block by block; ranks of fresh blocks. Of no program. No condition. -/
import Derived.Test.YtdhngbfigklaoaaDvM
section
namespace Go.Proofs.Ytdhngbfigklaoaa
namespace DV
theorem at_rank {D : DV} (h : D.ok) {k : Nat} (hk : (D.X k).isSome = true) : D.fresh[D.rank k]? = some k := by
  obtain ⟨i, hi, e⟩ := List.getElem_of_mem (h.mem.2 hk)
  have hr : D.rank k = i := by rw [← e]; exact D.rank_at i hi
  rw [hr, List.getElem?_eq_getElem hi, e]
theorem not_rank {D : DV} (h : D.ok) {k i : Nat} (hk : (D.X k).isSome = false) : D.fresh[i]? ≠ some k := by
  intro e
  have := (h.mem (k := k)).1 (List.mem_of_getElem? e)
  rw [hk] at this
  cases this
theorem read_none {D : DV} {k : Nat} (h : D.X k = none) : D.read k = D.F k := by
  unfold read
  rw [h]
  rfl
end DV
end Go.Proofs.Ytdhngbfigklaoaa
end
section
namespace Go.Proofs.Ytdhngbfigklaoaa
/-- The fresh blocks, with their bytes. -/
def FLs (D : DV) : List (Nat × List UInt8) := D.fresh.map fun k => (k, (D.X k).getD [])
/-- The firm bytes of all blocks. -/
def FRs (D : DV) : List (List UInt8) := (List.range D.n).map D.F
theorem FLs_len (D : DV) : (FLs D).length = D.fresh.length := by simp [FLs]
theorem FRs_len (D : DV) : (FRs D).length = D.n := by simp [FRs]
theorem FRs_at (D : DV) (k : Nat) (h : k < (FRs D).length) : (FRs D)[k] = D.F k := by simp [FRs]
theorem FLs_at (D : DV) (i : Nat) (h : i < (FLs D).length) (h2 : i < D.fresh.length) : (FLs D)[i] = (D.fresh[i], (D.X D.fresh[i]).getD []) := by simp [FLs]
theorem fresh_split (D : DV) (q : Nat) (hq : q < D.n) : ∃ C, (∀ j ∈ C, q < j) ∧ D.fresh = (List.range q).filter (fun j => (D.X j).isSome) ++ ((if (D.X q).isSome then [q] else []) ++ C) ∧ C = (List.range' (q + 1) (D.n - q - 1)).filter (fun j => (D.X j).isSome) := by
  refine ⟨_, fun j hj => ?_, ?_, rfl⟩
  · rw [List.mem_filter, List.mem_range'_1] at hj
    omega
  · have e0 : List.range D.n = List.range q ++ (q :: List.range' (q + 1) (D.n - q - 1)) := by
      have := List.range'_append_1 (s := 0) (m := q) (n := D.n - q)
      rw [Nat.zero_add, show q + (D.n - q) = D.n by omega] at this
      rw [List.range_eq_range', List.range_eq_range', ← this, show D.n - q = (D.n - q - 1) + 1 by omega, List.range'_succ]
      rfl
    unfold DV.fresh
    rw [e0, List.filter_append, List.filter_cons]
    congr 1
    split <;> rfl
/-- Where a block stands among the fresh ones. -/
theorem place_rank (D : DV) (q k : Nat) (hq : q < D.n) (hk : k ≤ D.fresh.length) (h1 : ∀ j (h : j < D.fresh.length), j < k → D.fresh[j] < q) (h2 : ∀ h : k < D.fresh.length, q ≤ D.fresh[k]) : k = D.rank q := by
  obtain ⟨C, hC, hs, _⟩ := fresh_split D q hq
  have hA : ∀ j ∈ (List.range q).filter (fun j => (D.X j).isSome), j < q := fun j hj => by
    rw [List.mem_filter, List.mem_range] at hj
    exact hj.1
  have hM : ∀ j ∈ (if (D.X q).isSome then [q] else []) ++ C, q ≤ j := fun j hj => by
    rcases List.mem_append.1 hj with h | h
    · split at h
      · simp at h; omega
      · cases h
    · have := hC j h; omega
  obtain ⟨A, hAe⟩ : ∃ A, (List.range q).filter (fun j => (D.X j).isSome) = A := ⟨_, rfl⟩
  obtain ⟨M, hMe⟩ : ∃ M, (if (D.X q).isSome then [q] else []) ++ C = M := ⟨_, rfl⟩
  have hr : D.rank q = A.length := by unfold DV.rank; rw [hAe]
  rw [hAe] at hA hs
  rw [hMe] at hM hs
  rw [hr]
  have hlen : D.fresh.length = A.length + M.length := by rw [hs, List.length_append]
  rcases Nat.lt_trichotomy k A.length with hlt | rfl | hgt
  · exfalso
    have hkl : k < D.fresh.length := by omega
    have := h2 hkl
    have e : D.fresh[k] = A[k] := by
      simp only [hs]
      rw [List.getElem_append_left hlt]
    rw [e] at this
    have := hA _ (List.getElem_mem hlt)
    omega
  · rfl
  · exfalso
    have hal : A.length < D.fresh.length := by omega
    have := h1 A.length hal hgt
    have e : D.fresh[A.length] = M[0]'(by omega) := by
      simp only [hs]
      rw [List.getElem_append_right (Nat.le_refl _)]
      simp
    rw [e] at this
    have := hM _ (List.getElem_mem (show 0 < M.length by omega))
    omega
theorem FLs_write (D : DV) (q : Nat) (s : List UInt8) (hq : q < D.n) : FLs (D.write q s) = (FLs D).take (D.rank q) ++ ((q, padB s) :: (FLs D).drop (D.rank q + if (D.X q).isSome then 1 else 0)) := by
  obtain ⟨C, hC, hs, hCe⟩ := fresh_split D q hq
  obtain ⟨C', _, hs', hCe'⟩ := fresh_split (D.write q s) q hq
  obtain ⟨A, hAe⟩ : ∃ A, (List.range q).filter (fun j => (D.X j).isSome) = A := ⟨_, rfl⟩
  have hX : ∀ j, j ≠ q → (D.write q s).X j = D.X j := fun j hj => by unfold DV.write; dsimp only; rw [if_neg hj]
  have hXq : (D.write q s).X q = some (padB s) := by unfold DV.write; dsimp only; rw [if_pos rfl]
  have hA' : (List.range q).filter (fun j => ((D.write q s).X j).isSome) = A := by
    rw [← hAe]
    refine List.filter_congr fun j hj => ?_
    rw [List.mem_range] at hj
    rw [hX j (by omega)]
  have hC' : C' = C := by
    rw [hCe', hCe]
    refine List.filter_congr fun j hj => ?_
    rw [List.mem_range'_1] at hj
    rw [hX j (by omega)]
  rw [hA', hXq, hC'] at hs'
  rw [hAe] at hs
  have hr : D.rank q = A.length := by unfold DV.rank; rw [hAe]
  have hAq : ∀ j ∈ A, j ≠ q := fun j hj => by
    rw [← hAe, List.mem_filter, List.mem_range] at hj
    omega
  have hCq : ∀ j ∈ C, j ≠ q := fun j hj => by have := hC j hj; omega
  unfold FLs
  rw [hs', hs, hr, List.map_append, List.map_append, List.map_append, List.map_append]
  have m1 : A.map (fun k => (k, ((D.write q s).X k).getD [])) = A.map (fun k => (k, (D.X k).getD [])) := List.map_congr_left fun j hj => by rw [hX j (hAq j hj)]
  have m2 : C.map (fun k => (k, ((D.write q s).X k).getD [])) = C.map (fun k => (k, (D.X k).getD [])) := List.map_congr_left fun j hj => by rw [hX j (hCq j hj)]
  rw [m1, m2]
  have hl : (A.map fun k => (k, (D.X k).getD [])).length = A.length := List.length_map ..
  rw [List.take_append_of_le_length (by omega), List.take_of_length_le (by omega)]
  congr 1
  cases hx : (D.X q).isSome with
  | true =>
    rw [if_pos rfl, if_pos rfl, ← hl, List.drop_length_add_append]
    simp [hXq]
  | false =>
    simp only [Option.isSome_some, if_true, Bool.false_eq_true, if_false, Nat.add_zero]
    rw [← hl, List.drop_left]
    simp [hXq]
theorem FRs_write (D : DV) (q : Nat) (s : List UInt8) : FRs (D.write q s) = FRs D := rfl
theorem FLs_none {D : DV} (h : ∀ k, D.X k = none) : FLs D = [] := by
  unfold FLs DV.fresh
  rw [List.filter_eq_nil_iff.2 (fun k _ => by rw [h k]; simp)]
  rfl
theorem FRs_set (D : DV) (q : Nat) (l : List UInt8) : (FRs D).set q l = FRs ⟨D.n, fun j => if j = q then l else D.F j, D.X⟩ := by
  unfold FRs
  apply List.ext_getElem
  · simp
  · intro i h1 h2
    rw [List.getElem_set]
    by_cases e : q = i
    · subst e; simp
    · rw [if_neg e]; simp [Ne.symm e]
/-- The place of what is there. -/
theorem FLs_rank {D : DV} (h : D.ok) {q : Nat} {l : List UInt8} (hx : D.X q = some l) : (FLs D)[D.rank q]? = some (q, l) := by
  have := DV.at_rank h (k := q) (by rw [hx]; rfl)
  unfold FLs
  rw [List.getElem?_map, this]
  simp [hx]
end Go.Proofs.Ytdhngbfigklaoaa
end
