/- What a crash leaves, block by block; ranks of fresh blocks. Of no program. No condition. -/
import Derived.Test.YtnhihadnaiaojaaDvM
namespace Go.Proofs.Ytnhihadnaiaojaa
namespace DV
theorem rank_succ (D : DV) (k : Nat) : D.rank (k + 1) = D.rank k + if (D.X k).isSome then 1 else 0 := by
  unfold rank
  rw [List.range_succ, List.filter_append, List.length_append]
  congr 1
  cases h : (D.X k).isSome <;> simp [h]
theorem rank_all (D : DV) : D.rank D.n = D.fresh.length := rfl
theorem at_rank {D : DV} (h : D.ok) {k : Nat} (hk : (D.X k).isSome = true) : D.fresh[D.rank k]? = some k := by
  obtain ⟨i, hi, e⟩ := List.getElem_of_mem (h.mem.2 hk)
  have hr : D.rank k = i := by rw [← e]; exact D.rank_at i hi
  rw [hr, List.getElem?_eq_getElem hi, e]
theorem not_rank {D : DV} (h : D.ok) {k i : Nat} (hk : (D.X k).isSome = false) : D.fresh[i]? ≠ some k := by
  intro e
  have := (h.mem (k := k)).1 (List.mem_of_getElem? e)
  rw [hk] at this
  cases this
theorem left_none {D : DV} {k : Nat} (h : D.X k = none) (cs : List Int) : D.left cs k = D.F k := by
  unfold left
  rw [h]
theorem read_none {D : DV} {k : Nat} (h : D.X k = none) : D.read k = D.F k := by
  unfold read
  rw [h]
  rfl
/-- Behind as many bytes as are as they were read, the firm ones stand. -/
theorem left_drop {D : DV} (h : D.ok) (cs : List Int) (k n : Nat) (hn : n = 64 ∨ (D.left cs k)[n]? ≠ (D.read k)[n]?) : (D.left cs k).drop n = (D.F k).drop n := by
  cases e : D.X k with
  | none => rw [left_none e]
  | some x =>
    have hx := (h.xl k x e).1
    have hf := h.fl k
    obtain ⟨c, hc⟩ : ∃ c, surv cs (D.rank k) = c := ⟨_, rfl⟩
    have hc64 : c ≤ 64 := by rw [← hc]; exact surv_le cs _
    have hl : D.left cs k = x.take c ++ (D.F k).drop c := by
      unfold left
      rw [e, hc]
    have hr : D.read k = x := by unfold read; rw [e]; rfl
    rw [hl] at hn ⊢
    rw [hr] at hn
    have hcn : c ≤ n := by
      rcases hn with hn | hn
      · omega
      · rcases Nat.lt_or_ge n c with hlt | hge
        · exfalso
          apply hn
          rw [List.getElem?_append_left (by rw [List.length_take]; omega), List.getElem?_take_of_lt hlt]
        · exact hge
    rw [List.drop_append, List.drop_of_length_le (by rw [List.length_take]; omega), List.nil_append, List.length_take, Nat.min_eq_left (by omega), List.drop_drop]
    congr 1
    omega
theorem crash_flush (D : DV) (cs : List Int) (k : Nat) : (D.flush.crash cs).read k = D.read k := rfl
theorem flush_read (D : DV) (k : Nat) : D.flush.read k = D.read k := rfl
theorem crash_read2 (D : DV) (cs : List Int) (k : Nat) : (D.crash cs).read k = D.left cs k := rfl
theorem crash_fresh (D : DV) (cs : List Int) : (D.crash cs).fresh = [] := by
  unfold fresh crash
  simp
theorem flush_fresh (D : DV) : D.flush.fresh = [] := by
  unfold fresh flush
  simp
end DV
end Go.Proofs.Ytnhihadnaiaojaa
