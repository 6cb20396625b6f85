/- What goes of numbered items, and what is left: the mathematics. No condition. -/
import Derived.Test.YtpabblkdepefcaaQR
namespace Go.Proofs.Ytpabblkdepefcaa
theorem NumQ.asc {L : List QI} (h : NumQ L) : AscQ L.zipIdx := by
  unfold AscQ
  rw [List.pairwise_iff_getElem]
  intro i j hi hj hij
  rw [List.length_zipIdx] at hi hj
  rw [List.getElem_zipIdx, List.getElem_zipIdx, oldQ_iff]
  have h1 := h.1 i hi
  have h2 := h.1 j hj
  have h3 := h.2 i j hi hj hij
  simp only
  omega
theorem NumQ.srt {L : List QI} (h : NumQ L) : srtI L = L := by
  unfold srtI
  rw [srtQ_is (zip_Apt _ _) h.asc (List.Perm.refl _)]
  exact zip_fst L 0
theorem NumQ.ids {L : List QI} (h : NumQ L) : L.Pairwise fun x y => x.id < y.id := by
  rw [List.pairwise_iff_getElem]
  intro i j hi hj hij
  have h1 := h.1 i hi
  have h2 := h.1 j hj
  omega
/-- How many go, what that leaves. -/
theorem goI_is (most : Int) : ∀ (l : List QI) (left : Nat), sumQ l ≤ left → ∃ m, m ≤ l.length ∧ goI most left l = ((l.take m).map QI.id, left - sumQ (l.take m)) ∧ (∀ i, i < m → most < (left : Int) - (sumQ (l.take i) : Int)) ∧ (m = l.length ∨ (left : Int) - (sumQ (l.take m) : Int) ≤ most) := by
  intro l
  induction l with
  | nil => intro left _; exact ⟨0, Nat.le_refl _, rfl, fun i h => by omega, .inl rfl⟩
  | cons x l ih =>
    intro left hl
    simp only [sumQ] at hl
    by_cases h : (left : Int) ≤ most
    · refine ⟨0, Nat.zero_le _, ?_, fun i h => by omega, .inr ?_⟩
      · rw [goI, if_pos h]; rfl
      · simpa [sumQ] using h
    · obtain ⟨m, h1, h2, h3, h4⟩ := ih (left - szQ x) (by omega)
      refine ⟨m + 1, by simp only [List.length_cons]; omega, ?_, ?_, ?_⟩
      · rw [goI, if_neg h, h2, List.take_succ_cons]
        simp only [sumQ, List.map_cons]
        rw [show left - szQ x - sumQ (l.take m) = left - (szQ x + sumQ (l.take m)) from by omega]
      · intro i hi
        cases i with
        | zero => simp only [List.take_zero, sumQ]; omega
        | succ i =>
          have := h3 i (by omega)
          rw [List.take_succ_cons]
          simp only [sumQ]
          omega
      · rcases h4 with h4 | h4
        · exact .inl (by simp only [List.length_cons]; omega)
        · refine .inr ?_
          rw [List.take_succ_cons]
          simp only [sumQ]
          omega
/-- What is left of those with IDs of their own, when some go. -/
theorem leftQ_sub {P L : List QI} (h : P.Sublist L) : (L.Pairwise fun x y => x.id < y.id) → sumQ (leftQ L (P.map QI.id)) + sumQ P = sumQ L ∧ (leftQ L (P.map QI.id)).length + P.length = L.length := by
  induction h with
  | slnil => intro _; exact ⟨rfl, rfl⟩
  | @cons P L x h ih =>
    intro hp
    obtain ⟨h1, h2⟩ := List.pairwise_cons.1 hp
    obtain ⟨i1, i2⟩ := ih h2
    have hx : ¬ x.id ∈ P.map QI.id := by
      intro hm
      obtain ⟨y, hy, e⟩ := List.mem_map.1 hm
      have := h1 y (h.subset hy)
      omega
    have e : leftQ (x :: L) (P.map QI.id) = x :: leftQ L (P.map QI.id) := by
      unfold leftQ
      rw [List.filter_cons_of_pos (by simp only [hx, decide_false, Bool.not_false])]
    rw [e]
    simp only [sumQ, List.length_cons]
    omega
  | @cons_cons P L x h ih =>
    intro hp
    obtain ⟨h1, h2⟩ := List.pairwise_cons.1 hp
    obtain ⟨i1, i2⟩ := ih h2
    have e : leftQ (x :: L) ((x :: P).map QI.id) = leftQ L (P.map QI.id) := by
      unfold leftQ
      rw [List.map_cons, List.filter_cons_of_neg (by simp)]
      refine List.filter_congr fun y hy => ?_
      have := h1 y hy
      have hne : ¬ y.id = x.id := by omega
      simp [hne]
    rw [e]
    simp only [sumQ, List.length_cons]
    omega
/-- The newest ones of each path. -/
def topI : List QI → List QI
  | [] => []
  | x :: l => if l.any (fun y => decide (y.path = x.path)) then topI l else x :: topI l
theorem topI_sum : ∀ L : List QI, sumQ (topI L) + sumQ (sprI L) = sumQ L
  | [] => rfl
  | x :: l => by
    have := topI_sum l
    unfold topI sprI
    split <;> simp only [sumQ] <;> omega
theorem topI_len : ∀ l : List QI, (topI l).length ≤ l.length
  | [] => Nat.le_refl _
  | x :: l => by
    have := topI_len l
    unfold topI
    split <;> simp only [List.length_cons] <;> omega
theorem topI_drop (L : List QI) (k : Nat) (h : k < L.length) : topI (L.drop k) = if newB L k h then L[k] :: topI (L.drop (k + 1)) else topI (L.drop (k + 1)) := by
  conv => lhs; rw [List.drop_eq_getElem_cons h, topI]
  unfold newB
  cases (L.drop (k + 1)).any fun y => decide (y.path = L[k].path) <;> simp
theorem sprI_drop (L : List QI) (k : Nat) (h : k < L.length) : sprI (L.drop k) = if newB L k h then sprI (L.drop (k + 1)) else L[k] :: sprI (L.drop (k + 1)) := by
  conv => lhs; rw [List.drop_eq_getElem_cons h, sprI]
  unfold newB
  cases (L.drop (k + 1)).any fun y => decide (y.path = L[k].path) <;> simp
theorem sprI_suffix (L : List QI) : ∀ k, k ≤ L.length → (sprI (L.drop k)).Sublist (sprI L) := by
  intro k
  induction k with
  | zero => intro _; rw [List.drop_zero]; exact List.Sublist.refl _
  | succ k ih =>
    intro hk
    have h1 := ih (by omega)
    have h2 := sprI_drop L k (by omega)
    rw [h2] at h1
    split at h1
    · exact h1
    · exact (List.sublist_cons_self _ _).trans h1
theorem sprI_in {L : List QI} {k : Nat} (h : k < L.length) (hn : newB L k h = false) : L[k] ∈ sprI L := by
  have h1 := sprI_suffix L k (by omega)
  rw [sprI_drop L k h, hn] at h1
  exact h1.subset (by simp)
theorem sprI_at (L : List QI) : ∀ n k, n = L.length - k → ∀ x ∈ sprI (L.drop k), ∃ j, ∃ (h : j < L.length), L[j] = x ∧ newB L j h = false := by
  intro n
  induction n with
  | zero => intro k hk x hx; rw [List.drop_eq_nil_of_le (by omega)] at hx; cases hx
  | succ n ih =>
    intro k hk x hx
    have hkl : k < L.length := by omega
    rw [sprI_drop L k hkl] at hx
    by_cases hb : newB L k hkl = true
    · rw [if_pos hb] at hx
      exact ih (k + 1) (by omega) x hx
    · rw [if_neg hb] at hx
      rcases List.mem_cons.1 hx with e | hx
      · exact ⟨k, hkl, e.symm, by simpa using hb⟩
      · exact ih (k + 1) (by omega) x hx
theorem sprI_mem {L : List QI} {x : QI} (h : x ∈ sprI L) : ∃ j, ∃ (h : j < L.length), L[j] = x ∧ newB L j h = false := sprI_at L _ 0 rfl x (by rwa [List.drop_zero])
/-- What Prune answers of numbered items. -/
structure PrunedQ (L : List QI) (most : Int) (I : List Nat) (m : Nat) : Prop where
  hm : m ≤ (sprI L).length
  hI : I = ((sprI L).take m).map QI.id
  fits : (sumQ (leftQ L I) : Int) ≤ most
  len : (leftQ L I).length + I.length = L.length
  less : ∀ i, i < m → most < (sumQ (leftQ L (I.take i)) : Int)
theorem numQ_prune {L : List QI} (hN : NumQ L) (most : Int) : ∃ I b, pruneQ L most = (I, b) ∧ b = decide ((sumQ (topI L) : Int) ≤ most) ∧ (b = false → I = []) ∧ (b = true → ∃ m, PrunedQ L most I m) := by
  have hs := sumQ_sub (sprI_sub L)
  have ht := topI_sum L
  obtain ⟨m, hm, hg, h1, h2⟩ := goI_is most (sprI L) (sumQ L) hs
  have hsm : sumQ ((sprI L).take m) ≤ sumQ (sprI L) := sumQ_sub (List.take_sublist _ _)
  have hp := pruneQ_eq L most (((sprI L).take m).map QI.id, sumQ L - sumQ ((sprI L).take m)) (by have := hN.srt; unfold srtI at this; rw [this]; exact hg)
  dsimp only at hp
  have hleft : ∀ i, sumQ (leftQ L (((sprI L).take i).map QI.id)) + sumQ ((sprI L).take i) = sumQ L ∧ (leftQ L (((sprI L).take i).map QI.id)).length + ((sprI L).take i).length = L.length := fun i => leftQ_sub ((List.take_sublist _ _).trans (sprI_sub L)) hN.ids
  by_cases hc : most < ((sumQ L - sumQ ((sprI L).take m) : Nat) : Int)
  · rw [if_pos hc] at hp
    refine ⟨[], false, hp, ?_, fun _ => rfl, fun h => by cases h⟩
    rcases h2 with h2 | h2
    · rw [h2, List.take_length] at hc
      rw [decide_eq_false (by omega)]
    · omega
  · rw [if_neg hc] at hp
    refine ⟨_, true, hp, ?_, (fun h => by cases h), (fun _ => ⟨m, hm, rfl, ?_, ?_, ?_⟩)⟩
    · rw [decide_eq_true (by omega)]
    · have := (hleft m).1; omega
    · have := (hleft m).2; rwa [List.length_map]
    · intro i hi
      rw [← List.map_take, List.take_take, Nat.min_eq_left (by omega)]
      have := (hleft i).1
      have := h1 i hi
      omega
theorem PrunedQ.size {L : List QI} {most : Int} {I : List Nat} {m : Nat} (h : PrunedQ L most I m) : I.length = m := by
  rw [h.hI, List.length_map, List.length_take]; have := h.hm; omega
theorem PrunedQ.up {L : List QI} (hN : NumQ L) {most : Int} {I : List Nat} {m : Nat} (h : PrunedQ L most I m) {i j : Nat} (hi : i < I.length) (hj : j < I.length) (hij : i < j) : I[i] < I[j] := by
  have h1 : ((sprI L).take m).Pairwise fun x y => x.id < y.id := hN.ids.sublist ((List.take_sublist _ _).trans (sprI_sub L))
  have h2 : I.Pairwise (· < ·) := by rw [h.hI, List.pairwise_map]; exact h1
  exact List.pairwise_iff_getElem.1 h2 i j hi hj hij
/-- One that goes is there, and is not the newest one. -/
theorem PrunedQ.at {L : List QI} (hN : NumQ L) {most : Int} {I : List Nat} {m : Nat} (h : PrunedQ L most I m) {i : Nat} (hi : i < I.length) : 1 ≤ I[i] ∧ I[i] ≤ L.length ∧ ∃ j, ∃ (hj : j < L.length), I[i] = j + 1 ∧ newB L j hj = false := by
  have hm : I[i] ∈ ((sprI L).take m).map QI.id := by rw [← h.hI]; exact List.getElem_mem _
  obtain ⟨x, hx, e⟩ := List.mem_map.1 hm
  obtain ⟨j, hj, e1, e2⟩ := sprI_mem (List.mem_of_mem_take hx)
  have := hN.1 j hj
  rw [e1, e] at this
  exact ⟨by omega, by omega, j, hj, this, e2⟩
/-- One ahead of the last one that goes goes, or is the newest one. -/
theorem PrunedQ.first {L : List QI} (hN : NumQ L) {most : Int} {I : List Nat} {m : Nat} (h : PrunedQ L most I m) {k : Nat} (hk : k < L.length) (hI : I.length - 1 < I.length) (hlt : L[k].id < I[I.length - 1]) (hn : newB L k hk = false) : L[k].id ∈ I := by
  have hs := h.size
  have hin := sprI_in hk hn
  obtain ⟨q, hq, e⟩ := List.mem_iff_getElem.1 hin
  have hp : (sprI L).Pairwise fun x y => x.id < y.id := hN.ids.sublist (sprI_sub L)
  have hm0 : I.length - 1 < m := by omega
  have hml := h.hm
  have hlast : I[I.length - 1] = ((sprI L)[I.length - 1]'(by omega)).id := by
    have h2 : I[I.length - 1]? = some ((sprI L)[I.length - 1]'(by omega)).id := by
      conv => lhs; arg 1; rw [h.hI]
      rw [List.getElem?_map, List.getElem?_take_of_lt hm0, List.getElem?_eq_getElem (by omega)]
      rfl
    rw [List.getElem?_eq_getElem hI] at h2
    exact Option.some.inj h2
  by_cases hqm : q < m
  · rw [h.hI, ← e]
    refine List.mem_map.2 ⟨_, ?_, rfl⟩
    rw [List.mem_take_iff_getElem]
    exact ⟨q, by omega, rfl⟩
  · exfalso
    have := List.pairwise_iff_getElem.1 hp (I.length - 1) q (by omega) hq (by omega)
    rw [e] at this
    omega
end Go.Proofs.Ytpabblkdepefcaa
