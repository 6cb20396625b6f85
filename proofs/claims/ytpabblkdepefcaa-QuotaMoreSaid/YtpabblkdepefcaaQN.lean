/- Which index a path has last; what a range over those that may go gives: the mathematics, of no program. No condition. -/
import Derived.Test.YtpabblkdepefcaaQM
namespace Go.Proofs.Ytpabblkdepefcaa

/-- The last index of a path, so far. -/
def lastF (p : List UInt8) (a : Nat) (y : QI × Nat) : Nat := if y.1.path = p then y.2 else a
def lastIx (l : List QI) (p : List UInt8) : Nat := l.zipIdx.foldl (lastF p) 0
theorem lastIx_nil (p : List UInt8) : lastIx [] p = 0 := rfl
theorem lastIx_snoc (l : List QI) (x : QI) (p : List UInt8) : lastIx (l ++ [x]) p = if x.path = p then l.length else lastIx l p := by
  unfold lastIx
  rw [List.zipIdx_append, List.foldl_append]
  simp [lastF]
theorem lastIx_le (l : List QI) (p : List UInt8) : lastIx l p ≤ l.length := by
  have : ∀ (t : List QI) (k a : Nat), a ≤ k → (t.zipIdx k).foldl (lastF p) a ≤ k + t.length := by
    intro t
    induction t with
    | nil => intro k a h; simpa using h
    | cons x t ih =>
      intro k a h
      rw [List.zipIdx_cons, List.foldl_cons, List.length_cons]
      have := ih (k + 1) (lastF p a (x, k)) (by unfold lastF; split <;> omega)
      omega
  have h := this l 0 0 (Nat.le_refl _)
  unfold lastIx
  omega
theorem lastF_any (p : List UInt8) : ∀ (t : List QI) (k a : Nat), (t.any (fun y => decide (y.path = p)) = false → (t.zipIdx k).foldl (lastF p) a = a) ∧ (t.any (fun y => decide (y.path = p)) = true → k ≤ (t.zipIdx k).foldl (lastF p) a) := by
  intro t
  induction t with
  | nil => intro k a; exact ⟨fun _ => rfl, fun h => by simp at h⟩
  | cons x t ih =>
    intro k a
    rw [List.zipIdx_cons, List.foldl_cons, List.any_cons]
    obtain ⟨h1, h2⟩ := ih (k + 1) (lastF p a (x, k))
    cases ht : t.any (fun y => decide (y.path = p)) with
    | true =>
      refine ⟨fun h => by simp at h, fun _ => ?_⟩
      have := h2 ht
      omega
    | false =>
      have h1 := h1 ht
      by_cases hx : x.path = p
      · refine ⟨fun h => by simp [hx] at h, fun _ => ?_⟩
        rw [h1]
        unfold lastF
        rw [if_pos hx]
        exact Nat.le_refl _
      · refine ⟨fun _ => ?_, fun h => by simp [hx] at h⟩
        rw [h1]
        unfold lastF
        rw [if_neg hx]
theorem lastIx_at (A : List QI) (x : QI) (t : List QI) : (lastIx (A ++ x :: t) x.path = A.length) ↔ t.any (fun y => decide (y.path = x.path)) = false := by
  unfold lastIx
  rw [List.zipIdx_append, List.foldl_append, List.zipIdx_cons, List.foldl_cons, Nat.zero_add]
  have e : ∀ a, lastF x.path a (x, A.length) = A.length := fun a => by unfold lastF; simp
  rw [e]
  obtain ⟨h1, h2⟩ := lastF_any x.path t (A.length + 1) A.length
  cases ht : t.any (fun y => decide (y.path = x.path)) with
  | true =>
    have := h2 ht
    refine ⟨fun h => by omega, fun h => by cases h⟩
  | false => exact ⟨fun _ => rfl, fun _ => h1 ht⟩
/-- Those that may go, of a sorted list. -/
def sprI : List QI → List QI
  | [] => []
  | x :: l => if l.any (fun y => decide (y.path = x.path)) then x :: sprI l else sprI l
theorem sprI_map (l : List QG) : (sprQ l).map (·.1) = sprI (l.map (·.1)) := by
  induction l with
  | nil => rfl
  | cons x l ih =>
    rw [List.map_cons]
    unfold sprQ sprI
    have e : (l.map (·.1)).any (fun y => decide (y.path = x.1.path)) = l.any (fun y => decide (y.1.path = x.1.path)) := by rw [List.any_map]; rfl
    rw [e]
    split
    · rw [List.map_cons, ih]
    · exact ih
theorem sprI_len : ∀ l : List QI, (sprI l).length ≤ l.length
  | [] => Nat.le_refl _
  | x :: l => by
    have := sprI_len l
    unfold sprI
    split <;> simp only [List.length_cons] <;> omega
/-- What was given of the first k. -/
def doneI (S : List QI) (k : Nat) : List QI := ((S.take k).zipIdx.filter (fun y => decide (lastIx S y.1.path ≠ y.2))).map (·.1)
theorem doneI_zero (S : List QI) : doneI S 0 = [] := by simp [doneI]
theorem doneI_succ (S : List QI) (k : Nat) (h : k < S.length) : doneI S (k + 1) = doneI S k ++ if lastIx S S[k].path = k then [] else [S[k]] := by
  unfold doneI
  rw [List.take_succ_eq_append_getElem h, List.zipIdx_append, List.filter_append, List.map_append]
  congr 1
  have hl : (S.take k).length = k := by rw [List.length_take]; omega
  rw [hl, Nat.zero_add]
  by_cases e : lastIx S S[k].path = k <;> simp [e]
theorem doneI_rest (S : List QI) : ∀ (B A : List QI), S = A ++ B → doneI S A.length ++ sprI B = doneI S S.length := by
  intro B
  induction B with
  | nil => intro A h; subst h; simp [sprI]
  | cons x B ih =>
    intro A h
    have hk : A.length < S.length := by rw [h]; simp
    have hx : S[A.length] = x := by subst h; simp
    have h2 := ih (A ++ [x]) (by rw [h]; simp)
    rw [List.length_append, List.length_singleton, doneI_succ S _ hk, hx] at h2
    rw [← h2]
    have hl := lastIx_at A x B
    rw [← h] at hl
    conv => lhs; rw [sprI]
    by_cases e : lastIx S x.path = A.length
    · rw [if_pos e, hl.1 e]; simp
    · rw [if_neg e]
      cases ha : B.any (fun y => decide (y.path = x.path)) with
      | false => exact absurd (hl.2 ha) e
      | true => simp
theorem doneI_all (S : List QI) : doneI S S.length = sprI S := by
  have := doneI_rest S S [] rfl
  simpa [doneI_zero] using this.symm
theorem doneI_pre (S : List QI) (k : Nat) (h : k ≤ S.length) : doneI S k <+: sprI S := by
  have := doneI_rest S (S.drop k) (S.take k) (List.take_append_drop k S).symm
  rw [doneI_all, List.length_take, Nat.min_eq_left h] at this
  exact ⟨_, this⟩
/-- What goes of those that may go, and what is left. -/
def goI (most : Int) : Nat → List QI → List Nat × Nat
  | left, [] => ([], left)
  | left, x :: l => if (left : Int) ≤ most then ([], left) else (x.id :: (goI most (left - szQ x) l).1, (goI most (left - szQ x) l).2)
theorem goI_map (most : Int) : ∀ (l : List QG) (left : Nat), goQ most left l = goI most left (l.map (·.1)) := by
  intro l
  induction l with
  | nil => intro left; rfl
  | cons x l ih => intro left; rw [List.map_cons]; unfold goQ goI; rw [ih]
theorem pruneQ_eq (l : List QI) (most : Int) (r : List Nat × Nat) (h : goI most (sumQ l) (sprI ((srtQ l.zipIdx).map (·.1))) = r) : pruneQ l most = if most < (r.2 : Int) then ([], false) else (r.1, true) := by
  unfold pruneQ
  rw [goI_map, sprI_map, h]
/-- Behind so many of them, none of which stopped it. -/
theorem goI_step (most : Int) : ∀ (pre rest : List QI) (left : Nat), (∀ i, i < pre.length → most < (left : Int) - (sumQ (pre.take i) : Int)) → sumQ pre ≤ left → goI most left (pre ++ rest) = (pre.map QI.id ++ (goI most (left - sumQ pre) rest).1, (goI most (left - sumQ pre) rest).2) := by
  intro pre
  induction pre with
  | nil => intro rest left _ _; simp [sumQ]
  | cons x pre ih =>
    intro rest left h hl
    have h0 := h 0 (by simp)
    simp only [List.take_zero, sumQ] at h0
    simp only [sumQ] at hl ⊢
    rw [List.cons_append, goI, if_neg (by omega), ih rest (left - szQ x) (fun i hi => by
      have := h (i + 1) (by simpa using hi)
      rw [List.take_succ_cons] at this
      simp only [sumQ] at this
      omega) (by omega)]
    rw [show left - szQ x - sumQ pre = left - (szQ x + sumQ pre) from by omega]
    simp
theorem sumQ_sub {a b : List QI} (h : a.Sublist b) : sumQ a ≤ sumQ b := by
  induction h with
  | slnil => exact Nat.le_refl _
  | cons x _ ih => simp only [sumQ]; omega
  | cons_cons x _ ih => simp only [sumQ]; omega
theorem sprI_sub : ∀ l : List QI, (sprI l).Sublist l
  | [] => List.Sublist.refl _
  | x :: l => by
    unfold sprI
    split
    · exact (sprI_sub l).cons_cons x
    · exact (sprI_sub l).cons x
theorem sumQ_srt (l : List QI) : sumQ ((srtQ l.zipIdx).map (·.1)) = sumQ l := by
  have h := (srtQ_perm l.zipIdx).map (·.1)
  rw [zip_fst] at h
  exact sumQ_perm h
end Go.Proofs.Ytpabblkdepefcaa
