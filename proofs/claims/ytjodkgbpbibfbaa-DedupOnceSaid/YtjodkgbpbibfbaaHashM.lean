/- Plain mathematics of buckets, of lists of ids, of an index's items. No program. No condition. -/
import Derived.Test.YtjodkgbpbibfbaaFrm
namespace Go.Proofs.Ytjodkgbpbibfbaa

/-- What the byte at a position is multiplied by. -/
def wt (i : Nat) : Nat := i % 7 * 2 + 1
theorem wt_le (i : Nat) : wt i ≤ 13 := by unfold wt; omega
/-- The sum over the first k bytes. -/
def bacc (l : List UInt8) : Nat → Nat
  | 0 => l.length
  | k + 1 => bacc l k + (l.getD k 0).toNat * wt k
theorem bacc_succ (l : List UInt8) (k : Nat) (h : k < l.length) : bacc l (k + 1) = bacc l k + l[k].toNat * wt k := by
  have : l.getD k 0 = l[k] := by simp [h]
  rw [bacc, this]
/-- A text's bucket. -/
def bk (l : List UInt8) : Nat := bacc l l.length % 16
theorem bk_lt (l : List UInt8) : bk l < 16 := Nat.mod_lt _ (by decide)

/-! Where something stands first. -/
theorem not_mem_of {α : Type} {x : α} {l : List α} (h : ∀ j (hj : j < l.length), l[j] ≠ x) : x ∉ l := fun hm => by
  obtain ⟨j, hj, e⟩ := List.getElem_of_mem hm
  exact h j hj e
section
variable {α : Type} [DecidableEq α]
def idx (x : α) : List α → Nat
  | [] => 0
  | y :: l => if y = x then 0 else idx x l + 1
theorem idx_lt {x : α} : ∀ {l : List α}, x ∈ l → idx x l < l.length
  | y :: l, h => by
    unfold idx
    by_cases e : y = x
    · rw [if_pos e]; simp
    · rw [if_neg e]
      have h2 : x ∈ l := by
        rcases List.mem_cons.1 h with h | h
        · exact absurd h.symm e
        · exact h
      have := idx_lt h2
      simp only [List.length_cons]; omega
theorem idx_at {x : α} : ∀ {l : List α} (h : x ∈ l), l[idx x l]'(idx_lt h) = x
  | y :: l, h => by
    by_cases e : y = x
    · simp [idx, e]
    · have h2 : x ∈ l := by
        rcases List.mem_cons.1 h with h | h
        · exact absurd h.symm e
        · exact h
      have := idx_at h2
      simp [idx, e, this]
theorem idx_of {x : α} : ∀ {l : List α} {k : Nat} (h : k < l.length), l[k] = x → (∀ j (hj : j < k), l[j] ≠ x) → idx x l = k
  | y :: l, 0, _, h1, _ => by simp [idx]; simpa using h1
  | y :: l, k + 1, h, h1, h2 => by
    have h0 : y ≠ x := h2 0 (by omega)
    simp only [List.length_cons] at h
    rw [idx, if_neg h0, idx_of (k := k) (by omega) (by simpa using h1) (fun j hj => by simpa using h2 (j + 1) (by omega))]
theorem before_idx {x : α} : ∀ {l : List α} {j : Nat}, (h : j < l.length) → j < idx x l → l[j] ≠ x
  | y :: l, 0, _, h1 => by
    unfold idx at h1
    by_cases e : y = x
    · rw [if_pos e] at h1; omega
    · simpa using e
  | y :: l, j + 1, h, h1 => by
    unfold idx at h1
    by_cases e : y = x
    · rw [if_pos e] at h1; omega
    · rw [if_neg e] at h1
      simp only [List.length_cons] at h
      have := before_idx (x := x) (l := l) (j := j) (by omega) (by omega)
      simpa using this
theorem erase_idx {x : α} : ∀ {l : List α}, x ∈ l → l.erase x = l.take (idx x l) ++ l.drop (idx x l + 1)
  | y :: l, h => by
    by_cases e : y = x
    · subst e; simp [idx]
    · have h2 : x ∈ l := by
        rcases List.mem_cons.1 h with h | h
        · exact absurd h.symm e
        · exact h
      rw [List.erase_cons_tail (by simpa using e), erase_idx h2]
      simp [idx, e]
end

/-! Items: a bucket, and an id. -/
/-- The ids of a bucket, in order. -/
def sel (I : List (Nat × Nat)) (i : Nat) : List Nat := (I.filter (fun p => p.1 == i)).map (·.2)
theorem sel_nil (i : Nat) : sel [] i = [] := rfl
theorem sel_cons (p : Nat × Nat) (I : List (Nat × Nat)) (i : Nat) : sel (p :: I) i = if p.1 = i then p.2 :: sel I i else sel I i := by
  unfold sel
  by_cases e : p.1 = i <;> simp [e]
theorem sel_append (I J : List (Nat × Nat)) (i : Nat) : sel (I ++ J) i = sel I i ++ sel J i := by simp [sel]
theorem sel_snoc (I : List (Nat × Nat)) (k id i : Nat) : sel (I ++ [(k, id)]) i = if k = i then sel I i ++ [id] else sel I i := by
  rw [sel_append, sel_cons]
  by_cases e : k = i <;> simp [e, sel_nil]
theorem mem_sel {I : List (Nat × Nat)} {k id : Nat} : id ∈ sel I k ↔ (k, id) ∈ I := by
  unfold sel
  constructor
  · intro h
    obtain ⟨p, hp, rfl⟩ := List.mem_map.1 h
    obtain ⟨h1, h2⟩ := List.mem_filter.1 hp
    have h3 : p.1 = k := by simpa using h2
    rw [← h3]; exact h1
  · intro h
    exact List.mem_map.2 ⟨(k, id), List.mem_filter.2 ⟨h, by simp⟩, rfl⟩
theorem sel_len (I : List (Nat × Nat)) (i : Nat) : (sel I i).length ≤ I.length := by
  unfold sel; rw [List.length_map]; exact List.length_filter_le _ _
theorem sel_erase (k id : Nat) : ∀ (I : List (Nat × Nat)) (i : Nat), sel (I.erase (k, id)) i = if k = i then (sel I i).erase id else sel I i := by
  intro I
  induction I with
  | nil => intro i; split <;> rfl
  | cons p I ih =>
    intro i
    obtain ⟨b, x⟩ := p
    by_cases e : (b, x) = (k, id)
    · cases e
      rw [List.erase_cons_head, sel_cons]
      by_cases h : k = i <;> simp [h]
    · rw [List.erase_cons_tail (by simpa using e), sel_cons, sel_cons, ih i]
      by_cases hk : k = i
      · subst hk
        rw [if_pos rfl, if_pos rfl]
        by_cases hb : b = k
        · subst hb
          have hx : x ≠ id := fun h => e (by rw [h])
          rw [if_pos rfl, if_pos rfl, List.erase_cons_tail (by simpa using hx)]
        · rw [if_neg (by simpa using hb), if_neg (by simpa using hb)]
      · rw [if_neg hk, if_neg hk]
/-- All, by ascending buckets. -/
def allF (L : Nat → List Nat) (n : Nat) : List (Nat × Nat) := (List.range n).flatMap fun i => (L i).map fun x => (i, x)
theorem allF_succ (L : Nat → List Nat) (n : Nat) : allF L (n + 1) = allF L n ++ (L n).map fun x => (n, x) := by
  unfold allF; rw [List.range_succ]; simp
theorem allF_congr {L L' : Nat → List Nat} : ∀ {n : Nat}, (∀ i, i < n → L i = L' i) → allF L n = allF L' n
  | 0, _ => rfl
  | n + 1, h => by rw [allF_succ, allF_succ, allF_congr (fun i hi => h i (by omega)), h n (by omega)]
theorem filter_lt_succ (I : List (Nat × Nat)) (n : Nat) : (I.filter (fun p => decide (p.1 < n + 1))).length = (I.filter (fun p => decide (p.1 < n))).length + (sel I n).length := by
  induction I with
  | nil => rfl
  | cons p I ih =>
    rw [sel_cons, List.filter_cons, List.filter_cons]
    by_cases h1 : p.1 < n
    · have h2 : p.1 < n + 1 := by omega
      have h3 : p.1 ≠ n := by omega
      simp only [h1, h2, h3, decide_true, if_true, if_false, List.length_cons]
      omega
    · by_cases h3 : p.1 = n
      · have h2 : p.1 < n + 1 := by omega
        simp only [h1, h2, decide_true, decide_false, if_true, if_pos h3, List.length_cons]
        simp only [Bool.false_eq_true, if_false]
        omega
      · have h2 : ¬ p.1 < n + 1 := by omega
        simp only [h1, h2, decide_false, if_neg h3, Bool.false_eq_true, if_false]
        exact ih
theorem allF_len (I : List (Nat × Nat)) : ∀ n, (allF (sel I) n).length = (I.filter (fun p => decide (p.1 < n))).length
  | 0 => by
    have : I.filter (fun p => decide (p.1 < 0)) = [] := by simp
    rw [this]; rfl
  | n + 1 => by rw [allF_succ, List.length_append, List.length_map, allF_len I n, filter_lt_succ]
theorem allF_total (I : List (Nat × Nat)) (h : ∀ p ∈ I, p.1 < 16) : (allF (sel I) 16).length = I.length := by
  rw [allF_len, List.filter_eq_self.2 (fun p hp => by simpa using h p hp)]
theorem allF_snd (L : Nat → List Nat) : ∀ n, (allF L n).map (·.2) = (List.range n).flatMap L
  | 0 => rfl
  | n + 1 => by rw [allF_succ, List.map_append, allF_snd L n, List.range_succ]; simp [Function.comp_def]
theorem allF_lt {L : Nat → List Nat} : ∀ {n : Nat} {p : Nat × Nat}, p ∈ allF L n → p.1 < n
  | n + 1, p, h => by
    rw [allF_succ] at h
    rcases List.mem_append.1 h with h | h
    · have := allF_lt h; omega
    · obtain ⟨x, _, rfl⟩ := List.mem_map.1 h; simp
/-- By ascending buckets. -/
def Asc (T : List (Nat × Nat)) : Prop := T.Pairwise fun p q => p.1 ≤ q.1
theorem allF_asc (L : Nat → List Nat) : ∀ n, Asc (allF L n)
  | 0 => List.Pairwise.nil
  | n + 1 => by
    rw [allF_succ]
    refine List.pairwise_append.2 ⟨allF_asc L n, ?_, fun p hp q hq => ?_⟩
    · exact List.pairwise_map.2 (List.pairwise_iff_getElem.2 fun _ _ _ _ _ => Nat.le_refl _)
    · obtain ⟨x, _, rfl⟩ := List.mem_map.1 hq
      have := allF_lt hp
      simp only; omega

/-! Each id under its own text's bucket. -/
/-- The items of these ids. -/
def itm (f : Nat → Nat) (ids : List Nat) : List (Nat × Nat) := ids.map fun x => (f x, x)
theorem itm_snoc (f : Nat → Nat) (ids : List Nat) (x : Nat) : itm f (ids ++ [x]) = itm f ids ++ [(f x, x)] := by simp [itm]
theorem mem_itm {f : Nat → Nat} {ids : List Nat} {x : Nat} : (f x, x) ∈ itm f ids ↔ x ∈ ids := by
  unfold itm
  constructor
  · intro h
    obtain ⟨y, hy, e⟩ := List.mem_map.1 h
    have e2 : y = x := congrArg Prod.snd e
    rw [← e2]; exact hy
  · intro h; exact List.mem_map.2 ⟨x, h, rfl⟩
theorem itm_erase (f : Nat → Nat) (x : Nat) : ∀ ids : List Nat, itm f (ids.erase x) = (itm f ids).erase (f x, x) := by
  intro ids
  induction ids with
  | nil => rfl
  | cons y ids ih =>
    by_cases e : y = x
    · subst e
      rw [List.erase_cons_head]
      simp [itm]
    · rw [List.erase_cons_tail (by simpa using e)]
      show (f y, y) :: itm f (ids.erase x) = ((f y, y) :: itm f ids).erase (f x, x)
      rw [List.erase_cons_tail (by simp [e]), ih]
theorem sel_itm (f : Nat → Nat) (b : Nat) : ∀ ids : List Nat, sel (itm f ids) b = ids.filter fun x => f x == b := by
  intro ids
  induction ids with
  | nil => rfl
  | cons y ids ih =>
    show sel ((f y, y) :: itm f ids) b = _
    rw [sel_cons, ih, List.filter_cons]
    by_cases e : f y = b <;> simp [e]
theorem itm_len (f : Nat → Nat) (ids : List Nat) : (itm f ids).length = ids.length := by simp [itm]
end Go.Proofs.Ytjodkgbpbibfbaa
