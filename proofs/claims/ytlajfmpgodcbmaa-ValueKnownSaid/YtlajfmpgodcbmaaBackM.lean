/- Plain words: what items are written as is read as them; a beginning of it is torn. -/
import Derived.Test.YtlajfmpgodcbmaaReadI
namespace Go.Proofs.Ytlajfmpgodcbmaa
theorem beN_beB (k : Nat) : ∀ n, n < 256 ^ k → beN (beB k n) = n := by
  induction k with
  | zero => intro n h; have : n = 0 := by omega
            subst this; rfl
  | succ k ih =>
    intro n h
    rw [Nat.pow_succ] at h
    rw [beB, beN_snoc, ih (n / 256) (by omega), UInt8.toNat_ofNat']
    omega
theorem nextS_app (a r : List UInt8) (e : Nat) : nextS a.length (a ++ r) e = (a, r, e) := by
  unfold nextS
  rw [if_pos (by simp)]
  simp
theorem nextS_short {n : Nat} {l : List UInt8} (h : l.length < n) : nextS n l 0 = ([], [], 10) := by
  unfold nextS
  rw [if_neg (by omega), if_pos rfl]
theorem numS_app (k n : Nat) (hn : n < 256 ^ k) (r : List UInt8) : numS k (beB k n ++ r) 0 = (n, r, 0) := by
  unfold numS
  have h := nextS_app (beB k n) r 0
  rw [beB_len] at h
  rw [h, beN_beB k n hn]
theorem textS_app (s r : List UInt8) (hs : s.length < 4294967296) : textS (textB s ++ r) 0 = (s, r, 0) := by
  unfold textS textB
  rw [List.append_assoc, varS_back s.length hs]
  exact nextS_app s r 0
/-- An item that was written is read. -/
theorem readI_app (x : Item) (r : List UInt8) (hn : x.n < 4294967296) (hs : x.s.length ≤ 300) : readI x (encI x ++ r) 0 = (true, r, 0) := by
  unfold readI encI
  split
  · rw [numS_app 1 _ (by omega)]; simp
  split
  · rw [numS_app 2 _ (by omega)]; simp
  split
  · rw [numS_app 4 _ (by omega)]; simp
  split
  · rw [varS_back _ hn]; simp
  split
  · rw [nextS_app]; simp
  · rw [textS_app _ _ (by omega)]; simp
/-- A beginning of a var number is torn. -/
theorem varAt_short (k : Nat) : ∀ (i m v : Nat) (p q : List UInt8), i + k = 4 → varD k v = p ++ q → q ≠ [] → varAt i m p = (0, [], 10) := by
  induction k with
  | zero =>
    intro i m v p q hi h hq
    have hl := congrArg List.length h
    simp only [varD, List.length_cons, List.length_nil, List.length_append] at hl
    have hq1 : 0 < q.length := List.length_pos_iff.2 hq
    obtain rfl : p = [] := List.eq_nil_of_length_eq_zero (by omega)
    rfl
  | succ k ih =>
    intro i m v p q hi h hq
    cases p with
    | nil => rfl
    | cons c p =>
      by_cases hv : v < 128
      · rw [varD_small _ v hv] at h
        have hl := congrArg List.length h
        simp only [List.length_cons, List.length_nil, List.length_append] at hl
        have hq1 : 0 < q.length := List.length_pos_iff.2 hq
        omega
      · rw [varD_great _ v hv, List.cons_append, List.cons.injEq] at h
        obtain ⟨rfl, h⟩ := h
        have hb : (UInt8.ofNat (128 + v % 128)).toNat = 128 + v % 128 := by rw [UInt8.toNat_ofNat']; omega
        rw [varAt, hb, if_neg (by omega), if_neg (by omega)]
        exact ih (i + 1) _ (v / 128) p q (by omega) h hq
theorem varS_short (n : Nat) (p q : List UInt8) (h : varB n = p ++ q) (hq : q ≠ []) : varS p 0 = (0, [], 10) := by
  rw [varS, if_pos rfl]
  exact varAt_short 4 0 0 n p q rfl h hq
theorem split_of_app {a b p q : List UInt8} (h : a ++ b = p ++ q) : (∃ t, t ≠ [] ∧ a = p ++ t) ∨ ∃ t, p = a ++ t ∧ b = t ++ q := by
  rcases List.append_eq_append_iff.1 h with ⟨t, h1, h2⟩ | ⟨t, h1, h2⟩
  · exact .inr ⟨t, h1, h2⟩
  · by_cases ht : t = []
    · subst ht
      simp only [List.append_nil] at h1
      exact .inr ⟨[], by simp [h1], by simpa using h2.symm⟩
    · exact .inl ⟨t, ht, h1⟩
theorem numS_short (k n : Nat) (p q : List UInt8) (h : beB k n = p ++ q) (hq : q ≠ []) : (numS k p 0).2 = ([], 10) := by
  have hl := congrArg List.length h
  rw [beB_len, List.length_append] at hl
  have hq1 : 0 < q.length := List.length_pos_iff.2 hq
  unfold numS
  rw [nextS_short (by omega)]
/-- A beginning of an item is torn. -/
theorem readI_short (x : Item) (p q : List UInt8) (h : encI x = p ++ q) (hq : q ≠ []) (hs : x.s.length ≤ 300) : (readI x p 0).2 = ([], 10) := by
  have hq1 : 0 < q.length := List.length_pos_iff.2 hq
  unfold encI at h
  unfold readI
  split
  · rename_i hk; rw [if_pos hk] at h; exact numS_short 1 _ p q h hq
  rename_i hk; rw [if_neg hk] at h
  split
  · rename_i hk; rw [if_pos hk] at h; exact numS_short 2 _ p q h hq
  rename_i hk; rw [if_neg hk] at h
  split
  · rename_i hk; rw [if_pos hk] at h; exact numS_short 4 _ p q h hq
  rename_i hk; rw [if_neg hk] at h
  split
  · rename_i hk; rw [if_pos hk] at h; rw [varS_short _ p q h hq]
  rename_i hk; rw [if_neg hk] at h
  split
  · rename_i hk; rw [if_pos hk] at h
    have hl := congrArg List.length h
    rw [List.length_append] at hl
    rw [nextS_short (by omega)]
  · rename_i hk; rw [if_neg hk] at h
    unfold textB at h
    unfold textS
    rcases split_of_app h with ⟨t, ht, h1⟩ | ⟨t, rfl, h2⟩
    · rw [varS_short _ p t h1 ht]
      rfl
    · rw [varS_back x.s.length (by omega)]
      have hl := congrArg List.length h2
      rw [List.length_append] at hl
      simp only
      rw [nextS_short (by omega)]
/-- Behind an error nothing is read. -/
theorem nextS_err (n : Nat) {e : Nat} (he : e ≠ 0) : (nextS n [] e).2 = ([], e) := by
  unfold nextS
  split
  · simp
  · first | rfl | rw [if_neg he]
theorem readI_err (x : Item) {e : Nat} (he : e ≠ 0) : (readI x [] e).2 = ([], e) := by
  have hv : varS [] e = (0, [], e) := by rw [varS, if_neg he]
  unfold readI numS textS
  split
  · exact nextS_err _ he
  split
  · exact nextS_err _ he
  split
  · exact nextS_err _ he
  split
  · rw [hv]
  split
  · exact nextS_err _ he
  · rw [hv]; exact nextS_err _ he
/-- What items are written as. -/
def encL (L : List Item) : List UInt8 := L.flatMap encI
/-- What reading items does to what is left and the error. -/
def runL : List Item → List UInt8 → Nat → List UInt8 × Nat
  | [], l, e => (l, e)
  | x :: L, l, e => runL L (readI x l e).2.1 (readI x l e).2.2
theorem runL_err {e : Nat} (he : e ≠ 0) : ∀ L, runL L [] e = ([], e) := by
  intro L
  induction L with
  | nil => rfl
  | cons x L ih => rw [runL, readI_err x he]; exact ih
theorem runL_short (L : List Item) : ∀ (p q : List UInt8), (∀ x ∈ L, x.n < 4294967296 ∧ x.s.length ≤ 300) → encL L = p ++ q → q ≠ [] → runL L p 0 = ([], 10) := by
  induction L with
  | nil => intro p q _ h hq; simp [encL] at h; exact absurd h.2 hq
  | cons x L ih =>
    intro p q hL h hq
    have hx := hL x (by simp)
    rw [encL, List.flatMap_cons] at h
    rw [runL]
    rcases split_of_app h with ⟨t, ht, h1⟩ | ⟨t, rfl, h2⟩
    · rw [readI_short x p t h1 ht hx.2]
      exact runL_err (by decide) L
    · rw [readI_app x t hx.1 hx.2]
      exact ih t q (fun y hy => hL y (by simp [hy])) h2 hq
theorem encL_snoc (L : List Item) (k : Nat) (h : k < L.length) : encL (L.take (k + 1)) = encL (L.take k) ++ encI L[k] := by
  rw [List.take_succ_eq_append_getElem h, encL, encL, List.flatMap_append, List.flatMap_singleton]
theorem encL_drop (L : List Item) (k : Nat) (h : k < L.length) : encL (L.drop k) = encI L[k] ++ encL (L.drop (k + 1)) := by
  rw [List.drop_eq_getElem_cons h, encL, encL, List.flatMap_cons]
theorem encL_len (L : List Item) : ∀ k, (∀ x ∈ L, x.s.length ≤ 300) → L.length ≤ k → (encL L).length ≤ 400 * k := by
  induction L with
  | nil => intro k _ _; simp [encL]
  | cons x L ih =>
    intro k hx hk
    obtain ⟨k, rfl⟩ : ∃ j, k = j + 1 := ⟨k - 1, by simp at hk; omega⟩
    have h1 := ih k (fun y hy => hx y (by simp [hy])) (by simpa using hk)
    have h2 := encI_len x (hx x (by simp))
    rw [encL, List.flatMap_cons, List.length_append]
    rw [encL] at h1
    omega
theorem runL_snoc (L : List Item) : ∀ (k : Nat) (h : k < L.length) (l : List UInt8) (e : Nat), runL (L.take (k + 1)) l e = (readI L[k] (runL (L.take k) l e).1 (runL (L.take k) l e).2).2 := by
  induction L with
  | nil => intro k h; simp at h
  | cons x L ih =>
    intro k h l e
    cases k with
    | zero => simp [runL]
    | succ k =>
      simp only [List.take_succ_cons, runL, List.getElem_cons_succ]
      exact ih k (by simpa using h) _ _
theorem numS_inv {n : Nat} {l : List UInt8} {e : Nat} (h : e ≠ 0 → l = []) : (numS n l e).2.2 ≠ 0 → (numS n l e).2.1 = [] := nextS_inv h
theorem readI_inv (x : Item) {l : List UInt8} {e : Nat} (h : e ≠ 0 → l = []) : (readI x l e).2.2 ≠ 0 → (readI x l e).2.1 = [] := by
  unfold readI
  split
  · exact numS_inv h
  split
  · exact numS_inv h
  split
  · exact numS_inv h
  split
  · exact varS_inv h
  split
  · exact nextS_inv h
  · exact nextS_inv (varS_inv h)
theorem runL_inv (L : List Item) : ∀ (l : List UInt8) (e : Nat), (e ≠ 0 → l = []) → (runL L l e).2 ≠ 0 → (runL L l e).1 = [] := by
  induction L with
  | nil => intro l e h; exact h
  | cons x L ih => intro l e h; exact ih _ _ (readI_inv x h)
end Go.Proofs.Ytlajfmpgodcbmaa
