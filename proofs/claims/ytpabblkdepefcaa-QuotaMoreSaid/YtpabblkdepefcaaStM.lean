/- A stable sort's mathematics, of no program: what is rotated, what is merged, what an insertion sort makes of elements of which the first ones came first. No condition. -/
import Derived.Sort.LotA
namespace Go.Proofs.Ytpabblkdepefcaa
open Go.Sort
section
variable {α : Type} [Inhabited α]
/-- What is rotated: [m, e) stands ahead of [s, m). -/
def Rot (s m e : Nat) (d d' : Array α) : Prop := d'.size = d.size ∧ ∀ p, d'[p]! = if s ≤ p ∧ p < s + (e - m) then d[p + (m - s)]! else if s + (e - m) ≤ p ∧ p < e then d[p - (e - m)]! else d[p]!
theorem Rot.none1 (m e : Nat) (d : Array α) : Rot m m e d d := ⟨rfl, fun p => by
  by_cases h : m ≤ p ∧ p < m + (e - m)
  · rw [if_pos h]; congr 1; omega
  · rw [if_neg h, if_neg (by omega)]⟩
theorem Rot.none2 (s m : Nat) (d : Array α) : Rot s m m d d := ⟨rfl, fun p => by
  rw [if_neg (by omega)]
  by_cases h : s + (m - m) ≤ p ∧ p < m
  · rw [if_pos h]; congr 1; omega
  · rw [if_neg h]⟩
/-- Two stretches of n, apart, that changed their places. -/
def SwR (a b n : Nat) (d d' : Array α) : Prop := d'.size = d.size ∧ ∀ p, d'[p]! = if a ≤ p ∧ p < a + n then d[p + (b - a)]! else if b ≤ p ∧ p < b + n then d[p - (b - a)]! else d[p]!
theorem SwR.zero (a b : Nat) (d : Array α) : SwR a b 0 d d := ⟨rfl, fun p => by rw [if_neg (by omega), if_neg (by omega)]⟩
theorem SwR.step {a b n : Nat} {d d' : Array α} (h : SwR a b n d d') (hab : a + (n + 1) ≤ b) (hb : b + (n + 1) ≤ d.size) : SwR a b (n + 1) d (swp d' (a + n) (b + n)) := by
  have hs := h.1
  refine ⟨by rw [size_swp]; exact hs, fun p => ?_⟩
  rw [swp_get d' (by omega) (by omega), h.2, h.2, h.2]
  by_cases h1 : p = b + n
  · subst h1
    rw [if_pos rfl, if_neg (by omega), if_neg (by omega), if_neg (by omega), if_pos (by omega)]
    congr 1; omega
  · rw [if_neg h1]
    by_cases h2 : p = a + n
    · subst h2
      rw [if_pos rfl, if_neg (by omega), if_neg (by omega), if_pos (by omega)]
      congr 1; omega
    · rw [if_neg h2]
      by_cases h3 : a ≤ p ∧ p < a + n
      · rw [if_pos h3, if_pos (by omega)]
      · rw [if_neg h3, if_neg (show ¬ (a ≤ p ∧ p < a + (n + 1)) by omega)]
        by_cases h4 : b ≤ p ∧ p < b + n
        · rw [if_pos h4, if_pos (by omega)]
        · rw [if_neg h4, if_neg (by omega)]
/-- The first element is moved up by one more place. -/
theorem Rot.up {a k : Nat} {d d' : Array α} (h : Rot a (a + 1) (k + 1) d d') (hak : a ≤ k) (hk : k + 1 < d.size) : Rot a (a + 1) (k + 2) d (swp d' k (k + 1)) := by
  have hs := h.1
  refine ⟨by rw [size_swp]; exact hs, fun p => ?_⟩
  rw [swp_get d' (by omega) (by omega), h.2, h.2, h.2]
  by_cases h1 : p = k + 1
  · subst h1
    rw [if_pos rfl, if_neg (by omega), if_pos (by omega), if_neg (by omega), if_pos (by omega)]
    congr 1; omega
  · rw [if_neg h1]
    by_cases h2 : p = k
    · subst h2
      rw [if_pos rfl, if_neg (by omega), if_neg (by omega), if_pos (by omega)]
      congr 1; omega
    · rw [if_neg h2]
      by_cases h3 : a ≤ p ∧ p < a + (k + 1 - (a + 1))
      · rw [if_pos h3, if_pos (by omega)]
      · rw [if_neg h3, if_neg (show ¬ (a + (k + 1 - (a + 1)) ≤ p ∧ p < k + 1) by omega), if_neg (by omega), if_neg (by omega)]
/-- The last element is moved down by one more place. -/
theorem Rot.down {k m : Nat} {d d' : Array α} (h : Rot (k + 1) m (m + 1) d d') (hkm : k + 1 ≤ m) (hm : m < d.size) : Rot k m (m + 1) d (swp d' (k + 1) k) := by
  have hs := h.1
  refine ⟨by rw [size_swp]; exact hs, fun p => ?_⟩
  rw [swp_get d' (by omega) (by omega), h.2, h.2, h.2]
  by_cases h1 : p = k
  · subst h1
    rw [if_pos rfl, if_pos (by omega), if_pos (by omega)]
    congr 1; omega
  · rw [if_neg h1]
    by_cases h2 : p = k + 1
    · subst h2
      rw [if_pos rfl, if_neg (by omega), if_neg (by omega), if_neg (by omega), if_pos (by omega)]
      congr 1; omega
    · rw [if_neg h2]
      by_cases h3 : k + 1 + (m + 1 - m) ≤ p ∧ p < m + 1
      · rw [if_neg (by omega), if_pos h3, if_neg (by omega), if_pos (by omega)]
      · rw [if_neg (by omega), if_neg h3, if_neg (by omega), if_neg (by omega)]
/-- A rotation by blocks: the shorter one changes its place with the far end. -/
theorem Rot.left {m i j : Nat} {d e r : Array α} (h : SwR (m - i) m j d e) (hij : j < i) (hi : i ≤ m) (hr : Rot (m - (i - j)) m (m + j) e r) : Rot (m - i) m (m + j) d r := by
  refine ⟨hr.1.trans h.1, fun p => ?_⟩
  rw [hr.2, h.2, h.2, h.2]
  by_cases h1 : m - i ≤ p ∧ p < m - i + j
  · rw [if_neg (show ¬ (m - (i - j) ≤ p ∧ p < m - (i - j) + (m + j - m)) by omega), if_neg (show ¬ (m - (i - j) + (m + j - m) ≤ p ∧ p < m + j) by omega), if_pos h1, if_pos (show m - i ≤ p ∧ p < m - i + (m + j - m) by omega)]
  · by_cases h2 : m - (i - j) ≤ p ∧ p < m - (i - j) + (m + j - m)
    · rw [if_pos h2, if_neg (by omega), if_pos (by omega), if_neg (by omega), if_pos (by omega)]
      congr 1; omega
    · rw [if_neg h2]
      by_cases h3 : m - (i - j) + (m + j - m) ≤ p ∧ p < m + j
      · rw [if_pos h3, if_neg (by omega), if_neg (by omega), if_neg (by omega), if_pos (by omega)]
      · rw [if_neg h3, if_neg (by omega), if_neg (by omega), if_neg (by omega), if_neg (by omega)]
theorem Rot.right {m i j : Nat} {d e r : Array α} (h : SwR (m - i) (m + j - i) i d e) (hij : i < j) (hi : i ≤ m) (hr : Rot (m - i) m (m + (j - i)) e r) : Rot (m - i) m (m + j) d r := by
  refine ⟨hr.1.trans h.1, fun p => ?_⟩
  rw [hr.2, h.2, h.2, h.2]
  by_cases h1 : m - i ≤ p ∧ p < m - i + (m + (j - i) - m)
  · rw [if_pos h1, if_neg (by omega), if_neg (by omega), if_pos (by omega)]
  · rw [if_neg h1]
    by_cases h2 : m - i + (m + (j - i) - m) ≤ p ∧ p < m + (j - i)
    · rw [if_pos h2, if_pos (by omega)]
      by_cases h3 : p < m - i + (m + j - m)
      · rw [if_pos (by omega)]; congr 1; omega
      · omega
    · rw [if_neg h2]
      by_cases h3 : m + j - i ≤ p ∧ p < m + j - i + i
      · rw [if_neg (show ¬ (m - i ≤ p ∧ p < m - i + i) by omega), if_pos h3, if_neg (by omega), if_pos (by omega)]
        congr 1; omega
      · rw [if_neg (show ¬ (m - i ≤ p ∧ p < m - i + i) by omega), if_neg h3, if_neg (by omega), if_neg (by omega)]
theorem Rot.even {m i : Nat} {d e : Array α} (h : SwR (m - i) m i d e) (hi : i ≤ m) : Rot (m - i) m (m + i) d e := by
  refine ⟨h.1, fun p => ?_⟩
  rw [h.2]
  by_cases h1 : m - i ≤ p ∧ p < m - i + i
  · rw [if_pos h1, if_pos (by omega)]
  · rw [if_neg h1, if_neg (show ¬ (m - i ≤ p ∧ p < m - i + (m + i - m)) by omega)]
    by_cases h2 : m ≤ p ∧ p < m + i
    · rw [if_pos h2, if_pos (by omega)]; congr 1; omega
    · rw [if_neg h2, if_neg (by omega)]

variable {lt lt1 : α → α → Bool} {og : α → α → Prop}
/-- All of [a, b) is not behind all of [c, e). -/
def Ahd (lt : α → α → Bool) (a b c e : Nat) (d : Array α) : Prop := ∀ i j, a ≤ i → i < b → c ≤ j → j < e → lt d[j]! d[i]! = false
/-- All of [a, m) came ahead of all of [m, b). -/
def Og (og : α → α → Prop) (a m b : Nat) (d : Array α) : Prop := ∀ i j, a ≤ i → i < m → m ≤ j → j < b → og d[i]! d[j]!
theorem sorted_join {a m b : Nat} {d : Array α} (h1 : SortedIn lt a m d) (h2 : SortedIn lt m b d) (h3 : Ahd lt a m m b d) : SortedIn lt a b d := by
  intro i j hi hij hj
  by_cases hm : j < m
  · exact h1 i j hi hij hm
  · by_cases him : i < m
    · exact h3 i j hi him (by omega) hj
    · exact h2 i j (by omega) hij hj
/-- Two that are sorted, and the first one's came first. -/
structure Two (lt : α → α → Bool) (og : α → α → Prop) (a m b : Nat) (d : Array α) : Prop where
  one : SortedIn lt a m d
  two : SortedIn lt m b d
  og : Og og a m b d
theorem Two.keep {a m b : Nat} {d d' : Array α} (h : Two lt og a m b d) (he : ∀ p, a ≤ p → p < b → d'[p]! = d[p]!) (hm : m ≤ b) (ham : a ≤ m) : Two lt og a m b d' :=
  ⟨fun i j hi hij hj => by rw [he i hi (by omega), he j (by omega) (by omega)]; exact h.one i j hi hij hj,
   fun i j hi hij hj => by rw [he i (by omega) (by omega), he j (by omega) (by omega)]; exact h.two i j hi hij hj,
   fun i j hi hij hj hjb => by rw [he i hi (by omega), he j (by omega) hjb]; exact h.og i j hi hij hj hjb⟩
/-- The rotated parts: two to be merged on each side, and all of the first side not behind the other one's. -/
theorem Two.parts (hS : SWO lt) {a s m e b mid : Nat} {d r : Array α} (h : Two lt og a m b d) (has : a ≤ s) (hsm : s ≤ m) (hme : m ≤ e) (heb : e ≤ b) (hmid : mid = s + (e - m)) (hr : Rot s m e d r)
    (h1 : s = a ∨ e = b ∨ lt d[e]! d[s - 1]! = false) (h2 : s = m ∨ e = m ∨ lt d[e - 1]! d[s]! = true) : Two lt og a s mid r ∧ Two lt og mid e b r ∧ Ahd lt a mid mid b r := by
  subst hmid
  have r0 : ∀ p, p < s → r[p]! = d[p]! := fun p hp => by rw [hr.2, if_neg (by omega), if_neg (by omega)]
  have r1 : ∀ p, s ≤ p → p < s + (e - m) → r[p]! = d[p + (m - s)]! := fun p hp hq => by rw [hr.2, if_pos ⟨hp, hq⟩]
  have r2 : ∀ p, s + (e - m) ≤ p → p < e → r[p]! = d[p - (e - m)]! := fun p hp hq => by rw [hr.2, if_neg (by omega), if_pos ⟨hp, hq⟩]
  have r3 : ∀ p, e ≤ p → r[p]! = d[p]! := fun p hp => by rw [hr.2, if_neg (by omega), if_neg (by omega)]
  have le_ : ∀ i j, a ≤ i → i ≤ j → j < m → lt d[j]! d[i]! = false := fun i j hi hij hj => by
    rcases Nat.lt_or_eq_of_le hij with hlt | rfl
    · exact h.one i j hi hlt hj
    · exact hS.irrefl _
  have le2 : ∀ i j, m ≤ i → i ≤ j → j < b → lt d[j]! d[i]! = false := fun i j hi hij hj => by
    rcases Nat.lt_or_eq_of_le hij with hlt | rfl
    · exact h.two i j hi hlt hj
    · exact hS.irrefl _
  refine ⟨⟨?_, ?_, ?_⟩, ⟨?_, ?_, ?_⟩, ?_⟩
  · intro i j hi hij hj
    rw [r0 i (by omega), r0 j hj]; exact h.one i j hi hij (by omega)
  · intro i j hi hij hj
    rw [r1 i hi (by omega), r1 j (by omega) hj]; exact h.two _ _ (by omega) (by omega) (by omega)
  · intro i j hi his hj hjm
    rw [r0 i his, r1 j hj hjm]; exact h.og _ _ hi (by omega) (by omega) (by omega)
  · intro i j hi hij hj
    rw [r2 i hi (by omega), r2 j (by omega) hj]; exact h.one _ _ (by omega) (by omega) (by omega)
  · intro i j hi hij hj
    rw [r3 i hi, r3 j (by omega)]; exact h.two _ _ (by omega) hij hj
  · intro i j hi hie hj hjb
    rw [r2 i hi hie, r3 j hj]; exact h.og _ _ (by omega) (by omega) (by omega) hjb
  · intro i j hi him hj hjb
    by_cases his : i < s
    · rw [r0 i his]
      by_cases hje : j < e
      · rw [r2 j hj hje]; exact h.one _ _ hi (by omega) (by omega)
      · rw [r3 j (by omega)]
        rcases h1 with rfl | rfl | h1
        · omega
        · omega
        · exact hS.ntrans _ _ _ (le2 e j (by omega) (by omega) hjb) (hS.ntrans _ _ _ h1 (le_ i (s - 1) hi (by omega) (by omega)))
    · rw [r1 i (by omega) him]
      by_cases hje : j < e
      · rw [r2 j hj hje]
        rcases h2 with rfl | rfl | h2
        · omega
        · omega
        · exact hS.ntrans _ _ _ (le_ s _ has (by omega) (by omega)) (hS.ntrans _ _ _ (hS.asymmA h2) (le2 _ (e - 1) (by omega) (by omega) (by omega)))
      · rw [r3 j (by omega)]; exact h.two _ _ (by omega) (by omega) hjb
/-- What both sides' merges make. -/
theorem merged {a mid b : Nat} {r d1 d2 : Array α} (hb : b ≤ r.size) (hmb : mid ≤ b) (hA : Ahd lt a mid mid b r) (p1 : PermIn a mid r d1) (s1 : SortedIn lt a mid d1) (p2 : PermIn mid b d1 d2) (s2 : SortedIn lt mid b d2) : SortedIn lt a b d2 := by
  have e1 : ∀ p, mid ≤ p → d1[p]! = r[p]! := fun p hp => p1.2.1 p (.inr hp)
  have e2 : ∀ p, p < mid → d2[p]! = d1[p]! := fun p hp => p2.2.1 p (.inl hp)
  refine sorted_join (m := mid) (fun i j hi hij hj => by rw [e2 i (by omega), e2 j hj]; exact s1 i j hi hij hj) s2 ?_
  intro i j hi him hj hjb
  rw [e2 i him]
  refine permIn_all d1 d2 mid b (fun x => lt x d1[i]! = false) (by rw [p1.1]; exact hb) p2 (fun j hj hjb => ?_) j hj hjb
  rw [e1 j hj]
  exact permIn_all r d1 a mid (fun x => lt r[j]! x = false) (by omega) p1 (fun i hi him => hA i j hi him hj hjb) i hi him

/-- An insertion sort that asks less: of elements the first of which came first it is the whole order's. -/
theorem insInner_eq (hL : ∀ x y, og x y → lt1 y x = lt y x) (a : Nat) : ∀ (j : Nat) (d : Array α), j < d.size → (∀ p, a ≤ p → p < j → og d[p]! d[j]!) → insInner lt1 a j d = insInner lt a j d
  | 0, _, _, _ => rfl
  | j + 1, d, hj, h => by
    unfold insInner
    by_cases hja : j + 1 > a
    · rw [hL _ _ (h j (by omega) (by omega)), insInner_eq hL a j (swp d (j + 1) j) (by rw [size_swp]; omega) (fun p hp hpj => by
        rw [swp_other d _ _ p (by omega) (by omega), swp_right d _ _ (by omega)]
        exact h p hp (by omega))]
    · have e : decide (j + 1 > a) = false := decide_eq_false hja
      rw [e, Bool.false_and, Bool.false_and, if_neg (by simp), if_neg (by simp)]
theorem insInner_perm (a b : Nat) : ∀ (j : Nat) (d : Array α), a ≤ j → j < b → b ≤ d.size → PermIn a b d (insInner lt a j d)
  | 0, d, _, _, _ => permIn_refl d a b
  | j + 1, d, haj, hjb, hb => by
    unfold insInner
    split
    · rename_i hc
      simp only [Bool.and_eq_true, decide_eq_true_eq] at hc
      exact permIn_trans _ _ _ a b (swp_permIn d a b (j + 1) j haj hjb (by omega) (by omega) hb) (insInner_perm a b j _ (by omega) (by omega) (by rw [size_swp]; exact hb))
    · exact permIn_refl d a b
theorem insOuter_eq (hL : ∀ x y, og x y → lt1 y x = lt y x) (a b : Nat) : ∀ (n i : Nat) (d : Array α), b - i = n → a ≤ i → b ≤ d.size → (∀ p q, a ≤ p → p < q → i ≤ q → q < b → og d[p]! d[q]!) → insOuter lt1 a b i d = insOuter lt a b i d := by
  intro n
  induction n with
  | zero =>
    intro i d hn _ _ _
    rw [insOuter.eq_def lt1, insOuter.eq_def lt, if_neg (by omega), if_neg (by omega)]
  | succ n ih =>
    intro i d hn hai hb h
    have hlt : i < b := by omega
    rw [insOuter.eq_def lt1, insOuter.eq_def lt, if_pos hlt, if_pos hlt, insInner_eq hL a i d (by omega) (fun p hp hpi => h p i hp hpi (Nat.le_refl _) hlt)]
    have hP := insInner_perm (lt := lt) a (i + 1) i d hai (by omega) (by omega)
    refine ih (i + 1) _ (by omega) (by omega) (by rw [hP.1]; exact hb) fun p q hp hpq hq hqb => ?_
    rw [hP.2.1 q (.inr (by omega))]
    by_cases hpi : p < i + 1
    · exact permIn_all d _ a (i + 1) (fun x => og x d[q]!) (by omega) hP (fun p hp hpi => h p q hp (by omega) (by omega) hqb) p hp hpi
    · rw [hP.2.1 p (.inr (by omega))]
      exact h p q hp hpq (by omega) hqb
/-- All came in their order. -/
def Came (og : α → α → Prop) (a b : Nat) (d : Array α) : Prop := ∀ p q, a ≤ p → p < q → q < b → og d[p]! d[q]!
theorem insertion_stable (hS : SWO lt) (hL : ∀ x y, og x y → lt1 y x = lt y x) {a b : Nat} {d : Array α} (hab : a ≤ b) (hb : b ≤ d.size) (h : Came og a b d) : PermIn a b d (insertionSort lt1 d a b) ∧ SortedIn lt a b (insertionSort lt1 d a b) := by
  have e : insertionSort lt1 d a b = insertionSort lt d a b := by
    unfold insertionSort
    exact insOuter_eq hL a b _ (a + 1) d rfl (by omega) hb fun p q hp hpq _ hqb => h p q hp hpq hqb
  rw [e]
  exact insertionSort_holds hS d a b hab hb
end
end Go.Proofs.Ytpabblkdepefcaa
