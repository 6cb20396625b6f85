/- Plain mathematics: what is put is taken; what is taken has that text. No program. No condition. -/
import Derived.Test.YtlajfmpgodcbmaaValM
namespace Go.Proofs.Ytlajfmpgodcbmaa

theorem beB_beN (k : Nat) : ∀ t : List UInt8, t.length = k → beB k (beN t) = t := by
  induction k with
  | zero => intro t h; rw [List.eq_nil_of_length_eq_zero h]; rfl
  | succ k ih =>
    intro t h
    obtain ⟨l, b, rfl⟩ : ∃ l b, t = l ++ [b] := ⟨t.dropLast, t.getLast (fun e => by rw [e] at h; cases h), (List.dropLast_concat_getLast _).symm⟩
    have hl : l.length = k := by simpa using h
    have hb := b.toNat_lt
    rw [beN_snoc, beB, show (256 * beN l + b.toNat) / 256 = beN l by omega, ih l hl]
    congr 2
    apply UInt8.toNat_inj.1
    rw [UInt8.toNat_ofNat']
    omega
theorem nextS_back {n : Nat} {l t r : List UInt8} {e : Nat} (h : nextS n l e = (t, r, 0)) : e = 0 ∧ l = t ++ r ∧ t.length = n := by
  unfold nextS at h
  split at h
  case isTrue hn => cases h; exact ⟨rfl, (List.take_append_drop n l).symm, by rw [List.length_take]; omega⟩
  case isFalse hn =>
    split at h
    · simp at h
    · rename_i he; simp at h; exact absurd h.2.2 he
theorem numS_back {k n : Nat} {l r : List UInt8} {e : Nat} (h : numS k l e = (n, r, 0)) : e = 0 ∧ l = beB k n ++ r := by
  unfold numS at h
  obtain ⟨t, l2, e2, hx⟩ : ∃ t l2 e2, nextS k l e = (t, l2, e2) := ⟨_, _, _, rfl⟩
  rw [hx] at h
  cases h
  obtain ⟨h1, h2, h3⟩ := nextS_back hx
  exact ⟨h1, by rw [beB_beN k t h3]; exact h2⟩
theorem idsS_app (r : List UInt8) : ∀ l : List Nat, (∀ x ∈ l, x < 4294967296) → idsS l.length (idsB l ++ r) 0 = (l, r, 0) := by
  intro l
  induction hn : l.length generalizing l r with
  | zero => intro _; rw [List.eq_nil_of_length_eq_zero hn]; rfl
  | succ k ih =>
    intro hf
    obtain ⟨m, x, rfl⟩ : ∃ m x, l = m ++ [x] := ⟨l.dropLast, l.getLast (fun e => by rw [e] at hn; cases hn), (List.dropLast_concat_getLast _).symm⟩
    have hm : m.length = k := by simpa using hn
    rw [idsB_snoc, List.append_assoc, idsS, ih (beB 4 x ++ r) m hm (fun y hy => hf y (List.mem_append_left _ hy))]
    dsimp only
    rw [numS_app 4 x (hf x (by simp)) r]
theorem idsS_back (k : Nat) : ∀ (l : List UInt8) (e : Nat) (I : List Nat) (r : List UInt8), idsS k l e = (I, r, 0) → e = 0 ∧ l = idsB I ++ r := by
  induction k with
  | zero => intro l e I r h; cases h; exact ⟨rfl, rfl⟩
  | succ k ih =>
    intro l e I r h
    rw [idsS] at h
    obtain ⟨J, l2, e2, hx⟩ : ∃ J l2 e2, idsS k l e = (J, l2, e2) := ⟨_, _, _, rfl⟩
    rw [hx] at h
    dsimp only at h
    obtain ⟨n, l3, e3, hy⟩ : ∃ n l3 e3, numS 4 l2 e2 = (n, l3, e3) := ⟨_, _, _, rfl⟩
    rw [hy] at h
    cases h
    obtain ⟨h1, h2⟩ := numS_back hy
    subst h1
    obtain ⟨h3, h4⟩ := ih l e J l2 hx
    exact ⟨h3, by rw [idsB_snoc, List.append_assoc, ← h2]; exact h4⟩
theorem headS_app (d : Bool) (n : Nat) (r : List UInt8) (hn : n ≤ 256) (hd : d = true → n = 0) : headS (headB d n ++ r) 0 = ((d, n, 0), r, 0) := by
  cases d with
  | true =>
    obtain rfl := hd rfl
    have h1 : numS 1 (headB true 0 ++ r) 0 = (1, r, 0) := numS_app 1 1 (by decide) r
    unfold headS
    rw [h1]
    simp
  | false =>
    have h1 : numS 1 (headB false n ++ r) 0 = (0, beB 2 n ++ r, 0) := by
      have := numS_app 1 0 (by decide) (beB 2 n ++ r)
      rw [← List.append_assoc] at this
      exact this
    have h2 := numS_app 2 n (by omega) r
    unfold headS
    rw [h1]
    simp only [if_true]
    rw [h2]
    simp
    omega
theorem headS_back {l r : List UInt8} {e e' : Nat} {d : Bool} {n : Nat} (h : headS l e = ((d, n, 0), r, e')) : e = 0 ∧ e' = 0 ∧ l = headB d n ++ r ∧ n ≤ 256 ∧ (d = true → n = 0) := by
  unfold headS at h
  obtain ⟨k, l1, e1, hx⟩ : ∃ k l1 e1, numS 1 l e = (k, l1, e1) := ⟨_, _, _, rfl⟩
  rw [hx] at h
  dsimp only at h
  by_cases hk : k = 0
  · subst hk
    rw [if_pos rfl] at h
    obtain ⟨m, l2, e2, hy⟩ : ∃ m l2 e2, numS 2 l1 e1 = (m, l2, e2) := ⟨_, _, _, rfl⟩
    rw [hy] at h
    dsimp only at h
    by_cases he : e2 = 0
    · subst he
      rw [if_neg (by simp)] at h
      by_cases hm : 1 < 0 ∨ 256 < m
      · rw [if_pos hm] at h; cases h
      · rw [if_neg hm] at h
        cases h
        obtain ⟨h1, h2⟩ := numS_back hy
        subst h1
        obtain ⟨h3, h4⟩ := numS_back hx
        refine ⟨h3, rfl, ?_, by omega, by simp⟩
        rw [h4, h2]
        simp [headB]
    · rw [if_pos he] at h
      simp at h
      exact absurd h.1.2.2 he
  · rw [if_neg hk] at h
    dsimp only at h
    by_cases he : e1 = 0
    · subst he
      rw [if_neg (by simp)] at h
      by_cases hm : 1 < k ∨ 256 < 0
      · rw [if_pos hm] at h; cases h
      · rw [if_neg hm] at h
        have hk1 : k = 1 := by omega
        subst hk1
        simp at h
        obtain ⟨⟨rfl, rfl⟩, rfl, rfl⟩ := h
        obtain ⟨h3, h4⟩ := numS_back hx
        exact ⟨h3, rfl, h4, by omega, by simp⟩
    · rw [if_pos he] at h
      simp at h
      exact absurd h.1.2.2 he
theorem takeV_app (d : Bool) (s : Int) (l : List Nat) (r : List UInt8) (hok : okV d s l = true) (hf : ∀ x ∈ l, x < 4294967296) : takeV (headB d s.toNat ++ idsB l ++ r) 0 = ((d, s.toNat, l, 0), r, 0) := by
  obtain ⟨h1, h2, h3, h4⟩ := okV_iff hok
  have hs : ((s.toNat : Nat) : Int) = s := by omega
  have hh := headS_app d s.toNat (idsB l ++ r) (by cases d <;> simp [most] at h2 <;> omega) (fun e => by subst e; simp [most] at h2; omega)
  unfold takeV
  rw [List.append_assoc, hh]
  simp only [ne_eq, not_true_eq_false, if_false, hs]
  rw [← h3, idsS_app r l hf]
  simp [hok]
theorem takeC_app (d : Bool) (t r : List UInt8) (hok : t.length ≤ most d) : takeC (headB d t.length ++ t ++ r) 0 = ((d, t, 0), r, 0) := by
  have hh := headS_app d t.length (t ++ r) (by cases d <;> simp [most] at hok <;> simp_all) (fun e => by subst e; simp [most] at hok; simp [hok])
  unfold takeC
  rw [List.append_assoc, hh]
  simp only [ne_eq, not_true_eq_false, if_false]
  rw [nextS_app t r 0]
  simp
theorem takeV_back {l r : List UInt8} {e : Nat} {d : Bool} {n : Nat} {I : List Nat} (h : takeV l 0 = ((d, n, I, 0), r, e)) : okV d n I = true ∧ l = headB d n ++ idsB I ++ r := by
  unfold takeV at h
  obtain ⟨d', n', x, l1, e1, hx⟩ : ∃ d' n' x l1 e1, headS l 0 = ((d', n', x), l1, e1) := ⟨_, _, _, _, _, rfl⟩
  rw [hx] at h
  dsimp only at h
  by_cases hx0 : x = 0
  · subst hx0
    rw [if_neg (by simp)] at h
    obtain ⟨_, rfl, h2, h3, h4⟩ := headS_back hx
    obtain ⟨J, l2, e2, hy⟩ : ∃ J l2 e2, idsS (count n') l1 0 = (J, l2, e2) := ⟨_, _, _, rfl⟩
    rw [hy] at h
    dsimp only at h
    by_cases he : e2 = 0
    · subst he
      rw [if_neg (by simp)] at h
      cases hok : okV d' n' J with
      | false => rw [hok] at h; simp at h
      | true =>
        rw [hok] at h
        simp at h
        obtain ⟨⟨rfl, rfl, rfl⟩, rfl, _⟩ := h
        obtain ⟨_, h6⟩ := idsS_back _ _ _ _ _ hy
        exact ⟨hok, by rw [h2, h6, List.append_assoc]⟩
    · rw [if_pos he] at h
      simp at h
      exact absurd h.1.2.2.2 he
  · rw [if_pos hx0] at h
    simp at h
    exact absurd h.1.2.2.2 hx0
theorem takeC_back {l r t : List UInt8} {e : Nat} {d : Bool} (h : takeC l 0 = ((d, t, 0), r, e)) : t.length ≤ most d ∧ l = headB d t.length ++ t ++ r := by
  unfold takeC at h
  obtain ⟨d', n', x, l1, e1, hx⟩ : ∃ d' n' x l1 e1, headS l 0 = ((d', n', x), l1, e1) := ⟨_, _, _, _, _, rfl⟩
  rw [hx] at h
  dsimp only at h
  by_cases hx0 : x = 0
  · subst hx0
    rw [if_neg (by simp)] at h
    obtain ⟨_, rfl, h2, h3, h4⟩ := headS_back hx
    obtain ⟨J, l2, e2, hy⟩ : ∃ J l2 e2, nextS n' l1 0 = (J, l2, e2) := ⟨_, _, _, rfl⟩
    rw [hy] at h
    dsimp only at h
    by_cases he : e2 = 0
    · subst he
      rw [if_neg (by simp)] at h
      simp at h
      obtain ⟨⟨rfl, rfl⟩, rfl, _⟩ := h
      obtain ⟨_, h6, h7⟩ := nextS_back hy
      subst h7
      exact ⟨by cases d' <;> simp [most] at * <;> first | omega | exact h4, by rw [h2, h6, List.append_assoc]⟩
    · rw [if_pos he] at h
      simp at h
      exact absurd h.1.2.2 he
  · rw [if_pos hx0] at h
    simp at h
    exact absurd h.1.2.2 hx0
end Go.Proofs.Ytlajfmpgodcbmaa
