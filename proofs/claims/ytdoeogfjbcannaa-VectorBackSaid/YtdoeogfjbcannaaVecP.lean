/- Plain words: what is put is taken as what it was; what is taken was put so. Of no program. -/
import Derived.Test.YtdoeogfjbcannaaVecI
import Derived.Test.YtdoeogfjbcannaaBackM
namespace Go.Proofs.Ytdoeogfjbcannaa
open Go.RowKit

theorem mx_congr {f g : Nat → Nat} : ∀ k, (∀ j, j < k → f j = g j) → mx f k = mx g k := by
  intro k
  induction k with
  | zero => intro _; rfl
  | succ k ih =>
    intro h
    simp only [mx]
    rw [ih fun j hj => h j (by omega), h k (by omega)]
theorem mk8_congr' {f g : Nat → Nat} : ∀ k, (∀ j, j < k → f j = g j) → mk8 f k = mk8 g k := by
  intro k
  induction k with
  | zero => intro _; rfl
  | succ k ih =>
    intro h
    simp only [mk8]
    rw [ih fun j hj => h j (by omega), h k (by omega)]
theorem putB_congr {f g : Nat → Nat} : ∀ k, (∀ j, j < k → f j = g j) → putB f k = putB g k := by
  intro k
  induction k with
  | zero => intro _; rfl
  | succ k ih =>
    intro h
    simp only [putB]
    rw [ih fun j hj => h j (by omega), h k (by omega)]

theorem mk8_bit (f : Nat → Nat) : ∀ K k, k < K → mk8 f K / 2 ^ k % 2 = if 0 < f k then 1 else 0 := by
  intro K
  induction K with
  | zero => intro k h; omega
  | succ K ih =>
    intro k hk
    by_cases e : k = K
    · subst e
      have hlt := mk8_lt f k
      have hp : 0 < 2 ^ k := Nat.pow_pos (by omega)
      simp only [mk8]
      split
      · rw [Nat.add_div_right _ hp, Nat.div_eq_of_lt hlt]
      · rw [Nat.div_eq_of_lt hlt]
    · have hkK : k < K := by omega
      have h := ih k hkK
      simp only [mk8]
      split
      · have hp : 0 < 2 ^ k := Nat.pow_pos (by omega)
        obtain ⟨d, hd⟩ : ∃ d, K = k + (d + 1) := ⟨K - k - 1, by omega⟩
        have e2 : 2 ^ K = 2 ^ k * (2 * 2 ^ d) := by rw [hd, Nat.pow_add, Nat.pow_succ, Nat.mul_comm (2 ^ d) 2]
        rw [e2, Nat.add_mul_div_left _ _ hp, Nat.add_mul_mod_self_left, h]
      · exact h

/-- The texts of n numbers from k on. -/
def tailB (f : Nat → Nat) : Nat → Nat → List UInt8
  | _, 0 => []
  | k, n + 1 => (if 0 < f k then varB (f k) else []) ++ tailB f (k + 1) n
theorem putB_tail (f : Nat → Nat) : ∀ n k, putB f (k + n) = putB f k ++ tailB f k n := by
  intro n
  induction n with
  | zero => intro k; simp [tailB]
  | succ n ih =>
    intro k
    rw [show k + (n + 1) = k + 1 + n by omega, ih (k + 1)]
    simp only [putB, tailB]
    split <;> simp
/-- The first k numbers of f. -/
def cut8 (f : Nat → Nat) (k : Nat) : Nat → Nat := fun j => if j < k then f j else 0
theorem rdV_back (f : Nat → Nat) (hf : Fit8 f) (t : List UInt8) : ∀ k, k ≤ 8 → rdV (mk8 f 8) (putB f 8 ++ t) 0 k = (cut8 f k, tailB f k (8 - k) ++ t, 0) := by
  intro k
  induction k with
  | zero =>
    intro _
    have h := putB_tail f 8 0
    rw [show 0 + 8 = 8 from rfl, show putB f 0 = [] from rfl, List.nil_append] at h
    show ((fun _ => 0), putB f 8 ++ t, 0) = (cut8 f 0, tailB f 0 8 ++ t, 0)
    rw [h]
    refine Prod.ext ?_ rfl
    funext j
    simp [cut8]
  | succ k ih =>
    intro hk
    have h := ih (by omega)
    have hb := mk8_bit f 8 k (by omega)
    obtain ⟨d, hd⟩ : ∃ d, 8 - k = d + 1 := ⟨8 - k - 1, by omega⟩
    have hd2 : 8 - (k + 1) = d := by omega
    rw [hd] at h
    simp only [rdV]
    rw [h, hd2, hb]
    by_cases h0 : 0 < f k
    · have hv : varS (varB (f k) ++ (tailB f (k + 1) d ++ t)) 0 = (f k, tailB f (k + 1) d ++ t, 0) := varS_back (f k) (hf k (by omega)) _
      simp only [tailB, if_pos h0, if_true, List.append_assoc]
      rw [hv]
      refine Prod.ext ?_ rfl
      funext j
      simp only [upd8, cut8]
      by_cases e : j = k
      · subst e; simp
      · by_cases h2 : j < k
        · rw [if_neg e, if_pos h2, if_pos (by omega)]
        · rw [if_neg e, if_neg h2, if_neg (by omega)]
    · have h00 : f k = 0 := by omega
      simp only [tailB, if_neg h0, List.nil_append]
      rw [if_neg (by omega)]
      refine Prod.ext ?_ rfl
      funext j
      simp only [cut8]
      by_cases e : j = k
      · subst e; simp [h00]
      · by_cases h2 : j < k
        · rw [if_pos h2, if_pos (by omega)]
        · rw [if_neg h2, if_neg (by omega)]
theorem take_back (f : Nat → Nat) (hf : Fit8 f) (hx : mx f 8 ≤ 65535) (t : List UInt8) : readV (encV f ++ t) 0 = (cut8 f 8, t, 0) ∧ takeS (encV f ++ t) 0 = (cut8 f 8, 0) := by
  have hn : numS 1 (encV f ++ t) 0 = (mk8 f 8, putB f 8 ++ t, 0) := by
    rw [encV, List.append_assoc]
    exact numS_app 1 (mk8 f 8) (by have := mk8_lt f 8; omega) _
  have hr : readV (encV f ++ t) 0 = (cut8 f 8, t, 0) := by
    unfold readV
    rw [hn]
    have h := rdV_back f hf t 8 (Nat.le_refl _)
    simpa [tailB] using h
  refine ⟨hr, ?_⟩
  unfold takeS
  rw [hr, hn]
  have h1 : mk8 (cut8 f 8) 8 = mk8 f 8 := mk8_congr' 8 fun j hj => by simp [cut8, hj]
  have h2 : mx (cut8 f 8) 8 = mx f 8 := mx_congr 8 fun j hj => by simp [cut8, hj]
  simp [judgeV, h1, h2, hx]
theorem eq8_cut (f : Nat → Nat) : eq8 (cut8 f 8) f = true := (eq8_iff _ _).2 fun k hk => by simp [cut8, hk]
theorem takeDot_back (r n : Nat) (hr : r < 256) (hn : n < 4294967296) (hok : okD r n = true) (t : List UInt8) : readD (encD r n ++ t) 0 = ((r, n), t, 0) ∧ takeDS (encD r n ++ t) 0 = ((r, n), 0) := by
  have h1 : numS 1 (encD r n ++ t) 0 = (r, varB n ++ t, 0) := by
    rw [encD, List.append_assoc]
    exact numS_app 1 r (by omega) _
  have h2 := varS_back n hn t
  have hR : readD (encD r n ++ t) 0 = ((r, n), t, 0) := by
    unfold readD
    rw [h1]
    simp only
    rw [h2]
  exact ⟨hR, by unfold takeDS; rw [hR]; simp [judgeD, hok]⟩

/-- An error stays. -/
theorem rdV_err (m : Nat) (l : List UInt8) (e : Nat) (k : Nat) (h : (rdV m l e (k + 1)).2.2 = 0) : (rdV m l e k).2.2 = 0 := by
  simp only [rdV] at h
  split at h
  · simp only [varS] at h
    split at h
    · assumption
    · exact h
  · exact h
theorem rdV_put (m : Nat) (l : List UInt8) : ∀ k, (rdV m l 0 k).2.2 = 0 → (∀ j, j < k → m / 2 ^ j % 2 = 1 → 0 < (rdV m l 0 k).1 j) → l = putB (rdV m l 0 k).1 k ++ (rdV m l 0 k).2.1 := by
  intro k
  induction k with
  | zero => intro _ _; simp [rdV, putB]
  | succ k ih =>
    intro he hpos
    have he0 := rdV_err m l 0 k he
    have hz : (rdV m l 0 k).1 k = 0 := by
      have : ∀ K j, K ≤ j → (rdV m l 0 K).1 j = 0 := by
        intro K
        induction K with
        | zero => intro j _; rfl
        | succ K ih2 =>
          intro j hj
          simp only [rdV]
          split
          · simp only [upd8]
            rw [if_neg (by omega)]
            exact ih2 j (by omega)
          · exact ih2 j (by omega)
      exact this k k (Nat.le_refl _)
    have hsame : ∀ j, j < k → (rdV m l 0 (k + 1)).1 j = (rdV m l 0 k).1 j := fun j hj => by
      simp only [rdV]
      split
      · simp only [upd8]; rw [if_neg (by omega)]
      · rfl
    have h1 := ih he0 fun j hj hb => by rw [← hsame j hj]; exact hpos j (by omega) hb
    have hc := putB_congr k hsame
    by_cases hb : m / 2 ^ k % 2 = 1
    · have hr : rdV m l 0 (k + 1) = (upd8 (rdV m l 0 k).1 k (varS (rdV m l 0 k).2.1 0).1, (varS (rdV m l 0 k).2.1 0).2) := by
        simp only [rdV, hb, if_true]
        rw [he0]
      have hv : (rdV m l 0 (k + 1)).1 k = (varS (rdV m l 0 k).2.1 0).1 := by rw [hr]; simp [upd8]
      have hp := hpos k (by omega) hb
      simp only [putB]
      rw [if_pos hp, hc, hv]
      have e3 : (varS (rdV m l 0 k).2.1 0).2.2 = 0 := by rw [hr] at he; exact he
      have e4 : (rdV m l 0 (k + 1)).2.1 = (varS (rdV m l 0 k).2.1 0).2.1 := by rw [hr]
      have h5 := (varS_read (l := (rdV m l 0 k).2.1) (n := (varS (rdV m l 0 k).2.1 0).1) (r := (varS (rdV m l 0 k).2.1 0).2.1) (by
        generalize varS (rdV m l 0 k).2.1 0 = q at e3
        obtain ⟨q1, q2, q3⟩ := q
        simp only at e3
        rw [e3])).1
      rw [e4, List.append_assoc, h5]
      exact h1
    · have hr : rdV m l 0 (k + 1) = rdV m l 0 k := by simp [rdV, hb]
      simp only [putB]
      rw [hr, hz, if_neg (by omega)]
      exact h1
theorem takeS_fit (l : List UInt8) (e : Nat) : Fit8 (takeS l e).1 := fun k _ => by
  unfold takeS judgeV
  split
  · show 0 < 4294967296
    omega
  · split
    · exact rdV_fit _ _ _ 8 k
    · show 0 < 4294967296
      omega
theorem take_put (s : List UInt8) (h : (takeS s 0).2 = 0) : putS (takeS s 0).1 = (encV (takeS s 0).1, 0) ∧ encV (takeS s 0).1 ++ (readV s 0).2.1 = s := by
  have h0 := h
  unfold takeS judgeV at h
  by_cases he : (readV s 0).2.2 = 0
  · simp only [he, ne_eq, not_true, if_false] at h
    by_cases hg : mk8 (readV s 0).1 8 = (numS 1 s 0).1 ∧ mx (readV s 0).1 8 ≤ 65535
    · have hT : takeS s 0 = ((readV s 0).1, 0) := by unfold takeS judgeV; simp [he, hg]
      rw [hT]
      refine ⟨by simp [putS, hg.2], ?_⟩
      cases s with
      | nil => exact absurd he (by decide)
      | cons c s =>
        have hn : numS 1 (c :: s) 0 = (c.toNat, s, 0) := by
          unfold numS nextS
          simp [beN]
        have hR : readV (c :: s) 0 = rdV c.toNat s 0 8 := by unfold readV; rw [hn]
        rw [hR] at he hg ⊢
        rw [hn] at hg
        simp only at hg
        have hp := rdV_put c.toNat s 8 he fun j hj hb => by
          have := mk8_bit (rdV c.toNat s 0 8).1 8 j hj
          rw [hg.1, hb] at this
          by_cases h2 : 0 < (rdV c.toNat s 0 8).1 j
          · exact h2
          · rw [if_neg h2] at this; cases this
        have hb1 : beB 1 c.toNat = [c] := by simp [beB]
        simp only [encV]
        rw [hg.1, hb1, List.append_assoc, ← hp]
        rfl
    · rw [if_neg hg] at h
      cases h
  · simp [he] at h
end Go.Proofs.Ytdoeogfjbcannaa
