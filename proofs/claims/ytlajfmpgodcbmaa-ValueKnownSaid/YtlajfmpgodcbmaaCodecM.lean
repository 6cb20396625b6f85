/- Plain words on var numbers: what is read was written so, and what is written is read. No condition but the numbers' own. -/
import Derived.Test.YtlajfmpgodcbmaaCodecX
namespace Go.Proofs.Ytlajfmpgodcbmaa
open Go.RowKit
theorem ofNat_toNat (c : UInt8) : UInt8.ofNat c.toNat = c := by simp
theorem varD_small (k n : Nat) (h : n < 128) : varD k n = [UInt8.ofNat n] := by cases k <;> simp [varD, h]
theorem varD_great (k n : Nat) (h : ¬ n < 128) : varD (k + 1) n = UInt8.ofNat (128 + n % 128) :: varD k (n / 128) := by simp [varD, h]
/-- What is read as a var number was written so. -/
theorem varAt_read (l : List UInt8) : ∀ (i m n : Nat) (r : List UInt8), i ≤ 4 → varAt i m l = (n, r, 0) →
    ∃ v, n = m + v * 128 ^ i ∧ varD (4 - i) v ++ r = l ∧ v ≤ 16 * 128 ^ (4 - i) - 1 ∧ (0 < i → v ≠ 0) := by
  induction l with
  | nil => intro i m n r _ h; simp [varAt] at h
  | cons c l ih =>
    intro i m n r hi h
    rw [varAt] at h
    by_cases hw : (i = 4 ∧ 15 < c.toNat) ∨ (0 < i ∧ c.toNat = 0)
    · rw [if_pos hw] at h; simp at h
    rw [if_neg hw] at h
    by_cases hc : c.toNat < 128
    · rw [if_pos hc] at h
      simp only [Prod.mk.injEq] at h
      obtain ⟨rfl, rfl, _⟩ := h
      refine ⟨c.toNat, rfl, by rw [varD_small _ _ hc, ofNat_toNat]; rfl, ?_, fun h0 hz => hw (.inr ⟨h0, hz⟩)⟩
      have h3 : 1 ≤ 128 ^ (4 - i) := Nat.one_le_pow _ _ (by omega)
      by_cases h4 : i = 4
      · subst h4
        have : c.toNat ≤ 15 := Nat.not_lt.1 fun h => hw (.inl ⟨rfl, h⟩)
        simpa using this
      · have h5 : 128 ^ 1 ≤ 128 ^ (4 - i) := Nat.pow_le_pow_right (by omega) (by omega)
        omega
    · rw [if_neg hc] at h
      have h4 : i ≠ 4 := fun e => hw (.inl ⟨e, by omega⟩)
      obtain ⟨v, h1, h2, h3, h5⟩ := ih (i + 1) _ n r (by omega) h
      have hv := h5 (by omega)
      have hcb := c.toNat_lt
      have e1 : 4 - i = (4 - (i + 1)) + 1 := by omega
      refine ⟨c.toNat - 128 + 128 * v, ?_, ?_, ?_, fun _ => by omega⟩
      · rw [h1, Nat.pow_succ, Nat.add_mul]
        have : v * (128 ^ i * 128) = 128 * v * 128 ^ i := by rw [Nat.mul_comm (128 ^ i), ← Nat.mul_assoc, Nat.mul_comm v]
        omega
      · have hm : 128 + (c.toNat - 128 + 128 * v) % 128 = c.toNat := by omega
        have hd : (c.toNat - 128 + 128 * v) / 128 = v := by omega
        rw [e1, varD_great _ _ (by omega), hm, hd, ofNat_toNat, List.cons_append, h2]
      · rw [e1, Nat.pow_succ]
        have : 1 ≤ 128 ^ (4 - (i + 1)) := Nat.one_le_pow _ _ (by omega)
        omega
theorem varS_read {l : List UInt8} {n : Nat} {r : List UInt8} (h : varS l 0 = (n, r, 0)) : varB n ++ r = l ∧ n < 4294967296 := by
  rw [varS, if_pos rfl] at h
  obtain ⟨v, h1, h2, h3, _⟩ := varAt_read l 0 0 n r (by omega) h
  have : n = v := by simpa using h1
  subst this
  exact ⟨h2, by omega⟩
/-- What is written as a var number is read. -/
theorem varAt_back (k : Nat) : ∀ (i m v : Nat) (r : List UInt8), i + k = 4 → v ≤ 16 * 128 ^ k - 1 → (0 < i → v ≠ 0) → varAt i m (varD k v ++ r) = (m + v * 128 ^ i, r, 0) := by
  induction k with
  | zero =>
    intro i m v r hi hv h0
    have hv' : v ≤ 15 := by simpa using hv
    have hb : (UInt8.ofNat v).toNat = v := by rw [UInt8.toNat_ofNat']; omega
    rw [varD_small 0 v (by omega), List.cons_append, List.nil_append, varAt, hb, if_neg (by have := h0 (by omega); omega), if_pos (by omega)]
  | succ k ih =>
    intro i m v r hi hv h0
    by_cases hl : v < 128
    · have hb : (UInt8.ofNat v).toNat = v := by rw [UInt8.toNat_ofNat']; omega
      rw [varD_small _ v hl, List.cons_append, List.nil_append, varAt, hb, if_neg ?_, if_pos hl]
      rintro (⟨h, _⟩ | ⟨h, hz⟩)
      · omega
      · exact h0 h hz
    · have hb : (UInt8.ofNat (128 + v % 128)).toNat = 128 + v % 128 := by rw [UInt8.toNat_ofNat']; omega
      rw [Nat.pow_succ] at hv
      rw [varD_great _ v hl, List.cons_append, varAt, hb, if_neg (by omega), if_neg (by omega), ih (i + 1) _ (v / 128) r (by omega) (by omega) (fun _ => by omega)]
      congr 1
      rw [Nat.pow_succ]
      have e1 : v / 128 * (128 ^ i * 128) = (128 * (v / 128)) * 128 ^ i := by rw [Nat.mul_comm (128 ^ i), ← Nat.mul_assoc, Nat.mul_comm (v / 128)]
      have e2 : v * 128 ^ i = (v % 128 + 128 * (v / 128)) * 128 ^ i := by congr 1; omega
      have e3 : 128 + v % 128 - 128 = v % 128 := by omega
      rw [e1, e2, e3, Nat.add_mul]
      omega
theorem varS_back (n : Nat) (hn : n < 4294967296) (r : List UInt8) : varS (varB n ++ r) 0 = (n, r, 0) := by
  rw [varS, if_pos rfl, varB, varAt_back 4 0 0 n r rfl (by omega) (by omega)]
  simp
theorem varB_inj {a b : Nat} (ha : a < 4294967296) (hb : b < 4294967296) (h : varB a = varB b) : a = b := by
  have h1 := varS_back a ha []
  have h2 := varS_back b hb []
  rw [h] at h1
  rw [h1] at h2
  exact (Prod.mk.injEq .. ▸ h2).1
theorem varD_pos (k n : Nat) : 1 ≤ (varD k n).length := by
  cases k
  · simp [varD]
  · unfold varD; split <;> simp
theorem varD_mono (k : Nat) : ∀ a b, a ≤ b → (varD k a).length ≤ (varD k b).length := by
  induction k with
  | zero => intro a b _; simp [varD]
  | succ k ih =>
    intro a b h
    by_cases ha : a < 128
    · rw [varD_small _ a ha]; exact varD_pos _ _
    · rw [varD_great _ a ha, varD_great _ b (by omega), List.length_cons, List.length_cons]
      have := ih (a / 128) (b / 128) (Nat.div_le_div_right h)
      omega
theorem varB_pos (n : Nat) : 1 ≤ (varB n).length := varD_pos 4 n
theorem varB_mono {a b : Nat} (h : a ≤ b) : (varB a).length ≤ (varB b).length := varD_mono 4 a b h
theorem varAt_lt (l : List UInt8) : ∀ (i m : Nat), i ≤ 4 → m < 128 ^ i → (varAt i m l).1 < 4294967296 := by
  intro i m hi hm
  rcases h : varAt i m l with ⟨n, r, e⟩
  by_cases he : e = 0
  · subst he
    obtain ⟨v, h1, _, h3, _⟩ := varAt_read l i m n r hi h
    have h4 : v * 128 ^ i ≤ (16 * 128 ^ (4 - i) - 1) * 128 ^ i := Nat.mul_le_mul_right _ h3
    have h5 : (16 * 128 ^ (4 - i) - 1) * 128 ^ i = 16 * 128 ^ 4 - 128 ^ i := by
      rw [Nat.sub_mul, Nat.mul_assoc, ← Nat.pow_add, Nat.sub_add_cancel hi, Nat.one_mul]
    have h6 : 128 ^ i ≤ 128 ^ 4 := Nat.pow_le_pow_right (by omega) hi
    simp only
    omega
  · have : n = 0 := by
      clear hm
      induction l generalizing i m with
      | nil => simp [varAt] at h; exact h.1.symm
      | cons c l ih =>
        rw [varAt] at h
        split at h
        · simp at h; exact h.1.symm
        · rename_i hw
          split at h
          · simp at h; exact absurd h.2.2.symm he
          · by_cases h4 : i = 4
            · exact absurd (.inl ⟨h4, by omega⟩) hw
            · exact ih (i + 1) _ (by omega) h
    simp only [this]
    omega
theorem varS_lt (l : List UInt8) (e : Nat) : (varS l e).1 < 4294967296 := by
  unfold varS
  split
  · exact varAt_lt l 0 0 (by omega) (by decide)
  · simp
end Go.Proofs.Ytlajfmpgodcbmaa
