/- Plain words on joins, on how vectors stand to each other, and on what is next. Of no program. -/
import Derived.Test.YtmohegglclgcbaaVecB
namespace Go.Proofs.Ytmohegglclgcbaa
open Go.RowKit

theorem jn8_at (f g : Nat → Nat) (k : Nat) : jn8 f g k = max (f k) (g k) := rfl
theorem lat1 (f g : Nat → Nat) : eq8 (jn8 f g) (jn8 g f) = true := (eq8_iff _ _).2 fun k _ => by simp only [jn8_at]; omega
theorem lat2 (f g h : Nat → Nat) : eq8 (jn8 (jn8 f g) h) (jn8 f (jn8 g h)) = true := (eq8_iff _ _).2 fun k _ => by simp only [jn8_at]; omega
theorem lat3 (f g : Nat → Nat) : eq8 (jn8 (jn8 f g) g) (jn8 f g) = true := (eq8_iff _ _).2 fun k _ => by simp only [jn8_at]; omega
theorem lat4 (f : Nat → Nat) : eq8 (jn8 f f) f = true := (eq8_iff _ _).2 fun k _ => by simp only [jn8_at]; omega
theorem abv_false {f g : Nat → Nat} (h : ∀ k, k < 8 → f k ≤ g k) : abv f g 8 = false := by
  rw [← Bool.not_eq_true, abv_iff]
  rintro ⟨j, h1, h2⟩
  have := h j h1
  omega
theorem abv_le {f g : Nat → Nat} (h : abv f g 8 = false) : ∀ k, k < 8 → f k ≤ g k := fun k hk => by
  rw [← Bool.not_eq_true, abv_iff] at h
  have : ¬ g k < f k := fun h2 => h ⟨k, hk, h2⟩
  omega
/-- The other way round. -/
def back (c : Nat) : Nat := if c = 1 then 2 else if c = 2 then 1 else c
theorem cmp_back (f g : Nat → Nat) : cmp8 g f = back (cmp8 f g) ∧ cmp8 f g ≤ 3 := by
  rw [cmp8_abv, cmp8_abv]
  cases abv f g 8 <;> cases abv g f 8 <;> simp [back]
theorem cmp_join (f g : Nat → Nat) : cmp8 f (jn8 f g) = 0 ∨ cmp8 f (jn8 f g) = 1 := by
  have h : abv f (jn8 f g) 8 = false := abv_false fun k _ => by simp only [jn8_at]; omega
  rw [cmp8_abv, h]
  cases abv (jn8 f g) f 8 <;> simp
theorem cmp_eq (f g : Nat → Nat) : eq8 (jn8 f g) g = decide (cmp8 f g ≤ 1) := by
  have e1 : eq8 (jn8 f g) g = !abv f g 8 := by
    rw [Bool.eq_iff_iff, eq8_iff, Bool.not_eq_true']
    constructor
    · intro h
      exact abv_false fun k hk => by have := h k hk; rw [jn8_at] at this; omega
    · intro h k hk
      have := abv_le h k hk
      rw [jn8_at]
      omega
  rw [e1, cmp8_abv]
  cases abv f g 8 <;> cases abv g f 8 <;> simp
theorem cmp_least (f g h : Nat → Nat) (h1 : cmp8 f h ≤ 1) (h2 : cmp8 g h ≤ 1) : eq8 (jn8 (jn8 f g) h) h = true := by
  have a1 := cmp_eq f h
  have a2 := cmp_eq g h
  rw [decide_eq_true h1, eq8_iff] at a1
  rw [decide_eq_true h2, eq8_iff] at a2
  refine (eq8_iff _ _).2 fun k hk => ?_
  have b1 := a1 k hk
  have b2 := a2 k hk
  simp only [jn8_at] at *
  omega
theorem has_join (f g : Nat → Nat) (r n : Nat) : has8 (jn8 f g) r n = (has8 f r n || has8 g r n) := by
  unfold has8
  cases okD r n with
  | false => simp
  | true =>
    simp only [Bool.true_and]
    rw [Bool.eq_iff_iff, Bool.or_eq_true, decide_eq_true_eq, decide_eq_true_eq, decide_eq_true_eq, jn8_at]
    omega
theorem has_above (f : Nat → Nat) (r n : Nat) (h : mx f 8 < n) : has8 f r n = false := by
  unfold has8
  cases hok : okD r n with
  | false => rfl
  | true =>
    have h1 := mx_le f 8 r (okD_lt hok)
    rw [decide_eq_false (by omega)]
    rfl
theorem next_has (f : Nat → Nat) (r : Nat) (hr : r < 8) (hx : mx f 8 < 65535) : has8 (upd8 f r (mx f 8 + 1)) r (mx f 8 + 1) = true := by
  unfold has8 okD
  simp only [upd8, if_true, Bool.and_eq_true, decide_eq_true_eq]
  omega
theorem next_cmp (f : Nat → Nat) (r : Nat) (hr : r < 8) : cmp8 f (upd8 f r (mx f 8 + 1)) = 1 := by
  have h1 : abv f (upd8 f r (mx f 8 + 1)) 8 = false := abv_false fun k hk => by
    have := mx_le f 8 k hk
    simp only [upd8]
    split <;> omega
  have h2 : abv (upd8 f r (mx f 8 + 1)) f 8 = true := by
    rw [abv_iff]
    have := mx_le f 8 r hr
    exact ⟨r, hr, by simp only [upd8, if_true]; omega⟩
  rw [cmp8_abv, h1, h2]
  rfl
end Go.Proofs.Ytmohegglclgcbaa
