/- Vectors as values: eight numbers in a block; what a load, a store, a comparison of whole ones does. Of no function of the program. No condition. -/
import Derived.Test.YtmdmkcofafhlcaaFrm
import Derived.Deep.MidRow
namespace Go.Proofs.Ytmdmkcofafhlcaa
open Go.RowKit

theorem Blk.at1 (w : World) (o : Obj) (t : TypeId) (cs : Array Value) : Blk ((w.alloc o).alloc (.cells cs t)) (w.heap.size + 1) t cs := by
  have h := Blk.alloc (w.alloc o) t cs
  simpa using h
theorem Blk.at2 (w : World) (o o2 : Obj) (t : TypeId) (cs : Array Value) : Blk (((w.alloc o).alloc o2).alloc (.cells cs t)) (w.heap.size + 1 + 1) t cs := by
  have h := Blk.alloc ((w.alloc o).alloc o2) t cs
  simpa using h
/-- The vector whose numbers are f 0 to f 7, as a value's cells. -/
abbrev vv (f : Nat → Nat) : Array Value := #[.int .u32 (f 0), .int .u32 (f 1), .int .u32 (f 2), .int .u32 (f 3), .int .u32 (f 4), .int .u32 (f 5), .int .u32 (f 6), .int .u32 (f 7)]
/-- Eight zeros. -/
abbrev vz : Array Value := #[.int .u32 0, .int .u32 0, .int .u32 0, .int .u32 0, .int .u32 0, .int .u32 0, .int .u32 0, .int .u32 0]
theorem vv_size (f : Nat → Nat) : (vv f).size = 8 := rfl
theorem lt8 {k : Nat} (h : k < 8) : k = 0 ∨ k = 1 ∨ k = 2 ∨ k = 3 ∨ k = 4 ∨ k = 5 ∨ k = 6 ∨ k = 7 := by omega
theorem vv_get (f : Nat → Nat) (k : Nat) (h : k < 8) : (vv f)[k]? = some (.int .u32 (f k)) := by
  rcases lt8 h with rfl | rfl | rfl | rfl | rfl | rfl | rfl | rfl <;> rfl
theorem vv_ext {f g : Nat → Nat} (h : ∀ k, k < 8 → f k = g k) : vv f = vv g := by
  unfold vv
  rw [h 0 (by omega), h 1 (by omega), h 2 (by omega), h 3 (by omega), h 4 (by omega), h 5 (by omega), h 6 (by omega), h 7 (by omega)]
/-- f, but n at k. -/
def upd8 (f : Nat → Nat) (k n : Nat) : Nat → Nat := fun j => if j = k then n else f j
theorem vv_set (f : Nat → Nat) (k n : Nat) (h : k < 8) : (vv f).setIfInBounds k (.int .u32 n) = vv (upd8 f k n) := by
  rcases lt8 h with rfl | rfl | rfl | rfl | rfl | rfl | rfl | rfl <;> rfl
/-- Eight numbers of 32 bits. -/
def Fit8 (f : Nat → Nat) : Prop := ∀ k, k < 8 → f k < 4294967296

/-- The greatest one of the first k numbers. -/
def mx (f : Nat → Nat) : Nat → Nat
  | 0 => 0
  | k + 1 => max (mx f k) (f k)
theorem mx_le (f : Nat → Nat) : ∀ k j, j < k → f j ≤ mx f k := by
  intro k
  induction k with
  | zero => intro j h; omega
  | succ k ih =>
    intro j h
    simp only [mx]
    by_cases e : j = k
    · subst e; omega
    · have := ih j (by omega); omega
theorem mx_lt (f : Nat → Nat) (B : Nat) (hB : 0 < B) : ∀ k, (∀ j, j < k → f j < B) → mx f k < B := by
  intro k
  induction k with
  | zero => intro _; exact hB
  | succ k ih =>
    intro h
    simp only [mx]
    have h1 := ih fun j hj => h j (by omega)
    have h2 := h k (by omega)
    omega
theorem mx_le_iff (f : Nat → Nat) (k B : Nat) : mx f k ≤ B ↔ ∀ j, j < k → f j ≤ B := by
  constructor
  · intro h j hj
    have := mx_le f k j hj
    omega
  · intro h
    have := mx_lt f (B + 1) (by omega) k fun j hj => by have := h j hj; omega
    omega

/-- The bits of the first k numbers: which are above 0. -/
def mk8 (f : Nat → Nat) : Nat → Nat
  | 0 => 0
  | k + 1 => if 0 < f k then mk8 f k + 2 ^ k else mk8 f k
theorem mk8_lt (f : Nat → Nat) : ∀ k, mk8 f k < 2 ^ k := by
  intro k
  induction k with
  | zero => simp [mk8]
  | succ k ih =>
    simp only [mk8]
    rw [Nat.pow_succ]
    split <;> omega
theorem or_bit (m k : Nat) (hk : k < 8) (hm : m < 2 ^ k) : bits BinOp.or IntKind.u8 (m : Int) ((2 : Int) ^ k % 256) = ((m + 2 ^ k : Nat) : Int) := by
  have h2 : ((2 : Int) ^ k % 256) = ((2 ^ k : Nat) : Int) := by
    rcases lt8 hk with rfl | rfl | rfl | rfl | rfl | rfl | rfl | rfl <;> rfl
  have h3 : m + 2 ^ k < 256 := by
    have : 2 ^ k ≤ 2 ^ 7 := Nat.pow_le_pow_right (by omega) (by omega)
    omega
  rw [h2, u8_or_nat _ _ (by omega) (by omega)]
  have h4 := Nat.two_pow_add_eq_or_of_lt hm 1
  rw [Nat.mul_one] at h4
  rw [Nat.add_comm, h4, Nat.or_comm]
/-- The join of two. -/
def jn8 (f g : Nat → Nat) : Nat → Nat := fun j => max (f j) (g j)
/-- The join of the first k numbers; behind them f. -/
def jnK (f g : Nat → Nat) (k : Nat) : Nat → Nat := fun j => if j < k then max (f j) (g j) else f j
theorem jnK_zero (f g : Nat → Nat) : jnK f g 0 = f := by funext j; simp [jnK]
theorem jnK_succ (f g : Nat → Nat) (k : Nat) : upd8 (jnK f g k) k (max (f k) (g k)) = jnK f g (k + 1) := by
  funext j
  simp only [upd8, jnK]
  by_cases h : j = k
  · subst h; simp
  · simp only [if_neg h]
    by_cases h2 : j < k
    · rw [if_pos h2, if_pos (by omega)]
    · rw [if_neg h2, if_neg (by omega)]
theorem jnK_at (f g : Nat → Nat) (k : Nat) : jnK f g k k = f k := by simp [jnK]
theorem vv_jnK (f g : Nat → Nat) : vv (jnK f g 8) = vv (jn8 f g) := vv_ext fun k hk => by simp [jnK, jn8, hk]
/-- Are the eight numbers the same? -/
def eq8 (f g : Nat → Nat) : Bool := f 0 == g 0 && f 1 == g 1 && f 2 == g 2 && f 3 == g 3 && f 4 == g 4 && f 5 == g 5 && f 6 == g 6 && f 7 == g 7
theorem eq8_iff (f g : Nat → Nat) : eq8 f g = true ↔ ∀ k, k < 8 → f k = g k := by
  simp only [eq8, Bool.and_eq_true, beq_iff_eq]
  constructor
  · rintro ⟨⟨⟨⟨⟨⟨⟨h0, h1⟩, h2⟩, h3⟩, h4⟩, h5⟩, h6⟩, h7⟩ k hk
    rcases lt8 hk with rfl | rfl | rfl | rfl | rfl | rfl | rfl | rfl <;> assumption
  · intro h
    exact ⟨⟨⟨⟨⟨⟨⟨h 0 (by omega), h 1 (by omega)⟩, h 2 (by omega)⟩, h 3 (by omega)⟩, h 4 (by omega)⟩, h 5 (by omega)⟩, h 6 (by omega)⟩, h 7 (by omega)⟩
/-- A dot, as a value's cells. -/
abbrev dv (r n : Nat) : Array Value := #[.int .u8 r, .int .u32 n]
/-- A dot of zeros. -/
abbrev dz : Array Value := #[.int .u8 0, .int .u32 0]
end Go.Proofs.Ytmdmkcofafhlcaa

