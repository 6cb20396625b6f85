/- Plain words on slices of structs: elements of c cells each, one behind the other. Of no program. No condition. -/
import Derived.Test.YtiokabhidjafeaaDoorRow
import Derived.Test.YtiokabhidjafeaaDoorHashS
import Derived.Deep.MidRow
import Derived.Test.YtiokabhidjafeaaDoorFrm
section
namespace Go.Proofs.YtiokabhidjafeaaDoor
open Go.RowKit

section
variable {α : Type} (enc : α → List Value) {c : Nat}
/-- The cells of some elements. -/
def flat (l : List α) : List Value := l.flatMap enc
theorem flat_len (hc : ∀ x, (enc x).length = c) (l : List α) : (flat enc l).length = l.length * c := by
  induction l with
  | nil => simp [flat]
  | cons x l ih =>
    have : flat enc (x :: l) = enc x ++ flat enc l := rfl
    rw [this, List.length_append, ih, hc, List.length_cons, Nat.add_mul]; omega
theorem flat_append (l m : List α) : flat enc (l ++ m) = flat enc l ++ flat enc m := by simp [flat]
theorem flat_one (h1 : ∀ x, ∀ u ∈ enc x, u.oneCell' = true) (l : List α) : ∀ u ∈ flat enc l, u.oneCell' = true := fun u hu => by
  obtain ⟨p, _, h⟩ := List.mem_flatMap.1 hu
  exact h1 p u h
theorem flat_at (hc : ∀ x, (enc x).length = c) : ∀ (l : List α) (k : Nat) (h : k < l.length) (j : Nat), j < c → (flat enc l)[k * c + j]? = (enc l[k])[j]? := by
  intro l
  induction l with
  | nil => intro k h; simp at h
  | cons x l ih =>
    intro k h j hj
    have e : flat enc (x :: l) = enc x ++ flat enc l := rfl
    rw [e]
    cases k with
    | zero =>
      rw [Nat.zero_mul, Nat.zero_add, List.getElem?_append_left (by rw [hc]; exact hj)]
      rfl
    | succ k =>
      have h2 : k < l.length := by simpa using h
      rw [List.getElem?_append_right (by rw [hc, Nat.add_mul]; omega), hc, show (k + 1) * c + j - c = k * c + j from by rw [Nat.add_mul]; omega, ih k h2 j hj]
      rfl
/-- The cells of one element of a slice that is only read. -/
theorem Sl.elem {w : World} {a : Option Addr} {cap : Nat} {l : List α} (hc : ∀ x, (enc x).length = c) (h : Sl w c (.slice a l.length cap) l.length (flat enc l)) (k : Nat) (hk : k < l.length) (h0 : 0 < c) :
    ∃ g off, a = some ⟨g, off, none⟩ ∧ g < w.heap.size ∧ ∀ j, j < c → w.cell? ⟨g, off + (k * c + j), none⟩ = (enc l[k])[j]? := by
  have hlt : ∀ j, j < c → k * c + j < l.length * c := fun j hj => by
    have := Nat.mul_le_mul_right c (show k + 1 ≤ l.length from hk)
    rw [Nat.add_mul] at this; omega
  obtain ⟨g, off, rfl, hg, _⟩ := h.at (k * c + 0) (hlt 0 h0)
  refine ⟨g, off, rfl, hg, fun j hj => ?_⟩
  obtain ⟨g', off', e, _, h2⟩ := h.at (k * c + j) (hlt j hj)
  cases e
  rw [h2, flat_at enc hc l k hk j hj]
/-- Of a slice of the call's own. -/
theorem Row.elem {w : World} {v : Value} {l : List α} (hc : ∀ x, (enc x).length = c) (h : Row w c v l.length (flat enc l)) (k : Nat) (hk : k < l.length) :
    ∃ g cap, v = .slice (some ⟨g, 0, none⟩) l.length cap ∧ l.length ≤ cap ∧ cap ≤ maxLen ∧ ∀ j, j < c → w.cell? ⟨g, k * c + j, none⟩ = (enc l[k])[j]? := by
  rcases h.2 with ⟨_, e⟩ | ⟨g, cap, rfl, h1, h2, h3, h4, h5⟩
  · omega
  · refine ⟨g, cap, rfl, h1, h2, fun j hj => ?_⟩
    have hlt : k * c + j < l.length * c := by
      have := Nat.mul_le_mul_right c (show k + 1 ≤ l.length from hk)
      rw [Nat.add_mul] at this; omega
    rw [h4 _ hlt, flat_at enc hc l k hk j hj]
/-- One element that was built. -/
theorem Sl.built (hc : ∀ x, (enc x).length = c) (w : World) (t : TypeId) (x : α) (cs : Array Value) (hcs : cs.toList = enc x) :
    Sl (w.alloc (.cells cs t)) c (.slice (some ⟨w.heap.size, 0, none⟩) 1 1) 1 (flat enc [x]) := by
  have e : flat enc [x] = enc x := by simp [flat]
  refine ⟨by rw [e, hc]; omega, _, 1, rfl, Nat.le_refl _, by decide, .inr ⟨_, 0, rfl, by simp, fun j hj => ?_⟩⟩
  have hb := Blk.alloc w t cs
  have hj' : j < cs.size := by
    have : cs.toList.length = c := by rw [hcs, hc]
    simp at this; omega
  rw [e, Nat.zero_add, hb.cell j (v := cs[j]) (by simp [hj']), ← hcs]
  simp [hj']
end
end Go.Proofs.YtiokabhidjafeaaDoor
end
section
namespace Go.Proofs.YtiokabhidjafeaaDoor
open Go.RowKit

theorem Blk.at1 (w : World) (o : Obj) (t : TypeId) (cs : Array Value) : Blk ((w.alloc o).alloc (.cells cs t)) (w.heap.size + 1) t cs := by
  have h := Blk.alloc (w.alloc o) t cs
  simpa using h
theorem Blk.at2 (w : World) (o o2 : Obj) (t : TypeId) (cs : Array Value) : Blk (((w.alloc o).alloc o2).alloc (.cells cs t)) (w.heap.size + 1 + 1) t cs := by
  have h := Blk.alloc ((w.alloc o).alloc o2) t cs
  simpa using h
/-- The vector whose numbers are f 0 to f 7, as a value's cells. -/
abbrev vv (f : Nat → Nat) : Array Value := #[.int .u32 (f 0), .int .u32 (f 1), .int .u32 (f 2), .int .u32 (f 3), .int .u32 (f 4), .int .u32 (f 5), .int .u32 (f 6), .int .u32 (f 7)]
/-- Eight zeros. -/
abbrev vz : Array Value := #[.int .u32 0, .int .u32 0, .int .u32 0, .int .u32 0, .int .u32 0, .int .u32 0, .int .u32 0, .int .u32 0]
theorem vv_size (f : Nat → Nat) : (vv f).size = 8 := rfl
theorem lt8 {k : Nat} (h : k < 8) : k = 0 ∨ k = 1 ∨ k = 2 ∨ k = 3 ∨ k = 4 ∨ k = 5 ∨ k = 6 ∨ k = 7 := by omega
theorem vv_get (f : Nat → Nat) (k : Nat) (h : k < 8) : (vv f)[k]? = some (.int .u32 (f k)) := by
  rcases lt8 h with rfl | rfl | rfl | rfl | rfl | rfl | rfl | rfl <;> rfl
theorem vv_ext {f g : Nat → Nat} (h : ∀ k, k < 8 → f k = g k) : vv f = vv g := by
  unfold vv
  rw [h 0 (by omega), h 1 (by omega), h 2 (by omega), h 3 (by omega), h 4 (by omega), h 5 (by omega), h 6 (by omega), h 7 (by omega)]
/-- f, but n at k. -/
def upd8 (f : Nat → Nat) (k n : Nat) : Nat → Nat := fun j => if j = k then n else f j
theorem vv_set (f : Nat → Nat) (k n : Nat) (h : k < 8) : (vv f).setIfInBounds k (.int .u32 n) = vv (upd8 f k n) := by
  rcases lt8 h with rfl | rfl | rfl | rfl | rfl | rfl | rfl | rfl <;> rfl
/-- Eight numbers of 32 bits. -/
def Fit8 (f : Nat → Nat) : Prop := ∀ k, k < 8 → f k < 4294967296

/-- The greatest one of the first k numbers. -/
def mx (f : Nat → Nat) : Nat → Nat
  | 0 => 0
  | k + 1 => max (mx f k) (f k)
/-- The bits of the first k numbers: which are above 0. -/
def mk8 (f : Nat → Nat) : Nat → Nat
  | 0 => 0
  | k + 1 => if 0 < f k then mk8 f k + 2 ^ k else mk8 f k
theorem mk8_lt (f : Nat → Nat) : ∀ k, mk8 f k < 2 ^ k := by
  intro k
  induction k with
  | zero => simp [mk8]
  | succ k ih =>
    simp only [mk8]
    rw [Nat.pow_succ]
    split <;> omega
theorem or_bit (m k : Nat) (hk : k < 8) (hm : m < 2 ^ k) : bits BinOp.or IntKind.u8 (m : Int) ((2 : Int) ^ k % 256) = ((m + 2 ^ k : Nat) : Int) := by
  have h2 : ((2 : Int) ^ k % 256) = ((2 ^ k : Nat) : Int) := by
    rcases lt8 hk with rfl | rfl | rfl | rfl | rfl | rfl | rfl | rfl <;> rfl
  have h3 : m + 2 ^ k < 256 := by
    have : 2 ^ k ≤ 2 ^ 7 := Nat.pow_le_pow_right (by omega) (by omega)
    omega
  rw [h2, u8_or_nat _ _ (by omega) (by omega)]
  have h4 := Nat.two_pow_add_eq_or_of_lt hm 1
  rw [Nat.mul_one] at h4
  rw [Nat.add_comm, h4, Nat.or_comm]
/-- The join of two. -/
def jn8 (f g : Nat → Nat) : Nat → Nat := fun j => max (f j) (g j)
/-- The join of the first k numbers; behind them f. -/
def jnK (f g : Nat → Nat) (k : Nat) : Nat → Nat := fun j => if j < k then max (f j) (g j) else f j
theorem jnK_zero (f g : Nat → Nat) : jnK f g 0 = f := by funext j; simp [jnK]
theorem jnK_succ (f g : Nat → Nat) (k : Nat) : upd8 (jnK f g k) k (max (f k) (g k)) = jnK f g (k + 1) := by
  funext j
  simp only [upd8, jnK]
  by_cases h : j = k
  · subst h; simp
  · simp only [if_neg h]
    by_cases h2 : j < k
    · rw [if_pos h2, if_pos (by omega)]
    · rw [if_neg h2, if_neg (by omega)]
theorem jnK_at (f g : Nat → Nat) (k : Nat) : jnK f g k k = f k := by simp [jnK]
theorem vv_jnK (f g : Nat → Nat) : vv (jnK f g 8) = vv (jn8 f g) := vv_ext fun k hk => by simp [jnK, jn8, hk]
/-- A dot, as a value's cells. -/
abbrev dv (r n : Nat) : Array Value := #[.int .u8 r, .int .u32 n]
/-- A dot of zeros. -/
abbrev dz : Array Value := #[.int .u8 0, .int .u32 0]
end Go.Proofs.YtiokabhidjafeaaDoor
end
