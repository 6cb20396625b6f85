/- Plain words on slices of structs: elements of c cells each, one behind the other. Of no program. No condition. -/
import Derived.Test.YtjodkgbpbibfbaaRow
import Derived.Test.YtjodkgbpbibfbaaHashS
import Derived.Deep.MidRow
namespace Go.Proofs.Ytjodkgbpbibfbaa
open Go.RowKit

section
variable {α : Type} (enc : α → List Value) {c : Nat}
/-- The cells of some elements. -/
def flat (l : List α) : List Value := l.flatMap enc
theorem flat_nil : flat enc [] = [] := rfl
theorem flat_len (hc : ∀ x, (enc x).length = c) (l : List α) : (flat enc l).length = l.length * c := by
  induction l with
  | nil => simp [flat]
  | cons x l ih =>
    have : flat enc (x :: l) = enc x ++ flat enc l := rfl
    rw [this, List.length_append, ih, hc, List.length_cons, Nat.add_mul]; omega
theorem flat_append (l m : List α) : flat enc (l ++ m) = flat enc l ++ flat enc m := by simp [flat]
theorem flat_one (h1 : ∀ x, ∀ u ∈ enc x, u.oneCell' = true) (l : List α) : ∀ u ∈ flat enc l, u.oneCell' = true := fun u hu => by
  obtain ⟨p, _, h⟩ := List.mem_flatMap.1 hu
  exact h1 p u h
theorem flat_at (hc : ∀ x, (enc x).length = c) : ∀ (l : List α) (k : Nat) (h : k < l.length) (j : Nat), j < c → (flat enc l)[k * c + j]? = (enc l[k])[j]? := by
  intro l
  induction l with
  | nil => intro k h; simp at h
  | cons x l ih =>
    intro k h j hj
    have e : flat enc (x :: l) = enc x ++ flat enc l := rfl
    rw [e]
    cases k with
    | zero =>
      rw [Nat.zero_mul, Nat.zero_add, List.getElem?_append_left (by rw [hc]; exact hj)]
      rfl
    | succ k =>
      have h2 : k < l.length := by simpa using h
      rw [List.getElem?_append_right (by rw [hc, Nat.add_mul]; omega), hc, show (k + 1) * c + j - c = k * c + j from by rw [Nat.add_mul]; omega, ih k h2 j hj]
      rfl
theorem flat_take (hc : ∀ x, (enc x).length = c) : ∀ (l : List α) (k : Nat), (flat enc l).take (k * c) = flat enc (l.take k) := by
  intro l
  induction l with
  | nil => intro k; simp [flat]
  | cons x l ih =>
    intro k
    cases k with
    | zero => simp [flat]
    | succ k =>
      have e : flat enc (x :: l) = enc x ++ flat enc l := rfl
      have e2 : flat enc ((x :: l).take (k + 1)) = enc x ++ flat enc (l.take k) := rfl
      rw [e, e2, List.take_append, hc, show (k + 1) * c - c = k * c from by rw [Nat.add_mul]; omega, ih k, List.take_of_length_le (by rw [hc, Nat.add_mul]; omega)]
theorem flat_drop (hc : ∀ x, (enc x).length = c) : ∀ (l : List α) (k : Nat), (flat enc l).drop (k * c) = flat enc (l.drop k) := by
  intro l
  induction l with
  | nil => intro k; simp [flat]
  | cons x l ih =>
    intro k
    cases k with
    | zero => simp [flat]
    | succ k =>
      have e : flat enc (x :: l) = enc x ++ flat enc l := rfl
      have e2 : flat enc ((x :: l).drop (k + 1)) = flat enc (l.drop k) := rfl
      rw [e, e2, List.drop_append, hc, show (k + 1) * c - c = k * c from by rw [Nat.add_mul]; omega, ih k, List.drop_of_length_le (by rw [hc, Nat.add_mul]; omega)]
      rfl

/-- The cells of one element of a slice that is only read. -/
theorem Sl.elem {w : World} {a : Option Addr} {cap : Nat} {l : List α} (hc : ∀ x, (enc x).length = c) (h : Sl w c (.slice a l.length cap) l.length (flat enc l)) (k : Nat) (hk : k < l.length) (h0 : 0 < c) :
    ∃ g off, a = some ⟨g, off, none⟩ ∧ g < w.heap.size ∧ ∀ j, j < c → w.cell? ⟨g, off + (k * c + j), none⟩ = (enc l[k])[j]? := by
  have hlt : ∀ j, j < c → k * c + j < l.length * c := fun j hj => by
    have := Nat.mul_le_mul_right c (show k + 1 ≤ l.length from hk)
    rw [Nat.add_mul] at this; omega
  obtain ⟨g, off, rfl, hg, _⟩ := h.at (k * c + 0) (hlt 0 h0)
  refine ⟨g, off, rfl, hg, fun j hj => ?_⟩
  obtain ⟨g', off', e, _, h2⟩ := h.at (k * c + j) (hlt j hj)
  cases e
  rw [h2, flat_at enc hc l k hk j hj]
/-- Of a slice of the call's own. -/
theorem Row.elem {w : World} {v : Value} {l : List α} (hc : ∀ x, (enc x).length = c) (h : Row w c v l.length (flat enc l)) (k : Nat) (hk : k < l.length) :
    ∃ g cap, v = .slice (some ⟨g, 0, none⟩) l.length cap ∧ l.length ≤ cap ∧ cap ≤ maxLen ∧ ∀ j, j < c → w.cell? ⟨g, k * c + j, none⟩ = (enc l[k])[j]? := by
  rcases h.2 with ⟨_, e⟩ | ⟨g, cap, rfl, h1, h2, h3, h4, h5⟩
  · omega
  · refine ⟨g, cap, rfl, h1, h2, fun j hj => ?_⟩
    have hlt : k * c + j < l.length * c := by
      have := Nat.mul_le_mul_right c (show k + 1 ≤ l.length from hk)
      rw [Nat.add_mul] at this; omega
    rw [h4 _ hlt, flat_at enc hc l k hk j hj]
/-- One element that was built. -/
theorem Sl.built (hc : ∀ x, (enc x).length = c) (w : World) (t : TypeId) (x : α) (cs : Array Value) (hcs : cs.toList = enc x) :
    Sl (w.alloc (.cells cs t)) c (.slice (some ⟨w.heap.size, 0, none⟩) 1 1) 1 (flat enc [x]) := by
  have e : flat enc [x] = enc x := by simp [flat]
  refine ⟨by rw [e, hc]; omega, _, 1, rfl, Nat.le_refl _, by decide, .inr ⟨_, 0, rfl, by simp, fun j hj => ?_⟩⟩
  have hb := Blk.alloc w t cs
  have hj' : j < cs.size := by
    have : cs.toList.length = c := by rw [hcs, hc]
    simp at this; omega
  rw [e, Nat.zero_add, hb.cell j (v := cs[j]) (by simp [hj']), ← hcs]
  simp [hj']
end
end Go.Proofs.Ytjodkgbpbibfbaa
