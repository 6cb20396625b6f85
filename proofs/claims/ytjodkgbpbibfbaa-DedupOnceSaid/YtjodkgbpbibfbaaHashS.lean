/- Plain words on slices that are only read: the cells behind a slice value, wherever they lie. Of no program. No condition. -/
import Derived.Test.YtjodkgbpbibfbaaConv
namespace Go.Proofs.Ytjodkgbpbibfbaa
open Go.RowKit

/-- The slice value v has n elements, of size cells each, which read as xs. -/
def Sl (w : World) (size : Nat) (v : Value) (n : Nat) (xs : List Value) : Prop :=
  xs.length = n * size ∧ ∃ a cap, v = .slice a n cap ∧ n ≤ cap ∧ cap ≤ maxLen ∧ (n = 0 ∨ ∃ g off, a = some ⟨g, off, none⟩ ∧ g < w.heap.size ∧ ∀ j, j < n * size → w.cell? ⟨g, off + j, none⟩ = xs[j]?)
/-- The block that a slice's cells lie in. -/
def blkOf : Value → Option Nat
  | .slice (some a) _ _ => some a.block
  | _ => none

section
variable {w w' : World} {size n : Nat} {v : Value} {xs : List Value}
theorem Sl.ofRow (h : Row w size v n xs) : Sl w size v n xs := by
  refine ⟨h.1, ?_⟩
  rcases h.2 with ⟨rfl, rfl⟩ | ⟨g, cap, rfl, h1, h2, h3, h4, h5⟩
  · exact ⟨_, _, rfl, Nat.le_refl _, by decide, .inl rfl⟩
  · obtain ⟨o, ho, _⟩ := h3
    exact ⟨_, _, rfl, h1, h2, .inr ⟨g, 0, rfl, (Array.getElem?_eq_some_iff.1 ho).1, fun j hj => by rw [Nat.zero_add]; exact h4 j hj⟩⟩
theorem Sl.keep {X : Nat → Prop} (h : Sl w size v n xs) (hf : Frm X w w') (hn : ∀ g, blkOf v = some g → ¬ X g) : Sl w' size v n xs := by
  obtain ⟨h1, a, cap, rfl, h2, h3, h4⟩ := h
  refine ⟨h1, a, cap, rfl, h2, h3, ?_⟩
  rcases h4 with h4 | ⟨g, off, rfl, h5, h6⟩
  · exact .inl h4
  · have e := hf.block g h5 (hn g rfl)
    exact .inr ⟨g, off, rfl, Nat.lt_of_lt_of_le h5 hf.size, fun j hj => (World.cell?_of_block (a := ⟨g, off + j, none⟩) e).trans (h6 j hj)⟩
theorem Sl.keepF (h : Sl w size v n xs) (hf : Frm (fun _ => False) w w') : Sl w' size v n xs := h.keep hf fun _ _ h => h
theorem Sl.drewN (h : Sl w size v n xs) (k : Nat) : Sl (w.drewN k) size v n xs := h
theorem Sl.slice (h : Sl w size v n xs) : ∃ a cap, v = .slice a n cap ∧ n ≤ cap ∧ cap ≤ maxLen := by
  obtain ⟨_, a, cap, e, h2, h3, _⟩ := h
  exact ⟨a, cap, e, h2, h3⟩
theorem Sl.nil_ (w : World) (size : Nat) (a : Option Addr) (cap : Nat) (h : cap ≤ maxLen) : Sl w size (.slice a 0 cap) 0 [] := ⟨by simp, a, cap, rfl, Nat.zero_le _, h, .inl rfl⟩
/-- A cell of it. -/
theorem Sl.at {a : Option Addr} {cap : Nat} (h : Sl w size (.slice a n cap) n xs) (j : Nat) (hj : j < n * size) : ∃ g off, a = some ⟨g, off, none⟩ ∧ g < w.heap.size ∧ w.cell? ⟨g, off + j, none⟩ = xs[j]? := by
  obtain ⟨_, a', cap', e, _, _, h4⟩ := h
  cases e
  rcases h4 with rfl | ⟨g, off, rfl, h5, h6⟩
  · simp at hj
  · exact ⟨g, off, rfl, h5, h6 j hj⟩
theorem Sl.src {P : Program} {tx e : TypeId} (h : Sl w size v n xs) (hk : P.underlying tx = some (.slice e)) (h1 : ∀ u ∈ xs, u.oneCell' = true) : Src P size tx v n xs w := by
  obtain ⟨hl, a, cap, rfl, _, _, h4⟩ := h
  cases a with
  | none =>
    rcases h4 with rfl | ⟨_, _, h5, _⟩
    · obtain rfl : xs = [] := List.eq_nil_of_length_eq_zero (by simpa using hl)
      exact Src.ofNil w hk cap
    · cases h5
  | some ad =>
    refine Src.ofSlice w hk ad n cap xs hl (fun j u hu => ?_) h1
    have hj : j < xs.length := by
      rcases Nat.lt_or_ge j xs.length with h | h
      · exact h
      · rw [List.getElem?_eq_none h] at hu; cases hu
    rcases h4 with rfl | ⟨g, off, e, _, h6⟩
    · simp at hl; rw [hl] at hj; simp at hj
    · cases e
      have hadd : (⟨g, off, none⟩ : Addr).add j = ⟨g, off + j, none⟩ := by unfold Addr.add; split <;> simp_all
      rw [hadd, h6 j (by omega), hu]
/-- The first k of it. -/
theorem Sl.take {a : Option Addr} {cap : Nat} (h : Sl w size (.slice a n cap) n xs) (k c : Nat) (hk : k ≤ n) (hc : k ≤ c) (hcc : c ≤ cap) : Sl w size (.slice a k c) k (xs.take (k * size)) := by
  obtain ⟨hl, a', cap', e, h2, h3, h4⟩ := h
  cases e
  have hm := Nat.mul_le_mul_right size hk
  refine ⟨by rw [List.length_take]; omega, a, c, rfl, hc, by omega, ?_⟩
  rcases h4 with rfl | ⟨g, off, rfl, h5, h6⟩
  · exact .inl (by omega)
  · exact .inr ⟨g, off, rfl, h5, fun j hj => by rw [h6 j (by omega), List.getElem?_take, if_pos hj]⟩
/-- What stands behind the first k of it. -/
theorem Sl.drop {a : Option Addr} {cap : Nat} (h : Sl w size (.slice a n cap) n xs) (k : Nat) (hk : k ≤ n) : Sl w size (.slice (if cap = k then a else a.map (·.add (k * size))) (n - k) (cap - k)) (n - k) (xs.drop (k * size)) := by
  obtain ⟨hl, a', cap', e, h2, h3, h4⟩ := h
  cases e
  refine ⟨by rw [List.length_drop, hl, Nat.sub_mul], _, _, rfl, by omega, by omega, ?_⟩
  by_cases e : cap = k
  · exact .inl (by omega)
  · rw [if_neg e]
    rcases h4 with rfl | ⟨g, off, rfl, h5, h6⟩
    · exact .inl (by omega)
    · by_cases hn : n - k = 0
      · exact .inl hn
      · refine .inr ⟨g, off + k * size, by simp [Addr.add], h5, fun j hj => ?_⟩
        rw [Nat.sub_mul] at hj
        rw [Nat.add_assoc, h6 _ (by omega), List.getElem?_drop]
/-- A row of which less is looked at. -/
theorem Row.take {a : Option Addr} {cap : Nat} (h : Row w size (.slice a n cap) n xs) (k c : Nat) (hk : k ≤ n) (hc : k ≤ c) (hcc : c ≤ cap) : Row w size (.slice a k c) k (xs.take (k * size)) := by
  have hm := Nat.mul_le_mul_right size hk
  refine ⟨by rw [List.length_take, h.1]; omega, ?_⟩
  rcases h.2 with ⟨e, rfl⟩ | ⟨g, cap', e, h1, h2, h3, h4, h5⟩
  · cases e
    obtain rfl : k = 0 := by omega
    obtain rfl : c = 0 := by omega
    exact .inl ⟨rfl, rfl⟩
  · cases e
    have hm2 := Nat.mul_le_mul_right size hcc
    exact .inr ⟨g, c, rfl, hc, by omega, h3, fun j hj => by rw [h4 j (by omega), List.getElem?_take, if_pos hj], fun j hj => h5 j (by omega)⟩
end
/-- Numbers of 32 bits, as cells. -/
def u32s (l : List Nat) : List Value := l.map fun n : Nat => Value.int .u32 (n : Int)
theorem u32s_length (l : List Nat) : (u32s l).length = l.length := by simp [u32s]
theorem u32s_append (a b : List Nat) : u32s (a ++ b) = u32s a ++ u32s b := by simp [u32s]
theorem u32s_take (l : List Nat) (k : Nat) : (u32s l).take k = u32s (l.take k) := by simp [u32s, List.map_take]
theorem u32s_drop (l : List Nat) (k : Nat) : (u32s l).drop k = u32s (l.drop k) := by simp [u32s, List.map_drop]
theorem u32s_get (l : List Nat) (k : Nat) (h : k < l.length) : (u32s l)[k]? = some (.int .u32 l[k]) := by simp [u32s, h]
theorem u32s_one (l : List Nat) : ∀ u ∈ u32s l, u.oneCell' = true := fun u hu => by
  obtain ⟨_, _, rfl⟩ := List.mem_map.1 hu
  rfl
/-- A slice of ids. -/
def Ids (w : World) (v : Value) (l : List Nat) : Prop := Sl w 1 v l.length (u32s l)
theorem Ids.keepF {w w' : World} {v : Value} {l : List Nat} (h : Ids w v l) (hf : Frm (fun _ => False) w w') : Ids w' v l := Sl.keepF h hf
theorem Ids.at {w : World} {a : Option Addr} {n cap : Nat} {l : List Nat} (h : Ids w (.slice a n cap) l) (k : Nat) (hk : k < l.length) : ∃ g off, a = some ⟨g, off, none⟩ ∧ g < w.heap.size ∧ w.cell? ⟨g, off + k, none⟩ = some (.int .u32 l[k]) := by
  obtain ⟨a', cap', e, _⟩ := Sl.slice h
  cases e
  obtain ⟨g, off, e1, e2, e3⟩ := Sl.at h k (by omega)
  exact ⟨g, off, e1, e2, by rw [e3, u32s_get l k hk]⟩
theorem Ids.slice {w : World} {v : Value} {l : List Nat} (h : Ids w v l) : ∃ a cap, v = .slice a l.length cap ∧ l.length ≤ cap ∧ cap ≤ maxLen := Sl.slice h
/-- A slice of ids that the call holds by itself. -/
def Own (w : World) (v : Value) (l : List Nat) : Prop := Row w 1 v l.length (u32s l)
theorem Own.ids {w : World} {v : Value} {l : List Nat} (h : Own w v l) : Ids w v l := Sl.ofRow h
end Go.Proofs.Ytjodkgbpbibfbaa
