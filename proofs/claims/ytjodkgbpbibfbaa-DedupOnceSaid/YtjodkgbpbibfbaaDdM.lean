/- Tables of chunks, of no program: a list by rising ids, and the next id; what each call answers, and leaves. No condition. -/
import Derived.Test.YtjodkgbpbibfbaaRec
namespace Go.Proofs.Ytjodkgbpbibfbaa
open Go.RowKit

/-- A chunk: its id, data, block, references. -/
structure ChV where
  id : Nat
  s : List UInt8
  b : Int
  r : Nat
deriving DecidableEq
/-- A table: chunks, and the next id. -/
structure TbV where
  L : List ChV
  nx : Nat
/-- A chunk that may be. -/
structure ChV.ok (x : ChV) : Prop where
  i1 : 1 ≤ x.id
  i2 : x.id < 4294967295
  s1 : 1 ≤ x.s.length
  s2 : x.s.length ≤ 64
  b : -9223372036854775808 ≤ x.b ∧ x.b ≤ 9223372036854775807
  r1 : 1 ≤ x.r
  r2 : x.r ≤ 65535
structure TbV.ok (T : TbV) : Prop where
  up : T.L.Pairwise fun x y => x.id < y.id
  ds : T.L.Pairwise fun x y => x.s ≠ y.s
  ch : ∀ x ∈ T.L, x.ok
  lt : ∀ x ∈ T.L, x.id < T.nx
  n1 : 1 ≤ T.nx
  n2 : T.nx ≤ 4294967295
def TbV.new : TbV := ⟨[], 1⟩
theorem TbV.new_ok : TbV.new.ok := ⟨List.Pairwise.nil, List.Pairwise.nil, (fun _ h => by cases h), (fun _ h => by cases h), by decide, by decide⟩
/-- Where an id, where data stands. -/
def TbV.at (T : TbV) (i : Nat) : Option Nat := T.L.findIdx? fun x => x.id == i
def TbV.find (T : TbV) (s : List UInt8) : Option Nat := T.L.findIdx? fun x => decide (x.s = s)
/-- An index as the document tells it. -/
def ixZ : Option Nat → Int
  | some k => (k : Int)
  | none => -1
/-- How many ids are less. -/
def TbV.low (T : TbV) (i : Nat) : Nat := (T.L.takeWhile fun x => decide (x.id < i)).length
def TbV.put (T : TbV) (x : ChV) : TbV := ⟨T.L.take (T.low x.id) ++ x :: T.L.drop (T.low x.id), if T.nx ≤ x.id then x.id + 1 else T.nx⟩
def fitS (s : List UInt8) : Bool := decide (1 ≤ s.length) && decide (s.length ≤ 64)
def TbV.add (T : TbV) (s : List UInt8) (b : Int) : TbV × Nat × Nat :=
  if fitS s = false then (T, 0, 4) else if (T.find s).isSome then (T, 0, 6) else if T.nx = 4294967295 then (T, 0, 12) else (T.put ⟨T.nx, s, b, 1⟩, T.nx, 0)
def TbV.load (T : TbV) (i : Nat) (s : List UInt8) (b r : Int) : TbV × Nat :=
  if i = 0 ∨ i = 4294967295 then (T, 2) else if fitS s = false ∨ r < 1 ∨ 65535 < r then (T, 4) else if (T.at i).isSome ∨ (T.find s).isSome then (T, 6) else (T.put ⟨i, s, b, r.toNat⟩, 0)
def ChV.more (x : ChV) : ChV := { x with r := x.r + 1 }
def ChV.less (x : ChV) : ChV := { x with r := x.r - 1 }
def TbV.hold (T : TbV) (i : Nat) : TbV × Nat := match T.at i with
  | none => (T, 5)
  | some k => match T.L[k]? with
    | none => (T, 5)
    | some x => if 65535 ≤ x.r then (T, 12) else (⟨T.L.set k x.more, T.nx⟩, 0)
def TbV.rel (T : TbV) (i : Nat) : TbV × Bool × Nat := match T.at i with
  | none => (T, false, 5)
  | some k => match T.L[k]? with
    | none => (T, false, 5)
    | some x => if 1 < x.r then (⟨T.L.set k x.less, T.nx⟩, false, 0) else (⟨T.L.eraseIdx k, T.nx⟩, true, 0)
def TbV.skip (T : TbV) (n : Nat) : TbV := if T.nx < n then ⟨T.L, n⟩ else T
/-- A chunk by its id. -/
def TbV.get (T : TbV) (i : Nat) : Option ChV := T.L.find? fun x => x.id == i

section
variable {T : TbV}
theorem TbV.at_some {i k : Nat} (h : T.at i = some k) : ∃ hk : k < T.L.length, T.L[k].id = i := by
  unfold TbV.at at h
  rw [List.findIdx?_eq_some_iff_getElem] at h
  obtain ⟨hk, h1, _⟩ := h
  exact ⟨hk, by simpa using h1⟩
theorem TbV.at_none {i : Nat} (h : T.at i = none) : ∀ x ∈ T.L, x.id ≠ i := by
  unfold TbV.at at h
  rw [List.findIdx?_eq_none_iff] at h
  intro x hx
  simpa using h x hx
theorem TbV.at_of (h : T.ok) {i k : Nat} (hk : k < T.L.length) (e : T.L[k].id = i) : T.at i = some k := by
  unfold TbV.at
  rw [List.findIdx?_eq_some_iff_getElem]
  refine ⟨hk, by simpa using e, fun j hj => ?_⟩
  have := List.pairwise_iff_getElem.1 h.up j k (by omega) hk hj
  simp
  omega
theorem TbV.at_no {i : Nat} (h : ∀ x ∈ T.L, x.id ≠ i) : T.at i = none := by
  unfold TbV.at
  rw [List.findIdx?_eq_none_iff]
  intro x hx
  simpa using h x hx
theorem TbV.find_some {s : List UInt8} {k : Nat} (h : T.find s = some k) : ∃ hk : k < T.L.length, T.L[k].s = s := by
  unfold TbV.find at h
  rw [List.findIdx?_eq_some_iff_getElem] at h
  obtain ⟨hk, h1, _⟩ := h
  exact ⟨hk, by simpa using h1⟩
theorem TbV.find_none {s : List UInt8} (h : T.find s = none) : ∀ x ∈ T.L, x.s ≠ s := by
  unfold TbV.find at h
  rw [List.findIdx?_eq_none_iff] at h
  intro x hx
  simpa using h x hx
theorem TbV.find_of (h : T.ok) {s : List UInt8} {k : Nat} (hk : k < T.L.length) (e : T.L[k].s = s) : T.find s = some k := by
  unfold TbV.find
  rw [List.findIdx?_eq_some_iff_getElem]
  refine ⟨hk, by simpa using e, fun j hj => ?_⟩
  have := List.pairwise_iff_getElem.1 h.ds j k (by omega) hk hj
  simp
  rw [← e]
  exact this
theorem TbV.find_no {s : List UInt8} (h : ∀ x ∈ T.L, x.s ≠ s) : T.find s = none := by
  unfold TbV.find
  rw [List.findIdx?_eq_none_iff]
  intro x hx
  simpa using h x hx
theorem TbV.get_at (h : T.ok) (i : Nat) : T.get i = (T.at i).bind fun k => T.L[k]? := by
  cases ha : T.at i with
  | none =>
    show T.get i = none
    unfold TbV.get
    rw [List.find?_eq_none]
    intro x hx
    simpa using TbV.at_none ha x hx
  | some k =>
    obtain ⟨hk, e⟩ := TbV.at_some ha
    show T.get i = T.L[k]?
    unfold TbV.get
    rw [List.getElem?_eq_getElem hk]
    rw [List.find?_eq_some_iff_getElem]
    refine ⟨by simpa using e, k, hk, rfl, fun j hj => ?_⟩
    have := List.pairwise_iff_getElem.1 h.up j k (by omega) hk hj
    simp
    omega
theorem TbV.get_some {i : Nat} {x : ChV} (h : T.get i = some x) : x ∈ T.L ∧ x.id = i := by
  unfold TbV.get at h
  exact ⟨List.mem_of_find?_eq_some h, by simpa using List.find?_some h⟩
theorem TbV.get_of (h : T.ok) {x : ChV} (hx : x ∈ T.L) : T.get x.id = some x := by
  obtain ⟨k, hk, e⟩ := List.getElem_of_mem hx
  rw [TbV.get_at h, TbV.at_of h hk (by rw [e])]
  show T.L[k]? = some x
  rw [List.getElem?_eq_getElem hk, e]
theorem TbV.low_le (T : TbV) (i : Nat) : T.low i ≤ T.L.length := by
  unfold TbV.low
  exact (List.takeWhile_prefix _).length_le
theorem TbV.low_lt (T : TbV) (i : Nat) : ∀ x ∈ T.L.take (T.low i), x.id < i := by
  intro x hx
  unfold TbV.low at hx
  have e : T.L.take (T.L.takeWhile fun x => decide (x.id < i)).length = T.L.takeWhile fun x => decide (x.id < i) := by
    have := List.takeWhile_prefix (l := T.L) (fun x => decide (x.id < i))
    exact (List.prefix_iff_eq_take.1 this).symm
  rw [e] at hx
  have h2 := List.all_takeWhile (p := fun x : ChV => decide (x.id < i)) (l := T.L)
  rw [List.all_eq_true] at h2
  simpa using h2 x hx
theorem TbV.low_ge (h : T.ok) (i : Nat) : ∀ x ∈ T.L.drop (T.low i), i ≤ x.id := by
  intro x hx
  obtain ⟨k, hk, e⟩ := List.getElem_of_mem hx
  rw [List.getElem_drop] at e
  have hl : T.low i < T.L.length := by rw [List.length_drop] at hk; omega
  have h0 : i ≤ T.L[T.low i].id := by
    have e2 : T.L.dropWhile (fun x => decide (x.id < i)) = T.L.drop (T.low i) := by
      unfold TbV.low
      rw [← List.takeWhile_append_dropWhile (p := fun x => decide (x.id < i)) (l := T.L)]
      conv => rhs; rw [List.drop_left' (by rw [List.takeWhile_append_dropWhile])]
      rw [List.takeWhile_append_dropWhile]
    have h1 : T.L.dropWhile (fun x => decide (x.id < i)) ≠ [] := by
      rw [e2]
      intro hh
      have := List.length_drop (i := T.low i) (l := T.L)
      rw [hh] at this
      simp at this
      omega
    have h2 := List.head_dropWhile_not (fun x : ChV => decide (x.id < i)) h1
    have h3 : (T.L.dropWhile (fun x => decide (x.id < i))).head h1 = T.L[T.low i] := by
      rw [List.head_eq_getElem]
      simp only [e2, List.getElem_drop, Nat.add_zero]
    rw [h3] at h2
    simpa using h2
  rw [← e]
  by_cases hz : k = 0
  · subst hz; exact h0
  · have := List.pairwise_iff_getElem.1 h.up (T.low i) (T.low i + k) hl (by rw [List.length_drop] at hk; omega) (by omega)
    omega
theorem TbV.get_iff (h : T.ok) (i : Nat) (x : ChV) : T.get i = some x ↔ x ∈ T.L ∧ x.id = i :=
  ⟨TbV.get_some, fun ⟨h1, h2⟩ => by rw [← h2]; exact TbV.get_of h h1⟩
theorem TbV.get_none {i : Nat} : T.get i = none ↔ ∀ x ∈ T.L, x.id ≠ i := by
  unfold TbV.get
  rw [List.find?_eq_none]
  exact ⟨fun h x hx => by simpa using h x hx, fun h x hx => by simpa using h x hx⟩
theorem TbV.put_mem (T : TbV) (x y : ChV) : y ∈ (T.put x).L ↔ y = x ∨ y ∈ T.L := by
  show y ∈ T.L.take (T.low x.id) ++ x :: T.L.drop (T.low x.id) ↔ _
  rw [List.mem_append, List.mem_cons]
  constructor
  · rintro (h | h | h)
    · exact .inr (List.mem_of_mem_take h)
    · exact .inl h
    · exact .inr (List.mem_of_mem_drop h)
  · rintro (h | h)
    · exact .inr (.inl h)
    · rw [← List.take_append_drop (T.low x.id) T.L, List.mem_append] at h
      rcases h with h | h
      · exact .inl h
      · exact .inr (.inr h)
theorem TbV.put_len (T : TbV) (x : ChV) : (T.put x).L.length = T.L.length + 1 := by
  show (T.L.take (T.low x.id) ++ x :: T.L.drop (T.low x.id)).length = _
  rw [List.length_append, List.length_cons, List.length_take, List.length_drop]
  have := T.low_le x.id
  omega
theorem TbV.put_ok (h : T.ok) {x : ChV} (hx : x.ok) (h1 : ∀ y ∈ T.L, y.id ≠ x.id) (h2 : ∀ y ∈ T.L, y.s ≠ x.s) : (T.put x).ok := by
  have hu := h.up
  have hd := h.ds
  rw [← List.take_append_drop (T.low x.id) T.L, List.pairwise_append] at hu hd
  have hnx : (T.put x).nx = if T.nx ≤ x.id then x.id + 1 else T.nx := rfl
  refine ⟨?_, ?_, fun y hy => ?_, fun y hy => ?_, ?_, ?_⟩
  · show (T.L.take (T.low x.id) ++ x :: T.L.drop (T.low x.id)).Pairwise _
    rw [List.pairwise_append, List.pairwise_cons]
    refine ⟨hu.1, ⟨fun y hy => ?_, hu.2.1⟩, fun y hy z hz => ?_⟩
    · have a := TbV.low_ge h x.id y hy
      have b := h1 y (List.mem_of_mem_drop hy)
      omega
    · rcases List.mem_cons.1 hz with rfl | hz
      · exact TbV.low_lt T _ y hy
      · exact hu.2.2 y hy z hz
  · show (T.L.take (T.low x.id) ++ x :: T.L.drop (T.low x.id)).Pairwise _
    rw [List.pairwise_append, List.pairwise_cons]
    refine ⟨hd.1, ⟨fun y hy => (h2 y (List.mem_of_mem_drop hy)).symm, hd.2.1⟩, fun y hy z hz => ?_⟩
    rcases List.mem_cons.1 hz with rfl | hz
    · exact h2 y (List.mem_of_mem_take hy)
    · exact hd.2.2 y hy z hz
  · rcases (T.put_mem x y).1 hy with rfl | hy
    · exact hx
    · exact h.ch y hy
  · rw [hnx]
    rcases (T.put_mem x y).1 hy with rfl | hy
    · split <;> omega
    · have := h.lt y hy
      split <;> omega
  · rw [hnx]
    have := h.n1
    split <;> omega
  · rw [hnx]
    have := h.n2
    have := hx.i2
    split <;> omega
theorem TbV.put_get (h : T.ok) {x : ChV} (hx : x.ok) (h1 : ∀ y ∈ T.L, y.id ≠ x.id) (h2 : ∀ y ∈ T.L, y.s ≠ x.s) (i : Nat) : (T.put x).get i = if i = x.id then some x else T.get i := by
  have hp := TbV.put_ok h hx h1 h2
  apply Option.ext
  intro y
  rw [TbV.get_iff hp, T.put_mem]
  by_cases e : i = x.id
  · rw [if_pos e]
    constructor
    · rintro ⟨rfl | hy, hid⟩
      · rfl
      · exact absurd (hid.trans e) (h1 y hy)
    · intro hy
      cases hy
      exact ⟨.inl rfl, e.symm⟩
  · rw [if_neg e, TbV.get_iff h]
    constructor
    · rintro ⟨rfl | hy, hid⟩
      · exact absurd hid.symm e
      · exact ⟨hy, hid⟩
    · exact fun ⟨a, b⟩ => ⟨.inr a, b⟩
/-- Of a chunk the references change alone. -/
theorem TbV.set_mem (h : T.ok) {k : Nat} (hk : k < T.L.length) {x : ChV} (hid : x.id = T.L[k].id) (y : ChV) : y ∈ T.L.set k x ↔ y = x ∨ (y ∈ T.L ∧ y.id ≠ x.id) := by
  rw [List.mem_iff_getElem]
  constructor
  · rintro ⟨j, hj, e⟩
    rw [List.length_set] at hj
    rw [List.getElem_set] at e
    by_cases hjk : k = j
    · rw [if_pos hjk] at e
      exact .inl e.symm
    · rw [if_neg hjk] at e
      refine .inr ⟨by rw [← e]; exact List.getElem_mem hj, ?_⟩
      rw [← e, hid]
      rcases Nat.lt_or_gt_of_ne hjk with hlt | hgt
      · have := List.pairwise_iff_getElem.1 h.up k j hk hj hlt
        omega
      · have := List.pairwise_iff_getElem.1 h.up j k hj hk hgt
        omega
  · rintro (rfl | ⟨hy, hne⟩)
    · exact ⟨k, by rw [List.length_set]; exact hk, by rw [List.getElem_set, if_pos rfl]⟩
    · obtain ⟨j, hj, e⟩ := List.getElem_of_mem hy
      refine ⟨j, by rw [List.length_set]; exact hj, ?_⟩
      rw [List.getElem_set, if_neg, e]
      intro hkj
      subst hkj
      exact hne (by rw [hid, e])
theorem TbV.set_ok (h : T.ok) {k : Nat} (hk : k < T.L.length) {x : ChV} (hid : x.id = T.L[k].id) (hs : x.s = T.L[k].s) (hx : x.ok) : (TbV.mk (T.L.set k x) T.nx).ok := by
  refine ⟨?_, ?_, fun y hy => ?_, fun y hy => ?_, h.n1, h.n2⟩
  · rw [List.pairwise_iff_getElem]
    intro a b ha hb hab
    have ha' : a < T.L.length := by simpa using ha
    have hb' : b < T.L.length := by simpa using hb
    have := List.pairwise_iff_getElem.1 h.up a b ha' hb' hab
    show ((T.L.set k x)[a]'ha).id < ((T.L.set k x)[b]'hb).id
    rw [List.getElem_set, List.getElem_set]
    by_cases h1 : k = a
    · subst h1
      rw [if_pos rfl, if_neg (by omega), hid]; exact this
    · rw [if_neg h1]
      by_cases h2 : k = b
      · subst h2
        rw [if_pos rfl, hid]; exact this
      · rw [if_neg h2]; exact this
  · rw [List.pairwise_iff_getElem]
    intro a b ha hb hab
    have ha' : a < T.L.length := by simpa using ha
    have hb' : b < T.L.length := by simpa using hb
    have := List.pairwise_iff_getElem.1 h.ds a b ha' hb' hab
    show ((T.L.set k x)[a]'ha).s ≠ ((T.L.set k x)[b]'hb).s
    rw [List.getElem_set, List.getElem_set]
    by_cases h1 : k = a
    · subst h1
      rw [if_pos rfl, if_neg (by omega), hs]; exact this
    · rw [if_neg h1]
      by_cases h2 : k = b
      · subst h2
        rw [if_pos rfl, hs]; exact this
      · rw [if_neg h2]; exact this
  · rcases (TbV.set_mem h hk hid y).1 hy with rfl | ⟨hy, _⟩
    · exact hx
    · exact h.ch y hy
  · rcases (TbV.set_mem h hk hid y).1 hy with rfl | ⟨hy, _⟩
    · rw [hid]; exact h.lt _ (List.getElem_mem hk)
    · exact h.lt y hy
theorem TbV.set_get (h : T.ok) {k : Nat} (hk : k < T.L.length) {x : ChV} (hid : x.id = T.L[k].id) (hs : x.s = T.L[k].s) (hx : x.ok) (i : Nat) : (TbV.mk (T.L.set k x) T.nx).get i = if i = x.id then some x else T.get i := by
  have hp := TbV.set_ok h hk hid hs hx
  apply Option.ext
  intro y
  rw [TbV.get_iff hp]
  show (y ∈ T.L.set k x ∧ _) ↔ _
  rw [TbV.set_mem h hk hid]
  by_cases e : i = x.id
  · rw [if_pos e]
    constructor
    · rintro ⟨rfl | ⟨_, hy⟩, hi⟩
      · rfl
      · exact absurd (hi.trans e) hy
    · intro hy
      cases hy
      exact ⟨.inl rfl, e.symm⟩
  · rw [if_neg e, TbV.get_iff h]
    constructor
    · rintro ⟨rfl | hy, hi⟩
      · exact absurd hi.symm e
      · exact ⟨hy.1, hi⟩
    · exact fun ⟨a, b⟩ => ⟨.inr ⟨a, by rw [b]; exact e⟩, b⟩
theorem TbV.del_mem (h : T.ok) {k : Nat} (hk : k < T.L.length) (y : ChV) : y ∈ T.L.eraseIdx k ↔ y ∈ T.L ∧ y.id ≠ T.L[k].id := by
  rw [List.mem_eraseIdx_iff_getElem]
  constructor
  · rintro ⟨j, hj, hne, e⟩
    refine ⟨by rw [← e]; exact List.getElem_mem hj, ?_⟩
    rw [← e]
    rcases Nat.lt_or_gt_of_ne hne with hlt | hgt
    · have := List.pairwise_iff_getElem.1 h.up j k hj hk hlt
      omega
    · have := List.pairwise_iff_getElem.1 h.up k j hk hj hgt
      omega
  · rintro ⟨hy, hne⟩
    obtain ⟨j, hj, e⟩ := List.getElem_of_mem hy
    refine ⟨j, hj, ?_, e⟩
    intro hjk
    subst hjk
    exact hne (by rw [e])
theorem TbV.del_ok (h : T.ok) {k : Nat} (hk : k < T.L.length) : (TbV.mk (T.L.eraseIdx k) T.nx).ok :=
  ⟨h.up.sublist (List.eraseIdx_sublist ..), h.ds.sublist (List.eraseIdx_sublist ..), fun y hy => h.ch y ((TbV.del_mem h hk y).1 hy).1, fun y hy => h.lt y ((TbV.del_mem h hk y).1 hy).1, h.n1, h.n2⟩
theorem TbV.del_get (h : T.ok) {k : Nat} (hk : k < T.L.length) (i : Nat) : (TbV.mk (T.L.eraseIdx k) T.nx).get i = if i = T.L[k].id then none else T.get i := by
  have hp := TbV.del_ok h hk
  apply Option.ext
  intro y
  rw [TbV.get_iff hp]
  show (y ∈ T.L.eraseIdx k ∧ _) ↔ _
  rw [TbV.del_mem h hk]
  by_cases e : i = T.L[k].id
  · rw [if_pos e]
    constructor
    · rintro ⟨⟨_, hy⟩, hi⟩
      exact absurd (hi.trans e) hy
    · intro hy
      cases hy
  · rw [if_neg e, TbV.get_iff h]
    constructor
    · exact fun ⟨a, b⟩ => ⟨a.1, b⟩
    · exact fun ⟨a, b⟩ => ⟨⟨a, by rw [b]; exact e⟩, b⟩
/-- An id by its data, without the index. -/
theorem TbV.find_iff (h : T.ok) (s : List UInt8) (k : Nat) : T.find s = some k ↔ ∃ hk : k < T.L.length, T.L[k].s = s :=
  ⟨TbV.find_some, fun ⟨hk, e⟩ => TbV.find_of h hk e⟩
def TbV.fid (T : TbV) (s : List UInt8) : Option Nat := (T.L.find? fun x => decide (x.s = s)).map ChV.id
theorem TbV.fid_iff (h : T.ok) (s : List UInt8) (i : Nat) : T.fid s = some i ↔ ∃ x ∈ T.L, x.s = s ∧ x.id = i := by
  unfold TbV.fid
  rw [Option.map_eq_some_iff]
  constructor
  · rintro ⟨x, hx, e⟩
    exact ⟨x, List.mem_of_find?_eq_some hx, by simpa using List.find?_some hx, e⟩
  · rintro ⟨x, hx, hs, hi⟩
    refine ⟨x, ?_, hi⟩
    rw [List.find?_eq_some_iff_getElem]
    obtain ⟨k, hk, e⟩ := List.getElem_of_mem hx
    refine ⟨by simpa using hs, k, hk, e, fun j hj => ?_⟩
    have := List.pairwise_iff_getElem.1 h.ds j k (by omega) hk hj
    simp
    rw [← hs, ← e]
    exact this
theorem TbV.fid_find (h : T.ok) (s : List UInt8) : T.fid s = (T.find s).bind fun k => (T.L[k]?).map ChV.id := by
  apply Option.ext
  intro i
  rw [TbV.fid_iff h]
  constructor
  · rintro ⟨x, hx, hs, hi⟩
    obtain ⟨k, hk, e⟩ := List.getElem_of_mem hx
    rw [TbV.find_of h hk (by rw [e, hs])]
    show (T.L[k]?).map ChV.id = some i
    rw [List.getElem?_eq_getElem hk, e, Option.map_some, hi]
  · intro hh
    cases hf : T.find s with
    | none => rw [hf] at hh; cases hh
    | some k =>
      obtain ⟨hk, e⟩ := TbV.find_some hf
      rw [hf] at hh
      have hh2 : (T.L[k]?).map ChV.id = some i := hh
      rw [List.getElem?_eq_getElem hk, Option.map_some] at hh2
      exact ⟨T.L[k], List.getElem_mem hk, e, Option.some.inj hh2⟩
/-- Two tables that may be are one, if their gets are. -/
theorem TbV.ext_get {U : TbV} (h : T.ok) (hU : U.ok) (hn : T.nx = U.nx) (hg : ∀ i, T.get i = U.get i) : T = U := by
  have hm : ∀ y, y ∈ T.L ↔ y ∈ U.L := fun y =>
    ⟨fun hy => (TbV.get_some ((hg y.id).symm.trans (TbV.get_of h hy))).1, fun hy => (TbV.get_some ((hg y.id).trans (TbV.get_of hU hy))).1⟩
  have hp : T.L.Perm U.L := by
    rw [List.perm_ext_iff_of_nodup]
    · exact hm
    · exact h.up.imp fun hab he => by subst he; omega
    · exact hU.up.imp fun hab he => by subst he; omega
  have hL : T.L = U.L := hp.eq_of_pairwise (le := fun x y : ChV => x.id < y.id) (fun a b _ _ h1 h2 => by omega) h.up hU.up
  cases T; cases U
  cases hL; cases hn; rfl
end
end Go.Proofs.Ytjodkgbpbibfbaa
