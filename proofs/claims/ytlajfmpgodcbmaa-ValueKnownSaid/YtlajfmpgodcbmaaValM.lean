/- Plain mathematics of values: how many chunks, which may be, their texts. No program. No condition. -/
import Derived.Test.YtlajfmpgodcbmaaBackM
namespace Go.Proofs.Ytlajfmpgodcbmaa

/-- How many chunks a size has. -/
def count (s : Int) : Nat := ((s + 63) / 64).toNat
theorem count_neg {s : Int} (h : s ≤ 0) : count s = 0 := by unfold count; omega
theorem count_le {s : Int} (h : s ≤ 256) : count s ≤ 4 := by unfold count; omega
/-- The greatest size. -/
def most (d : Bool) : Nat := if d then 0 else 256
/-- May a value be? -/
def okV (d : Bool) (s : Int) (l : List Nat) : Bool := !(decide (s < 0) || decide ((most d : Int) < s) || decide (l.length ≠ count s) || decide (0 ∈ l))
/-- Are values the same? -/
def sameV (d : Bool) (s : Int) (l : List Nat) (d' : Bool) (s' : Int) (l' : List Nat) : Bool := decide (d = d') && decide (s = s') && decide (l = l')
theorem okV_dir (s : Int) (l : List Nat) : okV true s l = (decide (s = 0) && decide (l = [])) := by
  unfold okV most
  by_cases h : s = 0
  · subst h
    cases l with
    | nil => rfl
    | cons a l => simp [count]
  · by_cases h2 : s < 0
    · simp [h, h2]
    · have h3 : (0 : Int) < s := by omega
      simp [h, h2, h3]
theorem okV_iff {d : Bool} {s : Int} {l : List Nat} (h : okV d s l = true) : 0 ≤ s ∧ s ≤ (most d : Nat) ∧ l.length = count s ∧ 0 ∉ l := by
  unfold okV at h
  simp at h
  obtain ⟨⟨⟨h1, h2⟩, h3⟩, h4⟩ := h
  exact ⟨h1, h2, h3, h4⟩
theorem okV_of {d : Bool} {s : Int} {l : List Nat} (h1 : 0 ≤ s) (h2 : s ≤ (most d : Nat)) (h3 : l.length = count s) (h4 : 0 ∉ l) : okV d s l = true := by
  unfold okV
  have a1 : decide (s < 0) = false := decide_eq_false (by omega)
  have a2 : decide ((most d : Int) < s) = false := decide_eq_false (by omega)
  simp [a1, a2, h3, h4]
/-- What stands ahead. -/
def headB (d : Bool) (s : Nat) : List UInt8 := if d then [1] else beB 1 0 ++ beB 2 s
/-- The chunks' numbers as bytes. -/
def idsB (l : List Nat) : List UInt8 := l.flatMap (beB 4)
theorem idsB_nil : idsB [] = [] := rfl
theorem idsB_snoc (l : List Nat) (n : Nat) : idsB (l ++ [n]) = idsB l ++ beB 4 n := by simp [idsB]
theorem idsB_cons (l : List Nat) (n : Nat) : idsB (n :: l) = beB 4 n ++ idsB l := by simp [idsB]
theorem idsB_len (l : List Nat) : (idsB l).length = 4 * l.length := by
  induction l with
  | nil => rfl
  | cons n l ih => rw [idsB_cons, List.length_append, beB_len, ih, List.length_cons]; omega
/-- The text of a value. -/
def putV (d : Bool) (s : Int) (l : List Nat) : List UInt8 × Nat := if okV d s l then (headB d s.toNat ++ idsB l, 0) else ([], 4)
/-- The text of a content. -/
def putC (d : Bool) (t : List UInt8) : List UInt8 × Nat := if t.length ≤ most d then (headB d t.length ++ t, 0) else ([], 4)

/-- What stands ahead is read: a directory, a size, an error; what is left; the reader's error. -/
def headS (l : List UInt8) (e : Nat) : (Bool × Nat × Nat) × List UInt8 × Nat :=
  let k := numS 1 l e
  let z := if k.1 = 0 then numS 2 k.2.1 k.2.2 else (0, k.2)
  if z.2.2 ≠ 0 then ((false, 0, z.2.2), z.2)
  else if 1 < k.1 ∨ 256 < z.1 then ((false, 0, 4), z.2)
  else ((decide (k.1 = 1), z.1, 0), z.2)
/-- n numbers of 32 bits are read. -/
def idsS : Nat → List UInt8 → Nat → List Nat × List UInt8 × Nat
  | 0, l, e => ([], l, e)
  | n + 1, l, e => let r := idsS n l e; let x := numS 4 r.2.1 r.2.2; (r.1 ++ [x.1], x.2)
/-- A value is read. -/
def takeV (l : List UInt8) (e : Nat) : (Bool × Nat × List Nat × Nat) × List UInt8 × Nat :=
  let h := headS l e
  if h.1.2.2 ≠ 0 then ((false, 0, [], h.1.2.2), h.2)
  else
    let r := idsS (count h.1.2.1) h.2.1 h.2.2
    if r.2.2 ≠ 0 then ((false, 0, [], r.2.2), r.2)
    else if okV h.1.1 h.1.2.1 r.1 then ((h.1.1, h.1.2.1, r.1, 0), r.2)
    else ((false, 0, [], 4), r.2)
/-- A content is read. -/
def takeC (l : List UInt8) (e : Nat) : (Bool × List UInt8 × Nat) × List UInt8 × Nat :=
  let h := headS l e
  if h.1.2.2 ≠ 0 then ((false, [], h.1.2.2), h.2)
  else
    let r := nextS h.1.2.1 h.2.1 h.2.2
    if r.2.2 ≠ 0 then ((false, [], r.2.2), r.2)
    else ((h.1.1, r.1, 0), r.2)
/-- The chunks of bytes. -/
def chunks : List UInt8 → List (List UInt8)
  | [] => []
  | a :: l => (a :: l).take 64 :: chunks ((a :: l).drop 64)
termination_by l => l.length
decreasing_by simp; omega
theorem chunks_nil : chunks [] = [] := by rw [chunks]
theorem chunks_some {l : List UInt8} (h : l ≠ []) : chunks l = l.take 64 :: chunks (l.drop 64) := by
  cases l with
  | nil => exact absurd rfl h
  | cons a l => rw [chunks]
theorem chunks_short {l : List UInt8} (h : l ≠ []) (h2 : l.length ≤ 64) : chunks l = [l] := by
  rw [chunks_some h, List.take_of_length_le h2, List.drop_eq_nil_of_le h2, chunks_nil]
theorem chunks_count (l : List UInt8) : (chunks l).length = count l.length := by
  induction hn : l.length using Nat.strongRecOn generalizing l with
  | _ n ih =>
    by_cases h : l = []
    · subst h; subst hn; rw [chunks_nil]; rfl
    · have hl : 0 < l.length := by
        cases l with
        | nil => exact absurd rfl h
        | cons a l => simp
      rw [chunks_some h, List.length_cons, ih (l.drop 64).length (by rw [List.length_drop]; omega) (l.drop 64) rfl, List.length_drop]
      unfold count
      omega
end Go.Proofs.Ytlajfmpgodcbmaa
