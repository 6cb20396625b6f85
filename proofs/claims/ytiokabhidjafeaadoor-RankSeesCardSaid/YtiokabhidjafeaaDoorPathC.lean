/- Plain mathematics of names, of paths' texts, of what a text is cut into. No program. No condition. -/
import Derived.Test.YtiokabhidjafeaaDoorFrm
section
namespace Go.Proofs.YtiokabhidjafeaaDoor

/-- May a name have this byte? -/
def okc (c : UInt8) : Bool := decide (33 ≤ c.toNat ∧ c.toNat ≤ 125 ∧ c.toNat ≠ 47)
/-- Is a text a name? If not, why. -/
def chk (s : List UInt8) : Nat := if s = [] then 4 else if s.all okc = true then (if 8 < s.length then 3 else 0) else 4
theorem chk_ok {s : List UInt8} : chk s = 0 ↔ s ≠ [] ∧ s.all okc = true ∧ s.length ≤ 8 := by
  unfold chk
  by_cases h1 : s = []
  · simp [h1]
  · rw [if_neg h1]
    by_cases h2 : s.all okc = true
    · rw [if_pos h2]
      by_cases h3 : 8 < s.length
      · rw [if_pos h3]
        exact ⟨fun h => by omega, fun h => by omega⟩
      · rw [if_neg h3]
        exact ⟨fun _ => ⟨h1, h2, by omega⟩, fun _ => rfl⟩
    · rw [if_neg h2]
      exact ⟨fun h => by omega, fun h => absurd h.2.1 h2⟩
/-- A text, cut at a byte. -/
def cut (c : UInt8) : List UInt8 → List (List UInt8)
  | [] => [[]]
  | x :: r => if x = c then [] :: cut c r else (x :: (cut c r).headD []) :: (cut c r).tail
/-- What is wrong with names, the first of which is the i-th one. -/
def walk : Nat → List (List UInt8) → Nat
  | _, [] => 0
  | i, s :: l => if chk s ≠ 0 then chk s else if 4 < i then 3 else walk (i + 1) l
/-- The text of names. -/
def txt (l : List (List UInt8)) : List UInt8 := if l = [] then [47] else l.flatMap (47 :: ·)
/-- The text of names, or what is wrong. -/
def text (l : List (List UInt8)) : List UInt8 × Nat := if ∃ s ∈ l, chk s ≠ 0 then ([], 4) else if 4 < l.length then ([], 3) else (txt l, 0)
end Go.Proofs.YtiokabhidjafeaaDoor
end
section
namespace Go.Proofs.YtiokabhidjafeaaDoor

/-- A digit. -/
def dig (n : Nat) : UInt8 := UInt8.ofNat (48 + n)
theorem dig_toNat {n : Nat} (h : n < 10) : (dig n).toNat = 48 + n := by
  unfold dig
  rw [UInt8.toNat_ofNat', Nat.mod_eq_of_lt (by omega)]
/-- A number's decimal digits. -/
def digs (n : Nat) : List UInt8 := if n < 10 then [dig n] else digs (n / 10) ++ [dig (n % 10)]
termination_by n
decreasing_by omega
theorem digs_small {n : Nat} (h : n < 10) : digs n = [dig n] := by rw [digs, if_pos h]
theorem digs_great {n : Nat} (h : ¬ n < 10) : digs n = digs (n / 10) ++ [dig (n % 10)] := by rw [digs, if_neg h]
/-- The number that digits are. -/
def val (l : List UInt8) : Nat := l.foldl (fun n c => n * 10 + (c.toNat - 48)) 0
theorem digs_len : ∀ {n k : Nat}, n < 10 ^ (k + 1) → (digs n).length ≤ k + 1 := by
  intro n k
  induction k generalizing n with
  | zero => intro h; rw [digs_small (by simpa using h)]; simp
  | succ k ih =>
    intro h
    by_cases h1 : n < 10
    · rw [digs_small h1]; simp
    · have h2 : n / 10 < 10 ^ (k + 1) := by
        rw [Nat.pow_succ] at h
        omega
      have := ih h2
      rw [digs_great h1, List.length_append]
      simp
      omega
theorem digs_len5 {n : Nat} (h : n ≤ 65535) : (digs n).length ≤ 5 := digs_len (k := 4) (by omega)
/-- A conflict name. -/
def conf (a : List UInt8) (r n : Nat) : List UInt8 := a ++ 126 :: dig r :: 46 :: digs n
/-- A name, and a dot, that have one. -/
def okd (a : List UInt8) (r n : Nat) : Prop := chk a = 0 ∧ r ≤ 7 ∧ 1 ≤ n ∧ n ≤ 65535
/-- The conflict name, or what is wrong. -/
def conflict (a : List UInt8) (r n : Nat) : List UInt8 × Nat := if chk a ≠ 0 ∨ 7 < r ∨ n < 1 ∨ 65535 < n then ([], 4) else (conf a r n, 0)
theorem conflict_good {a : List UInt8} {r n : Nat} (h : okd a r n) : conflict a r n = (conf a r n, 0) := by
  unfold conflict
  obtain ⟨h1, h2, h3, h4⟩ := h
  rw [if_neg (by rintro (e | e | e | e) <;> omega)]
theorem conflict_ok {a : List UInt8} {r n : Nat} : (conflict a r n).2 = 0 ↔ okd a r n := by
  unfold conflict
  by_cases h : chk a ≠ 0 ∨ 7 < r ∨ n < 1 ∨ 65535 < n
  · rw [if_pos h]
    refine ⟨fun e => by simp at e, fun ⟨h1, h2, h3, h4⟩ => ?_⟩
    rcases h with e | e | e | e <;> omega
  · rw [if_neg h]
    refine ⟨fun _ => ⟨?_, ?_, ?_, ?_⟩, fun _ => rfl⟩
    · rcases Nat.eq_zero_or_pos (chk a) with e | e
      · exact e
      · exact absurd (.inl (by omega)) h
    · rcases Nat.lt_or_ge 7 r with e | e
      · exact absurd (.inr (.inl e)) h
      · exact e
    · rcases Nat.lt_or_ge n 1 with e | e
      · exact absurd (.inr (.inr (.inl e))) h
      · exact e
    · rcases Nat.lt_or_ge 65535 n with e | e
      · exact absurd (.inr (.inr (.inr e))) h
      · exact e
/-- What a text is as a conflict name, if it is one. -/
def splitO (s : List UInt8) : Option (List UInt8 × Nat × Nat) :=
  match cut 126 s with
  | [a, d :: _ :: t] => if okd' a (d.toNat - 48) (val t) s then some (a, d.toNat - 48, val t) else none
  | _ => none
where
  okd' (a : List UInt8) (r n : Nat) (s : List UInt8) : Bool := chk a == 0 && decide (r ≤ 7) && decide (1 ≤ n) && decide (n ≤ 65535) && conf a r n == s
end Go.Proofs.YtiokabhidjafeaaDoor
end
