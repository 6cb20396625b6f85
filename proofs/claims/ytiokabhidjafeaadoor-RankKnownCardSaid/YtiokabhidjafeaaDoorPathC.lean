/- Plain mathematics of conflict names: digits, what a text ends with, seen paths. No program. No condition. -/
import Derived.Test.YtiokabhidjafeaaDoorPathM
namespace Go.Proofs.YtiokabhidjafeaaDoor

/-- A digit. -/
def dig (n : Nat) : UInt8 := UInt8.ofNat (48 + n)
/-- A number's decimal digits. -/
def digs (n : Nat) : List UInt8 := if n < 10 then [dig n] else digs (n / 10) ++ [dig (n % 10)]
termination_by n
decreasing_by omega
theorem digs_small {n : Nat} (h : n < 10) : digs n = [dig n] := by rw [digs, if_pos h]
theorem digs_great {n : Nat} (h : ¬ n < 10) : digs n = digs (n / 10) ++ [dig (n % 10)] := by rw [digs, if_neg h]
/-- The number that digits are. -/
def val (l : List UInt8) : Nat := l.foldl (fun n c => n * 10 + (c.toNat - 48)) 0
theorem digs_len : ∀ {n k : Nat}, n < 10 ^ (k + 1) → (digs n).length ≤ k + 1 := by
  intro n k
  induction k generalizing n with
  | zero => intro h; rw [digs_small (by simpa using h)]; simp
  | succ k ih =>
    intro h
    by_cases h1 : n < 10
    · rw [digs_small h1]; simp
    · have h2 : n / 10 < 10 ^ (k + 1) := by
        rw [Nat.pow_succ] at h
        omega
      have := ih h2
      rw [digs_great h1, List.length_append]
      simp
      omega
theorem digs_len5 {n : Nat} (h : n ≤ 65535) : (digs n).length ≤ 5 := digs_len (k := 4) (by omega)
/-- A conflict name. -/
def conf (a : List UInt8) (r n : Nat) : List UInt8 := a ++ 126 :: dig r :: 46 :: digs n
/-- A name, and a dot, that have one. -/
def okd (a : List UInt8) (r n : Nat) : Prop := chk a = 0 ∧ r ≤ 7 ∧ 1 ≤ n ∧ n ≤ 65535
/-- The conflict name, or what is wrong. -/
def conflict (a : List UInt8) (r n : Nat) : List UInt8 × Nat := if chk a ≠ 0 ∨ 7 < r ∨ n < 1 ∨ 65535 < n then ([], 4) else (conf a r n, 0)
theorem conflict_good {a : List UInt8} {r n : Nat} (h : okd a r n) : conflict a r n = (conf a r n, 0) := by
  unfold conflict
  obtain ⟨h1, h2, h3, h4⟩ := h
  rw [if_neg (by rintro (e | e | e | e) <;> omega)]
theorem conflict_ok {a : List UInt8} {r n : Nat} : (conflict a r n).2 = 0 ↔ okd a r n := by
  unfold conflict
  by_cases h : chk a ≠ 0 ∨ 7 < r ∨ n < 1 ∨ 65535 < n
  · rw [if_pos h]
    refine ⟨fun e => by simp at e, fun ⟨h1, h2, h3, h4⟩ => ?_⟩
    rcases h with e | e | e | e <;> omega
  · rw [if_neg h]
    refine ⟨fun _ => ⟨?_, ?_, ?_, ?_⟩, fun _ => rfl⟩
    · rcases Nat.eq_zero_or_pos (chk a) with e | e
      · exact e
      · exact absurd (.inl (by omega)) h
    · rcases Nat.lt_or_ge 7 r with e | e
      · exact absurd (.inr (.inl e)) h
      · exact e
    · rcases Nat.lt_or_ge n 1 with e | e
      · exact absurd (.inr (.inr (.inl e))) h
      · exact e
    · rcases Nat.lt_or_ge 65535 n with e | e
      · exact absurd (.inr (.inr (.inr e))) h
      · exact e
/-- What a text is as a conflict name, if it is one. -/
def splitO (s : List UInt8) : Option (List UInt8 × Nat × Nat) :=
  match cut 126 s with
  | [a, d :: _ :: t] => if okd' a (d.toNat - 48) (val t) s then some (a, d.toNat - 48, val t) else none
  | _ => none
where
  okd' (a : List UInt8) (r n : Nat) (s : List UInt8) : Bool := chk a == 0 && decide (r ≤ 7) && decide (1 ≤ n) && decide (n ≤ 65535) && conf a r n == s
end Go.Proofs.YtiokabhidjafeaaDoor

