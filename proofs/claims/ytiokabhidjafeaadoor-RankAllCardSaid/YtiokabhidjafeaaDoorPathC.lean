/- Plain mathematics of conflict names: digits, what a text ends with, seen paths. No program. No condition. -/
import Derived.Test.YtiokabhidjafeaaDoorPathM
namespace Go.Proofs.YtiokabhidjafeaaDoor

/-- A digit. -/
def dig (n : Nat) : UInt8 := UInt8.ofNat (48 + n)
theorem dig_toNat {n : Nat} (h : n < 10) : (dig n).toNat = 48 + n := by
  unfold dig
  rw [UInt8.toNat_ofNat', Nat.mod_eq_of_lt (by omega)]
/-- A number's decimal digits. -/
def digs (n : Nat) : List UInt8 := if n < 10 then [dig n] else digs (n / 10) ++ [dig (n % 10)]
termination_by n
decreasing_by omega
theorem digs_small {n : Nat} (h : n < 10) : digs n = [dig n] := by rw [digs, if_pos h]
theorem digs_great {n : Nat} (h : ¬ n < 10) : digs n = digs (n / 10) ++ [dig (n % 10)] := by rw [digs, if_neg h]
/-- Is it a digit? -/
def isd (c : UInt8) : Bool := decide (48 ≤ c.toNat ∧ c.toNat ≤ 57)
theorem isd_dig {n : Nat} (h : n < 10) : isd (dig n) = true := by
  unfold isd
  rw [dig_toNat h]
  simp; omega
/-- The number that digits are. -/
def val (l : List UInt8) : Nat := l.foldl (fun n c => n * 10 + (c.toNat - 48)) 0
theorem val_snoc (l : List UInt8) (c : UInt8) : val (l ++ [c]) = val l * 10 + (c.toNat - 48) := by simp [val]
theorem digs_spec : ∀ n, val (digs n) = n ∧ (digs n).all isd = true ∧ digs n ≠ [] := by
  intro n
  induction n using Nat.strongRecOn with
  | _ n ih =>
    by_cases h : n < 10
    · rw [digs_small h]
      refine ⟨?_, by simp [isd_dig h], by simp⟩
      show val ([] ++ [dig n]) = n
      rw [val_snoc, dig_toNat h]
      show 0 * 10 + (48 + n - 48) = n
      omega
    · obtain ⟨h1, h2, h3⟩ := ih (n / 10) (by omega)
      have hd : n % 10 < 10 := Nat.mod_lt _ (by decide)
      rw [digs_great h]
      refine ⟨?_, ?_, by simp⟩
      · rw [val_snoc, h1, dig_toNat hd]; omega
      · rw [List.all_append, h2]; simp [isd_dig hd]
theorem val_digs (n : Nat) : val (digs n) = n := (digs_spec n).1
theorem digs_len : ∀ {n k : Nat}, n < 10 ^ (k + 1) → (digs n).length ≤ k + 1 := by
  intro n k
  induction k generalizing n with
  | zero => intro h; rw [digs_small (by simpa using h)]; simp
  | succ k ih =>
    intro h
    by_cases h1 : n < 10
    · rw [digs_small h1]; simp
    · have h2 : n / 10 < 10 ^ (k + 1) := by
        rw [Nat.pow_succ] at h
        omega
      have := ih h2
      rw [digs_great h1, List.length_append]
      simp
      omega
theorem digs_len5 {n : Nat} (h : n ≤ 65535) : (digs n).length ≤ 5 := digs_len (k := 4) (by omega)
theorem digs_inj {a b : Nat} (h : digs a = digs b) : a = b := by rw [← val_digs a, h, val_digs]

/-- A conflict name. -/
def conf (a : List UInt8) (r n : Nat) : List UInt8 := a ++ 126 :: dig r :: 46 :: digs n
/-- A name, and a dot, that have one. -/
def okd (a : List UInt8) (r n : Nat) : Prop := chk a = 0 ∧ r ≤ 7 ∧ 1 ≤ n ∧ n ≤ 65535
/-- The conflict name, or what is wrong. -/
def conflict (a : List UInt8) (r n : Nat) : List UInt8 × Nat := if chk a ≠ 0 ∨ 7 < r ∨ n < 1 ∨ 65535 < n then ([], 4) else (conf a r n, 0)
theorem conflict_good {a : List UInt8} {r n : Nat} (h : okd a r n) : conflict a r n = (conf a r n, 0) := by
  unfold conflict
  obtain ⟨h1, h2, h3, h4⟩ := h
  rw [if_neg (by rintro (e | e | e | e) <;> omega)]
theorem conflict_ok {a : List UInt8} {r n : Nat} : (conflict a r n).2 = 0 ↔ okd a r n := by
  unfold conflict
  by_cases h : chk a ≠ 0 ∨ 7 < r ∨ n < 1 ∨ 65535 < n
  · rw [if_pos h]
    refine ⟨fun e => by simp at e, fun ⟨h1, h2, h3, h4⟩ => ?_⟩
    rcases h with e | e | e | e <;> omega
  · rw [if_neg h]
    refine ⟨fun _ => ⟨?_, ?_, ?_, ?_⟩, fun _ => rfl⟩
    · rcases Nat.eq_zero_or_pos (chk a) with e | e
      · exact e
      · exact absurd (.inl (by omega)) h
    · rcases Nat.lt_or_ge 7 r with e | e
      · exact absurd (.inr (.inl e)) h
      · exact e
    · rcases Nat.lt_or_ge n 1 with e | e
      · exact absurd (.inr (.inr (.inl e))) h
      · exact e
    · rcases Nat.lt_or_ge 65535 n with e | e
      · exact absurd (.inr (.inr (.inr e))) h
      · exact e
theorem isd_ne {c d : UInt8} (hc : isd c = true) (hd : isd d = false) : c ≠ d := fun e => by rw [e, hd] at hc; cases hc
theorem tail_free {r n : Nat} (hr : r ≤ 7) : (126 : UInt8) ∉ dig r :: 46 :: digs n := by
  intro h
  rcases List.mem_cons.1 h with e | h
  · exact isd_ne (isd_dig (by omega)) (by decide) e.symm
  · rcases List.mem_cons.1 h with e | h
    · cases e
    · exact isd_ne (List.all_eq_true.1 (digs_spec n).2.1 _ h) (by decide) rfl
theorem cut_conf {a : List UInt8} {r n : Nat} (h : okd a r n) : cut 126 (conf a r n) = [a, dig r :: 46 :: digs n] := by
  unfold conf
  rw [cut_app _ (chk_not h.1 okc_tilde), cut_free (tail_free h.2.1)]
theorem dig_inj {a b : Nat} (ha : a < 10) (hb : b < 10) (h : dig a = dig b) : a = b := by
  have := congrArg UInt8.toNat h
  rw [dig_toNat ha, dig_toNat hb] at this
  omega
/-- Unlike names and dots have unlike conflict names. -/
theorem conf_inj {a b : List UInt8} {r n q m : Nat} (h : okd a r n) (h' : okd b q m) (e : conf a r n = conf b q m) : a = b ∧ r = q ∧ n = m := by
  have hc := cut_conf h
  rw [e, cut_conf h'] at hc
  simp only [List.cons.injEq, and_true, true_and] at hc
  obtain ⟨h1, h2, h3⟩ := hc
  have := h.2.1
  have := h'.2.1
  exact ⟨h1.symm, dig_inj (by omega) (by omega) h2.symm, digs_inj h3.symm⟩
/-- A conflict name is no name. -/
theorem conf_not (a : List UInt8) (r n : Nat) : chk (conf a r n) ≠ 0 := fun h => chk_not h okc_tilde (by simp [conf])
theorem conf_len {a : List UInt8} {r n : Nat} (h : okd a r n) : (conf a r n).length ≤ 16 := by
  have h1 := (chk_ok.1 h.1).2.2
  have h2 := digs_len5 h.2.2.2
  unfold conf
  rw [List.length_append]
  simp
  omega
/-- What a text is as a conflict name, if it is one. -/
def splitO (s : List UInt8) : Option (List UInt8 × Nat × Nat) :=
  match cut 126 s with
  | [a, d :: _ :: t] => if okd' a (d.toNat - 48) (val t) s then some (a, d.toNat - 48, val t) else none
  | _ => none
where
  okd' (a : List UInt8) (r n : Nat) (s : List UInt8) : Bool := chk a == 0 && decide (r ≤ 7) && decide (1 ≤ n) && decide (n ≤ 65535) && conf a r n == s
theorem splitO_conf {a : List UInt8} {r n : Nat} (h : okd a r n) : splitO (conf a r n) = some (a, r, n) := by
  have hr : (dig r).toNat - 48 = r := by rw [dig_toNat (by have := h.2.1; omega)]; omega
  unfold splitO
  rw [cut_conf h]
  simp only [hr, val_digs]
  rw [if_pos]
  unfold splitO.okd'
  simp [h.1, h.2.1, h.2.2.1, h.2.2.2]
theorem splitO_ok {s a : List UInt8} {r n : Nat} (h : splitO s = some (a, r, n)) : okd a r n ∧ conf a r n = s := by
  unfold splitO at h
  split at h
  · split at h
    · rename_i hk
      cases h
      unfold splitO.okd' at hk
      simp at hk
      obtain ⟨⟨⟨⟨h1, h2⟩, h3⟩, h4⟩, h5⟩ := hk
      exact ⟨⟨h1, by omega, h3, h4⟩, h5⟩
    · cases h
  · cases h
theorem splitO_iff {s a : List UInt8} {r n : Nat} : splitO s = some (a, r, n) ↔ okd a r n ∧ conf a r n = s :=
  ⟨splitO_ok, fun ⟨h, e⟩ => by rw [← e]; exact splitO_conf h⟩
end Go.Proofs.YtiokabhidjafeaaDoor

