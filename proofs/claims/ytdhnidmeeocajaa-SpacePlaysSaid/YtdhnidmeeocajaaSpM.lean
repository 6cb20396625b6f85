/- Spaces, of no program: which blocks are free, as bits of words; the free ones, ascending; how many. No condition. -/
import Derived.Test.YtdhnidmeeocajaaHashS
import Derived.Laws.BitsAllLaws
namespace Go.Proofs.Ytdhnidmeeocajaa
open Go.RowKit

/-- A space: the first block, the one behind the last one, and which ones are free. -/
structure SpV where
  a : Nat
  n : Nat
  F : Nat → Bool
structure SpV.ok (S : SpV) : Prop where
  lo : S.a < S.n
  hi : S.n ≤ 2048
  fr : ∀ k, S.F k = true → S.a ≤ k ∧ k < S.n
/-- Pages. -/
def SpV.np (S : SpV) : Nat := (S.n + 255) / 256
def SpV.flip (S : SpV) (k : Nat) : SpV := { S with F := fun i => if i = k then !S.F k else S.F i }
/-- Is a number a block that is ruled? -/
def SpV.inn (S : SpV) (z : Int) : Bool := decide ((S.a : Int) ≤ z) && decide (z < (S.n : Int))
def SpV.chk (S : SpV) (z : Int) : Nat := if S.inn z then 0 else 2
def SpV.isF (S : SpV) (z : Int) : Bool := S.inn z && S.F z.toNat
def SpV.use (S : SpV) (z : Int) : SpV × Nat := if S.inn z then (if S.F z.toNat then (S.flip z.toNat, 0) else (S, 6)) else (S, 2)
def SpV.give (S : SpV) (z : Int) : SpV × Nat := if S.inn z then (if S.F z.toNat then (S, 5) else (S.flip z.toNat, 0)) else (S, 2)
/-- The free ones below k, ascending. -/
def SpV.done (S : SpV) (k : Nat) : List Nat := (List.range k).filter S.F
def SpV.all (S : SpV) : List Nat := S.done S.n
def SpV.take (S : SpV) : SpV × Nat × Nat := match S.all with
  | [] => (S, 0, 7)
  | k :: _ => (S.flip k, k, 0)
/-- All are free. -/
def SpV.new (a n : Nat) : SpV := ⟨a, n, fun k => decide (a ≤ k) && decide (k < n)⟩
/-- All below k are free. -/
def SpV.till (a n k : Nat) : SpV := ⟨a, n, fun i => decide (a ≤ i) && decide (i < k)⟩
section
variable {S : SpV} {z : Int}
theorem SpV.inn_nat (h : S.inn z = true) : ∃ k : Nat, z = (k : Int) ∧ S.a ≤ k ∧ k < S.n := by
  unfold SpV.inn at h
  simp only [Bool.and_eq_true, decide_eq_true_eq] at h
  exact ⟨z.toNat, by omega, by omega, by omega⟩
theorem SpV.inn_of {k : Nat} (h1 : S.a ≤ k) (h2 : k < S.n) : S.inn (k : Int) = true := by
  unfold SpV.inn
  simp only [Bool.and_eq_true, decide_eq_true_eq]
  omega
theorem SpV.inn_not (h : S.inn z = false) : z < (S.a : Int) ∨ (S.n : Int) ≤ z := by
  unfold SpV.inn at h
  rw [Bool.and_eq_false_iff] at h
  simp only [decide_eq_false_iff_not] at h
  omega
theorem SpV.done_succ (S : SpV) (k : Nat) : S.done (k + 1) = S.done k ++ (if S.F k then [k] else []) := by
  unfold SpV.done
  rw [List.range_succ, List.filter_append]
  by_cases h : S.F k = true
  · rw [if_pos h]; simp [h]
  · rw [if_neg h]; simp [h]
theorem SpV.done_low (h : S.ok) : ∀ k, k ≤ S.a → S.done k = []
  | 0, _ => rfl
  | k + 1, hk => by
    rw [S.done_succ, SpV.done_low h k (by omega), if_neg (fun hf => by have := (h.fr k hf).1; omega)]
    rfl
theorem SpV.done_pre (S : SpV) (k : Nat) : ∀ n, k ≤ n → S.done k <+: S.done n
  | 0, h => by obtain rfl : k = 0 := by omega
               exact List.prefix_refl _
  | n + 1, h => by
    by_cases e : k = n + 1
    · subst e; exact List.prefix_refl _
    · rw [S.done_succ]
      exact (SpV.done_pre S k n (by omega)).trans (List.prefix_append _ _)
theorem SpV.done_len (S : SpV) (k : Nat) : (S.done k).length ≤ k := by
  unfold SpV.done
  have := List.length_filter_le S.F (List.range k)
  rwa [List.length_range] at this
theorem SpV.all_mem (h : S.ok) (k : Nat) : k ∈ S.all ↔ S.F k = true := by
  unfold SpV.all SpV.done
  rw [List.mem_filter, List.mem_range]
  exact ⟨fun h => h.2, fun hf => ⟨(h.fr k hf).2, hf⟩⟩
theorem SpV.done_mem (S : SpV) (k i : Nat) : i ∈ S.done k ↔ i < k ∧ S.F i = true := by
  unfold SpV.done
  rw [List.mem_filter, List.mem_range]
/-- The first one is the least. -/
theorem SpV.all_head {k : Nat} {l : List Nat} (h : S.ok) (e : S.all = k :: l) : S.F k = true ∧ S.a ≤ k ∧ k < S.n ∧ ∀ i, i < k → S.F i = false := by
  have hk : S.F k = true := (SpV.all_mem h k).1 (by rw [e]; exact List.mem_cons_self)
  have hr := h.fr k hk
  refine ⟨hk, hr.1, hr.2, fun i hi => ?_⟩
  cases hf : S.F i with
  | false => rfl
  | true =>
    exfalso
    have h1 := SpV.done_pre S k S.n (by omega)
    have h2 : i ∈ S.done k := (SpV.done_mem S k i).2 ⟨hi, hf⟩
    unfold SpV.all at e
    rw [e] at h1
    cases hd : S.done k with
    | nil => rw [hd] at h2; cases h2
    | cons x t =>
      rw [hd] at h1
      obtain ⟨rest, hrest⟩ := h1
      obtain rfl : x = k := by injection hrest
      have h3 := (SpV.done_mem S x x).1 (by rw [hd]; exact List.mem_cons_self)
      omega
/-- The least one is the first. -/
theorem SpV.all_least {k : Nat} (h : S.ok) (hf : S.F k = true) (hl : ∀ i, i < k → S.F i = false) : ∃ l, S.all = k :: l := by
  have hr := h.fr k hf
  have h0 : S.done k = [] := by
    cases hd : S.done k with
    | nil => rfl
    | cons x t =>
      have h3 := (SpV.done_mem S k x).1 (by rw [hd]; exact List.mem_cons_self)
      rw [hl x h3.1] at h3
      cases h3.2
  have h1 : S.done (k + 1) = [k] := by rw [S.done_succ, h0, if_pos hf]; rfl
  have h2 := SpV.done_pre S (k + 1) S.n (by omega)
  rw [h1] at h2
  obtain ⟨rest, hrest⟩ := h2
  exact ⟨rest, hrest.symm⟩
theorem SpV.all_none (h : S.ok) (hl : ∀ k, S.F k = false) : S.all = [] := by
  cases hd : S.all with
  | nil => rfl
  | cons x t =>
    have := (SpV.all_head h hd).1
    rw [hl x] at this
    cases this
theorem SpV.none_all (h : S.ok) (e : S.all = []) (k : Nat) : S.F k = false := by
  cases hf : S.F k with
  | false => rfl
  | true =>
    have := (SpV.all_mem h k).2 hf
    rw [e] at this
    cases this
theorem SpV.flip_ok {k : Nat} (h : S.ok) (h1 : S.a ≤ k) (h2 : k < S.n) : (S.flip k).ok :=
  ⟨h.lo, h.hi, fun i hi => by
    by_cases e : i = k
    · subst e; exact ⟨h1, h2⟩
    · have hi : (if i = k then !S.F k else S.F i) = true := hi
      rw [if_neg e] at hi
      exact h.fr i hi⟩
theorem SpV.flip_at (S : SpV) (k : Nat) : (S.flip k).F k = !S.F k := by
  show (if k = k then !S.F k else S.F k) = _
  rw [if_pos rfl]
theorem SpV.flip_ne (S : SpV) {k i : Nat} (h : i ≠ k) : (S.flip k).F i = S.F i := by
  show (if i = k then !S.F k else S.F i) = _
  rw [if_neg h]
theorem SpV.flip_done (S : SpV) (k : Nat) : ∀ m, m ≤ k → ((S.flip k).done m) = S.done m
  | 0, _ => rfl
  | m + 1, hm => by rw [SpV.done_succ, SpV.done_succ, SpV.flip_done S k m (by omega), SpV.flip_ne S (show m ≠ k by omega)]
theorem SpV.flip_len (S : SpV) (k : Nat) : ∀ m, k < m → ((S.flip k).done m).length + (if S.F k then 1 else 0) = (S.done m).length + (if S.F k then 0 else 1)
  | 0, h => by omega
  | m + 1, hm => by
    rw [SpV.done_succ, SpV.done_succ, List.length_append, List.length_append]
    by_cases e : m = k
    · subst e
      rw [SpV.flip_done S m m (Nat.le_refl _), SpV.flip_at]
      cases S.F m <;> simp
    · have := SpV.flip_len S k m (by omega)
      rw [SpV.flip_ne S e]
      omega
/-- One less is free. -/
theorem SpV.flip_less {k : Nat} (h2 : k < S.n) (hf : S.F k = true) : (S.flip k).all.length + 1 = S.all.length := by
  have := SpV.flip_len S k S.n h2
  rw [hf] at this
  exact this
theorem SpV.flip_more {k : Nat} (h2 : k < S.n) (hf : S.F k = false) : (S.flip k).all.length = S.all.length + 1 := by
  have := SpV.flip_len S k S.n h2
  rw [hf] at this
  exact this
theorem SpV.new_ok {a n : Nat} (h1 : a < n) (h2 : n ≤ 2048) : (SpV.new a n).ok := ⟨h1, h2, fun k hk => by
  have hk : (decide (a ≤ k) && decide (k < n)) = true := hk
  simp only [Bool.and_eq_true, decide_eq_true_eq] at hk
  exact hk⟩
theorem SpV.till_ok {a n k : Nat} (h1 : a < n) (h2 : n ≤ 2048) (hk : k ≤ n) : (SpV.till a n k).ok := ⟨h1, h2, fun i hi => by
  have hi : (decide (a ≤ i) && decide (i < k)) = true := hi
  simp only [Bool.and_eq_true, decide_eq_true_eq] at hi
  exact ⟨hi.1, (show i < n by omega)⟩⟩
theorem SpV.till_succ {a n k : Nat} (h : a ≤ k) : (SpV.till a n k).flip k = SpV.till a n (k + 1) := by
  show SpV.mk a n _ = SpV.mk a n _
  congr 1
  funext i
  show (if i = k then !(decide (a ≤ k) && decide (k < k)) else (decide (a ≤ i) && decide (i < k))) = (decide (a ≤ i) && decide (i < k + 1))
  by_cases e : i = k
  · subst e; rw [if_pos rfl]; simp [h]
  · rw [if_neg e]
    congr 1
    rw [decide_eq_decide]
    omega
theorem SpV.till_all (a n : Nat) : SpV.till a n n = SpV.new a n := rfl
theorem SpV.new_len (a n : Nat) : ∀ m, m ≤ n → ((SpV.new a n).done m).length = m - a
  | 0, _ => by simp [SpV.done]
  | m + 1, hm => by
    rw [SpV.done_succ, List.length_append, SpV.new_len a n m (by omega)]
    show _ + (if (decide (a ≤ m) && decide (m < n)) = true then [m] else []).length = _
    by_cases h : a ≤ m
    · rw [if_pos (by simp; omega)]; simp; omega
    · rw [if_neg (by simp; omega)]; simp; omega
theorem SpV.new_all (a n : Nat) : (SpV.new a n).all.length = n - a := SpV.new_len a n n (Nat.le_refl _)
theorem SpV.use_ok (h : S.ok) (z : Int) : (S.use z).1.ok := by
  unfold SpV.use
  split
  · rename_i hi
    obtain ⟨k, rfl, h1, h2⟩ := SpV.inn_nat hi
    split
    · exact SpV.flip_ok h h1 h2
    · exact h
  · exact h
theorem SpV.give_ok (h : S.ok) (z : Int) : (S.give z).1.ok := by
  unfold SpV.give
  split
  · rename_i hi
    obtain ⟨k, rfl, h1, h2⟩ := SpV.inn_nat hi
    split
    · exact h
    · exact SpV.flip_ok h h1 h2
  · exact h
theorem SpV.take_ok (h : S.ok) : S.take.1.ok := by
  unfold SpV.take
  split
  · exact h
  · rename_i k l e
    obtain ⟨_, h1, h2, _⟩ := SpV.all_head h e
    exact SpV.flip_ok h h1 h2
theorem SpV.use_an (S : SpV) (z : Int) : (S.use z).1.a = S.a ∧ (S.use z).1.n = S.n := by
  unfold SpV.use
  split
  · split <;> exact ⟨rfl, rfl⟩
  · exact ⟨rfl, rfl⟩
theorem SpV.give_an (S : SpV) (z : Int) : (S.give z).1.a = S.a ∧ (S.give z).1.n = S.n := by
  unfold SpV.give
  split
  · split <;> exact ⟨rfl, rfl⟩
  · exact ⟨rfl, rfl⟩
theorem SpV.take_an (S : SpV) : S.take.1.a = S.a ∧ S.take.1.n = S.n := by
  unfold SpV.take
  split <;> exact ⟨rfl, rfl⟩
end

/-- The bits of words. -/
structure Wd (S : SpV) (x : Nat → Nat) : Prop where
  lt : ∀ j, x j < 18446744073709551616
  bit : ∀ k, k < S.np * 256 → (x (k / 64)).testBit (k % 64) = S.F k
def flipW (x : Nat → Nat) (k : Nat) : Nat → Nat := fun j => if j = k / 64 then x j ^^^ 2 ^ (k % 64) else x j
theorem two_lt (i : Nat) (h : i < 64) : 2 ^ i < 18446744073709551616 := by
  have : 2 ^ i ≤ 2 ^ 63 := Nat.pow_le_pow_right (by omega) (by omega)
  have h2 : (2 : Nat) ^ 63 = 9223372036854775808 := by decide
  omega
theorem Wd.flip {S : SpV} {x : Nat → Nat} (h : Wd S x) (k : Nat) : Wd (S.flip k) (flipW x k) := by
  refine ⟨fun j => ?_, fun i hi => ?_⟩
  · unfold flipW
    split
    · have h1 := h.lt j
      have h2 := two_lt (k % 64) (Nat.mod_lt _ (by decide))
      have e : (18446744073709551616 : Nat) = 2 ^ 64 := by decide
      rw [e] at h1 h2 ⊢
      exact Nat.xor_lt_two_pow h1 h2
    · exact h.lt j
  · have hb := h.bit i hi
    unfold flipW
    by_cases e : i = k
    · subst e
      rw [if_pos rfl, Nat.testBit_xor, hb, SpV.flip_at, Nat.testBit_two_pow]
      simp
    · rw [SpV.flip_ne S e]
      by_cases e2 : i / 64 = k / 64
      · rw [if_pos e2, Nat.testBit_xor, hb, Nat.testBit_two_pow]
        have : ¬ k % 64 = i % 64 := fun h => e (by omega)
        simp [this]
      · rw [if_neg e2]; exact hb
/-- As the program asks for a bit. -/
theorem and_bit64 (m k : Nat) (hm : m < 18446744073709551616) : bits BinOp.and IntKind.u64 ((m : Int) / 2 ^ k) 1 = if m.testBit k then 1 else 0 := by
  have h2 : ((m : Int) / 2 ^ k) = ((m / 2 ^ k : Nat) : Int) := by
    rw [Int.natCast_ediv, Int.natCast_pow]
    rfl
  have h3 : m / 2 ^ k ≤ m := Nat.div_le_self _ _
  rw [h2, show (1 : Int) = ((1 : Nat) : Int) from rfl, u64_and_nat _ _ (by omega) (by omega), Nat.and_one_is_mod, Nat.testBit_eq_decide_div_mod_eq]
  by_cases h : m / 2 ^ k % 2 = 1
  · rw [h]; simp
  · have h0 : m / 2 ^ k % 2 = 0 := by omega
    rw [h0]; simp
theorem xor_bit64 (m k : Nat) (hm : m < 18446744073709551616) (hk : k < 64) : bits BinOp.xor IntKind.u64 (m : Int) ((2 : Int) ^ k % 18446744073709551616) = ((m ^^^ 2 ^ k : Nat) : Int) := by
  have h1 := two_lt k hk
  have h2 : ((2 : Int) ^ k % 18446744073709551616) = ((2 ^ k : Nat) : Int) := by
    have : ((2 : Int) ^ k) = ((2 ^ k : Nat) : Int) := by rw [Int.natCast_pow]; rfl
    rw [this]
    exact Int.emod_eq_of_lt (Int.natCast_nonneg _) (Int.ofNat_lt.2 h1)
  rw [h2, u64_xor_nat _ _ hm h1]
end Go.Proofs.Ytdhnidmeeocajaa
