/- Spaces, of no program: those that are used, ascending; what Load makes of them; a space and a list of what is used. No condition. -/
import Derived.Test.YtdhnidmeeocajaaSpC
namespace Go.Proofs.Ytdhnidmeeocajaa
open Go.RowKit

/-- The used ones below k, ascending. -/
def SpV.usd (S : SpV) (k : Nat) : List Int := ((List.range k).filter fun i => decide (S.a ≤ i) && !S.F i).map fun i : Nat => (i : Int)
theorem SpV.usd_succ (S : SpV) (k : Nat) : S.usd (k + 1) = S.usd k ++ (if S.a ≤ k ∧ S.F k = false then [(k : Int)] else []) := by
  unfold SpV.usd
  rw [List.range_succ, List.filter_append, List.map_append]
  congr 1
  by_cases h : S.a ≤ k ∧ S.F k = false
  · rw [if_pos h]; simp [h.1, h.2]
  · rw [if_neg h]
    have : (decide (S.a ≤ k) && !S.F k) = false := by
      cases hf : S.F k with
      | true => simp
      | false => simp; rcases Nat.lt_or_ge k S.a with h1 | h1
                 · exact h1
                 · exact absurd ⟨h1, hf⟩ h
    simp [this]
theorem SpV.usd_low (S : SpV) : ∀ k, k ≤ S.a → S.usd k = []
  | 0, _ => rfl
  | k + 1, hk => by rw [S.usd_succ, SpV.usd_low S k (by omega), if_neg (fun h => by omega)]; rfl
theorem SpV.usd_len (S : SpV) (k : Nat) : (S.usd k).length ≤ k := by
  unfold SpV.usd
  rw [List.length_map]
  have := List.length_filter_le (fun i => decide (S.a ≤ i) && !S.F i) (List.range k)
  rwa [List.length_range] at this
/-- What is used below k is used, all else is free. -/
def SpV.prt (S : SpV) (k : Nat) : SpV := ⟨S.a, S.n, fun i => decide (S.a ≤ i) && decide (i < S.n) && (if i < k then S.F i else true)⟩
theorem SpV.prt_a (S : SpV) : S.prt S.a = SpV.new S.a S.n := by
  unfold SpV.prt SpV.new
  congr 1
  funext i
  by_cases h : i < S.a
  · rw [decide_eq_false (by omega : ¬ S.a ≤ i), Bool.false_and, Bool.false_and]
  · rw [if_neg h, Bool.and_true]
theorem SpV.prt_n {S : SpV} (h : S.ok) : S.prt S.n = S := by
  obtain ⟨a, n, F⟩ := S
  unfold SpV.prt
  congr 1
  funext i
  show (decide (a ≤ i) && decide (i < n) && (if i < n then F i else true)) = F i
  cases hf : F i with
  | true =>
    obtain ⟨h1, h2⟩ := h.fr i hf
    have h1 : a ≤ i := h1
    have h2 : i < n := h2
    rw [if_pos h2, decide_eq_true h1, decide_eq_true h2]
    rfl
  | false =>
    by_cases h2 : i < n
    · rw [if_pos h2, Bool.and_false]
    · rw [decide_eq_false h2, Bool.and_false, Bool.false_and]
theorem SpV.prt_skip {S : SpV} {k : Nat} (hf : S.F k = true) : S.prt (k + 1) = S.prt k := by
  unfold SpV.prt
  congr 1
  funext i
  by_cases e : i = k
  · subst e
    rw [if_pos (by omega), if_neg (by omega), hf]
  · by_cases h : i < k
    · rw [if_pos h, if_pos (by omega)]
    · rw [if_neg h, if_neg (by omega)]
theorem SpV.prt_use {S : SpV} {k : Nat} (hf : S.F k = false) (h1 : S.a ≤ k) (h2 : k < S.n) : (S.prt k).use (k : Int) = (S.prt (k + 1), 0) := by
  have hi : (S.prt k).inn (k : Int) = true := SpV.inn_of (S := S.prt k) h1 h2
  have hF : (S.prt k).F k = true := by
    show (decide (S.a ≤ k) && decide (k < S.n) && (if k < k then S.F k else true)) = true
    rw [if_neg (Nat.lt_irrefl _), decide_eq_true h1, decide_eq_true h2]
    rfl
  unfold SpV.use
  rw [if_pos hi, Int.toNat_natCast, if_pos hF]
  congr 1
  unfold SpV.flip SpV.prt
  congr 1
  funext i
  show (if i = k then !((S.prt k).F k) else (S.prt k).F i) = _
  by_cases e : i = k
  · subst e
    rw [if_pos rfl, hF, if_pos (by omega), hf, Bool.and_false]
    rfl
  · rw [if_neg e]
    show (decide (S.a ≤ i) && decide (i < S.n) && (if i < k then S.F i else true)) = _
    by_cases h : i < k
    · rw [if_pos h, if_pos (by omega)]
    · rw [if_neg h, if_neg (by omega)]
theorem SpV.loadU_app (S0 : SpV) (l : List Int) (z : Int) {S : SpV} (e : S0.loadU l = some S) : S0.loadU (l ++ [z]) = if (S.use z).2 = 0 then some (S.use z).1 else none := by
  have h := S0.loadU_step (l ++ [z]) l.length (by simp) (S := S) (by rw [List.take_left]; exact e)
  rw [List.take_of_length_le (by simp)] at h
  rw [h]
  have e2 : (l ++ [z])[l.length]'(by simp) = z := by simp
  rw [e2]
/-- Load of what is used is the same space. -/
theorem SpV.loadU_usd {S : SpV} (h : S.ok) : ∀ d, S.a + d ≤ S.n → (SpV.new S.a S.n).loadU (S.usd (S.a + d)) = some (S.prt (S.a + d))
  | 0, _ => by
    show (SpV.new S.a S.n).loadU (S.usd S.a) = some (S.prt S.a)
    rw [S.usd_low S.a (Nat.le_refl _), S.prt_a]
    rfl
  | d + 1, hd => by
    have ih := SpV.loadU_usd h d (by omega)
    show (SpV.new S.a S.n).loadU (S.usd (S.a + d + 1)) = some (S.prt (S.a + d + 1))
    rw [S.usd_succ]
    cases hf : S.F (S.a + d) with
    | true =>
      rw [if_neg (fun h => by cases h.2), List.append_nil, ih, SpV.prt_skip hf]
    | false =>
      rw [if_pos ⟨by omega, rfl⟩, SpV.loadU_app _ _ _ ih, SpV.prt_use hf (by omega) (by omega)]
      rfl
theorem SpV.loadU_all {S : SpV} (h : S.ok) : (SpV.new S.a S.n).loadU (S.usd S.n) = some S := by
  have := SpV.loadU_usd h (S.n - S.a) (by have := h.lo; omega)
  rw [show S.a + (S.n - S.a) = S.n by have := h.lo; omega, SpV.prt_n h] at this
  exact this

/-- Where one is used, fewer are free than are ruled. -/
theorem SpV.few_len (S : SpV) (h : S.ok) : ∀ m, m ≤ S.n → (S.done m).length ≤ m - S.a
  | 0, _ => by simp [SpV.done]
  | m + 1, hm => by
    have ih := SpV.few_len S h m (by omega)
    rw [SpV.done_succ, List.length_append]
    by_cases hf : S.F m = true
    · have := (h.fr m hf).1
      rw [if_pos hf]
      simp
      omega
    · rw [if_neg hf]
      simp
      omega
theorem SpV.full_len {S : SpV} (h : S.ok) (k : Nat) (h1 : S.a ≤ k) (h2 : k < S.n) (hf : S.F k = false) : S.all.length < S.n - S.a := by
  have h3 := SpV.few_len (S.flip k) (SpV.flip_ok h h1 h2) S.n (Nat.le_refl _)
  have h4 := SpV.flip_more h2 hf
  have h5 : ((S.flip k).done S.n).length = (S.flip k).all.length := rfl
  have h6 : (S.flip k).a = S.a := rfl
  omega

/-- A space and a list of what is used. -/
structure Lst (S : SpV) (L : List Int) : Prop where
  nd : L.Nodup
  mem : ∀ k : Nat, (k : Int) ∈ L ↔ S.a ≤ k ∧ k < S.n ∧ S.F k = false
  len : S.all.length + L.length = S.n - S.a
theorem SpV.new_F {a n k : Nat} (h1 : a ≤ k) (h2 : k < n) : (SpV.new a n).F k = true := by
  show (decide (a ≤ k) && decide (k < n)) = true
  rw [decide_eq_true h1, decide_eq_true h2]
  rfl
theorem Lst.new (a n : Nat) : Lst (SpV.new a n) [] := ⟨List.nodup_nil, fun k => ⟨fun h => (by cases h), fun ⟨h1, h2, h3⟩ => by
  rw [show (SpV.new a n).F k = true from SpV.new_F h1 h2] at h3
  cases h3⟩, by rw [SpV.new_all]; rfl⟩
section
variable {S : SpV} {L : List Int} {k : Nat}
theorem Lst.use (h : Lst S L) (h1 : S.a ≤ k) (h2 : k < S.n) (hf : S.F k = true) : Lst (S.flip k) (L ++ [(k : Int)]) := by
  have hn : (k : Int) ∉ L := fun hm => by
    have := ((h.mem k).1 hm).2.2
    rw [hf] at this
    cases this
  refine ⟨?_, fun i => ?_, ?_⟩
  · rw [List.nodup_append]
    refine ⟨h.nd, by simp, fun x hx y hy e => ?_⟩
    rw [List.mem_singleton] at hy
    subst hy
    subst e
    exact hn hx
  · rw [List.mem_append, List.mem_singleton, h.mem i]
    by_cases e : i = k
    · subst e
      rw [SpV.flip_at, hf]
      exact ⟨fun _ => ⟨h1, h2, rfl⟩, fun _ => .inr rfl⟩
    · rw [SpV.flip_ne S e]
      exact ⟨fun hh => hh.elim id (fun hh => absurd (Int.natCast_inj.1 hh) e), .inl⟩
  · have := SpV.flip_less h2 hf
    have := h.len
    rw [List.length_append, List.length_singleton]
    show (S.flip k).all.length + (L.length + 1) = S.n - S.a
    omega
theorem Lst.give (h : Lst S L) (h1 : S.a ≤ k) (h2 : k < S.n) (hf : S.F k = false) : Lst (S.flip k) (L.erase (k : Int)) := by
  have hm : (k : Int) ∈ L := (h.mem k).2 ⟨h1, h2, hf⟩
  refine ⟨h.nd.erase _, fun i => ?_, ?_⟩
  · rw [h.nd.mem_erase_iff, h.mem i]
    by_cases e : i = k
    · subst e
      rw [SpV.flip_at, hf]
      exact ⟨fun hh => absurd rfl hh.1, fun hh => by cases hh.2.2⟩
    · rw [SpV.flip_ne S e]
      exact ⟨fun hh => hh.2, fun hh => ⟨fun e2 => e (Int.natCast_inj.1 e2), hh⟩⟩
  · have := SpV.flip_more h2 hf
    have := h.len
    have := List.length_erase_of_mem hm
    have := List.length_pos_of_mem hm
    show (S.flip k).all.length + (L.erase (k : Int)).length = S.n - S.a
    omega
theorem Lst.le (h : Lst S L) (hok : S.ok) : L.length ≤ 2048 := by
  have := h.len
  have := hok.hi
  omega
end
/-- Where a number stands; -1: nowhere. -/
def atL (L : List Int) (z : Int) : Int := if z ∈ L then (L.idxOf z : Int) else -1
theorem eraseZ_idx (L : List Int) (z : Int) : L.erase z = L.take (L.idxOf z) ++ L.drop (L.idxOf z + 1) := by
  rw [List.erase_eq_eraseIdx_of_idxOf rfl, List.eraseIdx_eq_take_drop_succ]
end Go.Proofs.Ytdhnidmeeocajaa
