/- Versions, what is newer, what a policy keeps: the mathematics, of no program. No condition. -/
import Derived.Test.YtbmlfhiffooilaaRec
namespace Go.Proofs.Ytbmlfhiffooilaa

/-- A version: its ID and tick, numbers of 32 bits. -/
structure StI where
  id : Nat
  tick : Nat
  hi : id ≤ 4294967295
  ht : tick ≤ 4294967295
theorem StI.ext' {a b : StI} (h1 : a.id = b.id) (h2 : a.tick = b.tick) : a = b := by
  obtain ⟨i, t, _, _⟩ := a
  obtain ⟨i', t', _, _⟩ := b
  simp only at h1 h2
  subst h1 h2
  rfl
instance : DecidableEq StI := fun a b =>
  if h1 : a.id = b.id then if h2 : a.tick = b.tick then isTrue (StI.ext' h1 h2) else isFalse (fun e => h2 (by rw [e])) else isFalse (fun e => h1 (by rw [e]))
/-- Is a newer than b? -/
def newer (a b : StI) : Bool := decide (b.tick < a.tick) || (decide (a.tick = b.tick) && decide (b.id < a.id))
theorem newer_iff {a b : StI} : newer a b = true ↔ b.tick < a.tick ∨ a.tick = b.tick ∧ b.id < a.id := by simp [newer]
theorem newer_iff' {a b : StI} : newer a b = false ↔ ¬ (b.tick < a.tick ∨ a.tick = b.tick ∧ b.id < a.id) := by
  rw [← newer_iff]; simp
theorem newer_self (a : StI) : newer a a = false := newer_iff'.2 (by omega)
theorem newer_total {a b : StI} (h : newer a b = false) (h' : newer b a = false) : a = b := by
  rw [newer_iff'] at h h'
  exact StI.ext' (by omega) (by omega)
def zSt : StI := ⟨0, 0, by omega, by omega⟩
theorem zSt_old (s : StI) : newer zSt s = false := newer_iff'.2 (by simp [zSt])
/-- The newest one of a bucket. -/
def topF (wd b : Nat) (acc s : StI) : StI := if s.tick / wd = b ∧ newer s acc = true then s else acc
def top (l : List StI) (wd b : Nat) : StI := l.foldl (topF wd b) zSt
theorem top_nil (wd b : Nat) : top [] wd b = zSt := rfl
theorem top_snoc (l : List StI) (s : StI) (wd b : Nat) : top (l ++ [s]) wd b = topF wd b (top l wd b) s := by simp [top, List.foldl_append]
theorem top_fold (wd b : Nat) : ∀ (l : List StI) (a : StI), (l.foldl (topF wd b) a = a ∨ ∃ t ∈ l, t.tick / wd = b ∧ l.foldl (topF wd b) a = t) ∧ newer a (l.foldl (topF wd b) a) = false ∧ ∀ t ∈ l, t.tick / wd = b → newer t (l.foldl (topF wd b) a) = false := by
  intro l
  induction l with
  | nil => intro a; exact ⟨.inl rfl, newer_self a, fun t h => (by cases h)⟩
  | cons s l ih =>
    intro a
    obtain ⟨h1, h2, h3⟩ := ih (topF wd b a s)
    rw [List.foldl_cons]
    by_cases hc : s.tick / wd = b ∧ newer s a = true
    · have e : topF wd b a s = s := if_pos hc
      rw [e] at h1 h2 h3 ⊢
      refine ⟨.inr ?_, ?_, fun t ht hb => ?_⟩
      · rcases h1 with h1 | ⟨t, ht, hb, h1⟩
        · exact ⟨s, List.mem_cons_self, hc.1, h1⟩
        · exact ⟨t, List.mem_cons_of_mem _ ht, hb, h1⟩
      · have h4 := newer_iff.1 hc.2
        have h5 := newer_iff'.1 h2
        exact newer_iff'.2 (by omega)
      · rcases List.mem_cons.1 ht with rfl | ht
        · exact h2
        · exact h3 t ht hb
    · have e : topF wd b a s = a := if_neg hc
      rw [e] at h1 h2 h3 ⊢
      refine ⟨?_, h2, fun t ht hb => ?_⟩
      · rcases h1 with h1 | ⟨t, ht, hb, h1⟩
        · exact .inl h1
        · exact .inr ⟨t, List.mem_cons_of_mem _ ht, hb, h1⟩
      · rcases List.mem_cons.1 ht with rfl | ht
        · have h4 : newer t a = false := by
            cases hn : newer t a with
            | false => rfl
            | true => exact absurd ⟨hb, hn⟩ hc
          have h4 := newer_iff'.1 h4
          have h5 := newer_iff'.1 h2
          exact newer_iff'.2 (by omega)
        · exact h3 t ht hb
/-- Is no version of its bucket newer? -/
def firstS (l : List StI) (wd : Nat) (s : StI) : Bool := l.all fun t => !(decide (t.tick / wd = s.tick / wd) && newer t s)
theorem firstS_iff {l : List StI} {wd : Nat} {s : StI} : firstS l wd s = true ↔ ∀ t ∈ l, t.tick / wd = s.tick / wd → newer t s = false := by
  simp only [firstS, List.all_eq_true, Bool.not_eq_true', Bool.and_eq_false_iff, decide_eq_false_iff_not]
  exact ⟨fun h t ht hb => (h t ht).resolve_left (fun h => h hb), fun h t ht => by
    by_cases hb : t.tick / wd = s.tick / wd
    · exact .inr (h t ht hb)
    · exact .inl hb⟩
theorem top_first (l : List StI) (wd : Nat) (s : StI) : (!newer (top l wd (s.tick / wd)) s) = firstS l wd s := by
  obtain ⟨h1, h2, h3⟩ := top_fold wd (s.tick / wd) l zSt
  rw [Bool.eq_iff_iff, firstS_iff, Bool.not_eq_true']
  unfold top
  constructor
  · intro h t ht hb
    have h4 := newer_iff'.1 (h3 t ht hb)
    have h5 := newer_iff'.1 h
    exact newer_iff'.2 (by omega)
  · intro h
    rcases h1 with h1 | ⟨t, ht, hb, h1⟩
    · rw [h1]; exact zSt_old s
    · rw [h1]; exact h t ht hb
/-- Is a version of a list kept, by a policy's kind and age, at now? -/
def one9 (k a : Nat) (l : List StI) (now : Nat) (s : StI) : Bool :=
  if k = 1 then if now - s.tick ≤ 7 then true else if now - s.tick ≤ 63 then firstS l 8 s else if now - s.tick ≤ 511 then firstS l 64 s else false
  else if k = 0 ∧ 0 < a then decide (now - s.tick ≤ a) else true
def keep9 (k a : Nat) (l : List StI) (now : Nat) : List Bool := l.map (one9 k a l now)
def kept9 (k a : Nat) (l : List StI) (now : Nat) : List StI := l.filter (one9 k a l now)
/-- What Check answers. -/
def check9 (k a : Nat) (q : Int) : Nat := if 1 < k ∨ (if k = 1 then 0 else 1073741824) < a ∨ q < 0 ∨ 1048576 < q then 4 else 0

theorem firstS_mono {l m : List StI} {wd : Nat} {s : StI} (h : ∀ t ∈ m, t ∈ l) (hf : firstS l wd s = true) : firstS m wd s = true :=
  firstS_iff.2 fun t ht hb => firstS_iff.1 hf t (h t ht) hb
theorem firstS_8 {l : List StI} {s : StI} (h : firstS l 64 s = true) : firstS l 8 s = true :=
  firstS_iff.2 fun t ht hb => firstS_iff.1 h t ht (by omega)
/-- What is kept later was kept earlier. -/
theorem one9_early {k a : Nat} {l : List StI} {x y : Nat} (hxy : x ≤ y) {s : StI} (h : one9 k a l y s = true) : one9 k a l x s = true := by
  unfold one9 at h ⊢
  by_cases h1 : k = 1
  · rw [if_pos h1] at h ⊢
    by_cases a1 : x - s.tick ≤ 7
    · rw [if_pos a1]
    · rw [if_neg a1]
      rw [if_neg (by omega)] at h
      by_cases a2 : x - s.tick ≤ 63
      · rw [if_pos a2]
        by_cases b2 : y - s.tick ≤ 63
        · rw [if_pos b2] at h; exact h
        · rw [if_neg b2] at h
          by_cases b3 : y - s.tick ≤ 511
          · rw [if_pos b3] at h; exact firstS_8 h
          · rw [if_neg b3] at h; cases h
      · rw [if_neg a2]
        rw [if_neg (by omega)] at h
        by_cases b3 : y - s.tick ≤ 511
        · rw [if_pos b3] at h; rw [if_pos (by omega)]; exact h
        · rw [if_neg b3] at h; cases h
  · rw [if_neg h1] at h ⊢
    by_cases h2 : k = 0 ∧ 0 < a
    · rw [if_pos h2] at h ⊢
      have := of_decide_eq_true h
      exact decide_eq_true (by omega)
    · rw [if_neg h2]
/-- The newest one of a bucket, in a list. -/
theorem top_mem {l : List StI} {wd : Nat} {s : StI} (hs : s ∈ l) : ∃ t ∈ l, t.tick / wd = s.tick / wd ∧ newer s t = false ∧ firstS l wd t = true := by
  obtain ⟨h1, h2, h3⟩ := top_fold wd (s.tick / wd) l zSt
  have h4 := h3 s hs rfl
  rcases h1 with h1 | ⟨t, ht, hb, h1⟩
  · rw [h1] at h4 h3
    have h5 := newer_iff'.1 h4
    have e : s = zSt := newer_total h4 (zSt_old s)
    refine ⟨s, hs, rfl, newer_self s, firstS_iff.2 fun t ht hb => ?_⟩
    rw [e] at hb ⊢
    rw [e] at h3
    exact h3 t ht hb
  · rw [h1] at h4 h3
    exact ⟨t, ht, hb, h4, firstS_iff.2 fun q hq hb' => h3 q hq (by omega)⟩
/-- What is kept then of what was kept earlier is what is kept of all. -/
theorem kept9_again (k a : Nat) (l : List StI) (x y : Nat) (hxy : x ≤ y) : kept9 k a (kept9 k a l x) y = kept9 k a l y := by
  have hsub : ∀ t ∈ kept9 k a l x, t ∈ l := fun t ht => (List.mem_filter.1 ht).1
  have key : ∀ s ∈ l, (one9 k a l x s && one9 k a (kept9 k a l x) y s) = one9 k a l y s := by
    intro s hs
    cases hx : one9 k a l x s with
    | false =>
      cases hy : one9 k a l y s with
      | false => rfl
      | true => rw [one9_early hxy hy] at hx; cases hx
    | true =>
      rw [Bool.true_and]
      have hback : ∀ wd, wd = 8 ∨ wd = 64 → (y - s.tick ≤ 511) → k = 1 → firstS (kept9 k a l x) wd s = firstS l wd s := by
        intro wd hwd h5 h1
        cases hf : firstS l wd s with
        | true => exact firstS_mono hsub hf
        | false =>
          rw [Bool.eq_false_iff]
          intro hk
          obtain ⟨t, ht, hb, hn, hft⟩ := top_mem (wd := wd) hs
          have hn' := newer_iff'.1 hn
          have hft8 : firstS l 8 t = true := by
            rcases hwd with rfl | rfl
            · exact hft
            · exact firstS_8 hft
          have htk : one9 k a l x t = true := by
            unfold one9
            rw [if_pos h1]
            by_cases c1 : x - t.tick ≤ 7
            · rw [if_pos c1]
            · rw [if_neg c1]
              by_cases c2 : x - t.tick ≤ 63
              · rw [if_pos c2]; exact hft8
              · rw [if_neg c2, if_pos (by omega)]
                rcases hwd with rfl | rfl
                · unfold one9 at hx
                  rw [if_pos h1] at hx
                  by_cases d2 : x - s.tick ≤ 63
                  · omega
                  · rw [if_neg (by omega), if_neg d2, if_pos (by omega)] at hx
                    have hn2 := newer_iff'.1 (firstS_iff.1 hx t ht (by omega))
                    have e : s = t := StI.ext' (by omega) (by omega)
                    rw [← e]; exact hx
                · exact hft
          have h6 := newer_iff'.1 (firstS_iff.1 hk t (List.mem_filter.2 ⟨ht, htk⟩) hb)
          have e : s = t := StI.ext' (by omega) (by omega)
          rw [e, hft] at hf
          cases hf
      unfold one9
      by_cases h1 : k = 1
      · rw [if_pos h1, if_pos h1]
        by_cases b1 : y - s.tick ≤ 7
        · rw [if_pos b1, if_pos b1]
        · rw [if_neg b1, if_neg b1]
          by_cases b2 : y - s.tick ≤ 63
          · rw [if_pos b2, if_pos b2, hback 8 (.inl rfl) (by omega) h1]
          · rw [if_neg b2, if_neg b2]
            by_cases b3 : y - s.tick ≤ 511
            · rw [if_pos b3, if_pos b3, hback 64 (.inr rfl) (by omega) h1]
            · rw [if_neg b3, if_neg b3]
      · rw [if_neg h1, if_neg h1]
  unfold kept9 at key ⊢
  rw [List.filter_filter]
  refine List.filter_congr fun s hs => ?_
  rw [Bool.and_comm]
  exact key s hs
theorem kept9_sub {k a : Nat} {l : List StI} {x y : Nat} (hxy : x ≤ y) {s : StI} (h : s ∈ kept9 k a l y) : s ∈ kept9 k a l x :=
  List.mem_filter.2 ⟨(List.mem_filter.1 h).1, one9_early hxy (List.mem_filter.1 h).2⟩
/-- Of those kept no two are in one bucket. -/
theorem kept9_thin {l : List StI} {now : Nat} {s t : StI} (hs : s ∈ kept9 1 0 l now) (ht : t ∈ kept9 1 0 l now) (hne : s ≠ t) :
    ¬ (8 ≤ now - s.tick ∧ 8 ≤ now - t.tick ∧ s.tick / 8 = t.tick / 8) ∧ ¬ (64 ≤ now - s.tick ∧ 64 ≤ now - t.tick ∧ s.tick / 64 = t.tick / 64) ∧ ¬ 512 ≤ now - s.tick := by
  obtain ⟨hs1, hs2⟩ := List.mem_filter.1 hs
  obtain ⟨ht1, ht2⟩ := List.mem_filter.1 ht
  unfold one9 at hs2 ht2
  rw [if_pos rfl] at hs2 ht2
  have f8 : ∀ s, (if now - s.tick ≤ 7 then true else if now - s.tick ≤ 63 then firstS l 8 s else if now - s.tick ≤ 511 then firstS l 64 s else false) = true → 8 ≤ now - s.tick → firstS l 8 s = true := by
    intro s h h8
    rw [if_neg (by omega)] at h
    by_cases c : now - s.tick ≤ 63
    · rw [if_pos c] at h; exact h
    · rw [if_neg c] at h
      by_cases c2 : now - s.tick ≤ 511
      · rw [if_pos c2] at h; exact firstS_8 h
      · rw [if_neg c2] at h; cases h
  have f64 : ∀ s, (if now - s.tick ≤ 7 then true else if now - s.tick ≤ 63 then firstS l 8 s else if now - s.tick ≤ 511 then firstS l 64 s else false) = true → 64 ≤ now - s.tick → firstS l 64 s = true ∧ now - s.tick ≤ 511 := by
    intro s h h8
    rw [if_neg (by omega), if_neg (by omega)] at h
    by_cases c2 : now - s.tick ≤ 511
    · rw [if_pos c2] at h; exact ⟨h, c2⟩
    · rw [if_neg c2] at h; cases h
  refine ⟨fun ⟨h1, h2, h3⟩ => ?_, fun ⟨h1, h2, h3⟩ => ?_, fun h => ?_⟩
  · exact hne (newer_total (firstS_iff.1 (f8 t ht2 h2) s hs1 h3) (firstS_iff.1 (f8 s hs2 h1) t ht1 h3.symm))
  · exact hne (newer_total (firstS_iff.1 (f64 t ht2 h2).1 s hs1 h3) (firstS_iff.1 (f64 s hs2 h1).1 t ht1 h3.symm))
  · have := (f64 s hs2 (by omega)).2; omega
theorem kept9_newest {l : List StI} {now : Nat} {s : StI} (hs : s ∈ l) (hn : ∀ t ∈ l, newer t s = false) (ha : now - s.tick < 512) : s ∈ kept9 1 0 l now := by
  refine List.mem_filter.2 ⟨hs, ?_⟩
  unfold one9
  rw [if_pos rfl]
  have hf : ∀ wd, firstS l wd s = true := fun wd => firstS_iff.2 fun t ht _ => hn t ht
  by_cases c1 : now - s.tick ≤ 7
  · rw [if_pos c1]
  · rw [if_neg c1]
    by_cases c2 : now - s.tick ≤ 63
    · rw [if_pos c2]; exact hf 8
    · rw [if_neg c2, if_pos (by omega)]; exact hf 64
/-- One that comes at now takes none away. -/
theorem kept9_comes (k a : Nat) (l : List StI) (s : StI) (hl : ∀ t ∈ l, t.tick ≤ s.tick) : kept9 k a (l ++ [s]) s.tick = kept9 k a l s.tick ++ [s] := by
  have h1 : one9 k a (l ++ [s]) s.tick s = true := by
    unfold one9
    rw [Nat.sub_self]
    by_cases h : k = 1
    · rw [if_pos h, if_pos (by omega)]
    · rw [if_neg h]
      by_cases h2 : k = 0 ∧ 0 < a
      · rw [if_pos h2]; exact decide_eq_true (by omega)
      · rw [if_neg h2]
  have h2 : ∀ t ∈ l, one9 k a (l ++ [s]) s.tick t = one9 k a l s.tick t := by
    intro t ht
    have hf : ∀ wd, s.tick / wd ≠ t.tick / wd → firstS (l ++ [s]) wd t = firstS l wd t := by
      intro wd hne
      unfold firstS
      rw [List.all_append]
      simp [hne]
    have := hl t ht
    unfold one9
    by_cases h : k = 1
    · rw [if_pos h, if_pos h]
      by_cases c1 : s.tick - t.tick ≤ 7
      · rw [if_pos c1, if_pos c1]
      · rw [if_neg c1, if_neg c1]
        by_cases c2 : s.tick - t.tick ≤ 63
        · rw [if_pos c2, if_pos c2, hf 8 (by omega)]
        · rw [if_neg c2, if_neg c2]
          by_cases c3 : s.tick - t.tick ≤ 511
          · rw [if_pos c3, if_pos c3, hf 64 (by omega)]
          · rw [if_neg c3, if_neg c3]
    · rw [if_neg h, if_neg h]
  unfold kept9
  rw [List.filter_append, List.filter_congr h2]
  simp [h1]
end Go.Proofs.Ytbmlfhiffooilaa
