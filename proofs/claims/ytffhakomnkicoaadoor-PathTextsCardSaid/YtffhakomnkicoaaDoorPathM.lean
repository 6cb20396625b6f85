/- Plain mathematics of names, of paths' texts, of what a text is cut into. No program. No condition. -/
import Derived.Test.YtffhakomnkicoaaDoorFrm
namespace Go.Proofs.YtffhakomnkicoaaDoor

/-- May a name have this byte? -/
def okc (c : UInt8) : Bool := decide (33 ≤ c.toNat ∧ c.toNat ≤ 125 ∧ c.toNat ≠ 47)
/-- Is a text a name? If not, why. -/
def chk (s : List UInt8) : Nat := if s = [] then 4 else if s.all okc = true then (if 8 < s.length then 3 else 0) else 4
theorem chk_ok {s : List UInt8} : chk s = 0 ↔ s ≠ [] ∧ s.all okc = true ∧ s.length ≤ 8 := by
  unfold chk
  by_cases h1 : s = []
  · simp [h1]
  · rw [if_neg h1]
    by_cases h2 : s.all okc = true
    · rw [if_pos h2]
      by_cases h3 : 8 < s.length
      · rw [if_pos h3]
        exact ⟨fun h => by omega, fun h => by omega⟩
      · rw [if_neg h3]
        exact ⟨fun _ => ⟨h1, h2, by omega⟩, fun _ => rfl⟩
    · rw [if_neg h2]
      exact ⟨fun h => by omega, fun h => absurd h.2.1 h2⟩
theorem okc_slash : okc 47 = false := by decide
theorem okc_tilde : okc 126 = false := by decide
theorem chk_not {s : List UInt8} (h : chk s = 0) {c : UInt8} (hc : okc c = false) : c ∉ s := fun hm => by
  have := List.all_eq_true.1 (chk_ok.1 h).2.1 c hm
  rw [hc] at this; cases this

/-- A text, cut at a byte. -/
def cut (c : UInt8) : List UInt8 → List (List UInt8)
  | [] => [[]]
  | x :: r => if x = c then [] :: cut c r else (x :: (cut c r).headD []) :: (cut c r).tail
theorem cut_cons (c : UInt8) : ∀ s, ∃ h t, cut c s = h :: t
  | [] => ⟨[], [], rfl⟩
  | x :: r => by
    unfold cut
    split
    · exact ⟨_, _, rfl⟩
    · exact ⟨_, _, rfl⟩
theorem cut_free {c : UInt8} : ∀ {s : List UInt8}, c ∉ s → cut c s = [s]
  | [], _ => rfl
  | x :: r, h => by
    have h1 : x ≠ c := fun e => h (by simp [e])
    have h2 : c ∉ r := fun e => h (by simp [e])
    rw [cut, if_neg h1, cut_free h2]; rfl
theorem cut_app {c : UInt8} (r : List UInt8) : ∀ {s : List UInt8}, c ∉ s → cut c (s ++ c :: r) = s :: cut c r
  | [], _ => by rw [List.nil_append, cut, if_pos rfl]
  | x :: s, h => by
    have h1 : x ≠ c := fun e => h (by simp [e])
    have h2 : c ∉ s := fun e => h (by simp [e])
    rw [List.cons_append, cut, if_neg h1, cut_app r h2]; rfl
/-- Parts, with a byte between them. -/
def glue (c : UInt8) : List (List UInt8) → List UInt8
  | [] => []
  | s :: l => s ++ l.flatMap (c :: ·)
theorem glue_cut (c : UInt8) : ∀ s, glue c (cut c s) = s
  | [] => rfl
  | x :: r => by
    have ih := glue_cut c r
    obtain ⟨h, t, e⟩ := cut_cons c r
    rw [e] at ih
    by_cases h1 : x = c
    · subst h1
      rw [cut, if_pos rfl, e]
      show [] ++ (x :: h ++ t.flatMap (x :: ·)) = x :: r
      rw [List.nil_append, List.cons_append]
      exact congrArg _ ih
    · rw [cut, if_neg h1, e]
      show (x :: h) ++ t.flatMap (c :: ·) = x :: r
      rw [List.cons_append]
      exact congrArg _ ih
theorem cut_parts (c : UInt8) : ∀ s, ∀ t ∈ cut c s, c ∉ t
  | [], t, ht => by
    obtain rfl : t = [] := by simpa [cut] using ht
    simp
  | x :: r, t, ht => by
    have ih := cut_parts c r
    obtain ⟨h, u, e⟩ := cut_cons c r
    rw [e] at ih
    by_cases h1 : x = c
    · rw [cut, if_pos h1, e] at ht
      rcases List.mem_cons.1 ht with rfl | ht
      · simp
      · exact ih t ht
    · rw [cut, if_neg h1, e] at ht
      rcases List.mem_cons.1 ht with rfl | ht
      · intro hm
        rcases List.mem_cons.1 hm with e2 | hm
        · exact h1 e2.symm
        · exact ih h (by simp) hm
      · exact ih t (by simp only [List.tail_cons] at ht; simp [ht])

/-- What is wrong with names, the first of which is the i-th one. -/
def walk : Nat → List (List UInt8) → Nat
  | _, [] => 0
  | i, s :: l => if chk s ≠ 0 then chk s else if 4 < i then 3 else walk (i + 1) l
theorem walk_ok : ∀ {l : List (List UInt8)} {i : Nat}, walk i l = 0 ↔ (∀ s ∈ l, chk s = 0) ∧ (l = [] ∨ i + l.length ≤ 5)
  | [], i => by simp [walk]
  | s :: l, i => by
    unfold walk
    by_cases h1 : chk s = 0
    · rw [if_neg (by simp [h1])]
      by_cases h2 : 4 < i
      · rw [if_pos h2]
        constructor
        · intro h; omega
        · rintro ⟨_, h⟩
          rcases h with h | h
          · cases h
          · simp at h; omega
      · rw [if_neg h2, walk_ok]
        constructor
        · rintro ⟨h3, h4⟩
          refine ⟨fun t ht => ?_, .inr ?_⟩
          · rcases List.mem_cons.1 ht with rfl | ht
            · exact h1
            · exact h3 t ht
          · rcases h4 with rfl | h4
            · simp; omega
            · simp; omega
        · rintro ⟨h3, h4⟩
          refine ⟨fun t ht => h3 t (by simp [ht]), ?_⟩
          rcases h4 with h4 | h4
          · cases h4
          · right; simp at h4; omega
    · rw [if_pos h1]
      exact ⟨fun h => absurd h h1, fun h => absurd (h.1 s (by simp)) h1⟩
/-- What a text means as a path: its names, or what is wrong. -/
def parse (p : List UInt8) : List (List UInt8) × Nat :=
  if 36 < p.length then ([], 3)
  else if (cut 47 p).length < 2 ∨ (cut 47 p).headD [] ≠ [] then ([], 4)
  else if p = [47] then ([], 0)
  else if walk 1 (cut 47 p).tail ≠ 0 then ([], walk 1 (cut 47 p).tail)
  else ((cut 47 p).tail, 0)
/-- At most four names. -/
def good (l : List (List UInt8)) : Prop := (∀ s ∈ l, chk s = 0) ∧ l.length ≤ 4
/-- The text of names. -/
def txt (l : List (List UInt8)) : List UInt8 := if l = [] then [47] else l.flatMap (47 :: ·)
/-- The text of names, or what is wrong. -/
def text (l : List (List UInt8)) : List UInt8 × Nat := if ∃ s ∈ l, chk s ≠ 0 then ([], 4) else if 4 < l.length then ([], 3) else (txt l, 0)
theorem text_good {l : List (List UInt8)} (h : good l) : text l = (txt l, 0) := by
  unfold text
  rw [if_neg (fun ⟨s, hs, e⟩ => e (h.1 s hs)), if_neg (by have := h.2; omega)]
theorem text_ok {l : List (List UInt8)} : (text l).2 = 0 ↔ good l := by
  unfold text
  by_cases h1 : ∃ s ∈ l, chk s ≠ 0
  · rw [if_pos h1]
    obtain ⟨s, hs, e⟩ := h1
    exact ⟨fun h => by simp at h, fun h => absurd (h.1 s hs) e⟩
  · rw [if_neg h1]
    have h2 : ∀ s ∈ l, chk s = 0 := fun s hs => by
      rcases Nat.eq_zero_or_pos (chk s) with e | e
      · exact e
      · exact absurd ⟨s, hs, by omega⟩ h1
    by_cases h3 : 4 < l.length
    · rw [if_pos h3]
      exact ⟨fun h => by simp at h, fun h => by have := h.2; omega⟩
    · rw [if_neg h3]
      exact ⟨fun _ => ⟨h2, by omega⟩, fun _ => rfl⟩
theorem flat_len : ∀ {l : List (List UInt8)}, (∀ s ∈ l, chk s = 0) → (l.flatMap (47 :: ·)).length ≤ l.length * 9
  | [], _ => by simp
  | s :: l, h => by
    have h1 := (chk_ok.1 (h s (by simp))).2.2
    have h2 := flat_len (l := l) (fun t ht => h t (by simp [ht]))
    rw [List.flatMap_cons, List.length_append, List.length_cons, List.length_cons]
    omega
theorem txt_len {l : List (List UInt8)} (h : good l) : (txt l).length ≤ 36 := by
  unfold txt
  split
  · simp
  · have := flat_len h.1
    have := h.2
    omega
theorem cut_flat : ∀ {l : List (List UInt8)} {s : List UInt8}, 47 ∉ s → (∀ t ∈ l, (47 : UInt8) ∉ t) → cut 47 (s ++ l.flatMap (47 :: ·)) = s :: l
  | [], s, hs, _ => by rw [List.flatMap_nil, List.append_nil]; exact cut_free hs
  | t :: l, s, hs, h => by
    rw [List.flatMap_cons, List.cons_append, cut_app _ hs, cut_flat (h t (by simp)) (fun u hu => h u (by simp [hu]))]
theorem cut_txt {l : List (List UInt8)} (h : ∀ t ∈ l, (47 : UInt8) ∉ t) (hl : l ≠ []) : cut 47 (txt l) = [] :: l := by
  unfold txt
  rw [if_neg hl]
  have := cut_flat (l := l) (s := []) (by simp) h
  rwa [List.nil_append] at this
/-- The text of names is read as these. -/
theorem parse_txt {l : List (List UInt8)} (h : good l) : parse (txt l) = (l, 0) := by
  by_cases hl : l = []
  · subst hl; decide
  · have hc := cut_txt (fun t ht => chk_not (h.1 t ht) okc_slash) hl
    obtain ⟨s, r, rfl⟩ := List.exists_cons_of_ne_nil hl
    have hs := (chk_ok.1 (h.1 s (by simp))).1
    have hne : txt (s :: r) ≠ [47] := fun e => by
      unfold txt at e
      rw [if_neg hl, List.flatMap_cons] at e
      obtain ⟨c, u, rfl⟩ := List.exists_cons_of_ne_nil hs
      simp at e
    have hw : walk 1 (s :: r) = 0 := walk_ok.2 ⟨h.1, .inr (by have := h.2; omega)⟩
    unfold parse
    rw [if_neg (by have := txt_len h; omega), hc, if_neg (by simp), if_neg hne, List.tail_cons, if_neg (by simp [hw])]
/-- What is read has that text. -/
theorem parse_ok {p : List UInt8} (h : (parse p).2 = 0) : good (parse p).1 ∧ txt (parse p).1 = p := by
  unfold parse at *
  by_cases h1 : 36 < p.length
  · rw [if_pos h1] at h; simp at h
  · rw [if_neg h1] at *
    by_cases h2 : (cut 47 p).length < 2 ∨ (cut 47 p).headD [] ≠ []
    · rw [if_pos h2] at h; simp at h
    · rw [if_neg h2] at *
      by_cases h3 : p = [47]
      · rw [if_pos h3]; subst h3; exact ⟨⟨by simp, by simp⟩, rfl⟩
      · rw [if_neg h3] at *
        by_cases h4 : walk 1 (cut 47 p).tail ≠ 0
        · rw [if_pos h4] at h; exact absurd h h4
        · rw [if_neg h4] at *
          have hg := glue_cut 47 p
          obtain ⟨a, l, e⟩ := cut_cons 47 p
          rw [e] at h2 h4 hg ⊢
          have ha : a = [] := by
            rcases Decidable.em (a = []) with x | x
            · exact x
            · exact absurd (.inr x) h2
          have hl : l ≠ [] := fun x => h2 (.inl (by simp [x]))
          subst ha
          rw [List.tail_cons] at *
          have hw := walk_ok.1 (Decidable.not_not.1 h4)
          refine ⟨⟨hw.1, ?_⟩, ?_⟩
          · rcases hw.2 with x | x
            · exact absurd x hl
            · show l.length ≤ 4
              omega
          · unfold txt
            rw [if_neg hl]
            rw [glue, List.nil_append] at hg
            exact hg
end Go.Proofs.YtffhakomnkicoaaDoor
