/- Plain mathematics of seen paths, and of moves. No program. No condition. -/
import Derived.Test.YtffhakomnkicoaaDoorPathC
namespace Go.Proofs.YtffhakomnkicoaaDoor

/-- What comes before the first tilde. -/
def base (s : List UInt8) : List UInt8 := (cut 126 s).headD []
/-- Is there a tilde? -/
def tild (s : List UInt8) : Bool := decide (1 < (cut 126 s).length)
/-- What is wrong with the parts of a seen path, the first of which is the i-th one. -/
def seenW : Nat → List (List UInt8) → Nat
  | _, [] => 0
  | i, [s] => if chk (base s) ≠ 0 then chk (base s) else if 4 < i then 3 else if tild s = true ∧ splitO s = none then 4 else 0
  | i, s :: t :: l => if chk s ≠ 0 then chk s else if 4 < i then 3 else seenW (i + 1) (t :: l)
/-- The names of a seen path. -/
def seenN : List (List UInt8) → List (List UInt8)
  | [] => []
  | [s] => [base s]
  | s :: t :: l => s :: seenN (t :: l)
/-- The dot of a seen path. -/
def seenD : List (List UInt8) → Option (Nat × Nat)
  | [] => none
  | [s] => if tild s = true then (splitO s).map (·.2) else none
  | _ :: t :: l => seenD (t :: l)
/-- What a text means as a seen path: its names, the dot, if there is one, or what is wrong. -/
def seen (p : List UInt8) : List (List UInt8) × Option (Nat × Nat) × Nat :=
  if 44 < p.length then ([], none, 3)
  else if (cut 47 p).length < 2 ∨ (cut 47 p).headD [] ≠ [] then ([], none, 4)
  else if p = [47] then ([], none, 0)
  else if seenW 1 (cut 47 p).tail ≠ 0 then ([], none, seenW 1 (cut 47 p).tail)
  else (seenN (cut 47 p).tail, seenD (cut 47 p).tail, 0)
theorem base_free {s : List UInt8} (h : (126 : UInt8) ∉ s) : base s = s := by unfold base; rw [cut_free h]; rfl
theorem tild_free {s : List UInt8} (h : (126 : UInt8) ∉ s) : tild s = false := by unfold tild; rw [cut_free h]; rfl
theorem base_conf {a : List UInt8} {r n : Nat} (h : okd a r n) : base (conf a r n) = a := by unfold base; rw [cut_conf h]; rfl
theorem tild_conf {a : List UInt8} {r n : Nat} (h : okd a r n) : tild (conf a r n) = true := by unfold tild; rw [cut_conf h]; rfl
theorem seenW_names : ∀ {l : List (List UInt8)} {i : Nat}, (∀ s ∈ l, chk s = 0) → i + l.length ≤ 5 → seenW i l = 0
  | [], _, _, _ => rfl
  | [s], i, h, hi => by
    have hs := h s (by simp)
    have ht := chk_not hs okc_tilde
    rw [seenW, base_free ht, tild_free ht, if_neg (by simp [hs]), if_neg (by simp at hi; omega), if_neg (by simp)]
  | s :: t :: l, i, h, hi => by
    have hs := h s (by simp)
    rw [seenW, if_neg (by simp [hs]), if_neg (by simp at hi; omega)]
    exact seenW_names (fun u hu => h u (by simp [hu])) (by simp at hi ⊢; omega)
theorem seenN_names : ∀ {l : List (List UInt8)}, (∀ s ∈ l, chk s = 0) → seenN l = l
  | [], _ => rfl
  | [s], h => by rw [seenN, base_free (chk_not (h s (by simp)) okc_tilde)]
  | s :: t :: l, h => by rw [seenN, seenN_names (fun u hu => h u (by simp [hu]))]
theorem seenD_names : ∀ {l : List (List UInt8)}, (∀ s ∈ l, chk s = 0) → seenD l = none
  | [], _ => rfl
  | [s], h => by rw [seenD, tild_free (chk_not (h s (by simp)) okc_tilde)]; rfl
  | s :: t :: l, h => by rw [seenD, seenD_names (fun u hu => h u (by simp [hu]))]
/-- A path's text, seen: its names, and no dot. -/
theorem seen_txt {l : List (List UInt8)} (h : good l) : seen (txt l) = (l, none, 0) := by
  by_cases hl : l = []
  · subst hl; rfl
  · have hc := cut_txt (fun t ht => chk_not (h.1 t ht) okc_slash) hl
    obtain ⟨s, r, rfl⟩ := List.exists_cons_of_ne_nil hl
    have hs := (chk_ok.1 (h.1 s (by simp))).1
    have hne : txt (s :: r) ≠ [47] := fun e => by
      unfold txt at e
      rw [if_neg hl, List.flatMap_cons] at e
      obtain ⟨c, u, rfl⟩ := List.exists_cons_of_ne_nil hs
      simp at e
    have hw : seenW 1 (s :: r) = 0 := seenW_names h.1 (by have := h.2; omega)
    unfold seen
    rw [if_neg (by have := txt_len h; omega), hc, if_neg (by simp), if_neg hne, List.tail_cons, if_neg (by simp [hw]), seenN_names h.1, seenD_names h.1]
theorem conf_slash {a : List UInt8} {r n : Nat} (h : okd a r n) : (47 : UInt8) ∉ conf a r n := by
  intro hm
  unfold conf at hm
  rcases List.mem_append.1 hm with hm | hm
  · exact chk_not h.1 okc_slash hm
  · rcases List.mem_cons.1 hm with e | hm
    · cases e
    · rcases List.mem_cons.1 hm with e | hm
      · exact isd_ne (isd_dig (by have := h.2.1; omega)) (by decide) e.symm
      · rcases List.mem_cons.1 hm with e | hm
        · cases e
        · exact isd_ne (List.all_eq_true.1 (digs_spec n).2.1 _ hm) (by decide) rfl
theorem seenW_conf {a : List UInt8} {r n : Nat} (h : okd a r n) : ∀ {l : List (List UInt8)} {i : Nat}, (∀ s ∈ l, chk s = 0) → i + l.length ≤ 4 → seenW i (l ++ [conf a r n]) = 0
  | [], i, _, hi => by
    rw [List.nil_append, seenW, base_conf h, if_neg (by simp [h.1]), if_neg (by simp at hi; omega), splitO_conf h, if_neg (by simp)]
  | [s], i, hl, hi => by
    rw [List.cons_append, List.nil_append, seenW, if_neg (by simp [hl s (by simp)]), if_neg (by simp at hi; omega)]
    exact seenW_conf h (l := []) (by simp) (by simp at hi ⊢; omega)
  | s :: t :: l, i, hl, hi => by
    rw [List.cons_append, List.cons_append, seenW, if_neg (by simp [hl s (by simp)]), if_neg (by simp at hi; omega)]
    exact seenW_conf h (l := t :: l) (fun u hu => hl u (by simp [hu])) (by simp at hi ⊢; omega)
theorem seenN_conf {a : List UInt8} {r n : Nat} (h : okd a r n) : ∀ {l : List (List UInt8)}, seenN (l ++ [conf a r n]) = l ++ [a]
  | [] => by rw [List.nil_append, seenN, base_conf h]; rfl
  | [s] => by
    rw [List.cons_append, List.nil_append, seenN]
    exact congrArg _ (seenN_conf h (l := []))
  | s :: t :: l => by
    rw [List.cons_append, List.cons_append, seenN]
    exact congrArg _ (seenN_conf h (l := t :: l))
theorem seenD_conf {a : List UInt8} {r n : Nat} (h : okd a r n) : ∀ {l : List (List UInt8)}, seenD (l ++ [conf a r n]) = some (r, n)
  | [] => by rw [List.nil_append, seenD, tild_conf h, splitO_conf h]; rfl
  | [s] => by
    rw [List.cons_append, List.nil_append, seenD]
    exact seenD_conf h (l := [])
  | s :: t :: l => by
    rw [List.cons_append, List.cons_append, seenD]
    exact seenD_conf h (l := t :: l)
theorem flat_append (l m : List (List UInt8)) : (l ++ m).flatMap (47 :: ·) = l.flatMap (47 :: ·) ++ m.flatMap (47 :: ·) := by simp
/-- A conflict name is seen as the last name of a path. -/
theorem seen_conf {l : List (List UInt8)} {a : List UInt8} {r n : Nat} (h : okd a r n) (hl : ∀ s ∈ l, chk s = 0) (hn : l.length ≤ 3) : seen (txt (l ++ [conf a r n])) = (l ++ [a], some (r, n), 0) := by
  have hne : l ++ [conf a r n] ≠ [] := by simp
  have hc := cut_txt (l := l ++ [conf a r n]) (fun t ht => by
    rcases List.mem_append.1 ht with ht | ht
    · exact chk_not (hl t ht) okc_slash
    · obtain rfl : t = conf a r n := by simpa using ht
      exact conf_slash h) hne
  have hlen : (txt (l ++ [conf a r n])).length ≤ 44 := by
    have h1 := flat_len hl
    have h2 := conf_len h
    unfold txt
    rw [if_neg hne, flat_append, List.length_append]
    simp only [List.flatMap_cons, List.flatMap_nil, List.append_nil, List.length_cons]
    omega
  have hne2 : txt (l ++ [conf a r n]) ≠ [47] := fun e => by
    rw [e] at hc
    have : cut 47 [47] = [[], []] := by decide
    rw [this] at hc
    have h2 : l ++ [conf a r n] = [[]] := (List.cons.inj hc).2.symm
    have h3 : conf a r n ∈ [([] : List UInt8)] := by rw [← h2]; simp
    have h4 : conf a r n = [] := by simpa using h3
    unfold conf at h4
    simp at h4
  unfold seen
  rw [if_neg (by omega), hc, if_neg (by simp), if_neg hne2, List.tail_cons, if_neg (by simp [seenW_conf h (l := l) (i := 1) hl (by omega)]), seenN_conf h, seenD_conf h]

/-- Are these the first names? -/
def within (a b : List (List UInt8)) : Bool := decide (a <+: b)
/-- Where names move to. -/
def move (l a b : List (List UInt8)) : List (List UInt8) := if a <+: l then b ++ l.drop a.length else l
theorem move_in (a b r : List (List UInt8)) : move (a ++ r) a b = b ++ r := by
  unfold move
  rw [if_pos (List.prefix_append a r), List.drop_left]
end Go.Proofs.YtffhakomnkicoaaDoor
