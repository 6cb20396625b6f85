/- VectorRises: the mathematics of moves: what five vectors, and dots that were made, hold along them. Of no program. No condition. -/
import Derived.Test.YtmohegglclgcbaaVecQ
namespace Go.Proofs.Ytmohegglclgcbaa

/-- A dot that was made, and its maker's vector ahead of that. -/
structure Mk where
  r : Nat
  n : Nat
  k : Nat → Nat
instance : Inhabited Mk := ⟨⟨0, 0, fun _ => 0⟩⟩

/-- What the vectors V, the marks H and the dots D hold along moves. -/
structure Ris (V : Nat → Nat → Nat) (H : Nat → Nat → Bool) (D : List Mk) : Prop where
  small : ∀ x, x < 5 → ∀ r, r < 8 → V x r ≤ D.length
  far : ∀ x, x < 5 → ∀ r, r < 8 → 5 ≤ r → V x r = 0
  dot : ∀ i (h : i < D.length), D[i].r < 5 ∧ 1 ≤ D[i].n ∧ D[i].n ≤ D.length
  mark : ∀ x, x < 5 → ∀ i (h : i < D.length), H x i = decide (D[i].n ≤ V x D[i].r)
  none : ∀ x, x < 5 → ∀ k, D.length ≤ k → H x k = false
  rise : ∀ i (hi : i < D.length) j (hj : j < D.length), i < j → D[i].r = D[j].r → D[i].n < D[j].n
  own : ∀ x, x < 5 → ∀ y, y < 5 → V x y ≤ V y y
  had : ∀ i (h : i < D.length), D[i].n ≤ V D[i].r D[i].r
  over : ∀ i (h : i < D.length), ∀ r, r < 8 → D[i].k r < D[i].n
  late : ∀ i (hi : i < D.length) j (hj : j < D.length), i ≤ j → D[i].k D[j].r < D[j].n
  knew : ∀ i (h : i < D.length), ∀ r, r < 5 → D[i].k r ≤ V r r

def updV (V : Nat → Nat → Nat) (x : Nat) (f : Nat → Nat) : Nat → Nat → Nat := fun y => if y = x then f else V y
def updH (H : Nat → Nat → Bool) (x : Nat) (g : Nat → Bool) : Nat → Nat → Bool := fun y => if y = x then g else H y

theorem updH_zero (H : Nat → Nat → Bool) (x : Nat) (g : Nat → Bool) : updH H x (fun s => if s < 0 then g s else H x s) = H := by
  funext y s
  unfold updH
  split
  · rename_i e; subst e; simp
  · rfl
theorem updH_at (H : Nat → Nat → Bool) (x y t : Nat) (g : Nat → Bool) : updH H x (fun s => if s < t then g s else H x s) y t = H y t := by
  unfold updH
  split
  · rename_i e; subst e; simp
  · rfl
theorem updH_step (H : Nat → Nat → Bool) (x t : Nat) (g : Nat → Bool) (q : Bool) (hq : q = g t) :
    updH (updH H x (fun s => if s < t then g s else H x s)) x (fun j => if j = t then q else updH H x (fun s => if s < t then g s else H x s) x j) = updH H x (fun s => if s < t + 1 then g s else H x s) := by
  funext y s
  unfold updH
  by_cases e : y = x
  · subst e
    simp only [if_true]
    by_cases e2 : s = t
    · subst e2; simp [hq]
    · rw [if_neg e2]
      by_cases e3 : s < t
      · rw [if_pos e3, if_pos (by omega)]
      · rw [if_neg e3, if_neg (by omega)]
  · simp only [if_neg e]
theorem updH_end (H : Nat → Nat → Bool) (x : Nat) (g : Nat → Bool) (s : Nat) (hs : s < 60) (y : Nat) : updH H x (fun s => if s < 60 then g s else H x s) y s = updH H x g y s := by
  unfold updH
  split
  · simp [hs]
  · rfl

theorem Ris.start : Ris (fun _ _ => 0) (fun _ _ => false) [] :=
  ⟨fun _ _ _ _ => Nat.le_refl _, fun _ _ _ _ _ => rfl, fun i h => by simp at h, fun _ _ i h => by simp at h, fun _ _ _ _ => rfl, fun i h => by simp at h, fun _ _ _ _ => Nat.le_refl _, fun i h => by simp at h, fun i h => by simp at h, fun i h => by simp at h, fun i h => by simp at h⟩

theorem Ris.join {V : Nat → Nat → Nat} {H : Nat → Nat → Bool} {D : List Mk} (h : Ris V H D) {x y : Nat} (hx : x < 5) (hy : y < 5) :
    Ris (updV V x (jn8 (V x) (V y))) (updH H x fun k => H x k || H y k) D := by
  have dg : ∀ r, r < 5 → updV V x (jn8 (V x) (V y)) r r = V r r := fun r hr => by
    unfold updV
    split
    · rename_i e; subst e
      have := h.own y hy r hr
      rw [jn8_at]; omega
    · rfl
  refine ⟨fun z hz r hr => ?_, fun z hz r hr h5 => ?_, h.dot, fun z hz i hi => ?_, fun z hz k hk => ?_, h.rise, fun z hz r hr => ?_, fun i hi => ?_, h.over, h.late, fun i hi r hr => ?_⟩
  · unfold updV
    split
    · have h1 := h.small x hx r hr
      have h2 := h.small y hy r hr
      rw [jn8_at]; omega
    · exact h.small z hz r hr
  · unfold updV
    split
    · rw [jn8_at, h.far x hx r hr h5, h.far y hy r hr h5]; rfl
    · exact h.far z hz r hr h5
  · unfold updV updH
    split
    · dsimp only
      rw [h.mark x hx i hi, h.mark y hy i hi, jn8_at]
      by_cases a : D[i].n ≤ V x D[i].r <;> by_cases b : D[i].n ≤ V y D[i].r <;> simp [a, b] <;> omega
    · exact h.mark z hz i hi
  · unfold updH
    split
    · dsimp only
      rw [h.none x hx k hk, h.none y hy k hk]; rfl
    · exact h.none z hz k hk
  · rw [dg r hr]
    unfold updV
    split
    · have h1 := h.own x hx r hr
      have h2 := h.own y hy r hr
      rw [jn8_at]; omega
    · exact h.own z hz r hr
  · rw [dg _ (h.dot i hi).1]; exact h.had i hi
  · rw [dg r hr]; exact h.knew i hi r hr

theorem Ris.mx_le {V : Nat → Nat → Nat} {H : Nat → Nat → Bool} {D : List Mk} (h : Ris V H D) {x : Nat} (hx : x < 5) : mx (V x) 8 ≤ D.length :=
  (mx_le_iff _ _ _).2 fun r hr => h.small x hx r hr

theorem getElem_snoc {D : List Mk} {m : Mk} {i : Nat} (hi : i < (D ++ [m]).length) : (∃ h : i < D.length, (D ++ [m])[i] = D[i]) ∨ (i = D.length ∧ (D ++ [m])[i] = m) := by
  by_cases h : i < D.length
  · exact .inl ⟨h, List.getElem_append_left h⟩
  · have : i = D.length := by simp at hi; omega
    exact .inr ⟨this, by rw [List.getElem_append_right (by omega)]; simp [this]⟩

theorem Ris.next {V : Nat → Nat → Nat} {H : Nat → Nat → Bool} {D : List Mk} (h : Ris V H D) {x : Nat} (hx : x < 5) :
    Ris (updV V x (upd8 (V x) x (mx (V x) 8 + 1))) (updH H x fun k => if k = D.length then true else H x k) (D ++ [⟨x, mx (V x) 8 + 1, V x⟩]) := by
  have hm := h.mx_le hx
  have hl : (D ++ [(⟨x, mx (V x) 8 + 1, V x⟩ : Mk)]).length = D.length + 1 := by simp
  have hmx : ∀ r, r < 8 → V x r ≤ mx (V x) 8 := fun r hr => Go.Proofs.Ytmohegglclgcbaa.mx_le (V x) 8 r hr
  have dg : ∀ r, r < 5 → V r r ≤ updV V x (upd8 (V x) x (mx (V x) 8 + 1)) r r := fun r hr => by
    unfold updV
    split
    · rename_i e; subst e
      have := hmx r (by omega)
      simp only [upd8, if_true]; omega
    · exact Nat.le_refl _
  have dgx : updV V x (upd8 (V x) x (mx (V x) 8 + 1)) x x = mx (V x) 8 + 1 := by simp [updV, upd8]
  refine ⟨fun z hz r hr => ?_, fun z hz r hr h5 => ?_, fun i hi => ?_, fun z hz i hi => ?_, fun z hz k hk => ?_, fun i hi j hj hij he => ?_, fun z hz r hr => ?_, fun i hi => ?_, fun i hi r hr => ?_, fun i hi j hj hij => ?_, fun i hi r hr => ?_⟩
  · rw [hl]
    unfold updV
    split
    · have h1 := h.small x hx r hr
      unfold upd8; split <;> omega
    · have := h.small z hz r hr; omega
  · unfold updV
    split
    · unfold upd8
      rw [if_neg (by omega)]
      exact h.far x hx r hr h5
    · exact h.far z hz r hr h5
  · rw [hl]
    rcases getElem_snoc hi with ⟨h1, e⟩ | ⟨h1, e⟩
    · rw [e]; have := h.dot i h1; exact ⟨this.1, this.2.1, by omega⟩
    · rw [e]; exact ⟨hx, by simp, by simp; omega⟩
  · rcases getElem_snoc hi with ⟨h1, e⟩ | ⟨h1, e⟩
    · rw [e]
      have hd := h.dot i h1
      unfold updV updH
      split
      · dsimp only
        rw [if_neg (by omega), h.mark x hx i h1]
        unfold upd8
        split
        · rename_i e2
          have a1 := h.had i h1
          rw [e2] at a1 ⊢
          have a2 := hmx x (by omega)
          simp only [decide_eq_decide]; omega
        · rfl
      · exact h.mark z hz i h1
    · rw [e, h1]
      unfold updV updH
      split
      · simp [upd8]
      · rw [h.none z hz _ (Nat.le_refl _)]
        have a1 := h.own z hz x hx
        have a2 := hmx x (by omega)
        simp; omega
  · rw [hl] at hk
    unfold updH
    split
    · dsimp only
      rw [if_neg (by omega)]; exact h.none x hx k (by omega)
    · exact h.none z hz k (by omega)
  · rcases getElem_snoc hi with ⟨h1, e1⟩ | ⟨h1, e1⟩
    · rcases getElem_snoc hj with ⟨h2, e2⟩ | ⟨h2, e2⟩
      · rw [e1, e2] at he ⊢; exact h.rise i h1 j h2 hij he
      · rw [e1, e2] at he
        rw [e1, e2]
        have a1 := h.had i h1
        simp only at he
        rw [he] at a1
        have a2 := hmx x (by omega)
        simp only; omega
    · rw [hl] at hj; omega
  · have a := dg r hr
    unfold updV at a ⊢
    by_cases e : z = x
    · subst e
      by_cases e2 : r = z
      · subst e2; exact Nat.le_refl _
      · rw [if_pos rfl, if_neg e2]
        simp only [upd8, if_neg e2]
        exact h.own z hz r hr
    · rw [if_neg e]
      have := h.own z hz r hr
      exact Nat.le_trans this a
  · rcases getElem_snoc hi with ⟨h1, e1⟩ | ⟨h1, e1⟩
    · rw [e1]; exact Nat.le_trans (h.had i h1) (dg _ (h.dot i h1).1)
    · rw [e1]; simp only [dgx]; exact Nat.le_refl _
  · rcases getElem_snoc hi with ⟨h1, e1⟩ | ⟨h1, e1⟩
    · rw [e1]; exact h.over i h1 r hr
    · rw [e1]; have := hmx r hr; simp only; omega
  · rcases getElem_snoc hi with ⟨h1, e1⟩ | ⟨h1, e1⟩
    · rcases getElem_snoc hj with ⟨h2, e2⟩ | ⟨h2, e2⟩
      · rw [e1, e2]; exact h.late i h1 j h2 hij
      · rw [e1, e2]
        have a1 := h.knew i h1 x hx
        have a2 := hmx x (by omega)
        simp only; omega
    · rcases getElem_snoc hj with ⟨h2, e2⟩ | ⟨h2, e2⟩
      · omega
      · rw [e1, e2]
        have a2 := hmx x (by omega)
        simp only; omega
  · rcases getElem_snoc hi with ⟨h1, e1⟩ | ⟨h1, e1⟩
    · rw [e1]; exact Nat.le_trans (h.knew i h1 r hr) (dg r hr)
    · rw [e1]; exact Nat.le_trans (h.own x hx r hr) (dg r hr)
theorem Ris.okD {V : Nat → Nat → Nat} {H : Nat → Nat → Bool} {D : List Mk} (h : Ris V H D) (h60 : D.length ≤ 60) (i : Nat) (hi : i < D.length) : okD D[i].r D[i].n = true := by
  have := h.dot i hi
  simp [Go.Proofs.Ytmohegglclgcbaa.okD]; omega
theorem Ris.has {V : Nat → Nat → Nat} {H : Nat → Nat → Bool} {D : List Mk} (h : Ris V H D) (h60 : D.length ≤ 60) (i : Nat) (hi : i < D.length) (x : Nat) (hx : x < 5) : has8 (V x) D[i].r D[i].n = H x i := by
  unfold has8
  rw [h.okD h60 i hi, h.mark x hx i hi]; rfl
theorem Ris.hasK {V : Nat → Nat → Nat} {H : Nat → Nat → Bool} {D : List Mk} (h : Ris V H D) (h60 : D.length ≤ 60) (i j : Nat) (hi : i < D.length) (hj : j < D.length) : has8 D[i].k D[j].r D[j].n = true → j < i ∧ D[j].n < D[i].n := by
  unfold has8
  rw [h.okD h60 j hj]
  simp only [Bool.true_and, decide_eq_true_eq]
  intro hle
  have h1 := h.over i hi D[j].r (by have := (h.dot j hj).1; omega)
  refine ⟨?_, by omega⟩
  rcases Nat.lt_or_ge j i with h2 | h2
  · exact h2
  · have := h.late i hi j hj h2; omega
theorem Ris.apart {V : Nat → Nat → Nat} {H : Nat → Nat → Bool} {D : List Mk} (h : Ris V H D) (i j : Nat) (hi : i < D.length) (hj : j < D.length) (hne : i ≠ j) : (D[i].r == D[j].r && D[i].n == D[j].n) = false := by
  rw [Bool.and_eq_false_iff]
  by_cases e : D[i].r = D[j].r
  · right
    rw [beq_eq_false_iff_ne]
    rcases Nat.lt_or_ge i j with h2 | h2
    · have := h.rise i hi j hj h2 e; omega
    · have := h.rise j hj i hi (by omega) e.symm; omega
  · left
    rw [beq_eq_false_iff_ne]; exact e
end Go.Proofs.Ytmohegglclgcbaa
