/- The mathematics of a line that is cut: what its device is. No condition. -/
import Derived.Test.YtdhngbfigklaoaaLnH
namespace Go.Proofs.Ytdhngbfigklaoaa

def devN : Nat → DV → List A3 → DV
  | _, D, [] => D
  | m, D, x :: l => if x.isAct then (match m with
    | 0 => D
    | m + 1 => devN m (D.a3 x) l) else devN m D l
def cntA : List A3 → Nat
  | [] => 0
  | x :: l => if x.isAct then cntA l + 1 else cntA l
theorem devN_act {x : A3} (e : x.isAct) (m : Nat) (D : DV) (l : List A3) : devN (m + 1) D (x :: l) = devN m (D.a3 x) l := by
  conv => lhs; unfold devN
  rw [if_pos e]
theorem devN_no {x : A3} (e : ¬ x.isAct) (m : Nat) (D : DV) (l : List A3) : devN m D (x :: l) = devN m D l := by
  conv => lhs; unfold devN
  rw [if_neg e]
theorem cntA_act {x : A3} (e : x.isAct) (l : List A3) : cntA (x :: l) = cntA l + 1 := by
  conv => lhs; unfold cntA
  rw [if_pos e]
theorem cntA_no {x : A3} (e : ¬ x.isAct) (l : List A3) : cntA (x :: l) = cntA l := by
  conv => lhs; unfold cntA
  rw [if_neg e]
theorem cntA_le : ∀ l, cntA l ≤ l.length
  | [] => Nat.le_refl _
  | x :: l => by
    have := cntA_le l
    unfold cntA
    rw [List.length_cons]
    split <;> omega
theorem devN_zero (D : DV) : ∀ l, devN 0 D l = D
  | [] => rfl
  | x :: l => by
    unfold devN
    split
    · rfl
    · exact devN_zero D l
theorem devN_big : ∀ (l : List A3) (m m' : Nat) (D : DV), cntA l ≤ m → cntA l ≤ m' → devN m D l = devN m' D l := by
  intro l
  induction l with
  | nil => intro m m' D _ _; rfl
  | cons x l ih =>
    intro m m' D h h'
    by_cases e : x.isAct
    · rw [cntA_act e] at h h'
      obtain ⟨m, rfl⟩ : ∃ k, m = k + 1 := ⟨m - 1, by omega⟩
      obtain ⟨m', rfl⟩ : ∃ k, m' = k + 1 := ⟨m' - 1, by omega⟩
      rw [devN_act e, devN_act e]
      exact ih _ _ _ (by omega) (by omega)
    · rw [cntA_no e] at h h'
      rw [devN_no e, devN_no e]
      exact ih _ _ _ h h'
theorem foldA_whole {c : Int} {cs : List Int} {P : Nat → Prop} (hc : c < 0) (most : Nat) : ∀ (l : List A3) (D : DV) (a p : Nat), p ≤ most →
    l.foldl (stepA most) (⟨D, c, cs, a, false, P⟩, p) = (⟨devN (most - p) D l, c, cs, a + min (most - p) (cntA l), false, P⟩, p + min (most - p) (cntA l)) := by
  intro l
  induction l with
  | nil =>
    intro D a p _
    show _ = (_, _)
    unfold cntA devN
    rw [Nat.min_zero]
    rfl
  | cons x l ih =>
    intro D a p hp
    rw [List.foldl_cons]
    by_cases e : x.isAct
    · by_cases hlt : p < most
      · have es : stepA most (⟨D, c, cs, a, false, P⟩, p) x = (⟨D.a3 x, c, cs, a + 1, false, P⟩, p + 1) := by
          unfold stepA
          rw [if_pos ⟨hlt, e⟩]
          dsimp only
          rw [LV.act_live _ rfl (by show ((a : Nat) : Int) ≠ c; omega)]
          rfl
        rw [es, ih (D.a3 x) (a + 1) (p + 1) hlt]
        obtain ⟨m, hm⟩ : ∃ m, most - p = m + 1 := ⟨most - p - 1, by omega⟩
        rw [hm, show most - (p + 1) = m by omega]
        rw [devN_act e, cntA_act e, show a + 1 + min m (cntA l) = a + min (m + 1) (cntA l + 1) by omega, show p + 1 + min m (cntA l) = p + min (m + 1) (cntA l + 1) by omega]
      · obtain rfl : p = most := by omega
        rw [show stepA p (⟨D, c, cs, a, false, P⟩, p) x = (⟨D, c, cs, a, false, P⟩, p) from by unfold stepA; rw [if_neg (by dsimp only; omega)], ih D a p (Nat.le_refl _), Nat.sub_self, devN_zero, devN_zero, Nat.zero_min, Nat.zero_min]
    · have es : stepA most (⟨D, c, cs, a, false, P⟩, p) x = (⟨D, c, cs, a, false, P⟩, p) := by
        unfold stepA
        rw [if_neg (fun h => e h.2)]
      rw [es, ih D a p hp, devN_no e, cntA_no e]
/-- A line that is never cut. -/
theorem run_whole (most : Nat) (D : DV) (cs : List Int) (P : Nat → Prop) (l : List A3) : (runA most (LV.new D (-1) cs P) l).1.D = devN most D l ∧ (runA most (LV.new D (-1) cs P) l).1.down = false := by
  unfold runA LV.new
  rw [foldA_whole (by decide) most l D 0 0 (Nat.zero_le _)]
  exact ⟨rfl, rfl⟩
theorem foldA_over (most : Nat) : ∀ (l : List A3) (L : LV) (p : Nat), L.down = true → p + cntA l ≤ most → l.foldl (stepA most) (L, p) = (L, p + cntA l) := by
  intro l
  induction l with
  | nil => intro L p _ _; rfl
  | cons x l ih =>
    intro L p hd hm
    rw [List.foldl_cons]
    by_cases e : x.isAct
    · rw [cntA_act e] at hm ⊢
      have es : stepA most (L, p) x = (L, p + 1) := by
        unfold stepA
        rw [if_pos ⟨by dsimp only; omega, e⟩]
        dsimp only
        rw [LV.act_over _ hd]
      rw [es, ih L (p + 1) hd (by omega), show p + 1 + cntA l = p + (cntA l + 1) by omega]
    · rw [cntA_no e] at hm ⊢
      have es : stepA most (L, p) x = (L, p) := by
        unfold stepA
        rw [if_neg (fun h => e h.2)]
      rw [es, ih L p hd hm]
/-- One more, if the first choice is odd. -/
def oddN (cs : List Int) : Nat := if (∃ q, cs.head? = some q ∧ q % 2 ≠ 0) then 1 else 0
theorem foldA_cut {cs : List Int} {P : Nat → Prop} (n most : Nat) : ∀ (l : List A3) (D : DV) (p : Nat), p ≤ n → p + cntA l ≤ most →
    (l.foldl (stepA most) (⟨D, (n : Int), cs, p, false, P⟩, p)).2 = p + cntA l ∧
    (if p + cntA l ≤ n then (l.foldl (stepA most) (⟨D, (n : Int), cs, p, false, P⟩, p)).1.D = devN most D l ∧ (l.foldl (stepA most) (⟨D, (n : Int), cs, p, false, P⟩, p)).1.down = false
     else (l.foldl (stepA most) (⟨D, (n : Int), cs, p, false, P⟩, p)).1.D = (devN (n - p + oddN cs) D l).crash cs ∧ (l.foldl (stepA most) (⟨D, (n : Int), cs, p, false, P⟩, p)).1.down = true ∧ (l.foldl (stepA most) (⟨D, (n : Int), cs, p, false, P⟩, p)).1.acts = n + 1) := by
  intro l
  induction l with
  | nil =>
    intro D p hp hm
    refine ⟨rfl, ?_⟩
    unfold cntA
    rw [if_pos (by omega)]
    exact ⟨rfl, rfl⟩
  | cons x l ih =>
    intro D p hp hm
    rw [List.foldl_cons]
    by_cases e : x.isAct
    · rw [cntA_act e] at hm ⊢
      by_cases hlt : p < n
      · have es : stepA most (⟨D, (n : Int), cs, p, false, P⟩, p) x = (⟨D.a3 x, (n : Int), cs, p + 1, false, P⟩, p + 1) := by
          unfold stepA
          rw [if_pos ⟨by dsimp only; omega, e⟩]
          dsimp only
          rw [LV.act_live _ rfl (by show ((p : Nat) : Int) ≠ (n : Int); omega)]
          rfl
        rw [es]
        have h := ih (D.a3 x) (p + 1) hlt (by omega)
        rw [show p + (cntA l + 1) = p + 1 + cntA l by omega]
        refine ⟨h.1, ?_⟩
        have h2 := h.2
        obtain ⟨m, hmm⟩ : ∃ m, most = m + 1 := ⟨most - 1, by omega⟩
        have d1 : devN most D (x :: l) = devN most (D.a3 x) l := by
          rw [hmm, devN_act e]
          exact devN_big l _ _ _ (by omega) (by omega)
        have d2 : devN (n - p + oddN cs) D (x :: l) = devN (n - (p + 1) + oddN cs) (D.a3 x) l := by
          rw [show n - p + oddN cs = n - (p + 1) + oddN cs + 1 by omega, devN_act e]
        rw [d1, d2]
        exact h2
      · obtain rfl : p = n := by omega
        rw [if_neg (by omega)]
        have key : ∃ L : LV, stepA most (⟨D, (p : Int), cs, p, false, P⟩, p) x = (L, p + 1) ∧ L.down = true ∧ L.acts = p + 1 ∧ L.D = (devN (p - p + oddN cs) D (x :: l)).crash cs := by
          refine ⟨LV.act ⟨D, (p : Int), cs, p, false, P⟩ (D.a3 x), ?_, ?_⟩
          · unfold stepA
            rw [if_pos ⟨by dsimp only; omega, e⟩]
          · rw [LV.act_cut _ rfl rfl, Nat.sub_self, Nat.zero_add]
            by_cases ho : ∃ q, cs.head? = some q ∧ q % 2 ≠ 0
            · have o1 : oddN cs = 1 := by unfold oddN; rw [if_pos ho]
              rw [if_pos (show LV.odd ⟨D, (p : Int), cs, p, false, P⟩ = true from decide_eq_true ho), o1]
              refine ⟨rfl, rfl, ?_⟩
              rw [show (1 : Nat) = 0 + 1 from rfl, devN_act e, devN_zero]
              rfl
            · have o1 : oddN cs = 0 := by unfold oddN; rw [if_neg ho]
              rw [if_neg (show ¬ LV.odd ⟨D, (p : Int), cs, p, false, P⟩ = true from fun h => ho (of_decide_eq_true h)), o1]
              refine ⟨rfl, rfl, ?_⟩
              rw [devN_zero]
              rfl
        obtain ⟨L, hs, hdn, hac, hD⟩ := key
        rw [hs, foldA_over most l L (p + 1) hdn (by omega)]
        exact ⟨by dsimp only; omega, hD, hdn, hac⟩
    · rw [cntA_no e] at hm ⊢
      have es : stepA most (⟨D, (n : Int), cs, p, false, P⟩, p) x = (⟨D, (n : Int), cs, p, false, P⟩, p) := by
        unfold stepA
        rw [if_neg (fun h => e h.2)]
      rw [es]
      rw [devN_no e, devN_no e]
      exact ih D p hp hm
/-- A line that an act cuts. -/
theorem run_cut (n most : Nat) (D : DV) (cs : List Int) (P : Nat → Prop) (l : List A3) (h : cntA l ≤ most) : (runA most (LV.new D (n : Int) cs P) l).2 = cntA l ∧
    (if cntA l ≤ n then (runA most (LV.new D (n : Int) cs P) l).1.D = devN most D l ∧ (runA most (LV.new D (n : Int) cs P) l).1.down = false
     else (runA most (LV.new D (n : Int) cs P) l).1.D = (devN (n + oddN cs) D l).crash cs ∧ (runA most (LV.new D (n : Int) cs P) l).1.down = true ∧ (runA most (LV.new D (n : Int) cs P) l).1.acts = n + 1) := by
  have := foldA_cut (cs := cs) (P := P) n most l D 0 (Nat.zero_le _) (by omega)
  rw [Nat.zero_add, Nat.sub_zero] at this
  exact this
end Go.Proofs.Ytdhngbfigklaoaa
