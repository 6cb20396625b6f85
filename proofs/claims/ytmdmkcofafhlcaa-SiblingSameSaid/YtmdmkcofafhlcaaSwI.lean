/- Siblings put where they stand in order: what the document's join is, and that it is the one that is sorted. Of no function of the program. No condition. -/
import Derived.Test.YtmdmkcofafhlcaaSibY
import Derived.Test.YtmdmkcofafhlcaaSibN
namespace Go.Proofs.Ytmdmkcofafhlcaa
open Go.RowKit

def ltB (x y : SibI) : Bool := decide (x.n < y.n ∨ x.n = y.n ∧ x.r < y.r)
theorem ltB_iff (x y : SibI) : ltB x y = true ↔ ltD x y := by unfold ltB ltD; exact decide_eq_true_iff
/-- A sibling in its place. -/
def putL : List SibI → SibI → List SibI
  | [], s => [s]
  | x :: l, s => if ltB x s then x :: putL l s else s :: x :: l
theorem putL_perm (s : SibI) : ∀ l : List SibI, (putL l s).Perm (s :: l) := by
  intro l
  induction l with
  | nil => exact List.Perm.refl _
  | cons x l ih =>
    unfold putL
    split
    · exact (List.Perm.cons x ih).trans (List.Perm.swap s x l)
    · exact List.Perm.refl _
theorem ltD_trans {x y z : SibI} (h1 : ltD x y) (h2 : ltD y z) : ltD x z := by unfold ltD at *; omega
theorem ltD_of_not {x y : SibI} (h : ¬ ltD x y) (hd : x.d ≠ y.d) : ltD y x := by
  unfold ltD at *
  rcases Nat.lt_trichotomy y.n x.n with h1 | h1 | h1
  · exact .inl h1
  · refine .inr ⟨h1, ?_⟩
    rcases Nat.lt_trichotomy y.r x.r with h2 | h2 | h2
    · exact h2
    · exact absurd (DotI.ext' h2.symm h1.symm : x.d = y.d) hd
    · omega
  · omega
theorem ltD_ne {x y : SibI} (h : ltD x y) : x.d ≠ y.d := fun e => by
  have h1 : x.r = y.r := congrArg DotI.r e
  have h2 : x.n = y.n := congrArg DotI.n e
  unfold ltD at h
  omega
theorem putL_ord (s : SibI) : ∀ l : List SibI, l.Pairwise ltD → (∀ x ∈ l, x.d ≠ s.d) → (putL l s).Pairwise ltD := by
  intro l
  induction l with
  | nil => intro _ _; exact List.pairwise_singleton _ _
  | cons x l ih =>
    intro h hd
    obtain ⟨h1, h2⟩ := List.pairwise_cons.1 h
    unfold putL
    split
    · rename_i hx
      refine List.pairwise_cons.2 ⟨fun y hy => ?_, ih h2 (fun y hy => hd y (List.mem_cons_of_mem _ hy))⟩
      rcases List.mem_cons.1 ((putL_perm s l).mem_iff.1 hy) with rfl | hy
      · exact (ltB_iff _ _).1 hx
      · exact h1 y hy
    · rename_i hx
      have hs : ltD s x := ltD_of_not (fun h => hx ((ltB_iff _ _).2 h)) (hd x (by simp))
      refine List.pairwise_cons.2 ⟨fun y hy => ?_, h⟩
      rcases List.mem_cons.1 hy with rfl | hy
      · exact hs
      · exact ltD_trans hs (h1 y hy)
theorem puts_perm : ∀ (xs acc : List SibI), (xs.foldl putL acc).Perm (acc ++ xs) := by
  intro xs
  induction xs with
  | nil => intro acc; simp
  | cons x xs ih =>
    intro acc
    refine (ih (putL acc x)).trans ?_
    refine ((putL_perm x acc).append_right xs).trans ?_
    simpa using (List.perm_middle (a := x) (l₁ := acc) (l₂ := xs)).symm
theorem puts_ord : ∀ (xs acc : List SibI), acc.Pairwise ltD → (acc ++ xs).Pairwise (fun x y => x.d ≠ y.d) → (xs.foldl putL acc).Pairwise ltD := by
  intro xs
  induction xs with
  | nil => intro acc h _; exact h
  | cons x xs ih =>
    intro acc h hd
    obtain ⟨h1, h2, h3⟩ := List.pairwise_append.1 hd
    have hx : ∀ y ∈ acc, y.d ≠ x.d := fun y hy => h3 y hy x (by simp)
    refine ih (putL acc x) (putL_ord x acc h hx) ?_
    obtain ⟨h4, h5⟩ := List.pairwise_cons.1 h2
    refine List.pairwise_append.2 ⟨(putL_ord x acc h hx).imp (fun h => ltD_ne h), h5, fun y hy z hz => ?_⟩
    rcases List.mem_cons.1 ((putL_perm x acc).mem_iff.1 hy) with rfl | hy
    · exact h4 z hz
    · exact h3 y hy z (List.mem_cons_of_mem _ hz)
theorem goodC_ord (f : Nat → Nat) : ∀ (l : List SibI) (x : SibI), goodC f x.r x.n l = true → (∀ y ∈ l, ltD x y ∧ has8 f y.r y.n = true) ∧ l.Pairwise ltD := by
  intro l
  induction l with
  | nil => intro x _; exact ⟨fun y h => by simp at h, List.Pairwise.nil⟩
  | cons y l ih =>
    intro x h
    simp only [goodC, Bool.and_eq_true, decide_eq_true_eq] at h
    obtain ⟨⟨h1, h2⟩, h3⟩ := h
    have hxy := (cmpD_lt x y).1 h1
    obtain ⟨h4, h5⟩ := ih y h3
    refine ⟨fun z hz => ?_, List.pairwise_cons.2 ⟨fun z hz => (h4 z hz).1, h5⟩⟩
    rcases List.mem_cons.1 hz with rfl | hz
    · exact ⟨hxy, h2⟩
    · exact ⟨ltD_trans hxy (h4 z hz).1, (h4 z hz).2⟩
def zS : SibI := ⟨0, 0, [], by decide, by decide, by decide⟩
theorem okR_ord {f : Nat → Nat} {l : List SibI} (h : okR f l = true) : (∀ y ∈ l, has8 f y.r y.n = true) ∧ l.Pairwise ltD := by
  unfold okR at h
  simp only [Bool.and_eq_true] at h
  obtain ⟨h1, h2⟩ := goodC_ord f l zS h.2
  exact ⟨fun y hy => (h1 y hy).2, h2⟩
theorem ord_eq : ∀ (l m : List SibI), l.Perm m → l.Pairwise ltD → m.Pairwise ltD → l = m := by
  intro l
  induction l with
  | nil => intro m h _ _; exact h.nil_eq
  | cons x l ih =>
    intro m h h1 h2
    cases m with
    | nil => exact absurd h.length_eq (by simp)
    | cons y m =>
      obtain ⟨a1, a2⟩ := List.pairwise_cons.1 h1
      obtain ⟨b1, b2⟩ := List.pairwise_cons.1 h2
      have hx := h.mem_iff.1 (List.mem_cons_self (a := x) (l := l))
      have hy := h.mem_iff.2 (List.mem_cons_self (a := y) (l := m))
      have e : x = y := by
        rcases List.mem_cons.1 hx with e | hx
        · exact e
        · rcases List.mem_cons.1 hy with e | hy
          · exact e.symm
          · have c1 := a1 y hy
            have c2 := b1 x hx
            unfold ltD at c1 c2
            omega
      subst e
      rw [ih m h.cons_inv a2 b2]
/-- What stays of two registers, put in order. -/
def rstay (f g : Nat → Nat) (l m : List SibI) : List SibI := (m.filter (fun x => !has8 f x.r x.n)).foldl putL ((l.filter (fun x => decide (x.d ∈ m.map SibI.d) || !has8 g x.r x.n)).foldl putL [])
theorem rstay_perm (f g : Nat → Nat) (l m : List SibI) : (rstay f g l m).Perm (stayL f g l m) := by
  unfold rstay stayL
  exact (puts_perm _ _).trans (((puts_perm _ []).trans (by simp)).append_right _)
theorem rstay_ord {f g : Nat → Nat} {l m : List SibI} (h1 : okR f l = true) (h2 : okR g m = true) : (rstay f g l m).Pairwise ltD := by
  obtain ⟨a1, a2⟩ := okR_ord h1
  obtain ⟨b1, b2⟩ := okR_ord h2
  have hA := (a2.filter (fun x => decide (x.d ∈ m.map SibI.d) || !has8 g x.r x.n))
  have hAd : (l.filter (fun x => decide (x.d ∈ m.map SibI.d) || !has8 g x.r x.n)).Pairwise (fun x y => x.d ≠ y.d) := hA.imp (fun h => ltD_ne h)
  have hA2 := puts_ord (l.filter (fun x => decide (x.d ∈ m.map SibI.d) || !has8 g x.r x.n)) [] List.Pairwise.nil (by simpa using hAd)
  unfold rstay
  refine puts_ord _ _ hA2 (List.pairwise_append.2 ⟨hA2.imp (fun h => ltD_ne h), (b2.filter _).imp (fun h => ltD_ne h), fun x hx y hy e => ?_⟩)
  have hx1 := (puts_perm _ _).mem_iff.1 hx
  rw [List.nil_append] at hx1
  have hx2 := a1 x (List.mem_filter.1 hx1).1
  have hy2 := (List.mem_filter.1 hy).2
  have e1 : x.r = y.r := congrArg DotI.r e
  have e2 : x.n = y.n := congrArg DotI.n e
  rw [← e1, ← e2, hx2] at hy2
  simp at hy2
/-- What the document's join answers. -/
def rjoinS (f g : Nat → Nat) (l m : List SibI) : (Nat → Nat) × List SibI × Nat :=
  if okR f l && okR g m then (if 8 < (rstay f g l m).length then (fun _ => 0, [], 7) else (jn8 f g, rstay f g l m, 0)) else (fun _ => 0, [], 4)
theorem joinIs_eq {f g f' : Nat → Nat} {l m l' : List SibI} {e : Nat} (h : JoinIs f g l m f' l' e) : rjoinS f g l m = (f', l', e) := by
  have hl := (rstay_perm f g l m).length_eq
  unfold rjoinS
  rw [hl]
  rcases h with ⟨h1, rfl, rfl, rfl⟩ | ⟨h1, h2, rfl, rfl, rfl⟩ | ⟨h1, h2, rfl, rfl, h3, h4⟩
  · rw [h1]; rfl
  · rw [h1, if_pos rfl, if_pos h2]
  · rw [h1, if_pos rfl, if_neg (by omega)]
    have h12 := h1
    simp only [Bool.and_eq_true] at h12
    have ho := rstay_ord h12.1 h12.2
    have hp : l'.Perm (rstay f g l m) := h3.trans (rstay_perm f g l m).symm
    have hd : l'.Pairwise (fun x y => x.d ≠ y.d) := (hp.pairwise_iff (fun h e => h e.symm)).2 (ho.imp (fun h => ltD_ne h))
    have hl' : l'.Pairwise ltD := by
      rw [List.pairwise_iff_getElem] at hd ⊢
      intro i j hi hj hij
      have hn := h4 i j hi hj hij
      exact ltD_of_not hn (fun e => hd i j hi hj hij e.symm)
    rw [ord_eq _ _ hp hl' ho]
end Go.Proofs.Ytmdmkcofafhlcaa

