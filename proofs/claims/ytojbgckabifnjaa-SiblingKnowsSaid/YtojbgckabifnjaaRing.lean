/- Siblings put where they stand in order: what the document's join is, and that it is the one that is sorted. Of no function of the program. No condition. -/
import Derived.Test.YtojbgckabifnjaaSibY
import Derived.Test.YtojbgckabifnjaaSibN
import Derived.Test.YtojbgckabifnjaaVecB
section
namespace Go.Proofs.Ytojbgckabifnjaa
open Go.RowKit

def ltB (x y : SibI) : Bool := decide (x.n < y.n ∨ x.n = y.n ∧ x.r < y.r)
theorem ltB_iff (x y : SibI) : ltB x y = true ↔ ltD x y := by unfold ltB ltD; exact decide_eq_true_iff
/-- A sibling in its place. -/
def putL : List SibI → SibI → List SibI
  | [], s => [s]
  | x :: l, s => if ltB x s then x :: putL l s else s :: x :: l
theorem putL_at (s : SibI) : ∀ (l : List SibI) (k : Nat), k ≤ l.length → (∀ j (h : j < l.length), j < k → ltB l[j] s = true) → (∀ h : k < l.length, ltB l[k] s = false) → putL l s = l.take k ++ s :: l.drop k := by
  intro l
  induction l with
  | nil =>
    intro k hk _ _
    obtain rfl : k = 0 := by simpa using hk
    rfl
  | cons x l ih =>
    intro k hk h1 h2
    cases k with
    | zero =>
      have := h2 (by simp)
      simp only [List.getElem_cons_zero] at this
      simp [putL, this]
    | succ k =>
      have hx := h1 0 (by simp) (by omega)
      simp only [List.getElem_cons_zero] at hx
      have := ih k (by simpa using hk) (fun j h hj => by have := h1 (j + 1) (by simpa using h) (by omega); rwa [List.getElem_cons_succ] at this) (fun h => by have := h2 (by simpa using h); rwa [List.getElem_cons_succ] at this)
      simp [putL, hx, this]
theorem putL_perm (s : SibI) : ∀ l : List SibI, (putL l s).Perm (s :: l) := by
  intro l
  induction l with
  | nil => exact List.Perm.refl _
  | cons x l ih =>
    unfold putL
    split
    · exact (List.Perm.cons x ih).trans (List.Perm.swap s x l)
    · exact List.Perm.refl _
theorem ltD_trans {x y z : SibI} (h1 : ltD x y) (h2 : ltD y z) : ltD x z := by unfold ltD at *; omega
theorem ltD_of_not {x y : SibI} (h : ¬ ltD x y) (hd : x.d ≠ y.d) : ltD y x := by
  unfold ltD at *
  rcases Nat.lt_trichotomy y.n x.n with h1 | h1 | h1
  · exact .inl h1
  · refine .inr ⟨h1, ?_⟩
    rcases Nat.lt_trichotomy y.r x.r with h2 | h2 | h2
    · exact h2
    · exact absurd (DotI.ext' h2.symm h1.symm : x.d = y.d) hd
    · omega
  · omega
theorem ltD_ne {x y : SibI} (h : ltD x y) : x.d ≠ y.d := fun e => by
  have h1 : x.r = y.r := congrArg DotI.r e
  have h2 : x.n = y.n := congrArg DotI.n e
  unfold ltD at h
  omega
theorem putL_ord (s : SibI) : ∀ l : List SibI, l.Pairwise ltD → (∀ x ∈ l, x.d ≠ s.d) → (putL l s).Pairwise ltD := by
  intro l
  induction l with
  | nil => intro _ _; exact List.pairwise_singleton _ _
  | cons x l ih =>
    intro h hd
    obtain ⟨h1, h2⟩ := List.pairwise_cons.1 h
    unfold putL
    split
    · rename_i hx
      refine List.pairwise_cons.2 ⟨fun y hy => ?_, ih h2 (fun y hy => hd y (List.mem_cons_of_mem _ hy))⟩
      rcases List.mem_cons.1 ((putL_perm s l).mem_iff.1 hy) with rfl | hy
      · exact (ltB_iff _ _).1 hx
      · exact h1 y hy
    · rename_i hx
      have hs : ltD s x := ltD_of_not (fun h => hx ((ltB_iff _ _).2 h)) (hd x (by simp))
      refine List.pairwise_cons.2 ⟨fun y hy => ?_, h⟩
      rcases List.mem_cons.1 hy with rfl | hy
      · exact hs
      · exact ltD_trans hs (h1 y hy)
theorem puts_perm : ∀ (xs acc : List SibI), (xs.foldl putL acc).Perm (acc ++ xs) := by
  intro xs
  induction xs with
  | nil => intro acc; simp
  | cons x xs ih =>
    intro acc
    refine (ih (putL acc x)).trans ?_
    refine ((putL_perm x acc).append_right xs).trans ?_
    simpa using (List.perm_middle (a := x) (l₁ := acc) (l₂ := xs)).symm
theorem puts_ord : ∀ (xs acc : List SibI), acc.Pairwise ltD → (acc ++ xs).Pairwise (fun x y => x.d ≠ y.d) → (xs.foldl putL acc).Pairwise ltD := by
  intro xs
  induction xs with
  | nil => intro acc h _; exact h
  | cons x xs ih =>
    intro acc h hd
    obtain ⟨h1, h2, h3⟩ := List.pairwise_append.1 hd
    have hx : ∀ y ∈ acc, y.d ≠ x.d := fun y hy => h3 y hy x (by simp)
    refine ih (putL acc x) (putL_ord x acc h hx) ?_
    obtain ⟨h4, h5⟩ := List.pairwise_cons.1 h2
    refine List.pairwise_append.2 ⟨(putL_ord x acc h hx).imp (fun h => ltD_ne h), h5, fun y hy z hz => ?_⟩
    rcases List.mem_cons.1 ((putL_perm x acc).mem_iff.1 hy) with rfl | hy
    · exact h4 z hz
    · exact h3 y hy z (List.mem_cons_of_mem _ hz)
theorem goodC_ord (f : Nat → Nat) : ∀ (l : List SibI) (x : SibI), goodC f x.r x.n l = true → (∀ y ∈ l, ltD x y ∧ has8 f y.r y.n = true) ∧ l.Pairwise ltD := by
  intro l
  induction l with
  | nil => intro x _; exact ⟨fun y h => by simp at h, List.Pairwise.nil⟩
  | cons y l ih =>
    intro x h
    simp only [goodC, Bool.and_eq_true, decide_eq_true_eq] at h
    obtain ⟨⟨h1, h2⟩, h3⟩ := h
    have hxy := (cmpD_lt x y).1 h1
    obtain ⟨h4, h5⟩ := ih y h3
    refine ⟨fun z hz => ?_, List.pairwise_cons.2 ⟨fun z hz => (h4 z hz).1, h5⟩⟩
    rcases List.mem_cons.1 hz with rfl | hz
    · exact ⟨hxy, h2⟩
    · exact ⟨ltD_trans hxy (h4 z hz).1, (h4 z hz).2⟩
def zS : SibI := ⟨0, 0, [], by decide, by decide, by decide⟩
theorem okR_ord {f : Nat → Nat} {l : List SibI} (h : okR f l = true) : (∀ y ∈ l, has8 f y.r y.n = true) ∧ l.Pairwise ltD := by
  unfold okR at h
  simp only [Bool.and_eq_true] at h
  obtain ⟨h1, h2⟩ := goodC_ord f l zS h.2
  exact ⟨fun y hy => (h1 y hy).2, h2⟩
theorem ord_eq : ∀ (l m : List SibI), l.Perm m → l.Pairwise ltD → m.Pairwise ltD → l = m := by
  intro l
  induction l with
  | nil => intro m h _ _; exact h.nil_eq
  | cons x l ih =>
    intro m h h1 h2
    cases m with
    | nil => exact absurd h.length_eq (by simp)
    | cons y m =>
      obtain ⟨a1, a2⟩ := List.pairwise_cons.1 h1
      obtain ⟨b1, b2⟩ := List.pairwise_cons.1 h2
      have hx := h.mem_iff.1 (List.mem_cons_self (a := x) (l := l))
      have hy := h.mem_iff.2 (List.mem_cons_self (a := y) (l := m))
      have e : x = y := by
        rcases List.mem_cons.1 hx with e | hx
        · exact e
        · rcases List.mem_cons.1 hy with e | hy
          · exact e.symm
          · have c1 := a1 y hy
            have c2 := b1 x hx
            unfold ltD at c1 c2
            omega
      subst e
      rw [ih m h.cons_inv a2 b2]
/-- What stays of two registers, put in order. -/
def rstay (f g : Nat → Nat) (l m : List SibI) : List SibI := (m.filter (fun x => !has8 f x.r x.n)).foldl putL ((l.filter (fun x => decide (x.d ∈ m.map SibI.d) || !has8 g x.r x.n)).foldl putL [])
theorem rstay_perm (f g : Nat → Nat) (l m : List SibI) : (rstay f g l m).Perm (stayL f g l m) := by
  unfold rstay stayL
  exact (puts_perm _ _).trans (((puts_perm _ []).trans (by simp)).append_right _)
theorem rstay_ord {f g : Nat → Nat} {l m : List SibI} (h1 : okR f l = true) (h2 : okR g m = true) : (rstay f g l m).Pairwise ltD := by
  obtain ⟨a1, a2⟩ := okR_ord h1
  obtain ⟨b1, b2⟩ := okR_ord h2
  have hA := (a2.filter (fun x => decide (x.d ∈ m.map SibI.d) || !has8 g x.r x.n))
  have hAd : (l.filter (fun x => decide (x.d ∈ m.map SibI.d) || !has8 g x.r x.n)).Pairwise (fun x y => x.d ≠ y.d) := hA.imp (fun h => ltD_ne h)
  have hA2 := puts_ord (l.filter (fun x => decide (x.d ∈ m.map SibI.d) || !has8 g x.r x.n)) [] List.Pairwise.nil (by simpa using hAd)
  unfold rstay
  refine puts_ord _ _ hA2 (List.pairwise_append.2 ⟨hA2.imp (fun h => ltD_ne h), (b2.filter _).imp (fun h => ltD_ne h), fun x hx y hy e => ?_⟩)
  have hx1 := (puts_perm _ _).mem_iff.1 hx
  rw [List.nil_append] at hx1
  have hx2 := a1 x (List.mem_filter.1 hx1).1
  have hy2 := (List.mem_filter.1 hy).2
  have e1 : x.r = y.r := congrArg DotI.r e
  have e2 : x.n = y.n := congrArg DotI.n e
  rw [← e1, ← e2, hx2] at hy2
  simp at hy2
/-- What the document's join answers. -/
def rjoinS (f g : Nat → Nat) (l m : List SibI) : (Nat → Nat) × List SibI × Nat :=
  if okR f l && okR g m then (if 8 < (rstay f g l m).length then (fun _ => 0, [], 7) else (jn8 f g, rstay f g l m, 0)) else (fun _ => 0, [], 4)
theorem joinIs_eq {f g f' : Nat → Nat} {l m l' : List SibI} {e : Nat} (h : JoinIs f g l m f' l' e) : rjoinS f g l m = (f', l', e) := by
  have hl := (rstay_perm f g l m).length_eq
  unfold rjoinS
  rw [hl]
  rcases h with ⟨h1, rfl, rfl, rfl⟩ | ⟨h1, h2, rfl, rfl, rfl⟩ | ⟨h1, h2, rfl, rfl, h3, h4⟩
  · rw [h1]; rfl
  · rw [h1, if_pos rfl, if_pos h2]
  · rw [h1, if_pos rfl, if_neg (by omega)]
    have h12 := h1
    simp only [Bool.and_eq_true] at h12
    have ho := rstay_ord h12.1 h12.2
    have hp : l'.Perm (rstay f g l m) := h3.trans (rstay_perm f g l m).symm
    have hd : l'.Pairwise (fun x y => x.d ≠ y.d) := (hp.pairwise_iff (fun h e => h e.symm)).2 (ho.imp (fun h => ltD_ne h))
    have hl' : l'.Pairwise ltD := by
      rw [List.pairwise_iff_getElem] at hd ⊢
      intro i j hi hj hij
      have hn := h4 i j hi hj hij
      exact ltD_of_not hn (fun e => hd i j hi hj hij e.symm)
    rw [ord_eq _ _ hp hl' ho]
end Go.Proofs.Ytojbgckabifnjaa
end
section
namespace Go.Proofs.Ytojbgckabifnjaa
open Go.RowKit

theorem jn8_at (f g : Nat → Nat) (k : Nat) : jn8 f g k = max (f k) (g k) := rfl
theorem has_join (f g : Nat → Nat) (r n : Nat) : has8 (jn8 f g) r n = (has8 f r n || has8 g r n) := by
  unfold has8
  cases okD r n with
  | false => simp
  | true =>
    simp only [Bool.true_and]
    rw [Bool.eq_iff_iff, Bool.or_eq_true, decide_eq_true_eq, decide_eq_true_eq, decide_eq_true_eq, jn8_at]
    omega
end Go.Proofs.Ytojbgckabifnjaa
end
section
namespace Go.Proofs.Ytojbgckabifnjaa
open Go.RowKit

theorem ord_nodup {l : List SibI} (h : l.Pairwise ltD) : l.Nodup := List.Pairwise.imp (S := fun a b => a ≠ b) (fun h e => ltD_ne h (by rw [e])) h
theorem ord_ext {l m : List SibI} (h1 : l.Pairwise ltD) (h2 : m.Pairwise ltD) (h : ∀ x, x ∈ l ↔ x ∈ m) : l = m :=
  ord_eq l m ((List.perm_ext_iff_of_nodup (ord_nodup h1) (ord_nodup h2)).2 h) h1 h2
/-- Each dot's value is this one. -/
def ValsBy (V : DotI → List UInt8) (l : List SibI) : Prop := ∀ x ∈ l, x.s = V x.d
theorem mem_of_dot {V : DotI → List UInt8} {m : List SibI} (hm : ValsBy V m) {x : SibI} (hx : x.s = V x.d) : x.d ∈ m.map SibI.d ↔ x ∈ m := by
  constructor
  · intro h
    obtain ⟨y, hy, e⟩ := List.mem_map.1 h
    have : y = x := SibI.ext' (congrArg DotI.r e) (congrArg DotI.n e) (by rw [hm y hy, hx, e])
    exact this ▸ hy
  · intro h; exact List.mem_map.2 ⟨x, h, rfl⟩
theorem mem_rstay {V : DotI → List UInt8} {f g : Nat → Nat} {l m : List SibI} (hl : ValsBy V l) (hm : ValsBy V m) (x : SibI) :
    x ∈ rstay f g l m ↔ (x ∈ l ∧ (x ∈ m ∨ has8 g x.r x.n = false)) ∨ (x ∈ m ∧ has8 f x.r x.n = false) := by
  rw [(rstay_perm f g l m).mem_iff, stayL, List.mem_append, List.mem_filter, List.mem_filter]
  simp only [Bool.or_eq_true, decide_eq_true_eq, Bool.not_eq_true']
  refine or_congr (and_congr_right fun h => ?_) Iff.rfl
  rw [mem_of_dot hm (hl x h)]
theorem goodC_of (f : Nat → Nat) : ∀ (l : List SibI) (x : SibI), (∀ y ∈ l, ltD x y ∧ has8 f y.r y.n = true) → l.Pairwise ltD → goodC f x.r x.n l = true := by
  intro l
  induction l with
  | nil => intro x _ _; rfl
  | cons y l ih =>
    intro x h hp
    obtain ⟨h1, h2⟩ := List.pairwise_cons.1 hp
    obtain ⟨h3, h4⟩ := h y List.mem_cons_self
    simp only [goodC, Bool.and_eq_true, decide_eq_true_eq]
    exact ⟨⟨(cmpD_lt x y).2 h3, h4⟩, ih y (fun z hz => ⟨h1 z hz, (h z (List.mem_cons_of_mem _ hz)).2⟩) h2⟩
theorem has_pos {f : Nat → Nat} {y : SibI} (h : has8 f y.r y.n = true) : ltD zS y := by
  unfold has8 okD at h
  simp only [Bool.and_eq_true, decide_eq_true_eq] at h
  unfold ltD zS
  show 0 < y.n ∨ 0 = y.n ∧ 0 < y.r
  omega
theorem okR_of {f : Nat → Nat} {l : List SibI} (hm : mx f 8 ≤ 65535) (hl : l.length ≤ 8) (h : ∀ y ∈ l, has8 f y.r y.n = true) (ho : l.Pairwise ltD) : okR f l = true := by
  unfold okR
  rw [decide_eq_true hm, decide_eq_true hl]
  exact goodC_of f l zS (fun y hy => ⟨has_pos (h y hy), h y hy⟩) ho
theorem okR_mx {f : Nat → Nat} {l : List SibI} (h : okR f l = true) : mx f 8 ≤ 65535 ∧ l.length ≤ 8 := by
  unfold okR at h
  simp only [Bool.and_eq_true, decide_eq_true_eq] at h
  exact h.1
theorem mx_jn {f g : Nat → Nat} {B : Nat} (h1 : mx f 8 ≤ B) (h2 : mx g 8 ≤ B) : mx (jn8 f g) 8 ≤ B := (mx_le_iff _ _ _).2 fun j hj => by
  have := (mx_le_iff _ _ _).1 h1 j hj
  have := (mx_le_iff _ _ _).1 h2 j hj
  rw [jn8_at]; omega
/-- A join that is OK may be. -/
theorem okR_join {f g : Nat → Nat} {l m : List SibI} (h1 : okR f l = true) (h2 : okR g m = true) (h8 : (rstay f g l m).length ≤ 8) : okR (jn8 f g) (rstay f g l m) = true := by
  refine okR_of (mx_jn (okR_mx h1).1 (okR_mx h2).1) h8 (fun y hy => ?_) (rstay_ord h1 h2)
  rw [has_join, Bool.or_eq_true]
  rw [(rstay_perm f g l m).mem_iff, stayL, List.mem_append] at hy
  rcases hy with h | h
  · exact .inl ((okR_ord h1).1 y (List.mem_filter.1 h).1)
  · exact .inr ((okR_ord h2).1 y (List.mem_filter.1 h).1)
section
variable {V : DotI → List UInt8} {f g h : Nat → Nat} {l m n : List SibI} (hl : ValsBy V l) (hm : ValsBy V m) (hn : ValsBy V n) (h1 : okR f l = true) (h2 : okR g m = true) (h3 : okR h n = true)
include hl hm h1 h2
end
section
variable {V : DotI → List UInt8} {f g h : Nat → Nat} {l m n : List SibI} (hl : ValsBy V l) (hm : ValsBy V m) (hn : ValsBy V n) (h1 : okR f l = true) (h2 : okR g m = true) (h3 : okR h n = true)
include hl hm h1 h2
end
end Go.Proofs.Ytojbgckabifnjaa
end
