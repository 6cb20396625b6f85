/- Plain words on joins, on how vectors stand to each other, and on what is next. Of no program. -/
import Derived.Test.YtmdmkcofafhlcaaVecB
import Derived.Test.YtmdmkcofafhlcaaSwI
section
namespace Go.Proofs.Ytmdmkcofafhlcaa
open Go.RowKit

theorem jn8_at (f g : Nat → Nat) (k : Nat) : jn8 f g k = max (f k) (g k) := rfl
theorem has_join (f g : Nat → Nat) (r n : Nat) : has8 (jn8 f g) r n = (has8 f r n || has8 g r n) := by
  unfold has8
  cases okD r n with
  | false => simp
  | true =>
    simp only [Bool.true_and]
    rw [Bool.eq_iff_iff, Bool.or_eq_true, decide_eq_true_eq, decide_eq_true_eq, decide_eq_true_eq, jn8_at]
    omega
end Go.Proofs.Ytmdmkcofafhlcaa
end
section
namespace Go.Proofs.Ytmdmkcofafhlcaa
open Go.RowKit

theorem ord_nodup {l : List SibI} (h : l.Pairwise ltD) : l.Nodup := List.Pairwise.imp (S := fun a b => a ≠ b) (fun h e => ltD_ne h (by rw [e])) h
theorem ord_ext {l m : List SibI} (h1 : l.Pairwise ltD) (h2 : m.Pairwise ltD) (h : ∀ x, x ∈ l ↔ x ∈ m) : l = m :=
  ord_eq l m ((List.perm_ext_iff_of_nodup (ord_nodup h1) (ord_nodup h2)).2 h) h1 h2
/-- Each dot's value is this one. -/
def ValsBy (V : DotI → List UInt8) (l : List SibI) : Prop := ∀ x ∈ l, x.s = V x.d
theorem mem_of_dot {V : DotI → List UInt8} {m : List SibI} (hm : ValsBy V m) {x : SibI} (hx : x.s = V x.d) : x.d ∈ m.map SibI.d ↔ x ∈ m := by
  constructor
  · intro h
    obtain ⟨y, hy, e⟩ := List.mem_map.1 h
    have : y = x := SibI.ext' (congrArg DotI.r e) (congrArg DotI.n e) (by rw [hm y hy, hx, e])
    exact this ▸ hy
  · intro h; exact List.mem_map.2 ⟨x, h, rfl⟩
theorem mem_rstay {V : DotI → List UInt8} {f g : Nat → Nat} {l m : List SibI} (hl : ValsBy V l) (hm : ValsBy V m) (x : SibI) :
    x ∈ rstay f g l m ↔ (x ∈ l ∧ (x ∈ m ∨ has8 g x.r x.n = false)) ∨ (x ∈ m ∧ has8 f x.r x.n = false) := by
  rw [(rstay_perm f g l m).mem_iff, stayL, List.mem_append, List.mem_filter, List.mem_filter]
  simp only [Bool.or_eq_true, decide_eq_true_eq, Bool.not_eq_true']
  refine or_congr (and_congr_right fun h => ?_) Iff.rfl
  rw [mem_of_dot hm (hl x h)]
theorem goodC_of (f : Nat → Nat) : ∀ (l : List SibI) (x : SibI), (∀ y ∈ l, ltD x y ∧ has8 f y.r y.n = true) → l.Pairwise ltD → goodC f x.r x.n l = true := by
  intro l
  induction l with
  | nil => intro x _ _; rfl
  | cons y l ih =>
    intro x h hp
    obtain ⟨h1, h2⟩ := List.pairwise_cons.1 hp
    obtain ⟨h3, h4⟩ := h y List.mem_cons_self
    simp only [goodC, Bool.and_eq_true, decide_eq_true_eq]
    exact ⟨⟨(cmpD_lt x y).2 h3, h4⟩, ih y (fun z hz => ⟨h1 z hz, (h z (List.mem_cons_of_mem _ hz)).2⟩) h2⟩
theorem has_pos {f : Nat → Nat} {y : SibI} (h : has8 f y.r y.n = true) : ltD zS y := by
  unfold has8 okD at h
  simp only [Bool.and_eq_true, decide_eq_true_eq] at h
  unfold ltD zS
  show 0 < y.n ∨ 0 = y.n ∧ 0 < y.r
  omega
theorem okR_of {f : Nat → Nat} {l : List SibI} (hm : mx f 8 ≤ 65535) (hl : l.length ≤ 8) (h : ∀ y ∈ l, has8 f y.r y.n = true) (ho : l.Pairwise ltD) : okR f l = true := by
  unfold okR
  rw [decide_eq_true hm, decide_eq_true hl]
  exact goodC_of f l zS (fun y hy => ⟨has_pos (h y hy), h y hy⟩) ho
theorem okR_mx {f : Nat → Nat} {l : List SibI} (h : okR f l = true) : mx f 8 ≤ 65535 ∧ l.length ≤ 8 := by
  unfold okR at h
  simp only [Bool.and_eq_true, decide_eq_true_eq] at h
  exact h.1
theorem mx_jn {f g : Nat → Nat} {B : Nat} (h1 : mx f 8 ≤ B) (h2 : mx g 8 ≤ B) : mx (jn8 f g) 8 ≤ B := (mx_le_iff _ _ _).2 fun j hj => by
  have := (mx_le_iff _ _ _).1 h1 j hj
  have := (mx_le_iff _ _ _).1 h2 j hj
  rw [jn8_at]; omega
/-- A join that is OK may be. -/
theorem okR_join {f g : Nat → Nat} {l m : List SibI} (h1 : okR f l = true) (h2 : okR g m = true) (h8 : (rstay f g l m).length ≤ 8) : okR (jn8 f g) (rstay f g l m) = true := by
  refine okR_of (mx_jn (okR_mx h1).1 (okR_mx h2).1) h8 (fun y hy => ?_) (rstay_ord h1 h2)
  rw [has_join, Bool.or_eq_true]
  rw [(rstay_perm f g l m).mem_iff, stayL, List.mem_append] at hy
  rcases hy with h | h
  · exact .inl ((okR_ord h1).1 y (List.mem_filter.1 h).1)
  · exact .inr ((okR_ord h2).1 y (List.mem_filter.1 h).1)
section
variable {V : DotI → List UInt8} {f g h : Nat → Nat} {l m n : List SibI} (hl : ValsBy V l) (hm : ValsBy V m) (hn : ValsBy V n) (h1 : okR f l = true) (h2 : okR g m = true) (h3 : okR h n = true)
include hl hm h1 h2
end
section
variable {V : DotI → List UInt8} {f g h : Nat → Nat} {l m n : List SibI} (hl : ValsBy V l) (hm : ValsBy V m) (hn : ValsBy V n) (h1 : okR f l = true) (h2 : okR g m = true) (h3 : okR h n = true)
include hl hm h1 h2
end
end Go.Proofs.Ytmdmkcofafhlcaa
end
