/- Joins of registers ask for no order, no grouping, no number of times, where each dot has one value. Of no program. No condition. -/
import Derived.Test.YtmdmkcofafhlcaaSwI
import Derived.Test.YtmdmkcofafhlcaaVecQ
namespace Go.Proofs.Ytmdmkcofafhlcaa
open Go.RowKit

theorem ord_nodup {l : List SibI} (h : l.Pairwise ltD) : l.Nodup := List.Pairwise.imp (S := fun a b => a ≠ b) (fun h e => ltD_ne h (by rw [e])) h
theorem ord_ext {l m : List SibI} (h1 : l.Pairwise ltD) (h2 : m.Pairwise ltD) (h : ∀ x, x ∈ l ↔ x ∈ m) : l = m :=
  ord_eq l m ((List.perm_ext_iff_of_nodup (ord_nodup h1) (ord_nodup h2)).2 h) h1 h2
/-- Each dot's value is this one. -/
def ValsBy (V : DotI → List UInt8) (l : List SibI) : Prop := ∀ x ∈ l, x.s = V x.d
theorem mem_of_dot {V : DotI → List UInt8} {m : List SibI} (hm : ValsBy V m) {x : SibI} (hx : x.s = V x.d) : x.d ∈ m.map SibI.d ↔ x ∈ m := by
  constructor
  · intro h
    obtain ⟨y, hy, e⟩ := List.mem_map.1 h
    have : y = x := SibI.ext' (congrArg DotI.r e) (congrArg DotI.n e) (by rw [hm y hy, hx, e])
    exact this ▸ hy
  · intro h; exact List.mem_map.2 ⟨x, h, rfl⟩
theorem mem_rstay {V : DotI → List UInt8} {f g : Nat → Nat} {l m : List SibI} (hl : ValsBy V l) (hm : ValsBy V m) (x : SibI) :
    x ∈ rstay f g l m ↔ (x ∈ l ∧ (x ∈ m ∨ has8 g x.r x.n = false)) ∨ (x ∈ m ∧ has8 f x.r x.n = false) := by
  rw [(rstay_perm f g l m).mem_iff, stayL, List.mem_append, List.mem_filter, List.mem_filter]
  simp only [Bool.or_eq_true, decide_eq_true_eq, Bool.not_eq_true']
  refine or_congr (and_congr_right fun h => ?_) Iff.rfl
  rw [mem_of_dot hm (hl x h)]
theorem vals_rstay {V : DotI → List UInt8} {f g : Nat → Nat} {l m : List SibI} (hl : ValsBy V l) (hm : ValsBy V m) : ValsBy V (rstay f g l m) := fun x hx => by
  rcases (mem_rstay hl hm x).1 hx with h | h
  · exact hl x h.1
  · exact hm x h.1
theorem goodC_of (f : Nat → Nat) : ∀ (l : List SibI) (x : SibI), (∀ y ∈ l, ltD x y ∧ has8 f y.r y.n = true) → l.Pairwise ltD → goodC f x.r x.n l = true := by
  intro l
  induction l with
  | nil => intro x _ _; rfl
  | cons y l ih =>
    intro x h hp
    obtain ⟨h1, h2⟩ := List.pairwise_cons.1 hp
    obtain ⟨h3, h4⟩ := h y List.mem_cons_self
    simp only [goodC, Bool.and_eq_true, decide_eq_true_eq]
    exact ⟨⟨(cmpD_lt x y).2 h3, h4⟩, ih y (fun z hz => ⟨h1 z hz, (h z (List.mem_cons_of_mem _ hz)).2⟩) h2⟩
theorem has_pos {f : Nat → Nat} {y : SibI} (h : has8 f y.r y.n = true) : ltD zS y := by
  unfold has8 okD at h
  simp only [Bool.and_eq_true, decide_eq_true_eq] at h
  unfold ltD zS
  show 0 < y.n ∨ 0 = y.n ∧ 0 < y.r
  omega
theorem okR_of {f : Nat → Nat} {l : List SibI} (hm : mx f 8 ≤ 65535) (hl : l.length ≤ 8) (h : ∀ y ∈ l, has8 f y.r y.n = true) (ho : l.Pairwise ltD) : okR f l = true := by
  unfold okR
  rw [decide_eq_true hm, decide_eq_true hl]
  exact goodC_of f l zS (fun y hy => ⟨has_pos (h y hy), h y hy⟩) ho
theorem okR_mx {f : Nat → Nat} {l : List SibI} (h : okR f l = true) : mx f 8 ≤ 65535 ∧ l.length ≤ 8 := by
  unfold okR at h
  simp only [Bool.and_eq_true, decide_eq_true_eq] at h
  exact h.1
theorem mx_jn {f g : Nat → Nat} {B : Nat} (h1 : mx f 8 ≤ B) (h2 : mx g 8 ≤ B) : mx (jn8 f g) 8 ≤ B := (mx_le_iff _ _ _).2 fun j hj => by
  have := (mx_le_iff _ _ _).1 h1 j hj
  have := (mx_le_iff _ _ _).1 h2 j hj
  rw [jn8_at]; omega
/-- A join that is OK may be. -/
theorem okR_join {f g : Nat → Nat} {l m : List SibI} (h1 : okR f l = true) (h2 : okR g m = true) (h8 : (rstay f g l m).length ≤ 8) : okR (jn8 f g) (rstay f g l m) = true := by
  refine okR_of (mx_jn (okR_mx h1).1 (okR_mx h2).1) h8 (fun y hy => ?_) (rstay_ord h1 h2)
  rw [has_join, Bool.or_eq_true]
  rw [(rstay_perm f g l m).mem_iff, stayL, List.mem_append] at hy
  rcases hy with h | h
  · exact .inl ((okR_ord h1).1 y (List.mem_filter.1 h).1)
  · exact .inr ((okR_ord h2).1 y (List.mem_filter.1 h).1)
theorem jn_comm (f g : Nat → Nat) : jn8 f g = jn8 g f := funext fun k => by simp only [jn8_at]; omega
theorem jn_assoc (f g h : Nat → Nat) : jn8 (jn8 f g) h = jn8 f (jn8 g h) := funext fun k => by simp only [jn8_at]; omega
theorem jn_selfR (f : Nat → Nat) : jn8 f f = f := funext fun k => by simp only [jn8_at]; omega
theorem jn_again (f g : Nat → Nat) : jn8 (jn8 f g) g = jn8 f g := funext fun k => by simp only [jn8_at]; omega

section
variable {V : DotI → List UInt8} {f g h : Nat → Nat} {l m n : List SibI} (hl : ValsBy V l) (hm : ValsBy V m) (hn : ValsBy V n) (h1 : okR f l = true) (h2 : okR g m = true) (h3 : okR h n = true)
include hl hm h1 h2
theorem rstay_comm : rstay f g l m = rstay g f m l := ord_ext (rstay_ord h1 h2) (rstay_ord h2 h1) fun x => by
  have a1 := (okR_ord h1).1 x
  have a2 := (okR_ord h2).1 x
  rw [mem_rstay hl hm, mem_rstay hm hl]
  by_cases p : x ∈ l <;> by_cases q : x ∈ m <;> simp [p, q]
theorem rstay_again (h8 : (rstay f g l m).length ≤ 8) : rstay (jn8 f g) g (rstay f g l m) m = rstay f g l m := ord_ext (rstay_ord (okR_join h1 h2 h8) h2) (rstay_ord h1 h2) fun x => by
  have a1 := (okR_ord h1).1 x
  have a2 := (okR_ord h2).1 x
  rw [mem_rstay (vals_rstay hl hm) hm, mem_rstay hl hm, has_join]
  by_cases p : x ∈ l <;> by_cases q : x ∈ m <;> cases hf : has8 f x.r x.n <;> cases hg : has8 g x.r x.n <;> simp_all
include hn h3
theorem rstay_assoc (h8 : (rstay f g l m).length ≤ 8) (h9 : (rstay g h m n).length ≤ 8) : rstay (jn8 f g) h (rstay f g l m) n = rstay f (jn8 g h) l (rstay g h m n) := ord_ext (rstay_ord (okR_join h1 h2 h8) h3) (rstay_ord h1 (okR_join h2 h3 h9)) fun x => by
  have a1 := (okR_ord h1).1 x
  have a2 := (okR_ord h2).1 x
  have a3 := (okR_ord h3).1 x
  rw [mem_rstay (vals_rstay hl hm) hn, mem_rstay hl hm, mem_rstay hl (vals_rstay hm hn), mem_rstay hm hn, has_join, has_join]
  by_cases p : x ∈ l <;> by_cases q : x ∈ m <;> by_cases r : x ∈ n <;> cases hf : has8 f x.r x.n <;> cases hg : has8 g x.r x.n <;> cases hh : has8 h x.r x.n <;> simp_all
end
theorem rstay_self {V : DotI → List UInt8} {f : Nat → Nat} {l : List SibI} (hl : ValsBy V l) (h1 : okR f l = true) : rstay f f l l = l := ord_ext (rstay_ord h1 h1) (okR_ord h1).2 fun x => by
  rw [mem_rstay hl hl]
  by_cases p : x ∈ l <;> simp [p]

/-- Siblings whose values hang on their dots. -/
def byS (V : DotI → List UInt8) (hV : ∀ d, (V d).length ≤ 9223372036854775807) (l : List SibI) : List SibI := l.map fun x => ⟨x.r, x.n, V x.d, x.hr, x.hn, hV _⟩
theorem byS_vals (V : DotI → List UInt8) (hV : ∀ d, (V d).length ≤ 9223372036854775807) (l : List SibI) : ValsBy V (byS V hV l) := fun x hx => by
  obtain ⟨y, _, rfl⟩ := List.mem_map.1 hx
  rfl
theorem byS_len (V : DotI → List UInt8) (hV : ∀ d, (V d).length ≤ 9223372036854775807) (l : List SibI) : (byS V hV l).length = l.length := by simp [byS]
theorem byS_good (V : DotI → List UInt8) (hV : ∀ d, (V d).length ≤ 9223372036854775807) (f : Nat → Nat) : ∀ (l : List SibI) (r n : Nat), goodC f r n (byS V hV l) = goodC f r n l := by
  intro l
  induction l with
  | nil => intro r n; rfl
  | cons x l ih => intro r n; simp only [byS, List.map_cons, goodC]; rw [← ih]; rfl
theorem byS_ok (V : DotI → List UInt8) (hV : ∀ d, (V d).length ≤ 9223372036854775807) (f : Nat → Nat) (l : List SibI) : okR f (byS V hV l) = okR f l := by
  unfold okR
  rw [byS_len, byS_good]
section
variable {V : DotI → List UInt8} {f g h : Nat → Nat} {l m n : List SibI} (hl : ValsBy V l) (hm : ValsBy V m) (hn : ValsBy V n) (h1 : okR f l = true) (h2 : okR g m = true) (h3 : okR h n = true)
include hl hm h1 h2
theorem ring_comm : rjoinS g f m l = rjoinS f g l m := by
  unfold rjoinS
  rw [h1, h2, rstay_comm hm hl h2 h1, jn_comm g f]
omit hl hm in
theorem ring_ok : (rstay f g l m).length ≤ 8 ∧ rjoinS f g l m = (jn8 f g, rstay f g l m, 0) ∨ rjoinS f g l m = (fun _ => 0, [], 7) := by
  unfold rjoinS
  rw [h1, h2]
  simp only [Bool.and_self, if_true]
  by_cases h8 : 8 < (rstay f g l m).length
  · rw [if_pos h8]; exact .inr rfl
  · rw [if_neg h8]; exact .inl ⟨by omega, rfl⟩
theorem ring_again (h8 : (rstay f g l m).length ≤ 8) : rjoinS (jn8 f g) g (rstay f g l m) m = (jn8 f g, rstay f g l m, 0) := by
  unfold rjoinS
  rw [okR_join h1 h2 h8, h2, rstay_again hl hm h1 h2 h8, jn_again]
  simp only [Bool.and_self, if_true]
  rw [if_neg (by omega)]
include hn h3
theorem ring_assoc (h8 : (rstay f g l m).length ≤ 8) (h9 : (rstay g h m n).length ≤ 8) : rjoinS (jn8 f g) h (rstay f g l m) n = rjoinS f (jn8 g h) l (rstay g h m n) := by
  unfold rjoinS
  rw [okR_join h1 h2 h8, h3, h1, okR_join h2 h3 h9, rstay_assoc hl hm hn h1 h2 h3 h8 h9, jn_assoc]
end
theorem ring_self {V : DotI → List UInt8} {f : Nat → Nat} {l : List SibI} (hl : ValsBy V l) (h1 : okR f l = true) : rjoinS f f l l = (f, l, 0) := by
  unfold rjoinS
  rw [h1, rstay_self hl h1, jn_selfR]
  have := (okR_mx h1).2
  simp only [Bool.and_self, if_true]
  rw [if_neg (by omega)]
theorem fit_jn {f g : Nat → Nat} (h1 : Fit8 f) (h2 : Fit8 g) : Fit8 (jn8 f g) := fun k hk => by
  have := h1 k hk
  have := h2 k hk
  rw [jn8_at]; omega
theorem fit_zero : Fit8 (fun _ => 0) := fun k _ => by show (0 : Nat) < 4294967296; decide
theorem fit_join {f g : Nat → Nat} {l m : List SibI} (h1 : Fit8 f) (h2 : Fit8 g) : Fit8 (rjoinS f g l m).1 := by
  unfold rjoinS
  split
  · split
    · exact fit_zero
    · exact fit_jn h1 h2
  · exact fit_zero
theorem len_join {f g : Nat → Nat} {l m : List SibI} : (rjoinS f g l m).2.1.length ≤ 8 := by
  unfold rjoinS
  split
  · split
    · exact Nat.zero_le _
    · simp only; omega
  · exact Nat.zero_le _
end Go.Proofs.Ytmdmkcofafhlcaa

