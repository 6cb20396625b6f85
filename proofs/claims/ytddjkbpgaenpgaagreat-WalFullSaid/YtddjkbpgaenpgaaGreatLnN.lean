/- Two lines to two devices, side by side. No condition. -/
import Derived.Test.YtddjkbpgaenpgaaGreatLnH
section
namespace Go.Proofs.YtddjkbpgaenpgaaGreat
open Go.RowKit Go.Shelf

theorem notX {l f x k : Nat} (h1 : k ≠ l) (h2 : k ≠ f) (h3 : k ≠ x) : ¬ LnX l f x k := by
  rintro (h | h | h)
  · exact h1 h
  · exact h2 h
  · exact h3 h
structure PairL (w0 w : World) (l b f x : Nat) (L : LV) (l2 b2 f2 x2 : Nat) (L2 : LV) : Prop where
  one : LnM w l b f x L
  two : LnM w l2 b2 f2 x2 L2
  s1 : l ≠ l2 ∧ l ≠ f2 ∧ l ≠ x2 ∧ b ≠ l2 ∧ b ≠ f2 ∧ b ≠ x2 ∧ f ≠ l2 ∧ f ≠ f2 ∧ f ≠ x2 ∧ x ≠ l2 ∧ x ≠ f2 ∧ x ≠ x2
  s2 : b2 ≠ l ∧ b2 ≠ f ∧ b2 ≠ x
  p1 : ∀ g, L.P g → g ≠ l2 ∧ g ≠ f2 ∧ g ≠ x2
  p2 : L2.cs = []
  o1 : w0.heap.size ≤ l ∧ w0.heap.size ≤ f ∧ w0.heap.size ≤ x
  o2 : w0.heap.size ≤ l2 ∧ w0.heap.size ≤ f2 ∧ w0.heap.size ≤ x2
  frm : Frm (fun _ => False) w0 w
section
variable {w0 w w' : World} {l b f x : Nat} {L L' : LV} {l2 b2 f2 x2 : Nat} {L2 L2' : LV}
theorem PairL.keepF (h : PairL w0 w l b f x L l2 b2 f2 x2 L2) (g : Frm (fun _ => False) w w') : PairL w0 w' l b f x L l2 b2 f2 x2 L2 :=
  ⟨h.one.keepF g, h.two.keepF g, h.s1, h.s2, h.p1, h.p2, h.o1, h.o2, h.frm.trans g⟩
theorem PairL.left (h : PairL w0 w l b f x L l2 b2 f2 x2 L2) (h1 : LnM w' l b f x L') (hP : L'.P = L.P) (g : Frm (LnX l f x) w w') : PairL w0 w' l b f x L' l2 b2 f2 x2 L2 := by
  obtain ⟨a1, a2, a3, a4, a5, a6, a7, a8, a9, a10, a11, a12⟩ := h.s1
  obtain ⟨c1, c2, c3⟩ := h.s2
  exact ⟨h1, h.two.keep g (notX a1.symm a7.symm a10.symm) (notX c1 c2 c3) (notX a2.symm a8.symm a11.symm) (notX a3.symm a9.symm a12.symm) (.inl (by rw [h.p2]; rfl)), h.s1, h.s2, by rw [hP]; exact h.p1, h.p2, h.o1, h.o2, h.frm.toNewX g h.o1⟩
theorem PairL.right (h : PairL w0 w l b f x L l2 b2 f2 x2 L2) (h1 : LnM w' l2 b2 f2 x2 L2') (hP : L2'.cs = L2.cs) (g : Frm (LnX l2 f2 x2) w w') : PairL w0 w' l b f x L l2 b2 f2 x2 L2' := by
  obtain ⟨a1, a2, a3, a4, a5, a6, a7, a8, a9, a10, a11, a12⟩ := h.s1
  exact ⟨h.one.keep g (notX a1 a2 a3) (notX a4 a5 a6) (notX a7 a8 a9) (notX a10 a11 a12) (.inr fun k hk => notX (h.p1 k hk).1 (h.p1 k hk).2.1 (h.p1 k hk).2.2), h1, h.s1, h.s2, h.p1, by rw [hP]; exact h.p2, h.o1, h.o2, h.frm.toNewX g h.o2⟩
/-- It begins so. -/
theorem PairL.start {w0 w1 w2 w3 w4 : World} {l b f x l2 b2 f2 x2 : Nat} {D D2 : DV} {n n2 : Int} {cs : List Int}
    (h1 : DevM w1 b f x D) (o1 : w0.heap.size ≤ b ∧ w0.heap.size ≤ f ∧ w0.heap.size ≤ x) (g1 : Frm (fun _ => False) w0 w1)
    (h2 : DevM w2 b2 f2 x2 D2) (o2 : w1.heap.size ≤ b2 ∧ w1.heap.size ≤ f2 ∧ w1.heap.size ≤ x2) (g2 : Frm (fun _ => False) w1 w2)
    (h3 : LnM w3 l b f x (LV.new D n cs (fun g => w2.heap.size ≤ g))) (o3 : w2.heap.size ≤ l) (g3 : Frm (fun _ => False) w2 w3)
    (h4 : LnM w4 l2 b2 f2 x2 (LV.new D2 n2 [] )) (o4 : w3.heap.size ≤ l2) (g4 : Frm (fun _ => False) w3 w4) :
    PairL w0 w4 l b f x (LV.new D n cs (fun g => w2.heap.size ≤ g ∧ g < w3.heap.size)) l2 b2 f2 x2 (LV.new D2 n2 []) := by
  have a1 := h1.lt
  have a2 := h2.lt
  have a3 := h3.lt
  have z1 := g1.size
  have z2 := g2.size
  have z3 := g3.size
  exact ⟨h3.low.keepF g4, h4, ⟨by omega, by omega, by omega, by omega, by omega, by omega, by omega, by omega, by omega, by omega, by omega, by omega⟩, ⟨by omega, by omega, by omega⟩, fun g hg => by have hg : w2.heap.size ≤ g ∧ g < w3.heap.size := hg; exact ⟨by omega, by omega, by omega⟩, rfl, ⟨by omega, by omega, by omega⟩, ⟨by omega, by omega, by omega⟩, ((g1.trans g2).trans g3).trans g4⟩
end
/-- One line is as the other one, up to the act that cuts it. -/
structure InvL (n : Nat) (L L2 : LV) : Prop where
  cut : L.cut = (n : Int)
  cut2 : L2.cut = -1
  live : L2.down = false
  ahead : L2.acts ≤ n → L.down = false ∧ L.acts = L2.acts ∧ L.D = L2.D
  over : n < L2.acts → L.down = true ∧ L.acts = n + 1
theorem LV.code_live {L : LV} (h : L.down = false) (hne : (L.acts : Int) ≠ L.cut) (c : Nat) : L.code c = c := by
  unfold LV.code
  rw [if_neg]
  rintro (h1 | h1)
  · rw [h] at h1; cases h1
  · exact hne h1
theorem LV.code_cut {L : LV} (he : (L.acts : Int) = L.cut) (c : Nat) : L.code c = 8 := by
  unfold LV.code
  rw [if_pos (.inr he)]
/-- An act of both. -/
theorem InvL.act {n : Nat} {L L2 : LV} (h : InvL n L L2) (F : DV → DV) : InvL n (L.act (F L.D)) (L2.act (F L2.D)) ∧ (L2.act (F L2.D)).acts = L2.acts + 1 ∧ (L.act (F L.D)).P = L.P ∧ (L2.act (F L2.D)).cs = L2.cs := by
  have e2 : L2.act (F L2.D) = { L2.count with D := F L2.D } := LV.act_live _ h.live (by rw [h.cut2]; omega)
  have ep : (L.act (F L.D)).P = L.P ∧ (L.act (F L.D)).cut = L.cut := by
    unfold LV.act
    split
    · exact ⟨rfl, rfl⟩
    split
    · exact ⟨rfl, rfl⟩
    split <;> exact ⟨rfl, rfl⟩
  rw [e2]
  refine ⟨⟨ep.2.trans h.cut, h.cut2, h.live, fun ha => ?_, fun ha => ?_⟩, rfl, ep.1, rfl⟩
  · have ha : L2.acts + 1 ≤ n := ha
    have h1 := h.ahead (by omega)
    rw [LV.act_live _ h1.1 (by rw [h.cut, h1.2.1]; omega)]
    exact ⟨h1.1, by show L.acts + 1 = L2.acts + 1; rw [h1.2.1], by show F L.D = F L2.D; rw [h1.2.2]⟩
  · have ha : n < L2.acts + 1 := ha
    by_cases e : L2.acts = n
    · have h1 := h.ahead (by omega)
      rw [LV.act_cut _ h1.1 (by rw [h.cut, h1.2.1, e])]
      have hac : L.acts + 1 = n + 1 := by rw [h1.2.1, e]
      split <;> exact ⟨rfl, hac⟩
    · have h1 := h.over (by omega)
      rw [LV.act_over _ h1.1]
      exact h1
end Go.Proofs.YtddjkbpgaenpgaaGreat
end
section
namespace Go.Proofs.YtddjkbpgaenpgaaGreat
open Go.RowKit Go.Shelf

theorem LV.blow_live {L : LV} (h : L.down = false) : L.blow = L.fall := by
  unfold LV.blow
  rw [h]
  rfl
end Go.Proofs.YtddjkbpgaenpgaaGreat
end
section
namespace Go.Proofs.YtddjkbpgaenpgaaGreat
open Go.RowKit Go.Shelf

theorem nil_zs {w : World} : Zs w (.slice none 0 0) [] := Sl.nil_ w 1 none 0 (by decide)
end Go.Proofs.YtddjkbpgaenpgaaGreat
end
section
namespace Go.Proofs.YtddjkbpgaenpgaaGreat
open Go.RowKit Go.Shelf

structure BothL (w0 w : World) (l b f x p r : Nat) (fp : Nat → Prop) (L : LV) : Prop where
  ln : LnM w l b f x L
  rl : RLn w p r fp L
  s0 : p ≠ l ∧ p ≠ b ∧ p ≠ f ∧ p ≠ x
  s1 : ¬ fp l ∧ ¬ fp b ∧ ¬ fp f ∧ ¬ fp x
  s2 : ∀ g, L.P g → (g ≠ l ∧ g ≠ f ∧ g ≠ x) ∧ g ≠ p ∧ ¬ fp g ∧ g < w.heap.size
  o1 : w0.heap.size ≤ l ∧ w0.heap.size ≤ f ∧ w0.heap.size ≤ x
  o2 : w0.heap.size ≤ p ∧ ∀ k, fp k → w0.heap.size ≤ k
  frm : Frm (fun _ => False) w0 w
section
variable {w0 w w1 w2 : World} {l b f x p r : Nat} {fp : Nat → Prop} {L L' : LV}
theorem BothL.keepF (h : BothL w0 w l b f x p r fp L) (g : Frm (fun _ => False) w w1) : BothL w0 w1 l b f x p r fp L :=
  ⟨h.ln.keepF g, h.rl.keepF g, h.s0, h.s1, fun k hk => ⟨(h.s2 k hk).1, (h.s2 k hk).2.1, (h.s2 k hk).2.2.1, Nat.lt_of_lt_of_le (h.s2 k hk).2.2.2 g.size⟩, h.o1, h.o2, h.frm.trans g⟩
theorem BothL.step (h : BothL w0 w l b f x p r fp L) (h1 : LnM w1 l b f x L') (g1 : Frm (LnX l f x) w w1) (hP : L'.P = L.P) (h2 : RLnTo p r fp L' w1 w2) : ∃ fp', BothL w0 w2 l b f x p r fp' L' := by
  obtain ⟨fp', hr, g2, n2⟩ := h2
  obtain ⟨a1, a2, a3, a4⟩ := h.s0
  obtain ⟨c1, c2, c3, c4⟩ := h.s1
  have hlt := h1.lt
  have z1 := g1.size
  have z2 := g2.size
  have z0 := h.frm.size
  have no : ∀ k, k < w1.heap.size → ¬ fp k → ¬ fp' k := fun k hk hn hX => by
    rcases n2 k hX with e | e
    · exact hn e
    · omega
  have nx : ∀ k, k ≠ p → ¬ fp k → ¬ (k = p ∨ fp k) := fun k h1 h2 h => h.elim h1 h2
  refine ⟨fp', h1.keep g2 (nx l a1.symm c1) (nx b a2.symm c2) (nx f a3.symm c3) (nx x a4.symm c4) (.inr fun g hg => ?_), hr, h.s0, ⟨no l hlt.1 c1, no b hlt.2.1 c2, no f hlt.2.2.1 c3, no x hlt.2.2.2 c4⟩, fun g hg => ?_, h.o1, ⟨h.o2.1, fun k hk => ?_⟩, ?_⟩
  · rw [hP] at hg
    exact nx g (h.s2 g hg).2.1 (h.s2 g hg).2.2.1
  · rw [hP] at hg
    obtain ⟨d1, d2, d3, d4⟩ := h.s2 g hg
    exact ⟨d1, d2, no g (by omega) d3, by omega⟩
  · rcases n2 k hk with e | e
    · exact h.o2.2 k e
    · omega
  · refine (h.frm.toNewX g1 h.o1).next g2 fun k hk hX => ?_
    rcases hX with e | e
    · have := h.o2.1; omega
    · have := h.o2.2 k e; omega
end
/-- What one does to a line. -/
def LV.one (L : LV) (x : A3) : LV := if x.k % 5 < 3 then L.act (L.D.a3 x) else if x.k % 5 = 4 ∧ x.q % 7 = 0 then L.blow else L
end Go.Proofs.YtddjkbpgaenpgaaGreat
end
