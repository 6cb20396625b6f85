/- What run does: acts over a line, up to a bound; what the device is then. No condition. -/
import Derived.Test.YtdhngbfigklaoaaLnF
section
namespace Go.Proofs.Ytdhngbfigklaoaa
open Go.RowKit Go.Shelf

/-- A region's last operation is a call. -/
theorem wpOp_callD {ops : Array Oper} {Q : Exit → Act → World → Prop} {K : Act → World → Prop} {i : Nat} {o : Oper} {a : Act} {W : World} {f : FuncId} {args : Array Value} {e : Tmp} (hi : ops[i]? = some o) (hd : o.dst = some e) (hw : Region.wanted o (yielded ops a.tmps) = true)
    (h : (execOp a.eval o).run Try.prog W = .ok (.enter f args) W) (hc : Calls Try.prog f args W fun e' W' => ∃ u, e' = .returned u ∧ K (a.put (some e) u) W') : wpOp Try.prog ops Q i K a W :=
  OpOK.wpOp (K := fun u W' => K (a.put (some e) u) W') hi (.inl ⟨hw, by rw [h]; exact hc⟩) fun _ _ h => by rw [hd]; exact h
def DV.a3 (D : DV) (x : A3) : DV := if x.k % 5 = 2 then D.flush else D.writeTo x.q x.s
def A3.isAct (x : A3) : Prop := x.k % 5 < 3
instance (x : A3) : Decidable x.isAct := inferInstanceAs (Decidable (x.k % 5 < 3))
end Go.Proofs.Ytdhngbfigklaoaa
end
section
namespace Go.Proofs.Ytdhngbfigklaoaa
open Go.RowKit Go.Shelf

theorem notX {l f x k : Nat} (h1 : k ≠ l) (h2 : k ≠ f) (h3 : k ≠ x) : ¬ LnX l f x k := by
  rintro (h | h | h)
  · exact h1 h
  · exact h2 h
  · exact h3 h
structure PairL (w0 w : World) (l b f x : Nat) (L : LV) (l2 b2 f2 x2 : Nat) (L2 : LV) : Prop where
  one : LnM w l b f x L
  two : LnM w l2 b2 f2 x2 L2
  s1 : l ≠ l2 ∧ l ≠ f2 ∧ l ≠ x2 ∧ b ≠ l2 ∧ b ≠ f2 ∧ b ≠ x2 ∧ f ≠ l2 ∧ f ≠ f2 ∧ f ≠ x2 ∧ x ≠ l2 ∧ x ≠ f2 ∧ x ≠ x2
  s2 : b2 ≠ l ∧ b2 ≠ f ∧ b2 ≠ x
  p1 : ∀ g, L.P g → g ≠ l2 ∧ g ≠ f2 ∧ g ≠ x2
  p2 : L2.cs = []
  o1 : w0.heap.size ≤ l ∧ w0.heap.size ≤ f ∧ w0.heap.size ≤ x
  o2 : w0.heap.size ≤ l2 ∧ w0.heap.size ≤ f2 ∧ w0.heap.size ≤ x2
  frm : Frm (fun _ => False) w0 w
section
variable {w0 w w' : World} {l b f x : Nat} {L L' : LV} {l2 b2 f2 x2 : Nat} {L2 L2' : LV}
theorem PairL.keepF (h : PairL w0 w l b f x L l2 b2 f2 x2 L2) (g : Frm (fun _ => False) w w') : PairL w0 w' l b f x L l2 b2 f2 x2 L2 :=
  ⟨h.one.keepF g, h.two.keepF g, h.s1, h.s2, h.p1, h.p2, h.o1, h.o2, h.frm.trans g⟩
theorem PairL.left (h : PairL w0 w l b f x L l2 b2 f2 x2 L2) (h1 : LnM w' l b f x L') (hP : L'.P = L.P) (g : Frm (LnX l f x) w w') : PairL w0 w' l b f x L' l2 b2 f2 x2 L2 := by
  obtain ⟨a1, a2, a3, a4, a5, a6, a7, a8, a9, a10, a11, a12⟩ := h.s1
  obtain ⟨c1, c2, c3⟩ := h.s2
  exact ⟨h1, h.two.keep g (notX a1.symm a7.symm a10.symm) (notX c1 c2 c3) (notX a2.symm a8.symm a11.symm) (notX a3.symm a9.symm a12.symm) (.inl (by rw [h.p2]; rfl)), h.s1, h.s2, by rw [hP]; exact h.p1, h.p2, h.o1, h.o2, h.frm.toNewX g h.o1⟩
theorem PairL.right (h : PairL w0 w l b f x L l2 b2 f2 x2 L2) (h1 : LnM w' l2 b2 f2 x2 L2') (hP : L2'.cs = L2.cs) (g : Frm (LnX l2 f2 x2) w w') : PairL w0 w' l b f x L l2 b2 f2 x2 L2' := by
  obtain ⟨a1, a2, a3, a4, a5, a6, a7, a8, a9, a10, a11, a12⟩ := h.s1
  exact ⟨h.one.keep g (notX a1 a2 a3) (notX a4 a5 a6) (notX a7 a8 a9) (notX a10 a11 a12) (.inr fun k hk => notX (h.p1 k hk).1 (h.p1 k hk).2.1 (h.p1 k hk).2.2), h1, h.s1, h.s2, h.p1, by rw [hP]; exact h.p2, h.o1, h.o2, h.frm.toNewX g h.o2⟩
/-- It begins so. -/
theorem PairL.start {w0 w1 w2 w3 w4 : World} {l b f x l2 b2 f2 x2 : Nat} {D D2 : DV} {n n2 : Int} {cs : List Int}
    (h1 : DevM w1 b f x D) (o1 : w0.heap.size ≤ b ∧ w0.heap.size ≤ f ∧ w0.heap.size ≤ x) (g1 : Frm (fun _ => False) w0 w1)
    (h2 : DevM w2 b2 f2 x2 D2) (o2 : w1.heap.size ≤ b2 ∧ w1.heap.size ≤ f2 ∧ w1.heap.size ≤ x2) (g2 : Frm (fun _ => False) w1 w2)
    (h3 : LnM w3 l b f x (LV.new D n cs (fun g => w2.heap.size ≤ g))) (o3 : w2.heap.size ≤ l) (g3 : Frm (fun _ => False) w2 w3)
    (h4 : LnM w4 l2 b2 f2 x2 (LV.new D2 n2 [] )) (o4 : w3.heap.size ≤ l2) (g4 : Frm (fun _ => False) w3 w4) :
    PairL w0 w4 l b f x (LV.new D n cs (fun g => w2.heap.size ≤ g ∧ g < w3.heap.size)) l2 b2 f2 x2 (LV.new D2 n2 []) := by
  have a1 := h1.lt
  have a2 := h2.lt
  have a3 := h3.lt
  have z1 := g1.size
  have z2 := g2.size
  have z3 := g3.size
  exact ⟨h3.low.keepF g4, h4, ⟨by omega, by omega, by omega, by omega, by omega, by omega, by omega, by omega, by omega, by omega, by omega, by omega⟩, ⟨by omega, by omega, by omega⟩, fun g hg => by have hg : w2.heap.size ≤ g ∧ g < w3.heap.size := hg; exact ⟨by omega, by omega, by omega⟩, rfl, ⟨by omega, by omega, by omega⟩, ⟨by omega, by omega, by omega⟩, ((g1.trans g2).trans g3).trans g4⟩
end
/-- One line is as the other one, up to the act that cuts it. -/
structure InvL (n : Nat) (L L2 : LV) : Prop where
  cut : L.cut = (n : Int)
  cut2 : L2.cut = -1
  live : L2.down = false
  ahead : L2.acts ≤ n → L.down = false ∧ L.acts = L2.acts ∧ L.D = L2.D
  over : n < L2.acts → L.down = true ∧ L.acts = n + 1
theorem LV.code_live {L : LV} (h : L.down = false) (hne : (L.acts : Int) ≠ L.cut) (c : Nat) : L.code c = c := by
  unfold LV.code
  rw [if_neg]
  rintro (h1 | h1)
  · rw [h] at h1; cases h1
  · exact hne h1
theorem LV.code_cut {L : LV} (he : (L.acts : Int) = L.cut) (c : Nat) : L.code c = 8 := by
  unfold LV.code
  rw [if_pos (.inr he)]
/-- An act of both. -/
theorem InvL.act {n : Nat} {L L2 : LV} (h : InvL n L L2) (F : DV → DV) : InvL n (L.act (F L.D)) (L2.act (F L2.D)) ∧ (L2.act (F L2.D)).acts = L2.acts + 1 ∧ (L.act (F L.D)).P = L.P ∧ (L2.act (F L2.D)).cs = L2.cs := by
  have e2 : L2.act (F L2.D) = { L2.count with D := F L2.D } := LV.act_live _ h.live (by rw [h.cut2]; omega)
  have ep : (L.act (F L.D)).P = L.P ∧ (L.act (F L.D)).cut = L.cut := by
    unfold LV.act
    split
    · exact ⟨rfl, rfl⟩
    split
    · exact ⟨rfl, rfl⟩
    split <;> exact ⟨rfl, rfl⟩
  rw [e2]
  refine ⟨⟨ep.2.trans h.cut, h.cut2, h.live, fun ha => ?_, fun ha => ?_⟩, rfl, ep.1, rfl⟩
  · have ha : L2.acts + 1 ≤ n := ha
    have h1 := h.ahead (by omega)
    rw [LV.act_live _ h1.1 (by rw [h.cut, h1.2.1]; omega)]
    exact ⟨h1.1, by show L.acts + 1 = L2.acts + 1; rw [h1.2.1], by show F L.D = F L2.D; rw [h1.2.2]⟩
  · have ha : n < L2.acts + 1 := ha
    by_cases e : L2.acts = n
    · have h1 := h.ahead (by omega)
      rw [LV.act_cut _ h1.1 (by rw [h.cut, h1.2.1, e])]
      have hac : L.acts + 1 = n + 1 := by rw [h1.2.1, e]
      split <;> exact ⟨rfl, hac⟩
    · have h1 := h.over (by omega)
      rw [LV.act_over _ h1.1]
      exact h1
end Go.Proofs.Ytdhngbfigklaoaa
end
