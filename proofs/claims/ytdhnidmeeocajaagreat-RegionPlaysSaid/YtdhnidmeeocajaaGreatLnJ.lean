/- The document's line in memory; what its methods answer and leave. No condition. -/
import Derived.Test.YtdhnidmeeocajaaGreatStrs
import Derived.Test.YtdhnidmeeocajaaGreatDvY
import Derived.Test.YtdhnidmeeocajaaGreatCodecV
section
namespace Go.Proofs.YtdhnidmeeocajaaGreat
open Go.RowKit Go.Shelf

structure RLnC (w : World) (p r : Nat) (fp : Nat → Prop) (cv : Value) (L : LV) : Prop where
  blk : Blk w p 36 #[.pointer (some ⟨r, 0, none⟩), .int .i64 L.cut, cv, .int .i64 (L.acts : Nat), .bool L.down]
  ref : RefM w r L.D fp
  dok : L.D.ok
  ok : L.ok
  zs : Zs w cv L.cs
  np : ¬ fp p
  za : L.cs.length = 0 ∨ ∀ g, blkOf cv = some g → ¬ fp g ∧ g ≠ p ∧ L.P g
def RLn (w : World) (p r : Nat) (fp : Nat → Prop) (L : LV) : Prop := ∃ cv, RLnC w p r fp cv L
section
variable {w w' w'' : World} {p r : Nat} {fp : Nat → Prop} {cv : Value} {L L' L'' : LV}
theorem RLnC.keep {X : Nat → Prop} (h : RLnC w p r fp cv L) (hf : Frm X w w') (h0 : ¬ X p) (h1 : ∀ k, fp k → ¬ X k) (h2 : L.cs.length = 0 ∨ ∀ g, blkOf cv = some g → ¬ X g) : RLnC w' p r fp cv L :=
  ⟨h.blk.keep hf h0, h.ref.keep hf h1, h.dok, h.ok, h.zs.keepN hf h2, h.np, h.za⟩
theorem RLn.keepF (h : RLn w p r fp L) (hf : Frm (fun _ => False) w w') : RLn w' p r fp L := by
  obtain ⟨cv, h⟩ := h
  exact ⟨cv, h.keep hf (fun h => h) (fun _ _ h => h) (.inr fun _ _ h => h)⟩
theorem RLn.ref (h : RLn w p r fp L) : RefM w r L.D fp := by
  obtain ⟨cv, h⟩ := h
  exact h.ref
theorem RLn.dok (h : RLn w p r fp L) : L.D.ok := by
  obtain ⟨cv, h⟩ := h
  exact h.dok
theorem RLn.c0 (h : RLn w p r fp L) : w.cell? ⟨p, 0, none⟩ = some (.pointer (some ⟨r, 0, none⟩)) := by
  obtain ⟨cv, h⟩ := h
  exact h.blk.cell 0 rfl
theorem RLn.c1 (h : RLn w p r fp L) : w.cell? ⟨p, 1, none⟩ = some (.int .i64 L.cut) := by
  obtain ⟨cv, h⟩ := h
  exact h.blk.cell 1 rfl
theorem RLn.c3 (h : RLn w p r fp L) : w.cell? ⟨p, 3, none⟩ = some (.int .i64 (L.acts : Nat)) := by
  obtain ⟨cv, h⟩ := h
  exact h.blk.cell 3 rfl
theorem RLn.c4 (h : RLn w p r fp L) : w.cell? ⟨p, 4, none⟩ = some (.bool L.down) := by
  obtain ⟨cv, h⟩ := h
  exact h.blk.cell 4 rfl
theorem RLn.free (h : RLn w p r fp L) (i : Nat) : w.frozen? ⟨p, i, none⟩ = false := by
  obtain ⟨cv, h⟩ := h
  exact h.blk.free i
theorem RLn.lt (h : RLn w p r fp L) : p < w.heap.size := by
  obtain ⟨cv, h⟩ := h
  exact h.blk.lt
/-- What is left of it, and where it lies now. -/
def RLnTo (p r : Nat) (fp : Nat → Prop) (L : LV) (w w' : World) : Prop := ∃ fp', RLn w' p r fp' L ∧ Frm (fun k => k = p ∨ fp k) w w' ∧ ∀ k, fp' k → fp k ∨ w.heap.size ≤ k
theorem RLnTo.same (h : RLn w' p r fp L) (g : Frm (fun k => k = p ∨ fp k) w w') : RLnTo p r fp L w w' := ⟨fp, h, g, fun _ h => .inl h⟩
/-- The device turned. -/
theorem RLn.turn {D' : DV} (h : RLn w p r fp L) (hok : D'.ok) (hr : RefTo r D' fp w w') : RLnTo p r fp { L with D := D' } w w' := by
  obtain ⟨cv, h⟩ := h
  obtain ⟨fp', h1, h2, h3⟩ := hr
  refine ⟨fp', ⟨cv, h.blk.keep h2 h.np, h1, hok, ⟨h.ok.cut, h.ok.cs, h.ok.few⟩, h.zs.keepN h2 (h.za.imp id fun q g hg => (q g hg).1), fun hp => ?_, ?_⟩, h2.mono fun _ _ h => .inr h, h3⟩
  · rcases h3 p hp with e | e
    · exact h.np e
    · have := h.blk.lt; omega
  · rcases h.za with h4 | h4
    · exact .inl h4
    rcases h.zs.low with h5 | h5
    · exact .inl h5
    refine .inr fun g hg => ⟨fun e => ?_, (h4 g hg).2⟩
    rcases h3 g e with e | e
    · exact (h4 g hg).1 e
    · have := h5 g hg; omega
theorem RLn.count (h : RLn w p r fp L) : RLn (w.setCell ⟨p, 3, none⟩ (.int .i64 ((L.acts : Int) + 1))) p r fp L.count ∧ Frm (· = p) w (w.setCell ⟨p, 3, none⟩ (.int .i64 ((L.acts : Int) + 1))) := by
  obtain ⟨cv, h⟩ := h
  have g : Frm (· = p) w (w.setCell ⟨p, 3, none⟩ (.int .i64 ((L.acts : Int) + 1))) := (Frm.refl (· = p) w).setCell (fun _ => rfl) _
  have hb := h.blk.set 3 (.int .i64 ((L.acts : Int) + 1))
  exact ⟨⟨cv, hb, h.ref.keep g (fun k hk e => h.np (e ▸ hk)), h.dok, ⟨h.ok.cut, h.ok.cs, h.ok.few⟩, h.zs.keepN g (h.za.imp id fun q k hk => (q k hk).2.1), h.np, h.za⟩, g⟩
theorem RLn.cutDown (h : RLn w p r fp L) : RLn (w.setCell ⟨p, 4, none⟩ (.bool true)) p r fp { L with down := true } ∧ Frm (· = p) w (w.setCell ⟨p, 4, none⟩ (.bool true)) := by
  obtain ⟨cv, h⟩ := h
  have g : Frm (· = p) w (w.setCell ⟨p, 4, none⟩ (.bool true)) := (Frm.refl (· = p) w).setCell (fun _ => rfl) _
  have hb := h.blk.set 4 (.bool true)
  exact ⟨⟨cv, hb, h.ref.keep g (fun k hk e => h.np (e ▸ hk)), h.dok, ⟨h.ok.cut, h.ok.cs, h.ok.few⟩, h.zs.keepN g (h.za.imp id fun q k hk => (q k hk).2.1), h.np, h.za⟩, g⟩
theorem RLnTo.of (g : Frm (· = p) w w') (h2 : RLnTo p r fp L' w' w'') : RLnTo p r fp L' w w'' := by
  obtain ⟨fp', a, b, c⟩ := h2
  refine ⟨fp', a, (g.mono fun _ _ h => .inl h).trans b, fun k hk => ?_⟩
  rcases c k hk with e | e
  · exact .inl e
  · exact .inr (Nat.le_trans g.size e)
theorem RLnTo.trans (h : RLnTo p r fp L w w') (h2 : ∀ fp', RLn w' p r fp' L → RLnTo p r fp' L' w' w'') : RLnTo p r fp L' w w'' := by
  obtain ⟨fp1, a, b, c⟩ := h
  obtain ⟨fp2, a2, b2, c2⟩ := h2 fp1 a
  have hs := b.size
  refine ⟨fp2, a2, b.next b2 fun k hk hX => ?_, fun k hk => ?_⟩
  · rcases hX with e | e
    · exact .inl e
    · rcases c k e with e | e
      · exact .inr e
      · omega
  · rcases c2 k hk with e | e
    · rcases c k e with e | e
      · exact .inl e
      · exact .inr e
    · exact .inr (Nat.le_trans hs e)
end
set_option maxRecDepth 100000 in
set_option maxHeartbeats 2000000 in
theorem rcounted_any (p r : Nat) (fp : Nat → Prop) (L : LV) (w : World) (h : RLn w p r fp L) (ha : L.acts ≤ 1000000) :
    Calls Tryz.prog 46 #[.pointer (some ⟨p, 0, none⟩)] w fun e w' => e = .returned (.bool (decide ((L.acts : Int) = L.cut))) ∧ RLn w' p r fp L.count ∧ Frm (· = p) w w' := by
  have c1 := h.c1
  have c3 := h.c3
  have f3 := h.free 3
  have HC := Lib.hid h.count
  clear h
  by_cases e : (L.acts : Int) = L.cut
  · have hb : ((L.acts : Int) == L.cut) = true := beq_iff_eq.2 e
    rw [decide_eq_true e]
    clear e
    go_enter Tryz.func46, Tryz.ntmps46
    go_wp2_with fail
    go_ret
    exact ⟨rfl, HC.out⟩
  · have hb : ((L.acts : Int) == L.cut) = false := beq_eq_false_iff_ne.2 e
    rw [decide_eq_false e]
    clear e
    go_enter Tryz.func46, Tryz.ntmps46
    go_wp2_with fail
    go_ret
    exact ⟨rfl, HC.out⟩
set_option maxRecDepth 100000 in
set_option maxHeartbeats 2000000 in
theorem rodd_any (p r : Nat) (fp : Nat → Prop) (L : LV) (w : World) (h : RLn w p r fp L) :
    Calls Tryz.prog 48 #[.pointer (some ⟨p, 0, none⟩)] w fun e w' => e = .returned (.bool L.odd) ∧ w = w' := by
  obtain ⟨cv, h⟩ := h
  have hzs := h.zs
  obtain ⟨a, cap, rfl, hc1, hc2⟩ := hzs.slice
  have c3 := h.blk.cell 2 rfl
  unfold maxLen at hc2
  clear h
  cases hcs : L.cs with
  | nil =>
    have ho : L.odd = false := by
      unfold LV.odd
      rw [hcs]
      exact decide_eq_false (fun ⟨q, h, _⟩ => by cases h)
    rw [ho]
    rw [hcs] at c3 hc1
    simp only [List.length_nil] at c3 hc1
    clear ho hzs hcs
    go_enter Tryz.func48, Tryz.ntmps48
    go_wp2_with fail
    go_ret
    exact ⟨rfl, rfl⟩
  | cons q t =>
    have ho : L.odd = (q.tmod 2 != 0) := by
      rw [← odd_tmod q]
      unfold LV.odd
      rw [hcs]
      refine decide_eq_decide.2 ⟨fun ⟨z, h, h2⟩ => ?_, fun h => ⟨q, rfl, h⟩⟩
      cases h
      exact h2
    rw [ho]
    obtain ⟨g, off, rfl, hg, e0⟩ := Zs.at hzs 0 (by rw [hcs]; exact Nat.succ_pos _)
    rw [Nat.add_zero] at e0
    have e1 : w.cell? ⟨g, off, none⟩ = some (.int .i64 q) := by rw [e0]; simp only [hcs, List.getElem_cons_zero]
    have hn : L.cs.length ≠ 0 := by rw [hcs]; exact Nat.succ_ne_zero _
    obtain ⟨n, hn2⟩ : ∃ n, L.cs.length = n := ⟨_, rfl⟩
    rw [hn2] at c3 hc1 hn
    have hpos : 0 < n := by omega
    have hd1 : decide (0 < n) = true := decide_eq_true hpos
    have hd2 : decide (0 < (n : Int)) = true := decide_eq_true (by omega)
    clear ho hzs hcs e0 hn hn2
    go_enter Tryz.func48, Tryz.ntmps48
    go_wp2_with fail
    go_ret
    exact ⟨rfl, rfl⟩
set_option maxRecDepth 100000 in
set_option maxHeartbeats 2000000 in
theorem rlread_any (p r : Nat) (fp : Nat → Prop) (L : LV) (q : Int) (w : World) (h : RLn w p r fp L) (hq : Z64 q) :
    Calls Tryz.prog 77 #[.pointer (some ⟨p, 0, none⟩), .int .i64 q] w fun e w' => e = .returned (.tuple #[.string (bs (if L.down || L.D.bad q then [] else L.D.read q.toNat)), .int .i64 (if L.down then 8 else if L.D.bad q then 2 else 0)]) ∧ Frm (fun _ => False) w w' := by
  have c0 := h.c0
  have c4 := h.c4
  have HR := read_ref r L.D fp q w h.ref h.dok hq
  clear h hq
  cases hd : L.down with
  | true =>
    rw [hd] at c4
    clear hd HR
    go_enter Tryz.func77, Tryz.ntmps77
    go_wp2_with fail
    go_ret2
    exact ⟨rfl, Frm.refl _ _⟩
  | false =>
    rw [hd] at c4
    simp only [Bool.false_or, Bool.false_eq_true, if_false]
    obtain ⟨s, hr⟩ : ∃ s, (if L.D.bad q = true then [] else L.D.read q.toNat) = s := ⟨_, rfl⟩
    obtain ⟨c, hc⟩ : ∃ c : Int, (if L.D.bad q = true then 2 else 0) = c := ⟨_, rfl⟩
    rw [hr, hc] at HR ⊢
    clear hr hc hd
    have HR := Lib.hid HR
    go_enter Tryz.func77, Tryz.ntmps77
    go_wp2_with fail
    refine HR.out.mono ?_
    rintro e w1 ⟨rfl, g⟩
    have G := Lib.hid g
    clear g
    go_wp2_with fail
    go_ret2
    exact ⟨rfl, G.out⟩
end Go.Proofs.YtdhnidmeeocajaaGreat
end
section
namespace Go.Proofs.YtdhnidmeeocajaaGreat
open Go.RowKit Go.Shelf

def DV.a3 (D : DV) (x : A3) : DV := if x.k % 5 = 2 then D.flush else D.writeTo x.q x.s
def A3.isAct (x : A3) : Prop := x.k % 5 < 3
instance (x : A3) : Decidable x.isAct := inferInstanceAs (Decidable (x.k % 5 < 3))
end Go.Proofs.YtdhnidmeeocajaaGreat
end
section
namespace Go.Proofs.YtdhnidmeeocajaaGreat
open Go.RowKit Go.Shelf

theorem notX {l f x k : Nat} (h1 : k ≠ l) (h2 : k ≠ f) (h3 : k ≠ x) : ¬ LnX l f x k := by
  rintro (h | h | h)
  · exact h1 h
  · exact h2 h
  · exact h3 h
structure PairL (w0 w : World) (l b f x : Nat) (L : LV) (l2 b2 f2 x2 : Nat) (L2 : LV) : Prop where
  one : LnM w l b f x L
  two : LnM w l2 b2 f2 x2 L2
  s1 : l ≠ l2 ∧ l ≠ f2 ∧ l ≠ x2 ∧ b ≠ l2 ∧ b ≠ f2 ∧ b ≠ x2 ∧ f ≠ l2 ∧ f ≠ f2 ∧ f ≠ x2 ∧ x ≠ l2 ∧ x ≠ f2 ∧ x ≠ x2
  s2 : b2 ≠ l ∧ b2 ≠ f ∧ b2 ≠ x
  p1 : ∀ g, L.P g → g ≠ l2 ∧ g ≠ f2 ∧ g ≠ x2
  p2 : L2.cs = []
  o1 : w0.heap.size ≤ l ∧ w0.heap.size ≤ f ∧ w0.heap.size ≤ x
  o2 : w0.heap.size ≤ l2 ∧ w0.heap.size ≤ f2 ∧ w0.heap.size ≤ x2
  frm : Frm (fun _ => False) w0 w
section
variable {w0 w w' : World} {l b f x : Nat} {L L' : LV} {l2 b2 f2 x2 : Nat} {L2 L2' : LV}
theorem PairL.keepF (h : PairL w0 w l b f x L l2 b2 f2 x2 L2) (g : Frm (fun _ => False) w w') : PairL w0 w' l b f x L l2 b2 f2 x2 L2 :=
  ⟨h.one.keepF g, h.two.keepF g, h.s1, h.s2, h.p1, h.p2, h.o1, h.o2, h.frm.trans g⟩
theorem PairL.left (h : PairL w0 w l b f x L l2 b2 f2 x2 L2) (h1 : LnM w' l b f x L') (hP : L'.P = L.P) (g : Frm (LnX l f x) w w') : PairL w0 w' l b f x L' l2 b2 f2 x2 L2 := by
  obtain ⟨a1, a2, a3, a4, a5, a6, a7, a8, a9, a10, a11, a12⟩ := h.s1
  obtain ⟨c1, c2, c3⟩ := h.s2
  exact ⟨h1, h.two.keep g (notX a1.symm a7.symm a10.symm) (notX c1 c2 c3) (notX a2.symm a8.symm a11.symm) (notX a3.symm a9.symm a12.symm) (.inl (by rw [h.p2]; rfl)), h.s1, h.s2, by rw [hP]; exact h.p1, h.p2, h.o1, h.o2, h.frm.toNewX g h.o1⟩
theorem PairL.right (h : PairL w0 w l b f x L l2 b2 f2 x2 L2) (h1 : LnM w' l2 b2 f2 x2 L2') (hP : L2'.cs = L2.cs) (g : Frm (LnX l2 f2 x2) w w') : PairL w0 w' l b f x L l2 b2 f2 x2 L2' := by
  obtain ⟨a1, a2, a3, a4, a5, a6, a7, a8, a9, a10, a11, a12⟩ := h.s1
  exact ⟨h.one.keep g (notX a1 a2 a3) (notX a4 a5 a6) (notX a7 a8 a9) (notX a10 a11 a12) (.inr fun k hk => notX (h.p1 k hk).1 (h.p1 k hk).2.1 (h.p1 k hk).2.2), h1, h.s1, h.s2, h.p1, by rw [hP]; exact h.p2, h.o1, h.o2, h.frm.toNewX g h.o2⟩
/-- It begins so. -/
theorem PairL.start {w0 w1 w2 w3 w4 : World} {l b f x l2 b2 f2 x2 : Nat} {D D2 : DV} {n n2 : Int} {cs : List Int}
    (h1 : DevM w1 b f x D) (o1 : w0.heap.size ≤ b ∧ w0.heap.size ≤ f ∧ w0.heap.size ≤ x) (g1 : Frm (fun _ => False) w0 w1)
    (h2 : DevM w2 b2 f2 x2 D2) (o2 : w1.heap.size ≤ b2 ∧ w1.heap.size ≤ f2 ∧ w1.heap.size ≤ x2) (g2 : Frm (fun _ => False) w1 w2)
    (h3 : LnM w3 l b f x (LV.new D n cs (fun g => w2.heap.size ≤ g))) (o3 : w2.heap.size ≤ l) (g3 : Frm (fun _ => False) w2 w3)
    (h4 : LnM w4 l2 b2 f2 x2 (LV.new D2 n2 [] )) (o4 : w3.heap.size ≤ l2) (g4 : Frm (fun _ => False) w3 w4) :
    PairL w0 w4 l b f x (LV.new D n cs (fun g => w2.heap.size ≤ g ∧ g < w3.heap.size)) l2 b2 f2 x2 (LV.new D2 n2 []) := by
  have a1 := h1.lt
  have a2 := h2.lt
  have a3 := h3.lt
  have z1 := g1.size
  have z2 := g2.size
  have z3 := g3.size
  exact ⟨h3.low.keepF g4, h4, ⟨by omega, by omega, by omega, by omega, by omega, by omega, by omega, by omega, by omega, by omega, by omega, by omega⟩, ⟨by omega, by omega, by omega⟩, fun g hg => by have hg : w2.heap.size ≤ g ∧ g < w3.heap.size := hg; exact ⟨by omega, by omega, by omega⟩, rfl, ⟨by omega, by omega, by omega⟩, ⟨by omega, by omega, by omega⟩, ((g1.trans g2).trans g3).trans g4⟩
end
/-- One line is as the other one, up to the act that cuts it. -/
structure InvL (n : Nat) (L L2 : LV) : Prop where
  cut : L.cut = (n : Int)
  cut2 : L2.cut = -1
  live : L2.down = false
  ahead : L2.acts ≤ n → L.down = false ∧ L.acts = L2.acts ∧ L.D = L2.D
  over : n < L2.acts → L.down = true ∧ L.acts = n + 1
theorem LV.code_live {L : LV} (h : L.down = false) (hne : (L.acts : Int) ≠ L.cut) (c : Nat) : L.code c = c := by
  unfold LV.code
  rw [if_neg]
  rintro (h1 | h1)
  · rw [h] at h1; cases h1
  · exact hne h1
theorem LV.code_cut {L : LV} (he : (L.acts : Int) = L.cut) (c : Nat) : L.code c = 8 := by
  unfold LV.code
  rw [if_pos (.inr he)]
/-- An act of both. -/
theorem InvL.act {n : Nat} {L L2 : LV} (h : InvL n L L2) (F : DV → DV) : InvL n (L.act (F L.D)) (L2.act (F L2.D)) ∧ (L2.act (F L2.D)).acts = L2.acts + 1 ∧ (L.act (F L.D)).P = L.P ∧ (L2.act (F L2.D)).cs = L2.cs := by
  have e2 : L2.act (F L2.D) = { L2.count with D := F L2.D } := LV.act_live _ h.live (by rw [h.cut2]; omega)
  have ep : (L.act (F L.D)).P = L.P ∧ (L.act (F L.D)).cut = L.cut := by
    unfold LV.act
    split
    · exact ⟨rfl, rfl⟩
    split
    · exact ⟨rfl, rfl⟩
    split <;> exact ⟨rfl, rfl⟩
  rw [e2]
  refine ⟨⟨ep.2.trans h.cut, h.cut2, h.live, fun ha => ?_, fun ha => ?_⟩, rfl, ep.1, rfl⟩
  · have ha : L2.acts + 1 ≤ n := ha
    have h1 := h.ahead (by omega)
    rw [LV.act_live _ h1.1 (by rw [h.cut, h1.2.1]; omega)]
    exact ⟨h1.1, by show L.acts + 1 = L2.acts + 1; rw [h1.2.1], by show F L.D = F L2.D; rw [h1.2.2]⟩
  · have ha : n < L2.acts + 1 := ha
    by_cases e : L2.acts = n
    · have h1 := h.ahead (by omega)
      rw [LV.act_cut _ h1.1 (by rw [h.cut, h1.2.1, e])]
      have hac : L.acts + 1 = n + 1 := by rw [h1.2.1, e]
      split <;> exact ⟨rfl, hac⟩
    · have h1 := h.over (by omega)
      rw [LV.act_over _ h1.1]
      exact h1
end Go.Proofs.YtdhnidmeeocajaaGreat
end
