/- What the document's Write does. No condition. -/
import Derived.Test.YtddjkbpgaenpgaaGreatDvS
import Derived.OwnWalk
import Derived.Lib.AppendZeros
import Derived.Deep.RegionLaw
import Derived.Test.YtddjkbpgaenpgaaGreatDvJ
import Derived.Deep.DeepCutAuto
import Derived.StillTailTactics
import Derived.Test.YtddjkbpgaenpgaaGreatDvR
import Derived.Test.YtddjkbpgaenpgaaGreatCodecV
section
namespace Go.Proofs.YtddjkbpgaenpgaaGreat
open Go.RowKit Go.Shelf

theorem FrL.take {w : World} {a : Option Addr} {n cap : Nat} {l : List (Nat × List UInt8)} (h : FrL w (.slice a n cap) l) (hn : n = l.length) (k : Nat) (hk : k ≤ n) (hc : k ≤ cap) : FrL w (.slice a k cap) (l.take k) := by
  subst hn
  have := Sl.take h k cap hk hc (Nat.le_refl _)
  rw [flat_take frc frc_len] at this
  unfold FrL
  rw [List.length_take, Nat.min_eq_left hk]
  exact this
theorem FrL.drop {w : World} {a : Option Addr} {n cap : Nat} {l : List (Nat × List UInt8)} (h : FrL w (.slice a n cap) l) (hn : n = l.length) (k : Nat) (hk : k ≤ n) : FrL w (.slice (if cap = k then a else a.map (·.add (k * 2))) (n - k) (cap - k)) (l.drop k) := by
  subst hn
  have := Sl.drop h k hk
  rw [flat_drop frc frc_len] at this
  unfold FrL
  rw [List.length_drop]
  exact this
theorem FrL.one (w : World) (q : Nat) (s : List UInt8) : FrL (w.alloc (.cells #[.int .i64 (q : Nat), .string (bs s)] 161)) (.slice (some ⟨w.heap.size, 0, none⟩) 1 1) [(q, s)] := by
  refine ⟨rfl, _, 1, rfl, Nat.le_refl _, by decide, .inr ⟨_, 0, rfl, by simp, fun j hj => ?_⟩⟩
  have hb := Blk.alloc w 161 #[.int .i64 (q : Nat), .string (bs s)]
  rcases (show j = 0 ∨ j = 1 by simp at hj; omega) with rfl | rfl
  · exact hb.cell 0 rfl
  · exact hb.cell 1 rfl
section
variable {ops : Array Oper} {rest : List Oper} {o : Oper} {a : Act} {w : World} {Q : Exit → Act → World → Prop}
end
/-- What a call on the document's device leaves. -/
def RefTo (r : Nat) (D : DV) (fp : Nat → Prop) (w w' : World) : Prop := ∃ fp', RefM w' r D fp' ∧ Frm fp w w' ∧ ∀ k, fp' k → fp k ∨ w.heap.size ≤ k
theorem RefTo.same {r : Nat} {D : DV} {fp : Nat → Prop} {w w' : World} (h : RefM w' r D fp) (g : Frm fp w w') : RefTo r D fp w w' := ⟨fp, h, g, fun _ h => .inl h⟩

end Go.Proofs.YtddjkbpgaenpgaaGreat
end
section
namespace Go.Proofs.YtddjkbpgaenpgaaGreat
open Go.RowKit Go.Shelf

theorem RefC.zero (w : World) : RefC (w.alloc (.cells #[.slice none 0 0, .slice none 0 0] 98)) w.heap.size [] [] (fun k => k = w.heap.size) (.slice none 0 0) (.slice none 0 0) :=
  ⟨Blk.alloc _ _ _, Row.nil_ _ 1, Row.nil_ _ 2, rfl, (fun g h => by cases h), (fun g h => by cases h), (fun k hk => by have e : k = w.heap.size := hk; subst e; simp)⟩
theorem RefC.drew {w : World} {r : Nat} {A : List (List UInt8)} {B : List (Nat × List UInt8)} {fp : Nat → Prop} {va vb : Value} (h : RefC w r A B fp va vb) : RefC w.drew r A B fp va vb := h.keep ((Frm.refl (fun _ => False) w).drew) fun _ _ h => h
end Go.Proofs.YtddjkbpgaenpgaaGreat
end
section
namespace Go.Proofs.YtddjkbpgaenpgaaGreat
open Go.RowKit Go.Shelf

theorem Strs.one (w : World) (s : List UInt8) (m : Nat) (hm : w.heap.size = m) : Strs (w.alloc (.cells #[.string (bs s)] 9)) (.slice (some ⟨m, 0, none⟩) 1 1) [s] := by
  subst hm
  refine ⟨rfl, _, 1, rfl, Nat.le_refl _, by decide, .inr ⟨_, 0, rfl, by simp, fun j hj => ?_⟩⟩
  have hb := Blk.alloc w 9 #[.string (bs s)]
  obtain rfl : j = 0 := by simp at hj; omega
  exact hb.cell 0 rfl
end Go.Proofs.YtddjkbpgaenpgaaGreat
end
section
namespace Go.Proofs.YtddjkbpgaenpgaaGreat
open Go.RowKit Go.Shelf

theorem Row.freeAt {w : World} {n n0 : Nat} {g off cap : Nat} {xs : List Value} (h : Row w 1 (.slice (some ⟨g, off, none⟩) n0 cap) n xs) (j : Nat) (hj : j < n) : w.frozen? ⟨g, off + j, none⟩ = false := by
  rcases h.2 with ⟨e, _⟩ | ⟨g', cap', e, h1, _, _, _, h5⟩
  · cases e
  · cases e
    rw [Nat.zero_add]
    exact (h5 j (by omega)).2
section
variable {ops : Array Oper} {Q : Exit → Act → World → Prop} {a : Act} {W : World}
end
/-- One cell of a row is written. -/
theorem Row.set1 {w : World} {n n0 g off cap : Nat} {xs : List Value} (h : Row w 1 (.slice (some ⟨g, off, none⟩) n0 cap) n xs) (j : Nat) (hj : j < n) (u : Value) : Row (w.setCell ⟨g, off + j, none⟩ u) 1 (.slice (some ⟨g, off, none⟩) n0 cap) n (xs.set j u) := by
  obtain ⟨hl, h⟩ := h
  rcases h with ⟨e, _⟩ | ⟨g', cap', e, h1, h2, ⟨o, ho, hoc⟩, h4, h5⟩
  · cases e
  · cases e
    rw [Nat.zero_add]
    cases o with
    | cells cur t fz =>
      have hc : ∀ i, w.cell? ⟨g, i, none⟩ = cur[i]? := fun i => by simp only [World.cell?, ho]; simp
      have ho' : (w.setCell ⟨g, j, none⟩ u).heap[g]? = some (.cells (cur.setIfInBounds j u) t fz) := by
        simp only [World.setCell, Array.getElem?_modify]
        simp [ho]
      have hc' : ∀ i, (w.setCell ⟨g, j, none⟩ u).cell? ⟨g, i, none⟩ = (cur.setIfInBounds j u)[i]? := fun i => by simp only [World.cell?, ho']; simp
      have hf' : ∀ i, (w.setCell ⟨g, j, none⟩ u).frozen? ⟨g, i, none⟩ = w.frozen? ⟨g, i, none⟩ := fun i => by simp only [World.frozen?, ho', ho]
      refine ⟨by rw [List.length_set]; exact hl, .inr ⟨g, cap, rfl, h1, h2, ⟨_, ho', hoc⟩, fun i hi => ?_, fun i hi => ⟨?_, ?_⟩⟩⟩
      · have := h4 i hi
        rw [hc] at this
        rw [hc', Array.getElem?_setIfInBounds, List.getElem?_set, ← this]
        have h5j := (h5 j (by omega)).1
        rw [hc] at h5j
        have hjs : j < cur.size := by
          rcases Nat.lt_or_ge j cur.size with h | h
          · exact h
          · rw [Array.getElem?_eq_none h] at h5j; cases h5j
        by_cases e : j = i
        · subst e
          rw [if_pos rfl, if_pos rfl, if_pos hjs, if_pos (by omega)]
        · rw [if_neg e, if_neg e]
      · have h5i := (h5 i hi).1
        rw [hc] at h5i
        rw [hc', Array.getElem?_setIfInBounds]
        by_cases e : j = i
        · subst e
          have hjs : j < cur.size := by
            rcases Nat.lt_or_ge j cur.size with h | h
            · exact h
            · rw [Array.getElem?_eq_none h] at h5i; cases h5i
          rw [if_pos rfl, if_pos hjs]; rfl
        · rw [if_neg e]; exact h5i
      · rw [hf']; exact (h5 i hi).2
    | _ => cases hoc
end Go.Proofs.YtddjkbpgaenpgaaGreat
end
section
namespace Go.Proofs.YtddjkbpgaenpgaaGreat
open Go.RowKit Go.Shelf

structure RLnC (w : World) (p r : Nat) (fp : Nat → Prop) (cv : Value) (L : LV) : Prop where
  blk : Blk w p 36 #[.pointer (some ⟨r, 0, none⟩), .int .i64 L.cut, cv, .int .i64 (L.acts : Nat), .bool L.down]
  ref : RefM w r L.D fp
  dok : L.D.ok
  ok : L.ok
  zs : Zs w cv L.cs
  np : ¬ fp p
  za : L.cs.length = 0 ∨ ∀ g, blkOf cv = some g → ¬ fp g ∧ g ≠ p ∧ L.P g
def RLn (w : World) (p r : Nat) (fp : Nat → Prop) (L : LV) : Prop := ∃ cv, RLnC w p r fp cv L
section
variable {w w' w'' : World} {p r : Nat} {fp : Nat → Prop} {cv : Value} {L L' L'' : LV}
theorem RLnC.keep {X : Nat → Prop} (h : RLnC w p r fp cv L) (hf : Frm X w w') (h0 : ¬ X p) (h1 : ∀ k, fp k → ¬ X k) (h2 : L.cs.length = 0 ∨ ∀ g, blkOf cv = some g → ¬ X g) : RLnC w' p r fp cv L :=
  ⟨h.blk.keep hf h0, h.ref.keep hf h1, h.dok, h.ok, h.zs.keepN hf h2, h.np, h.za⟩
theorem RLn.keepF (h : RLn w p r fp L) (hf : Frm (fun _ => False) w w') : RLn w' p r fp L := by
  obtain ⟨cv, h⟩ := h
  exact ⟨cv, h.keep hf (fun h => h) (fun _ _ h => h) (.inr fun _ _ h => h)⟩
theorem RLn.ref (h : RLn w p r fp L) : RefM w r L.D fp := by
  obtain ⟨cv, h⟩ := h
  exact h.ref
theorem RLn.dok (h : RLn w p r fp L) : L.D.ok := by
  obtain ⟨cv, h⟩ := h
  exact h.dok
theorem RLn.c0 (h : RLn w p r fp L) : w.cell? ⟨p, 0, none⟩ = some (.pointer (some ⟨r, 0, none⟩)) := by
  obtain ⟨cv, h⟩ := h
  exact h.blk.cell 0 rfl
theorem RLn.c1 (h : RLn w p r fp L) : w.cell? ⟨p, 1, none⟩ = some (.int .i64 L.cut) := by
  obtain ⟨cv, h⟩ := h
  exact h.blk.cell 1 rfl
theorem RLn.c3 (h : RLn w p r fp L) : w.cell? ⟨p, 3, none⟩ = some (.int .i64 (L.acts : Nat)) := by
  obtain ⟨cv, h⟩ := h
  exact h.blk.cell 3 rfl
theorem RLn.c4 (h : RLn w p r fp L) : w.cell? ⟨p, 4, none⟩ = some (.bool L.down) := by
  obtain ⟨cv, h⟩ := h
  exact h.blk.cell 4 rfl
theorem RLn.free (h : RLn w p r fp L) (i : Nat) : w.frozen? ⟨p, i, none⟩ = false := by
  obtain ⟨cv, h⟩ := h
  exact h.blk.free i
theorem RLn.lt (h : RLn w p r fp L) : p < w.heap.size := by
  obtain ⟨cv, h⟩ := h
  exact h.blk.lt
/-- What is left of it, and where it lies now. -/
def RLnTo (p r : Nat) (fp : Nat → Prop) (L : LV) (w w' : World) : Prop := ∃ fp', RLn w' p r fp' L ∧ Frm (fun k => k = p ∨ fp k) w w' ∧ ∀ k, fp' k → fp k ∨ w.heap.size ≤ k
theorem RLnTo.same (h : RLn w' p r fp L) (g : Frm (fun k => k = p ∨ fp k) w w') : RLnTo p r fp L w w' := ⟨fp, h, g, fun _ h => .inl h⟩
/-- The device turned. -/
theorem RLn.turn {D' : DV} (h : RLn w p r fp L) (hok : D'.ok) (hr : RefTo r D' fp w w') : RLnTo p r fp { L with D := D' } w w' := by
  obtain ⟨cv, h⟩ := h
  obtain ⟨fp', h1, h2, h3⟩ := hr
  refine ⟨fp', ⟨cv, h.blk.keep h2 h.np, h1, hok, ⟨h.ok.cut, h.ok.cs, h.ok.few⟩, h.zs.keepN h2 (h.za.imp id fun q g hg => (q g hg).1), fun hp => ?_, ?_⟩, h2.mono fun _ _ h => .inr h, h3⟩
  · rcases h3 p hp with e | e
    · exact h.np e
    · have := h.blk.lt; omega
  · rcases h.za with h4 | h4
    · exact .inl h4
    rcases h.zs.low with h5 | h5
    · exact .inl h5
    refine .inr fun g hg => ⟨fun e => ?_, (h4 g hg).2⟩
    rcases h3 g e with e | e
    · exact (h4 g hg).1 e
    · have := h5 g hg; omega
theorem RLn.count (h : RLn w p r fp L) : RLn (w.setCell ⟨p, 3, none⟩ (.int .i64 ((L.acts : Int) + 1))) p r fp L.count ∧ Frm (· = p) w (w.setCell ⟨p, 3, none⟩ (.int .i64 ((L.acts : Int) + 1))) := by
  obtain ⟨cv, h⟩ := h
  have g : Frm (· = p) w (w.setCell ⟨p, 3, none⟩ (.int .i64 ((L.acts : Int) + 1))) := (Frm.refl (· = p) w).setCell (fun _ => rfl) _
  have hb := h.blk.set 3 (.int .i64 ((L.acts : Int) + 1))
  exact ⟨⟨cv, hb, h.ref.keep g (fun k hk e => h.np (e ▸ hk)), h.dok, ⟨h.ok.cut, h.ok.cs, h.ok.few⟩, h.zs.keepN g (h.za.imp id fun q k hk => (q k hk).2.1), h.np, h.za⟩, g⟩
theorem RLn.cutDown (h : RLn w p r fp L) : RLn (w.setCell ⟨p, 4, none⟩ (.bool true)) p r fp { L with down := true } ∧ Frm (· = p) w (w.setCell ⟨p, 4, none⟩ (.bool true)) := by
  obtain ⟨cv, h⟩ := h
  have g : Frm (· = p) w (w.setCell ⟨p, 4, none⟩ (.bool true)) := (Frm.refl (· = p) w).setCell (fun _ => rfl) _
  have hb := h.blk.set 4 (.bool true)
  exact ⟨⟨cv, hb, h.ref.keep g (fun k hk e => h.np (e ▸ hk)), h.dok, ⟨h.ok.cut, h.ok.cs, h.ok.few⟩, h.zs.keepN g (h.za.imp id fun q k hk => (q k hk).2.1), h.np, h.za⟩, g⟩
theorem RLnTo.of (g : Frm (· = p) w w') (h2 : RLnTo p r fp L' w' w'') : RLnTo p r fp L' w w'' := by
  obtain ⟨fp', a, b, c⟩ := h2
  refine ⟨fp', a, (g.mono fun _ _ h => .inl h).trans b, fun k hk => ?_⟩
  rcases c k hk with e | e
  · exact .inl e
  · exact .inr (Nat.le_trans g.size e)
theorem RLnTo.trans (h : RLnTo p r fp L w w') (h2 : ∀ fp', RLn w' p r fp' L → RLnTo p r fp' L' w' w'') : RLnTo p r fp L' w w'' := by
  obtain ⟨fp1, a, b, c⟩ := h
  obtain ⟨fp2, a2, b2, c2⟩ := h2 fp1 a
  have hs := b.size
  refine ⟨fp2, a2, b.next b2 fun k hk hX => ?_, fun k hk => ?_⟩
  · rcases hX with e | e
    · exact .inl e
    · rcases c k e with e | e
      · exact .inr e
      · omega
  · rcases c2 k hk with e | e
    · rcases c k e with e | e
      · exact .inl e
      · exact .inr e
    · exact .inr (Nat.le_trans hs e)
end
end Go.Proofs.YtddjkbpgaenpgaaGreat
end
section
namespace Go.Proofs.YtddjkbpgaenpgaaGreat
open Go.RowKit Go.Shelf

def DV.a3 (D : DV) (x : A3) : DV := if x.k % 5 = 2 then D.flush else D.writeTo x.q x.s
def A3.isAct (x : A3) : Prop := x.k % 5 < 3
instance (x : A3) : Decidable x.isAct := inferInstanceAs (Decidable (x.k % 5 < 3))
end Go.Proofs.YtddjkbpgaenpgaaGreat
end
section
namespace Go.Proofs.YtddjkbpgaenpgaaGreat
open Go.RowKit Go.Shelf

theorem notX {l f x k : Nat} (h1 : k ≠ l) (h2 : k ≠ f) (h3 : k ≠ x) : ¬ LnX l f x k := by
  rintro (h | h | h)
  · exact h1 h
  · exact h2 h
  · exact h3 h
structure PairL (w0 w : World) (l b f x : Nat) (L : LV) (l2 b2 f2 x2 : Nat) (L2 : LV) : Prop where
  one : LnM w l b f x L
  two : LnM w l2 b2 f2 x2 L2
  s1 : l ≠ l2 ∧ l ≠ f2 ∧ l ≠ x2 ∧ b ≠ l2 ∧ b ≠ f2 ∧ b ≠ x2 ∧ f ≠ l2 ∧ f ≠ f2 ∧ f ≠ x2 ∧ x ≠ l2 ∧ x ≠ f2 ∧ x ≠ x2
  s2 : b2 ≠ l ∧ b2 ≠ f ∧ b2 ≠ x
  p1 : ∀ g, L.P g → g ≠ l2 ∧ g ≠ f2 ∧ g ≠ x2
  p2 : L2.cs = []
  o1 : w0.heap.size ≤ l ∧ w0.heap.size ≤ f ∧ w0.heap.size ≤ x
  o2 : w0.heap.size ≤ l2 ∧ w0.heap.size ≤ f2 ∧ w0.heap.size ≤ x2
  frm : Frm (fun _ => False) w0 w
section
variable {w0 w w' : World} {l b f x : Nat} {L L' : LV} {l2 b2 f2 x2 : Nat} {L2 L2' : LV}
theorem PairL.keepF (h : PairL w0 w l b f x L l2 b2 f2 x2 L2) (g : Frm (fun _ => False) w w') : PairL w0 w' l b f x L l2 b2 f2 x2 L2 :=
  ⟨h.one.keepF g, h.two.keepF g, h.s1, h.s2, h.p1, h.p2, h.o1, h.o2, h.frm.trans g⟩
theorem PairL.left (h : PairL w0 w l b f x L l2 b2 f2 x2 L2) (h1 : LnM w' l b f x L') (hP : L'.P = L.P) (g : Frm (LnX l f x) w w') : PairL w0 w' l b f x L' l2 b2 f2 x2 L2 := by
  obtain ⟨a1, a2, a3, a4, a5, a6, a7, a8, a9, a10, a11, a12⟩ := h.s1
  obtain ⟨c1, c2, c3⟩ := h.s2
  exact ⟨h1, h.two.keep g (notX a1.symm a7.symm a10.symm) (notX c1 c2 c3) (notX a2.symm a8.symm a11.symm) (notX a3.symm a9.symm a12.symm) (.inl (by rw [h.p2]; rfl)), h.s1, h.s2, by rw [hP]; exact h.p1, h.p2, h.o1, h.o2, h.frm.toNewX g h.o1⟩
theorem PairL.right (h : PairL w0 w l b f x L l2 b2 f2 x2 L2) (h1 : LnM w' l2 b2 f2 x2 L2') (hP : L2'.cs = L2.cs) (g : Frm (LnX l2 f2 x2) w w') : PairL w0 w' l b f x L l2 b2 f2 x2 L2' := by
  obtain ⟨a1, a2, a3, a4, a5, a6, a7, a8, a9, a10, a11, a12⟩ := h.s1
  exact ⟨h.one.keep g (notX a1 a2 a3) (notX a4 a5 a6) (notX a7 a8 a9) (notX a10 a11 a12) (.inr fun k hk => notX (h.p1 k hk).1 (h.p1 k hk).2.1 (h.p1 k hk).2.2), h1, h.s1, h.s2, h.p1, by rw [hP]; exact h.p2, h.o1, h.o2, h.frm.toNewX g h.o2⟩
/-- It begins so. -/
theorem PairL.start {w0 w1 w2 w3 w4 : World} {l b f x l2 b2 f2 x2 : Nat} {D D2 : DV} {n n2 : Int} {cs : List Int}
    (h1 : DevM w1 b f x D) (o1 : w0.heap.size ≤ b ∧ w0.heap.size ≤ f ∧ w0.heap.size ≤ x) (g1 : Frm (fun _ => False) w0 w1)
    (h2 : DevM w2 b2 f2 x2 D2) (o2 : w1.heap.size ≤ b2 ∧ w1.heap.size ≤ f2 ∧ w1.heap.size ≤ x2) (g2 : Frm (fun _ => False) w1 w2)
    (h3 : LnM w3 l b f x (LV.new D n cs (fun g => w2.heap.size ≤ g))) (o3 : w2.heap.size ≤ l) (g3 : Frm (fun _ => False) w2 w3)
    (h4 : LnM w4 l2 b2 f2 x2 (LV.new D2 n2 [] )) (o4 : w3.heap.size ≤ l2) (g4 : Frm (fun _ => False) w3 w4) :
    PairL w0 w4 l b f x (LV.new D n cs (fun g => w2.heap.size ≤ g ∧ g < w3.heap.size)) l2 b2 f2 x2 (LV.new D2 n2 []) := by
  have a1 := h1.lt
  have a2 := h2.lt
  have a3 := h3.lt
  have z1 := g1.size
  have z2 := g2.size
  have z3 := g3.size
  exact ⟨h3.low.keepF g4, h4, ⟨by omega, by omega, by omega, by omega, by omega, by omega, by omega, by omega, by omega, by omega, by omega, by omega⟩, ⟨by omega, by omega, by omega⟩, fun g hg => by have hg : w2.heap.size ≤ g ∧ g < w3.heap.size := hg; exact ⟨by omega, by omega, by omega⟩, rfl, ⟨by omega, by omega, by omega⟩, ⟨by omega, by omega, by omega⟩, ((g1.trans g2).trans g3).trans g4⟩
end
/-- One line is as the other one, up to the act that cuts it. -/
structure InvL (n : Nat) (L L2 : LV) : Prop where
  cut : L.cut = (n : Int)
  cut2 : L2.cut = -1
  live : L2.down = false
  ahead : L2.acts ≤ n → L.down = false ∧ L.acts = L2.acts ∧ L.D = L2.D
  over : n < L2.acts → L.down = true ∧ L.acts = n + 1
theorem LV.code_live {L : LV} (h : L.down = false) (hne : (L.acts : Int) ≠ L.cut) (c : Nat) : L.code c = c := by
  unfold LV.code
  rw [if_neg]
  rintro (h1 | h1)
  · rw [h] at h1; cases h1
  · exact hne h1
theorem LV.code_cut {L : LV} (he : (L.acts : Int) = L.cut) (c : Nat) : L.code c = 8 := by
  unfold LV.code
  rw [if_pos (.inr he)]
/-- An act of both. -/
theorem InvL.act {n : Nat} {L L2 : LV} (h : InvL n L L2) (F : DV → DV) : InvL n (L.act (F L.D)) (L2.act (F L2.D)) ∧ (L2.act (F L2.D)).acts = L2.acts + 1 ∧ (L.act (F L.D)).P = L.P ∧ (L2.act (F L2.D)).cs = L2.cs := by
  have e2 : L2.act (F L2.D) = { L2.count with D := F L2.D } := LV.act_live _ h.live (by rw [h.cut2]; omega)
  have ep : (L.act (F L.D)).P = L.P ∧ (L.act (F L.D)).cut = L.cut := by
    unfold LV.act
    split
    · exact ⟨rfl, rfl⟩
    split
    · exact ⟨rfl, rfl⟩
    split <;> exact ⟨rfl, rfl⟩
  rw [e2]
  refine ⟨⟨ep.2.trans h.cut, h.cut2, h.live, fun ha => ?_, fun ha => ?_⟩, rfl, ep.1, rfl⟩
  · have ha : L2.acts + 1 ≤ n := ha
    have h1 := h.ahead (by omega)
    rw [LV.act_live _ h1.1 (by rw [h.cut, h1.2.1]; omega)]
    exact ⟨h1.1, by show L.acts + 1 = L2.acts + 1; rw [h1.2.1], by show F L.D = F L2.D; rw [h1.2.2]⟩
  · have ha : n < L2.acts + 1 := ha
    by_cases e : L2.acts = n
    · have h1 := h.ahead (by omega)
      rw [LV.act_cut _ h1.1 (by rw [h.cut, h1.2.1, e])]
      have hac : L.acts + 1 = n + 1 := by rw [h1.2.1, e]
      split <;> exact ⟨rfl, hac⟩
    · have h1 := h.over (by omega)
      rw [LV.act_over _ h1.1]
      exact h1
end Go.Proofs.YtddjkbpgaenpgaaGreat
end
section
namespace Go.Proofs.YtddjkbpgaenpgaaGreat
open Go.RowKit Go.Shelf

theorem LV.blow_live {L : LV} (h : L.down = false) : L.blow = L.fall := by
  unfold LV.blow
  rw [h]
  rfl
end Go.Proofs.YtddjkbpgaenpgaaGreat
end
section
namespace Go.Proofs.YtddjkbpgaenpgaaGreat
open Go.RowKit Go.Shelf

theorem nil_zs {w : World} : Zs w (.slice none 0 0) [] := Sl.nil_ w 1 none 0 (by decide)
end Go.Proofs.YtddjkbpgaenpgaaGreat
end
section
namespace Go.Proofs.YtddjkbpgaenpgaaGreat
open Go.RowKit Go.Shelf

structure BothL (w0 w : World) (l b f x p r : Nat) (fp : Nat → Prop) (L : LV) : Prop where
  ln : LnM w l b f x L
  rl : RLn w p r fp L
  s0 : p ≠ l ∧ p ≠ b ∧ p ≠ f ∧ p ≠ x
  s1 : ¬ fp l ∧ ¬ fp b ∧ ¬ fp f ∧ ¬ fp x
  s2 : ∀ g, L.P g → (g ≠ l ∧ g ≠ f ∧ g ≠ x) ∧ g ≠ p ∧ ¬ fp g ∧ g < w.heap.size
  o1 : w0.heap.size ≤ l ∧ w0.heap.size ≤ f ∧ w0.heap.size ≤ x
  o2 : w0.heap.size ≤ p ∧ ∀ k, fp k → w0.heap.size ≤ k
  frm : Frm (fun _ => False) w0 w
section
variable {w0 w w1 w2 : World} {l b f x p r : Nat} {fp : Nat → Prop} {L L' : LV}
theorem BothL.keepF (h : BothL w0 w l b f x p r fp L) (g : Frm (fun _ => False) w w1) : BothL w0 w1 l b f x p r fp L :=
  ⟨h.ln.keepF g, h.rl.keepF g, h.s0, h.s1, fun k hk => ⟨(h.s2 k hk).1, (h.s2 k hk).2.1, (h.s2 k hk).2.2.1, Nat.lt_of_lt_of_le (h.s2 k hk).2.2.2 g.size⟩, h.o1, h.o2, h.frm.trans g⟩
theorem BothL.step (h : BothL w0 w l b f x p r fp L) (h1 : LnM w1 l b f x L') (g1 : Frm (LnX l f x) w w1) (hP : L'.P = L.P) (h2 : RLnTo p r fp L' w1 w2) : ∃ fp', BothL w0 w2 l b f x p r fp' L' := by
  obtain ⟨fp', hr, g2, n2⟩ := h2
  obtain ⟨a1, a2, a3, a4⟩ := h.s0
  obtain ⟨c1, c2, c3, c4⟩ := h.s1
  have hlt := h1.lt
  have z1 := g1.size
  have z2 := g2.size
  have z0 := h.frm.size
  have no : ∀ k, k < w1.heap.size → ¬ fp k → ¬ fp' k := fun k hk hn hX => by
    rcases n2 k hX with e | e
    · exact hn e
    · omega
  have nx : ∀ k, k ≠ p → ¬ fp k → ¬ (k = p ∨ fp k) := fun k h1 h2 h => h.elim h1 h2
  refine ⟨fp', h1.keep g2 (nx l a1.symm c1) (nx b a2.symm c2) (nx f a3.symm c3) (nx x a4.symm c4) (.inr fun g hg => ?_), hr, h.s0, ⟨no l hlt.1 c1, no b hlt.2.1 c2, no f hlt.2.2.1 c3, no x hlt.2.2.2 c4⟩, fun g hg => ?_, h.o1, ⟨h.o2.1, fun k hk => ?_⟩, ?_⟩
  · rw [hP] at hg
    exact nx g (h.s2 g hg).2.1 (h.s2 g hg).2.2.1
  · rw [hP] at hg
    obtain ⟨d1, d2, d3, d4⟩ := h.s2 g hg
    exact ⟨d1, d2, no g (by omega) d3, by omega⟩
  · rcases n2 k hk with e | e
    · exact h.o2.2 k e
    · omega
  · refine (h.frm.toNewX g1 h.o1).next g2 fun k hk hX => ?_
    rcases hX with e | e
    · have := h.o2.1; omega
    · have := h.o2.2 k e; omega
end
/-- What one does to a line. -/
def LV.one (L : LV) (x : A3) : LV := if x.k % 5 < 3 then L.act (L.D.a3 x) else if x.k % 5 = 4 ∧ x.q % 7 = 0 then L.blow else L
end Go.Proofs.YtddjkbpgaenpgaaGreat
end
