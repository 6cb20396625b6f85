/- What the document's Write does. No condition. -/
import Derived.Test.YtddjkbpgaenpgaaGreatDvS
import Derived.OwnWalk
import Derived.Lib.AppendZeros
import Derived.Deep.RegionLaw
import Derived.Test.YtddjkbpgaenpgaaGreatDvJ
import Derived.Deep.DeepCutAuto
import Derived.StillTailTactics
section
namespace Go.Proofs.YtddjkbpgaenpgaaGreat
open Go.RowKit Go.Shelf

theorem FrL.take {w : World} {a : Option Addr} {n cap : Nat} {l : List (Nat × List UInt8)} (h : FrL w (.slice a n cap) l) (hn : n = l.length) (k : Nat) (hk : k ≤ n) (hc : k ≤ cap) : FrL w (.slice a k cap) (l.take k) := by
  subst hn
  have := Sl.take h k cap hk hc (Nat.le_refl _)
  rw [flat_take frc frc_len] at this
  unfold FrL
  rw [List.length_take, Nat.min_eq_left hk]
  exact this
theorem FrL.drop {w : World} {a : Option Addr} {n cap : Nat} {l : List (Nat × List UInt8)} (h : FrL w (.slice a n cap) l) (hn : n = l.length) (k : Nat) (hk : k ≤ n) : FrL w (.slice (if cap = k then a else a.map (·.add (k * 2))) (n - k) (cap - k)) (l.drop k) := by
  subst hn
  have := Sl.drop h k hk
  rw [flat_drop frc frc_len] at this
  unfold FrL
  rw [List.length_drop]
  exact this
theorem FrL.one (w : World) (q : Nat) (s : List UInt8) : FrL (w.alloc (.cells #[.int .i64 (q : Nat), .string (bs s)] 161)) (.slice (some ⟨w.heap.size, 0, none⟩) 1 1) [(q, s)] := by
  refine ⟨rfl, _, 1, rfl, Nat.le_refl _, by decide, .inr ⟨_, 0, rfl, by simp, fun j hj => ?_⟩⟩
  have hb := Blk.alloc w 161 #[.int .i64 (q : Nat), .string (bs s)]
  rcases (show j = 0 ∨ j = 1 by simp at hj; omega) with rfl | rfl
  · exact hb.cell 0 rfl
  · exact hb.cell 1 rfl
section
variable {ops : Array Oper} {rest : List Oper} {o : Oper} {a : Act} {w : World} {Q : Exit → Act → World → Prop}
end
/-- What a call on the document's device leaves. -/
def RefTo (r : Nat) (D : DV) (fp : Nat → Prop) (w w' : World) : Prop := ∃ fp', RefM w' r D fp' ∧ Frm fp w w' ∧ ∀ k, fp' k → fp k ∨ w.heap.size ≤ k
theorem RefTo.same {r : Nat} {D : DV} {fp : Nat → Prop} {w w' : World} (h : RefM w' r D fp) (g : Frm fp w w') : RefTo r D fp w w' := ⟨fp, h, g, fun _ h => .inl h⟩

end Go.Proofs.YtddjkbpgaenpgaaGreat
end
section
namespace Go.Proofs.YtddjkbpgaenpgaaGreat
open Go.RowKit Go.Shelf

theorem RefC.zero (w : World) : RefC (w.alloc (.cells #[.slice none 0 0, .slice none 0 0] 98)) w.heap.size [] [] (fun k => k = w.heap.size) (.slice none 0 0) (.slice none 0 0) :=
  ⟨Blk.alloc _ _ _, Row.nil_ _ 1, Row.nil_ _ 2, rfl, (fun g h => by cases h), (fun g h => by cases h), (fun k hk => by have e : k = w.heap.size := hk; subst e; simp)⟩
theorem RefC.drew {w : World} {r : Nat} {A : List (List UInt8)} {B : List (Nat × List UInt8)} {fp : Nat → Prop} {va vb : Value} (h : RefC w r A B fp va vb) : RefC w.drew r A B fp va vb := h.keep ((Frm.refl (fun _ => False) w).drew) fun _ _ h => h
end Go.Proofs.YtddjkbpgaenpgaaGreat
end
section
namespace Go.Proofs.YtddjkbpgaenpgaaGreat
open Go.RowKit Go.Shelf

theorem Strs.one (w : World) (s : List UInt8) (m : Nat) (hm : w.heap.size = m) : Strs (w.alloc (.cells #[.string (bs s)] 9)) (.slice (some ⟨m, 0, none⟩) 1 1) [s] := by
  subst hm
  refine ⟨rfl, _, 1, rfl, Nat.le_refl _, by decide, .inr ⟨_, 0, rfl, by simp, fun j hj => ?_⟩⟩
  have hb := Blk.alloc w 9 #[.string (bs s)]
  obtain rfl : j = 0 := by simp at hj; omega
  exact hb.cell 0 rfl
end Go.Proofs.YtddjkbpgaenpgaaGreat
end
section
namespace Go.Proofs.YtddjkbpgaenpgaaGreat
open Go.RowKit Go.Shelf

theorem Row.freeAt {w : World} {n n0 : Nat} {g off cap : Nat} {xs : List Value} (h : Row w 1 (.slice (some ⟨g, off, none⟩) n0 cap) n xs) (j : Nat) (hj : j < n) : w.frozen? ⟨g, off + j, none⟩ = false := by
  rcases h.2 with ⟨e, _⟩ | ⟨g', cap', e, h1, _, _, _, h5⟩
  · cases e
  · cases e
    rw [Nat.zero_add]
    exact (h5 j (by omega)).2
section
variable {ops : Array Oper} {Q : Exit → Act → World → Prop} {a : Act} {W : World}
end
/-- One cell of a row is written. -/
theorem Row.set1 {w : World} {n n0 g off cap : Nat} {xs : List Value} (h : Row w 1 (.slice (some ⟨g, off, none⟩) n0 cap) n xs) (j : Nat) (hj : j < n) (u : Value) : Row (w.setCell ⟨g, off + j, none⟩ u) 1 (.slice (some ⟨g, off, none⟩) n0 cap) n (xs.set j u) := by
  obtain ⟨hl, h⟩ := h
  rcases h with ⟨e, _⟩ | ⟨g', cap', e, h1, h2, ⟨o, ho, hoc⟩, h4, h5⟩
  · cases e
  · cases e
    rw [Nat.zero_add]
    cases o with
    | cells cur t fz =>
      have hc : ∀ i, w.cell? ⟨g, i, none⟩ = cur[i]? := fun i => by simp only [World.cell?, ho]; simp
      have ho' : (w.setCell ⟨g, j, none⟩ u).heap[g]? = some (.cells (cur.setIfInBounds j u) t fz) := by
        simp only [World.setCell, Array.getElem?_modify]
        simp [ho]
      have hc' : ∀ i, (w.setCell ⟨g, j, none⟩ u).cell? ⟨g, i, none⟩ = (cur.setIfInBounds j u)[i]? := fun i => by simp only [World.cell?, ho']; simp
      have hf' : ∀ i, (w.setCell ⟨g, j, none⟩ u).frozen? ⟨g, i, none⟩ = w.frozen? ⟨g, i, none⟩ := fun i => by simp only [World.frozen?, ho', ho]
      refine ⟨by rw [List.length_set]; exact hl, .inr ⟨g, cap, rfl, h1, h2, ⟨_, ho', hoc⟩, fun i hi => ?_, fun i hi => ⟨?_, ?_⟩⟩⟩
      · have := h4 i hi
        rw [hc] at this
        rw [hc', Array.getElem?_setIfInBounds, List.getElem?_set, ← this]
        have h5j := (h5 j (by omega)).1
        rw [hc] at h5j
        have hjs : j < cur.size := by
          rcases Nat.lt_or_ge j cur.size with h | h
          · exact h
          · rw [Array.getElem?_eq_none h] at h5j; cases h5j
        by_cases e : j = i
        · subst e
          rw [if_pos rfl, if_pos rfl, if_pos hjs, if_pos (by omega)]
        · rw [if_neg e, if_neg e]
      · have h5i := (h5 i hi).1
        rw [hc] at h5i
        rw [hc', Array.getElem?_setIfInBounds]
        by_cases e : j = i
        · subst e
          have hjs : j < cur.size := by
            rcases Nat.lt_or_ge j cur.size with h | h
            · exact h
            · rw [Array.getElem?_eq_none h] at h5i; cases h5i
          rw [if_pos rfl, if_pos hjs]; rfl
        · rw [if_neg e]; exact h5i
      · rw [hf']; exact (h5 i hi).2
    | _ => cases hoc
end Go.Proofs.YtddjkbpgaenpgaaGreat
end
section
namespace Go.Proofs.YtddjkbpgaenpgaaGreat
open Go.RowKit Go.Shelf

structure RLnC (w : World) (p r : Nat) (fp : Nat → Prop) (cv : Value) (L : LV) : Prop where
  blk : Blk w p 36 #[.pointer (some ⟨r, 0, none⟩), .int .i64 L.cut, cv, .int .i64 (L.acts : Nat), .bool L.down]
  ref : RefM w r L.D fp
  dok : L.D.ok
  ok : L.ok
  zs : Zs w cv L.cs
  np : ¬ fp p
  za : L.cs.length = 0 ∨ ∀ g, blkOf cv = some g → ¬ fp g ∧ g ≠ p ∧ L.P g
def RLn (w : World) (p r : Nat) (fp : Nat → Prop) (L : LV) : Prop := ∃ cv, RLnC w p r fp cv L
section
variable {w w' w'' : World} {p r : Nat} {fp : Nat → Prop} {cv : Value} {L L' L'' : LV}
theorem RLnC.keep {X : Nat → Prop} (h : RLnC w p r fp cv L) (hf : Frm X w w') (h0 : ¬ X p) (h1 : ∀ k, fp k → ¬ X k) (h2 : L.cs.length = 0 ∨ ∀ g, blkOf cv = some g → ¬ X g) : RLnC w' p r fp cv L :=
  ⟨h.blk.keep hf h0, h.ref.keep hf h1, h.dok, h.ok, h.zs.keepN hf h2, h.np, h.za⟩
theorem RLn.keepF (h : RLn w p r fp L) (hf : Frm (fun _ => False) w w') : RLn w' p r fp L := by
  obtain ⟨cv, h⟩ := h
  exact ⟨cv, h.keep hf (fun h => h) (fun _ _ h => h) (.inr fun _ _ h => h)⟩
theorem RLn.ref (h : RLn w p r fp L) : RefM w r L.D fp := by
  obtain ⟨cv, h⟩ := h
  exact h.ref
theorem RLn.dok (h : RLn w p r fp L) : L.D.ok := by
  obtain ⟨cv, h⟩ := h
  exact h.dok
theorem RLn.c0 (h : RLn w p r fp L) : w.cell? ⟨p, 0, none⟩ = some (.pointer (some ⟨r, 0, none⟩)) := by
  obtain ⟨cv, h⟩ := h
  exact h.blk.cell 0 rfl
theorem RLn.c1 (h : RLn w p r fp L) : w.cell? ⟨p, 1, none⟩ = some (.int .i64 L.cut) := by
  obtain ⟨cv, h⟩ := h
  exact h.blk.cell 1 rfl
theorem RLn.c3 (h : RLn w p r fp L) : w.cell? ⟨p, 3, none⟩ = some (.int .i64 (L.acts : Nat)) := by
  obtain ⟨cv, h⟩ := h
  exact h.blk.cell 3 rfl
theorem RLn.c4 (h : RLn w p r fp L) : w.cell? ⟨p, 4, none⟩ = some (.bool L.down) := by
  obtain ⟨cv, h⟩ := h
  exact h.blk.cell 4 rfl
theorem RLn.free (h : RLn w p r fp L) (i : Nat) : w.frozen? ⟨p, i, none⟩ = false := by
  obtain ⟨cv, h⟩ := h
  exact h.blk.free i
theorem RLn.lt (h : RLn w p r fp L) : p < w.heap.size := by
  obtain ⟨cv, h⟩ := h
  exact h.blk.lt
/-- What is left of it, and where it lies now. -/
def RLnTo (p r : Nat) (fp : Nat → Prop) (L : LV) (w w' : World) : Prop := ∃ fp', RLn w' p r fp' L ∧ Frm (fun k => k = p ∨ fp k) w w' ∧ ∀ k, fp' k → fp k ∨ w.heap.size ≤ k
theorem RLnTo.same (h : RLn w' p r fp L) (g : Frm (fun k => k = p ∨ fp k) w w') : RLnTo p r fp L w w' := ⟨fp, h, g, fun _ h => .inl h⟩
/-- The device turned. -/
theorem RLn.turn {D' : DV} (h : RLn w p r fp L) (hok : D'.ok) (hr : RefTo r D' fp w w') : RLnTo p r fp { L with D := D' } w w' := by
  obtain ⟨cv, h⟩ := h
  obtain ⟨fp', h1, h2, h3⟩ := hr
  refine ⟨fp', ⟨cv, h.blk.keep h2 h.np, h1, hok, ⟨h.ok.cut, h.ok.cs, h.ok.few⟩, h.zs.keepN h2 (h.za.imp id fun q g hg => (q g hg).1), fun hp => ?_, ?_⟩, h2.mono fun _ _ h => .inr h, h3⟩
  · rcases h3 p hp with e | e
    · exact h.np e
    · have := h.blk.lt; omega
  · rcases h.za with h4 | h4
    · exact .inl h4
    rcases h.zs.low with h5 | h5
    · exact .inl h5
    refine .inr fun g hg => ⟨fun e => ?_, (h4 g hg).2⟩
    rcases h3 g e with e | e
    · exact (h4 g hg).1 e
    · have := h5 g hg; omega
theorem RLn.count (h : RLn w p r fp L) : RLn (w.setCell ⟨p, 3, none⟩ (.int .i64 ((L.acts : Int) + 1))) p r fp L.count ∧ Frm (· = p) w (w.setCell ⟨p, 3, none⟩ (.int .i64 ((L.acts : Int) + 1))) := by
  obtain ⟨cv, h⟩ := h
  have g : Frm (· = p) w (w.setCell ⟨p, 3, none⟩ (.int .i64 ((L.acts : Int) + 1))) := (Frm.refl (· = p) w).setCell (fun _ => rfl) _
  have hb := h.blk.set 3 (.int .i64 ((L.acts : Int) + 1))
  exact ⟨⟨cv, hb, h.ref.keep g (fun k hk e => h.np (e ▸ hk)), h.dok, ⟨h.ok.cut, h.ok.cs, h.ok.few⟩, h.zs.keepN g (h.za.imp id fun q k hk => (q k hk).2.1), h.np, h.za⟩, g⟩
theorem RLn.cutDown (h : RLn w p r fp L) : RLn (w.setCell ⟨p, 4, none⟩ (.bool true)) p r fp { L with down := true } ∧ Frm (· = p) w (w.setCell ⟨p, 4, none⟩ (.bool true)) := by
  obtain ⟨cv, h⟩ := h
  have g : Frm (· = p) w (w.setCell ⟨p, 4, none⟩ (.bool true)) := (Frm.refl (· = p) w).setCell (fun _ => rfl) _
  have hb := h.blk.set 4 (.bool true)
  exact ⟨⟨cv, hb, h.ref.keep g (fun k hk e => h.np (e ▸ hk)), h.dok, ⟨h.ok.cut, h.ok.cs, h.ok.few⟩, h.zs.keepN g (h.za.imp id fun q k hk => (q k hk).2.1), h.np, h.za⟩, g⟩
theorem RLnTo.of (g : Frm (· = p) w w') (h2 : RLnTo p r fp L' w' w'') : RLnTo p r fp L' w w'' := by
  obtain ⟨fp', a, b, c⟩ := h2
  refine ⟨fp', a, (g.mono fun _ _ h => .inl h).trans b, fun k hk => ?_⟩
  rcases c k hk with e | e
  · exact .inl e
  · exact .inr (Nat.le_trans g.size e)
theorem RLnTo.trans (h : RLnTo p r fp L w w') (h2 : ∀ fp', RLn w' p r fp' L → RLnTo p r fp' L' w' w'') : RLnTo p r fp L' w w'' := by
  obtain ⟨fp1, a, b, c⟩ := h
  obtain ⟨fp2, a2, b2, c2⟩ := h2 fp1 a
  have hs := b.size
  refine ⟨fp2, a2, b.next b2 fun k hk hX => ?_, fun k hk => ?_⟩
  · rcases hX with e | e
    · exact .inl e
    · rcases c k e with e | e
      · exact .inr e
      · omega
  · rcases c2 k hk with e | e
    · rcases c k e with e | e
      · exact .inl e
      · exact .inr e
    · exact .inr (Nat.le_trans hs e)
end
end Go.Proofs.YtddjkbpgaenpgaaGreat
end
section
namespace Go.Proofs.YtddjkbpgaenpgaaGreat
open Go.RowKit Go.Shelf

/-- A region's last operation is a call. -/
theorem wpOp_callD {ops : Array Oper} {Q : Exit → Act → World → Prop} {K : Act → World → Prop} {i : Nat} {o : Oper} {a : Act} {W : World} {f : FuncId} {args : Array Value} {e : Tmp} (hi : ops[i]? = some o) (hd : o.dst = some e) (hw : Region.wanted o (yielded ops a.tmps) = true)
    (h : (execOp a.eval o).run Tryz.prog W = .ok (.enter f args) W) (hc : Calls Tryz.prog f args W fun e' W' => ∃ u, e' = .returned u ∧ K (a.put (some e) u) W') : wpOp Tryz.prog ops Q i K a W :=
  OpOK.wpOp (K := fun u W' => K (a.put (some e) u) W') hi (.inl ⟨hw, by rw [h]; exact hc⟩) fun _ _ h => by rw [hd]; exact h
def DV.a3 (D : DV) (x : A3) : DV := if x.k % 5 = 2 then D.flush else D.writeTo x.q x.s
def A3.isAct (x : A3) : Prop := x.k % 5 < 3
instance (x : A3) : Decidable x.isAct := inferInstanceAs (Decidable (x.k % 5 < 3))
end Go.Proofs.YtddjkbpgaenpgaaGreat
end
