/- The document's line in memory; what its methods answer and leave. No condition. -/
import Derived.Test.YtdhngbfigklaoaaLnF
import Derived.Test.YtdhngbfigklaoaaDvY
namespace Go.Proofs.Ytdhngbfigklaoaa
open Go.RowKit Go.Shelf

structure RLnC (w : World) (p r : Nat) (fp : Nat → Prop) (cv : Value) (L : LV) : Prop where
  blk : Blk w p 35 #[.pointer (some ⟨r, 0, none⟩), .int .i64 L.cut, cv, .int .i64 (L.acts : Nat), .bool L.down]
  ref : RefM w r L.D fp
  dok : L.D.ok
  ok : L.ok
  zs : Zs w cv L.cs
  np : ¬ fp p
  za : L.cs.length = 0 ∨ ∀ g, blkOf cv = some g → ¬ fp g ∧ g ≠ p ∧ L.P g
def RLn (w : World) (p r : Nat) (fp : Nat → Prop) (L : LV) : Prop := ∃ cv, RLnC w p r fp cv L
section
variable {w w' w'' : World} {p r : Nat} {fp : Nat → Prop} {cv : Value} {L L' L'' : LV}
theorem RLnC.keep {X : Nat → Prop} (h : RLnC w p r fp cv L) (hf : Frm X w w') (h0 : ¬ X p) (h1 : ∀ k, fp k → ¬ X k) (h2 : L.cs.length = 0 ∨ ∀ g, blkOf cv = some g → ¬ X g) : RLnC w' p r fp cv L :=
  ⟨h.blk.keep hf h0, h.ref.keep hf h1, h.dok, h.ok, h.zs.keepN hf h2, h.np, h.za⟩
theorem RLn.keepF (h : RLn w p r fp L) (hf : Frm (fun _ => False) w w') : RLn w' p r fp L := by
  obtain ⟨cv, h⟩ := h
  exact ⟨cv, h.keep hf (fun h => h) (fun _ _ h => h) (.inr fun _ _ h => h)⟩
theorem RLn.ref (h : RLn w p r fp L) : RefM w r L.D fp := by
  obtain ⟨cv, h⟩ := h
  exact h.ref
theorem RLn.dok (h : RLn w p r fp L) : L.D.ok := by
  obtain ⟨cv, h⟩ := h
  exact h.dok
theorem RLn.c0 (h : RLn w p r fp L) : w.cell? ⟨p, 0, none⟩ = some (.pointer (some ⟨r, 0, none⟩)) := by
  obtain ⟨cv, h⟩ := h
  exact h.blk.cell 0 rfl
theorem RLn.c1 (h : RLn w p r fp L) : w.cell? ⟨p, 1, none⟩ = some (.int .i64 L.cut) := by
  obtain ⟨cv, h⟩ := h
  exact h.blk.cell 1 rfl
theorem RLn.c3 (h : RLn w p r fp L) : w.cell? ⟨p, 3, none⟩ = some (.int .i64 (L.acts : Nat)) := by
  obtain ⟨cv, h⟩ := h
  exact h.blk.cell 3 rfl
theorem RLn.c4 (h : RLn w p r fp L) : w.cell? ⟨p, 4, none⟩ = some (.bool L.down) := by
  obtain ⟨cv, h⟩ := h
  exact h.blk.cell 4 rfl
theorem RLn.free (h : RLn w p r fp L) (i : Nat) : w.frozen? ⟨p, i, none⟩ = false := by
  obtain ⟨cv, h⟩ := h
  exact h.blk.free i
theorem RLn.lt (h : RLn w p r fp L) : p < w.heap.size := by
  obtain ⟨cv, h⟩ := h
  exact h.blk.lt
/-- What is left of it, and where it lies now. -/
def RLnTo (p r : Nat) (fp : Nat → Prop) (L : LV) (w w' : World) : Prop := ∃ fp', RLn w' p r fp' L ∧ Frm (fun k => k = p ∨ fp k) w w' ∧ ∀ k, fp' k → fp k ∨ w.heap.size ≤ k
theorem RLnTo.same (h : RLn w' p r fp L) (g : Frm (fun k => k = p ∨ fp k) w w') : RLnTo p r fp L w w' := ⟨fp, h, g, fun _ h => .inl h⟩
/-- The device turned. -/
theorem RLn.turn {D' : DV} (h : RLn w p r fp L) (hok : D'.ok) (hr : RefTo r D' fp w w') : RLnTo p r fp { L with D := D' } w w' := by
  obtain ⟨cv, h⟩ := h
  obtain ⟨fp', h1, h2, h3⟩ := hr
  refine ⟨fp', ⟨cv, h.blk.keep h2 h.np, h1, hok, ⟨h.ok.cut, h.ok.cs, h.ok.few⟩, h.zs.keepN h2 (h.za.imp id fun q g hg => (q g hg).1), fun hp => ?_, ?_⟩, h2.mono fun _ _ h => .inr h, h3⟩
  · rcases h3 p hp with e | e
    · exact h.np e
    · have := h.blk.lt; omega
  · rcases h.za with h4 | h4
    · exact .inl h4
    rcases h.zs.low with h5 | h5
    · exact .inl h5
    refine .inr fun g hg => ⟨fun e => ?_, (h4 g hg).2⟩
    rcases h3 g e with e | e
    · exact (h4 g hg).1 e
    · have := h5 g hg; omega
theorem RLn.count (h : RLn w p r fp L) : RLn (w.setCell ⟨p, 3, none⟩ (.int .i64 ((L.acts : Int) + 1))) p r fp L.count ∧ Frm (· = p) w (w.setCell ⟨p, 3, none⟩ (.int .i64 ((L.acts : Int) + 1))) := by
  obtain ⟨cv, h⟩ := h
  have g : Frm (· = p) w (w.setCell ⟨p, 3, none⟩ (.int .i64 ((L.acts : Int) + 1))) := (Frm.refl (· = p) w).setCell (fun _ => rfl) _
  have hb := h.blk.set 3 (.int .i64 ((L.acts : Int) + 1))
  exact ⟨⟨cv, hb, h.ref.keep g (fun k hk e => h.np (e ▸ hk)), h.dok, ⟨h.ok.cut, h.ok.cs, h.ok.few⟩, h.zs.keepN g (h.za.imp id fun q k hk => (q k hk).2.1), h.np, h.za⟩, g⟩
theorem RLn.cutDown (h : RLn w p r fp L) : RLn (w.setCell ⟨p, 4, none⟩ (.bool true)) p r fp { L with down := true } ∧ Frm (· = p) w (w.setCell ⟨p, 4, none⟩ (.bool true)) := by
  obtain ⟨cv, h⟩ := h
  have g : Frm (· = p) w (w.setCell ⟨p, 4, none⟩ (.bool true)) := (Frm.refl (· = p) w).setCell (fun _ => rfl) _
  have hb := h.blk.set 4 (.bool true)
  exact ⟨⟨cv, hb, h.ref.keep g (fun k hk e => h.np (e ▸ hk)), h.dok, ⟨h.ok.cut, h.ok.cs, h.ok.few⟩, h.zs.keepN g (h.za.imp id fun q k hk => (q k hk).2.1), h.np, h.za⟩, g⟩
theorem RLnTo.of (g : Frm (· = p) w w') (h2 : RLnTo p r fp L' w' w'') : RLnTo p r fp L' w w'' := by
  obtain ⟨fp', a, b, c⟩ := h2
  refine ⟨fp', a, (g.mono fun _ _ h => .inl h).trans b, fun k hk => ?_⟩
  rcases c k hk with e | e
  · exact .inl e
  · exact .inr (Nat.le_trans g.size e)
theorem RLnTo.trans (h : RLnTo p r fp L w w') (h2 : ∀ fp', RLn w' p r fp' L → RLnTo p r fp' L' w' w'') : RLnTo p r fp L' w w'' := by
  obtain ⟨fp1, a, b, c⟩ := h
  obtain ⟨fp2, a2, b2, c2⟩ := h2 fp1 a
  have hs := b.size
  refine ⟨fp2, a2, b.next b2 fun k hk hX => ?_, fun k hk => ?_⟩
  · rcases hX with e | e
    · exact .inl e
    · rcases c k e with e | e
      · exact .inr e
      · omega
  · rcases c2 k hk with e | e
    · rcases c k e with e | e
      · exact .inl e
      · exact .inr e
    · exact .inr (Nat.le_trans hs e)
end
set_option maxRecDepth 100000 in
set_option maxHeartbeats 2000000 in
theorem rcounted_any (p r : Nat) (fp : Nat → Prop) (L : LV) (w : World) (h : RLn w p r fp L) (ha : L.acts ≤ 1000000) :
    Calls Try.prog 51 #[.pointer (some ⟨p, 0, none⟩)] w fun e w' => e = .returned (.bool (decide ((L.acts : Int) = L.cut))) ∧ RLn w' p r fp L.count ∧ Frm (· = p) w w' := by
  have c1 := h.c1
  have c3 := h.c3
  have f3 := h.free 3
  have HC := Lib.hid h.count
  clear h
  by_cases e : (L.acts : Int) = L.cut
  · have hb : ((L.acts : Int) == L.cut) = true := beq_iff_eq.2 e
    rw [decide_eq_true e]
    clear e
    go_enter Try.func51, Try.ntmps51
    go_wp2_with fail
    go_ret
    exact ⟨rfl, HC.out⟩
  · have hb : ((L.acts : Int) == L.cut) = false := beq_eq_false_iff_ne.2 e
    rw [decide_eq_false e]
    clear e
    go_enter Try.func51, Try.ntmps51
    go_wp2_with fail
    go_ret
    exact ⟨rfl, HC.out⟩
set_option maxRecDepth 100000 in
set_option maxHeartbeats 2000000 in
theorem rodd_any (p r : Nat) (fp : Nat → Prop) (L : LV) (w : World) (h : RLn w p r fp L) :
    Calls Try.prog 53 #[.pointer (some ⟨p, 0, none⟩)] w fun e w' => e = .returned (.bool L.odd) ∧ w = w' := by
  obtain ⟨cv, h⟩ := h
  have hzs := h.zs
  obtain ⟨a, cap, rfl, hc1, hc2⟩ := hzs.slice
  have c3 := h.blk.cell 2 rfl
  unfold maxLen at hc2
  clear h
  cases hcs : L.cs with
  | nil =>
    have ho : L.odd = false := by
      unfold LV.odd
      rw [hcs]
      exact decide_eq_false (fun ⟨q, h, _⟩ => by cases h)
    rw [ho]
    rw [hcs] at c3 hc1
    simp only [List.length_nil] at c3 hc1
    clear ho hzs hcs
    go_enter Try.func53, Try.ntmps53
    go_wp2_with fail
    go_ret
    exact ⟨rfl, rfl⟩
  | cons q t =>
    have ho : L.odd = (q.tmod 2 != 0) := by
      rw [← odd_tmod q]
      unfold LV.odd
      rw [hcs]
      refine decide_eq_decide.2 ⟨fun ⟨z, h, h2⟩ => ?_, fun h => ⟨q, rfl, h⟩⟩
      cases h
      exact h2
    rw [ho]
    obtain ⟨g, off, rfl, hg, e0⟩ := Zs.at hzs 0 (by rw [hcs]; exact Nat.succ_pos _)
    rw [Nat.add_zero] at e0
    have e1 : w.cell? ⟨g, off, none⟩ = some (.int .i64 q) := by rw [e0]; simp only [hcs, List.getElem_cons_zero]
    have hn : L.cs.length ≠ 0 := by rw [hcs]; exact Nat.succ_ne_zero _
    obtain ⟨n, hn2⟩ : ∃ n, L.cs.length = n := ⟨_, rfl⟩
    rw [hn2] at c3 hc1 hn
    have hpos : 0 < n := by omega
    have hd1 : decide (0 < n) = true := decide_eq_true hpos
    have hd2 : decide (0 < (n : Int)) = true := decide_eq_true (by omega)
    clear ho hzs hcs e0 hn hn2
    go_enter Try.func53, Try.ntmps53
    go_wp2_with fail
    go_ret
    exact ⟨rfl, rfl⟩
set_option maxRecDepth 100000 in
set_option maxHeartbeats 2000000 in
theorem rlread_any (p r : Nat) (fp : Nat → Prop) (L : LV) (q : Int) (w : World) (h : RLn w p r fp L) (hq : Z64 q) :
    Calls Try.prog 33 #[.pointer (some ⟨p, 0, none⟩), .int .i64 q] w fun e w' => e = .returned (.tuple #[.string (bs (if L.down || L.D.bad q then [] else L.D.read q.toNat)), .int .i64 (if L.down then 8 else if L.D.bad q then 2 else 0)]) ∧ Frm (fun _ => False) w w' := by
  have c0 := h.c0
  have c4 := h.c4
  have HR := read_ref r L.D fp q w h.ref h.dok hq
  clear h hq
  cases hd : L.down with
  | true =>
    rw [hd] at c4
    clear hd HR
    go_enter Try.func33, Try.ntmps33
    go_wp2_with fail
    go_ret2
    exact ⟨rfl, Frm.refl _ _⟩
  | false =>
    rw [hd] at c4
    simp only [Bool.false_or, Bool.false_eq_true, if_false]
    obtain ⟨s, hr⟩ : ∃ s, (if L.D.bad q = true then [] else L.D.read q.toNat) = s := ⟨_, rfl⟩
    obtain ⟨c, hc⟩ : ∃ c : Int, (if L.D.bad q = true then 2 else 0) = c := ⟨_, rfl⟩
    rw [hr, hc] at HR ⊢
    clear hr hc hd
    have HR := Lib.hid HR
    go_enter Try.func33, Try.ntmps33
    go_wp2_with fail
    refine HR.out.mono ?_
    rintro e w1 ⟨rfl, g⟩
    have G := Lib.hid g
    clear g
    go_wp2_with fail
    go_ret2
    exact ⟨rfl, G.out⟩
end Go.Proofs.Ytdhngbfigklaoaa

