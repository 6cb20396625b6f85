/- What an act makes of the history; where a register's siblings do not lie; the end of a region that keeps what an act answers. No condition. -/
import Derived.Test.YtmdmkcofafhlcaaSmB
namespace Go.Proofs.Ytmdmkcofafhlcaa
open Go.RowKit

/-- Siblings lie in no block that holds no text. -/
theorem SL.notBlk {W : World} {v : Value} {x : SibI} {l : List SibI} {V : Nat} {t : TypeId} {cs : Array Value} (h : SL W v (x :: l)) (hb : Blk W V t cs) (hc : ∀ (j : Nat) (s : ByteArray), cs[j]? ≠ some (.string s)) : ∀ g, blkOf v = some g → ¬ g = V := by
  intro g hg e
  subst e
  obtain ⟨a, cap, rfl, _, _⟩ := h.slice
  obtain ⟨g', off, rfl, _, h2⟩ := Sl.elem sibc sibc_len h 0 (by simp) (by omega)
  simp only [blkOf, Option.some.injEq] at hg
  subst hg
  have h3 := h2 2 (by omega)
  simp only [Blk] at hb
  rw [show (sibc (x :: l)[0])[2]? = some (.string (bs x.s)) from rfl] at h3
  simp only [World.cell?, hb] at h3
  exact hc _ _ (by simpa using h3)
theorem rg_oneS {W : World} {v : Value} {l : List SibI} (h : SL W v l) (f : Nat → Nat) : (rgc f v).all (·.oneCell') = true := by
  obtain ⟨a, c, rfl, _, _⟩ := h.slice
  exact rg_one _ _ _ _
theorem rz_no (j : Nat) (s : ByteArray) : rz[j]? ≠ some (.string s) := by
  rcases Nat.lt_or_ge j 9 with h | h
  · rcases (show j = 0 ∨ j = 1 ∨ j = 2 ∨ j = 3 ∨ j = 4 ∨ j = 5 ∨ j = 6 ∨ j = 7 ∨ j = 8 by omega) with rfl | rfl | rfl | rfl | rfl | rfl | rfl | rfl | rfl <;> (intro h; cases h)
  · rw [Array.getElem?_eq_none (by simp; omega)]; intro h; cases h
theorem dz_no (j : Nat) (s : ByteArray) : dz[j]? ≠ some (.string s) := by
  rcases Nat.lt_or_ge j 2 with h | h
  · rcases (show j = 0 ∨ j = 1 by omega) with rfl | rfl <;> (intro h; cases h)
  · rw [Array.getElem?_eq_none (by simp; omega)]; intro h; cases h
section
variable {ops : Array Oper} {Q : Exit → Act → World → Prop} {r : Nat} {a : Act} {w W : World}
/-- A register and a dot are stored in new blocks, two values are kept: the end of such a region. -/
theorem tail_reg4 {o1 o2 o3 o4 : Oper} {x1 y1 x2 y2 x3 x4 : Operand} {d3 d4 : Tmp} (f : Nat → Nat) (v : Value) (l : List SibI) (V V2 p q : Nat) (u3 u4 : Value)
    (i1 : ops[r]? = some o1) (i2 : ops[r + 1]? = some o2) (i3 : ops[r + 1 + 1]? = some o3) (i4 : ops[r + 1 + 1 + 1]? = some o4) (g1 : o1.guard = none) (g2 : o2.guard = none) (g3 : o3.guard = none) (g4 : o4.guard = none) (n1 : o1.dst = none) (n2 : o2.dst = none) (n3 : o3.dst = some d3) (n4 : o4.dst = some d4)
    (p1 : o1.op = .store 39 x1 y1) (p2 : o2.op = .store 27 x2 y2) (p3 : o3.op = .assign x3) (p4 : o4.op = .assign x4)
    (hx1 : a.eval x1 = .pointer (some ⟨V, 0, none⟩)) (hy1 : a.eval y1 = rg f v) (hx2 : a.eval x2 = .pointer (some ⟨V2, 0, none⟩)) (hy2 : a.eval y2 = .agg (dv p q)) (hx3 : a.eval x3 = u3) (hx4 : (a.put (some d3) u3).eval x4 = u4)
    (hF : Frm (fun _ => False) w W) (hV : w.heap.size ≤ V) (hV2 : w.heap.size ≤ V2) (o : SL W v l) (b1 : Blk W V 39 rz) (b2 : Blk W V2 27 dz)
    (h : ∀ w2, Frm (fun _ => False) w w2 → Hid (∀ W', Frm (fun _ => False) w2 W' → Blk W' V 39 (rgc f v) ∧ SL W' v l) → Hid (∀ W', Frm (fun _ => False) w2 W' → Blk W' V2 27 (dv p q)) → Q .normal ((a.put (some d3) u3).put (some d4) u4) w2) : wpTail Try.prog ops Q r 4 a W := by
  have hne : V ≠ V2 := by
    intro e
    subst e
    simp only [Blk] at b1 b2
    rw [b1] at b2
    cases b2
  obtain ⟨av, cv, ev, _, _⟩ := o.slice
  refine row_step i1 g1 n1 39 _ _ p1 V (rgc f v) rz hx1 hy1 b1 rfl (show _ = some 9 by kernel_rfl) (by simp [Value.oneCell', ev]) fun w1 c1 f1 z1 => ?_
  refine row_step i2 g2 n2 27 _ _ p2 V2 (dv p q) dz hx2 hy2 (b2.keep f1 (Ne.symm hne)) rfl (show _ = some 2 by kernel_rfl) (by simp [Value.oneCell']) fun w2 c2 f2 z2 => ?_
  refine wpTail.assign i3 g3 n3 p3 hx3 ?_
  refine wpTail.assign i4 g4 n4 p4 hx4 ?_
  have s2 : SL w2 v l := by
    cases l with
    | nil => exact o.nil_of
    | cons x l =>
      have s1 := o.keep f1 fun g hg => o.notBlk b1 rz_no g hg
      exact s1.keep f2 fun g hg => o.notBlk b2 dz_no g hg
  have b3 := c1.keep f2 hne
  refine h w2 ?_ (Lib.hid fun W' g => ⟨b3.keep g (fun h => h), s2.keepF g⟩) (Lib.hid fun W' g => c2.keep g (fun h => h))
  exact (hF.next f1 fun k hk h => by
    have h : k = V := h
    omega).next f2 fun k hk h => by
    have h : k = V2 := h
    omega
end
theorem Hist.fit {E : List EvI} {F : Nat → Nat → Nat} {L : Nat → List SibI} (h : Hist E F L) : ∀ k, k < 4 → Fit8 (F k) := fun k hk j hj => by
  have h1 := (okR_mx (h.ok k hk)).1
  have h2 := mx_le (F k) 8 j hj
  omega
theorem Hist.few {E : List EvI} {F : Nat → Nat → Nat} {L : Nat → List SibI} (h : Hist E F L) : ∀ k, k < 4 → (L k).length ≤ 8 := fun k hk => (okR_mx (h.ok k hk)).2
/-- What an act makes of the history. -/
theorem Hist.one {E : List EvI} {F : Nat → Nat → Nat} {L : Nat → List SibI} (h : Hist E F L) {x : SActI} {f1 : Nat → Nat} {l1 : List SibI} {p q : Nat} {Dv : List DotI} (ho : OneIs F L x f1 l1 p q Dv 0) :
    (∃ E', Hist E' (setF F (x.r % 4) f1) (setF L (x.r % 4) l1)) ∧ (x.k % 5 < 2 → ∃ (l0 : List SibI) (y : SibI), l1 = l0 ++ [y] ∧ y.r = p ∧ y.n = q ∧ y.s = x.s) := by
  have hr : x.r % 4 < 4 := by omega
  unfold OneIs at ho
  generalize x.r % 4 = r at *
  rcases ho with ⟨hm, hD, hw⟩ | ⟨hm, hD, hw⟩ | ⟨hm, rfl, rfl, rfl, hw⟩
  · have h0 : (dropS (F r) (L r) r Dv).2.2.2 = 0 := by
      by_cases c : (dropS (F r) (L r) r Dv).2.2.2 = 0
      · exact c
      · unfold writeS at hw
        rw [if_neg c] at hw
        exact (Prod.mk.inj (Prod.mk.inj (Prod.mk.inj hw).2).2).2
    obtain ⟨h1, h2, h3, h4⟩ := dropS_ok h0
    unfold writeS at hw
    rw [if_pos h0, h4] at hw
    simp only at hw
    by_cases c : 8 ≤ ((L r).filter (fun x => !decide (x.d ∈ Dv))).length
    · rw [if_pos c] at hw
      exact absurd (Prod.mk.inj (Prod.mk.inj (Prod.mk.inj hw).2).2).2 (by decide)
    · rw [if_neg c] at hw
      rw [mkSib_eq (show r < 256 by omega) (show mx (F r) 8 + 1 < 4294967296 by omega) x.hs] at hw
      obtain ⟨e1, hw⟩ := Prod.mk.inj hw
      obtain ⟨e2, hw⟩ := Prod.mk.inj hw
      obtain ⟨e3, _⟩ := Prod.mk.inj hw
      obtain ⟨e3, e4⟩ := Prod.mk.inj e3
      have ha := h.act (is := true) hr (x0 := ⟨r, mx (F r) 8 + 1, x.s, by omega, by omega, x.hs⟩) rfl rfl h3 hD rfl (by simp; omega)
      simp only [if_true] at ha
      rw [e1, e2] at ha
      exact ⟨⟨_, ha⟩, fun _ => ⟨_, _, e2.symm, e3, e4, rfl⟩⟩
  · have h0 : (dropS (F r) (L r) r Dv).2.2.2 = 0 := by rw [hw]
    obtain ⟨h1, h2, h3, h4⟩ := dropS_ok h0
    rw [h4] at hw
    obtain ⟨e1, hw⟩ := Prod.mk.inj hw
    obtain ⟨e2, hw⟩ := Prod.mk.inj hw
    have hle : ((L r).filter (fun x => !decide (x.d ∈ Dv))).length ≤ 8 := Nat.le_trans (List.length_filter_le _ _) (h.few r hr)
    have ha := h.act (is := false) hr (x0 := ⟨r, mx (F r) 8 + 1, [], by omega, by omega, by simp⟩) rfl rfl h3 hD rfl (by simpa using hle)
    simp only [Bool.false_eq_true, if_false, List.append_nil] at ha
    rw [e1, e2] at ha
    exact ⟨⟨_, ha⟩, fun hc => absurd hc (by omega)⟩
  · have hj : x.m % 4 < 4 := by omega
    generalize x.m % 4 = j at *
    unfold rjoinS at hw
    by_cases c1 : (okR (F r) (L r) && okR (F j) (L j)) = true
    · rw [if_pos c1] at hw
      by_cases c2 : 8 < (rstay (F r) (F j) (L r) (L j)).length
      · rw [if_pos c2] at hw
        exact absurd (Prod.mk.inj (Prod.mk.inj hw).2).2 (by decide)
      · rw [if_neg c2] at hw
        obtain ⟨e1, hw⟩ := Prod.mk.inj hw
        obtain ⟨e2, _⟩ := Prod.mk.inj hw
        have ha := h.join hr hj (by omega)
        rw [e1, e2] at ha
        exact ⟨⟨_, ha⟩, fun hc => absurd hc (by omega)⟩
    · rw [if_neg c1] at hw
      exact absurd (Prod.mk.inj (Prod.mk.inj hw).2).2 (by decide)
/-- At the start. -/
theorem AllB.start (w : World) (t : TypeId) : AllB (w.alloc (.cells #[.int .u32 0, .int .u32 0, .int .u32 0, .int .u32 0, .int .u32 0, .int .u32 0, .int .u32 0, .int .u32 0, .slice none 0 0, .int .u32 0, .int .u32 0, .int .u32 0, .int .u32 0, .int .u32 0, .int .u32 0, .int .u32 0, .int .u32 0, .slice none 0 0, .int .u32 0, .int .u32 0, .int .u32 0, .int .u32 0, .int .u32 0, .int .u32 0, .int .u32 0, .int .u32 0, .slice none 0 0, .int .u32 0, .int .u32 0, .int .u32 0, .int .u32 0, .int .u32 0, .int .u32 0, .int .u32 0, .int .u32 0, .slice none 0 0] t)) w.heap.size (fun _ _ => 0) (fun _ => .slice none 0 0) := by
  have b := Blk.alloc w t #[.int .u32 0, .int .u32 0, .int .u32 0, .int .u32 0, .int .u32 0, .int .u32 0, .int .u32 0, .int .u32 0, .slice none 0 0, .int .u32 0, .int .u32 0, .int .u32 0, .int .u32 0, .int .u32 0, .int .u32 0, .int .u32 0, .int .u32 0, .slice none 0 0, .int .u32 0, .int .u32 0, .int .u32 0, .int .u32 0, .int .u32 0, .int .u32 0, .int .u32 0, .int .u32 0, .slice none 0 0, .int .u32 0, .int .u32 0, .int .u32 0, .int .u32 0, .int .u32 0, .int .u32 0, .int .u32 0, .int .u32 0, .slice none 0 0]
  refine ⟨b.lt, fun k hk j hj => ?_, fun j _ => b.free j⟩
  rcases (show k = 0 ∨ k = 1 ∨ k = 2 ∨ k = 3 by omega) with rfl | rfl | rfl | rfl <;> (rcases (show j = 0 ∨ j = 1 ∨ j = 2 ∨ j = 3 ∨ j = 4 ∨ j = 5 ∨ j = 6 ∨ j = 7 ∨ j = 8 by omega) with rfl | rfl | rfl | rfl | rfl | rfl | rfl | rfl | rfl <;> exact b.cell _ rfl)
end Go.Proofs.Ytmdmkcofafhlcaa

