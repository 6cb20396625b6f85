/- What an act makes of the history; where a register's siblings do not lie; the end of a region that keeps what an act answers. No condition. -/
import Derived.Test.YtojbgckabifnjaaSmB
namespace Go.Proofs.Ytojbgckabifnjaa
open Go.RowKit

theorem rg_oneS {W : World} {v : Value} {l : List SibI} (h : SL W v l) (f : Nat → Nat) : (rgc f v).all (·.oneCell') = true := by
  obtain ⟨a, c, rfl, _, _⟩ := h.slice
  exact rg_one _ _ _ _
section
variable {ops : Array Oper} {Q : Exit → Act → World → Prop} {r : Nat} {a : Act} {w W : World}
end
theorem Hist.fit {E : List EvI} {F : Nat → Nat → Nat} {L : Nat → List SibI} (h : Hist E F L) : ∀ k, k < 4 → Fit8 (F k) := fun k hk j hj => by
  have h1 := (okR_mx (h.ok k hk)).1
  have h2 := mx_le (F k) 8 j hj
  omega
theorem Hist.few {E : List EvI} {F : Nat → Nat → Nat} {L : Nat → List SibI} (h : Hist E F L) : ∀ k, k < 4 → (L k).length ≤ 8 := fun k hk => (okR_mx (h.ok k hk)).2
/-- What an act makes of the history. -/
theorem Hist.one {E : List EvI} {F : Nat → Nat → Nat} {L : Nat → List SibI} (h : Hist E F L) {x : SActI} {f1 : Nat → Nat} {l1 : List SibI} {p q : Nat} {Dv : List DotI} (ho : OneIs F L x f1 l1 p q Dv 0) :
    (∃ E', Hist E' (setF F (x.r % 4) f1) (setF L (x.r % 4) l1)) ∧ (x.k % 5 < 2 → ∃ (l0 : List SibI) (y : SibI), l1 = l0 ++ [y] ∧ y.r = p ∧ y.n = q ∧ y.s = x.s) := by
  have hr : x.r % 4 < 4 := by omega
  unfold OneIs at ho
  generalize x.r % 4 = r at *
  rcases ho with ⟨hm, hD, hw⟩ | ⟨hm, hD, hw⟩ | ⟨hm, rfl, rfl, rfl, hw⟩
  · have h0 : (dropS (F r) (L r) r Dv).2.2.2 = 0 := by
      by_cases c : (dropS (F r) (L r) r Dv).2.2.2 = 0
      · exact c
      · unfold writeS at hw
        rw [if_neg c] at hw
        exact (Prod.mk.inj (Prod.mk.inj (Prod.mk.inj hw).2).2).2
    obtain ⟨h1, h2, h3, h4⟩ := dropS_ok h0
    unfold writeS at hw
    rw [if_pos h0, h4] at hw
    simp only at hw
    by_cases c : 8 ≤ ((L r).filter (fun x => !decide (x.d ∈ Dv))).length
    · rw [if_pos c] at hw
      exact absurd (Prod.mk.inj (Prod.mk.inj (Prod.mk.inj hw).2).2).2 (by decide)
    · rw [if_neg c] at hw
      rw [mkSib_eq (show r < 256 by omega) (show mx (F r) 8 + 1 < 4294967296 by omega) x.hs] at hw
      obtain ⟨e1, hw⟩ := Prod.mk.inj hw
      obtain ⟨e2, hw⟩ := Prod.mk.inj hw
      obtain ⟨e3, _⟩ := Prod.mk.inj hw
      obtain ⟨e3, e4⟩ := Prod.mk.inj e3
      have ha := h.act (is := true) hr (x0 := ⟨r, mx (F r) 8 + 1, x.s, by omega, by omega, x.hs⟩) rfl rfl h3 hD.2 rfl (by simp; omega)
      simp only [if_true] at ha
      rw [e1, e2] at ha
      exact ⟨⟨_, ha⟩, fun _ => ⟨_, _, e2.symm, e3, e4, rfl⟩⟩
  · have h0 : (dropS (F r) (L r) r Dv).2.2.2 = 0 := by rw [hw]
    obtain ⟨h1, h2, h3, h4⟩ := dropS_ok h0
    rw [h4] at hw
    obtain ⟨e1, hw⟩ := Prod.mk.inj hw
    obtain ⟨e2, hw⟩ := Prod.mk.inj hw
    have hle : ((L r).filter (fun x => !decide (x.d ∈ Dv))).length ≤ 8 := Nat.le_trans (List.length_filter_le _ _) (h.few r hr)
    have ha := h.act (is := false) hr (x0 := ⟨r, mx (F r) 8 + 1, [], by omega, by omega, by simp⟩) rfl rfl h3 hD.2 rfl (by simpa using hle)
    simp only [Bool.false_eq_true, if_false, List.append_nil] at ha
    rw [e1, e2] at ha
    exact ⟨⟨_, ha⟩, fun hc => absurd hc (by omega)⟩
  · have hj : x.m % 4 < 4 := by omega
    generalize x.m % 4 = j at *
    unfold rjoinS at hw
    by_cases c1 : (okR (F r) (L r) && okR (F j) (L j)) = true
    · rw [if_pos c1] at hw
      by_cases c2 : 8 < (rstay (F r) (F j) (L r) (L j)).length
      · rw [if_pos c2] at hw
        exact absurd (Prod.mk.inj (Prod.mk.inj hw).2).2 (by decide)
      · rw [if_neg c2] at hw
        obtain ⟨e1, hw⟩ := Prod.mk.inj hw
        obtain ⟨e2, _⟩ := Prod.mk.inj hw
        have ha := h.join hr hj (by omega)
        rw [e1, e2] at ha
        exact ⟨⟨_, ha⟩, fun hc => absurd hc (by omega)⟩
    · rw [if_neg c1] at hw
      exact absurd (Prod.mk.inj (Prod.mk.inj hw).2).2 (by decide)
/-- At the start. -/
theorem AllB.start (w : World) (t : TypeId) : AllB (w.alloc (.cells #[.int .u32 0, .int .u32 0, .int .u32 0, .int .u32 0, .int .u32 0, .int .u32 0, .int .u32 0, .int .u32 0, .slice none 0 0, .int .u32 0, .int .u32 0, .int .u32 0, .int .u32 0, .int .u32 0, .int .u32 0, .int .u32 0, .int .u32 0, .slice none 0 0, .int .u32 0, .int .u32 0, .int .u32 0, .int .u32 0, .int .u32 0, .int .u32 0, .int .u32 0, .int .u32 0, .slice none 0 0, .int .u32 0, .int .u32 0, .int .u32 0, .int .u32 0, .int .u32 0, .int .u32 0, .int .u32 0, .int .u32 0, .slice none 0 0] t)) w.heap.size (fun _ _ => 0) (fun _ => .slice none 0 0) := by
  have b := Blk.alloc w t #[.int .u32 0, .int .u32 0, .int .u32 0, .int .u32 0, .int .u32 0, .int .u32 0, .int .u32 0, .int .u32 0, .slice none 0 0, .int .u32 0, .int .u32 0, .int .u32 0, .int .u32 0, .int .u32 0, .int .u32 0, .int .u32 0, .int .u32 0, .slice none 0 0, .int .u32 0, .int .u32 0, .int .u32 0, .int .u32 0, .int .u32 0, .int .u32 0, .int .u32 0, .int .u32 0, .slice none 0 0, .int .u32 0, .int .u32 0, .int .u32 0, .int .u32 0, .int .u32 0, .int .u32 0, .int .u32 0, .int .u32 0, .slice none 0 0]
  refine ⟨b.lt, fun k hk j hj => ?_, fun j _ => b.free j⟩
  rcases (show k = 0 ∨ k = 1 ∨ k = 2 ∨ k = 3 by omega) with rfl | rfl | rfl | rfl <;> (rcases (show j = 0 ∨ j = 1 ∨ j = 2 ∨ j = 3 ∨ j = 4 ∨ j = 5 ∨ j = 6 ∨ j = 7 ∨ j = 8 by omega) with rfl | rfl | rfl | rfl | rfl | rfl | rfl | rfl | rfl <;> exact b.cell _ rfl)
end Go.Proofs.Ytojbgckabifnjaa

