/- What the document's own Take, TakeDot answer: the same. Of any reader. No condition but the reader's own. -/
import Derived.Test.YtmohegglclgcbaaVecJ
import Derived.Test.YtmohegglclgcbaaRefN
namespace Go.Proofs.Ytmohegglclgcbaa
open Go.RowKit

/-- Is one of the first k numbers that m indicates 0? -/
def bdV (m : Nat) (l : List UInt8) (e : Nat) : Nat → Bool
  | 0 => false
  | k + 1 => if m / 2 ^ k % 2 = 1 then bdV m l e k || decide ((varS (rdV m l e k).2.1 (rdV m l e k).2.2).1 = 0) else bdV m l e k
theorem mk8_congr {f g : Nat → Nat} : ∀ k, (∀ j, j < k → f j = g j) → mk8 f k = mk8 g k := by
  intro k
  induction k with
  | zero => intro _; rfl
  | succ k ih =>
    intro h
    simp only [mk8]
    rw [ih fun j hj => h j (by omega), h k (by omega)]
theorem rdV_zero (m : Nat) (l : List UInt8) (e : Nat) : ∀ k j, k ≤ j → (rdV m l e k).1 j = 0 := by
  intro k
  induction k with
  | zero => intro j _; rfl
  | succ k ih =>
    intro j hj
    simp only [rdV]
    split
    · simp only [upd8]
      rw [if_neg (by omega)]
      exact ih j (by omega)
    · exact ih j (by omega)
theorem rdV_marks (m : Nat) (l : List UInt8) (e : Nat) : ∀ k, mk8 (rdV m l e k).1 k ≤ m % 2 ^ k ∧ (mk8 (rdV m l e k).1 k = m % 2 ^ k ↔ bdV m l e k = false) := by
  intro k
  induction k with
  | zero => simp [mk8, bdV, Nat.mod_one]
  | succ k ih =>
    have hm : m % 2 ^ (k + 1) = m % 2 ^ k + 2 ^ k * (m / 2 ^ k % 2) := Nat.mod_pow_succ
    have hp : 0 < 2 ^ k := Nat.pow_pos (by omega)
    obtain ⟨h1, h2⟩ := ih
    by_cases hb : m / 2 ^ k % 2 = 1
    · have hr : (rdV m l e (k + 1)).1 = upd8 (rdV m l e k).1 k (varS (rdV m l e k).2.1 (rdV m l e k).2.2).1 := by simp [rdV, hb]
      have hd : bdV m l e (k + 1) = (bdV m l e k || decide ((varS (rdV m l e k).2.1 (rdV m l e k).2.2).1 = 0)) := by simp [bdV, hb]
      have hc : mk8 (rdV m l e (k + 1)).1 k = mk8 (rdV m l e k).1 k := mk8_congr k fun j hj => by rw [hr]; simp only [upd8]; rw [if_neg (by omega)]
      have hv : (rdV m l e (k + 1)).1 k = (varS (rdV m l e k).2.1 (rdV m l e k).2.2).1 := by rw [hr]; simp [upd8]
      simp only [mk8]
      rw [hc, hv, hm, hb, hd]
      generalize (varS (rdV m l e k).2.1 (rdV m l e k).2.2).1 = n at *
      generalize mk8 (rdV m l e k).1 k = M at *
      generalize bdV m l e k = B at *
      by_cases hn : 0 < n
      · rw [if_pos hn, decide_eq_false (by omega), Bool.or_false, ← h2]
        omega
      · rw [if_neg hn, decide_eq_true (by omega), Bool.or_true]
        refine ⟨by omega, fun h => by omega, fun h => by cases h⟩
    · have h0 : m / 2 ^ k % 2 = 0 := by omega
      have hr : rdV m l e (k + 1) = rdV m l e k := by simp [rdV, hb]
      have hd : bdV m l e (k + 1) = bdV m l e k := by simp [bdV, hb]
      simp only [mk8]
      rw [hr, rdV_zero m l e k k (Nat.le_refl _), if_neg (by omega), hm, h0, hd, Nat.mul_zero, Nat.add_zero]
      exact ⟨h1, h2⟩
theorem rdV_good (m : Nat) (hm : m < 256) (l : List UInt8) (e : Nat) : mk8 (rdV m l e 8).1 8 = m ↔ bdV m l e 8 = false := by
  have h := (rdV_marks m l e 8).2
  rw [show m % 2 ^ 8 = m by omega] at h
  exact h

/-- A store of a whole vector, in a region that asks for its order, under an S that it keeps. -/
theorem CanonL.storeV {ops : Array Oper} {S : World → Prop} {F : Act → Prop} {os : List Oper} {a : Act} {o : Oper} (hw : Region.wanted o (yielded ops a.tmps) = true) (x y : Operand) (ho : o.op = .store 24 x y)
    (b : Nat) (f : Nat → Nat) (hx : a.eval x = .pointer (some ⟨b, 0, none⟩)) (hy : a.eval y = .agg (vv f)) (hS : ∀ w, S w → ∃ old, Blk w b 24 old ∧ old.size = 8)
    (hS2 : ∀ w w', S w → Blk w' b 24 (vv f) → Frm (· = b) w w' → S w') (hK : CanonL Try.prog ops S F os (a.put o.dst undef)) : CanonL Try.prog ops S F (o :: os) a := by
  refine ⟨undef, .inl ⟨hw, fun w hs => ?_⟩, hK⟩
  obtain ⟨old, h1, h2⟩ := hS w hs
  have hr := run_storeVar_row (P := Try.prog) w b 24 24 old (vv f) h1 (by rw [vv_size]; kernel_rfl) (by rw [h2, vv_size]) (by simp [Value.oneCell'])
  have hb : Blk (w.setRow b (vv f)) b 24 (vv f) := by
    simp only [Blk] at h1
    simp only [Blk, World.setRow, Array.getElem?_modify]
    simp [h1]
  have hfr : Frm (· = b) w (w.setRow b (vv f)) := by
    refine ⟨rfl, rfl, rfl, by simp [World.setRow], fun k _ hk => ?_⟩
    simp only [World.setRow, Array.getElem?_modify]
    rw [if_neg (fun e => hk e.symm)]
  have hs2 := hS2 w _ hs hb hfr
  unfold execOp
  simp only [ho, hx, hy, Instr.storeAt, Instr.sureAddr, Sem.run_bind, Sem.run_pure, Result.andThen_ok, hr]
  first | exact ⟨rfl, hs2⟩ | exact hs2

end Go.Proofs.Ytmohegglclgcbaa
