/- A region that asks for its order, whose last operation waits for all others (by way of some): the others in one order, that one behind them, whatever it does. Of no program. No condition. -/
import Derived.Test.YtehakbijhkpbbaaCanon
namespace Go.Proofs.Ytehakbijhkpbbaa
open Go.RowKit

section
variable {P : Program} {ops : Array Oper} {Q : Exit → Act → World → Prop} {S : World → Prop} {F : Act → Prop}

/-- What has come up came behind all for which it waits. -/
def Closed (md : Region.Mode) (ops : Array Oper) (listed : Array Bool) : Prop :=
  ∀ i, listed.getD i false = true → ∀ o, ops[i]? = some o → ∀ e ∈ o.after, Region.binds md e = true → listed.getD e.on false = true

theorem getD_set_true {listed : Array Bool} {i j : Nat} (h : listed.getD j false = true) : (listed.setIfInBounds i true).getD j false = true := by
  by_cases e : i = j
  · subst e
    rcases Nat.lt_or_ge i listed.size with h' | h'
    · simp [h']
    · simp [Array.getElem?_eq_none h'] at h
  · rw [getD_set_ne false e]; exact h

theorem Closed.set {md : Region.Mode} {listed : Array Bool} {j : Nat} (hc : Closed md ops listed) (hj : ∀ o, ops[j]? = some o → ∀ e ∈ o.after, Region.binds md e = true → listed.getD e.on false = true) : Closed md ops (listed.setIfInBounds j true) := by
  intro i hi o ho e he hb
  by_cases hij : j = i
  · subst hij; exact getD_set_true (hj o ho e he hb)
  · rw [getD_set_ne false hij] at hi
    exact getD_set_true (hc i hi o ho e he hb)

theorem Closed.start (md : Region.Mode) (n : Nat) : Closed md ops (Array.replicate n false) := by
  intro i hi
  rcases Nat.lt_or_ge i n with h | h
  · simp [h] at hi
  · simp [Nat.not_lt.2 h] at hi

end
end Go.Proofs.Ytehakbijhkpbbaa

