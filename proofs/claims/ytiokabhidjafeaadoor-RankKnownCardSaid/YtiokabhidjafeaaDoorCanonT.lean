/- As Canon, with a quick look at which function an operation calls. Of no program. No condition. -/
import Derived.Test.YtiokabhidjafeaaDoorCanon
import Derived.Deep.RegionHeld
import Derived.Deep.RegionHeld3
import Derived.Test.YtiokabhidjafeaaDoorCanonR
section
namespace Go.Proofs.YtiokabhidjafeaaDoor
open Go.RowKit

/-- A load whose run is known in every world that meets S. -/
theorem CanonL.load {P : Program} {ops : Array Oper} {S : World → Prop} {F : Act → Prop} {os : List Oper} {a : Act} {o : Oper} {p v : Value} {t : TypeId} (hw : Region.wanted o (yielded ops a.tmps) = true) (x : Operand) (ho : o.op = .load t x) (hx : a.eval x = p)
    (h : ∀ w, S w → (Instr.loadAt t p).run P w = .ok v w) (hK : CanonL P ops S F os (a.put o.dst v)) : CanonL P ops S F (o :: os) a :=
  CanonL.val hw (fun w hs => by
    unfold execOp
    simp only [ho, hx, Sem.run_bind, h w hs, Result.andThen_ok, Sem.run_pure]) hK
/-- The same, at the list of a plain region's operations. -/
theorem wpl_load {P : Program} {ops : Array Oper} {rest : List Oper} {Q : Exit → Act → World → Prop} {o : Oper} {a : Act} {w : World} {p v : Value} {t : TypeId} (hg : o.guard = none) (x : Operand) (ho : o.op = .load t x) (hx : a.eval x = p)
    (h : (Instr.loadAt t p).run P w = .ok v w) (hK : wpList P ops Q rest (a.put o.dst v) w) : wpList P ops Q (o :: rest) a w :=
  wpList_plain hg fun _ hK' => by
    unfold Oper.wp execOp
    simp only [ho, hx, Sem.run_bind, h, Result.andThen_ok, Sem.run_pure]
    exact hK' _ _ hK
/-- The same, to be taken first. -/
theorem yieldsIf_load {P : Program} {ops : Array Oper} {S : World → Prop} {a : Act} {o : Oper} {p v : Value} {t : TypeId} (hw : Region.wanted o (yielded ops a.tmps) = true) (x : Operand) (ho : o.op = .load t x) (hx : a.eval x = p)
    (h : ∀ w, S w → (Instr.loadAt t p).run P w = .ok v w) : YieldsIf P ops S o v a :=
  .inl ⟨hw, fun w hs => by
    unfold execOp
    simp only [ho, hx, Sem.run_bind, h w hs, Result.andThen_ok, Sem.run_pure]⟩
end Go.Proofs.YtiokabhidjafeaaDoor
end
section
namespace Go.Proofs.YtiokabhidjafeaaDoor
open Go.RowKit

section
variable {P : Program} {ops : Array Oper} {Q : Exit → Act → World → Prop} {S : World → Prop} {F : Act → Prop}
/-- m operations from the r-th one on, one behind the other. -/
def wpTail (P : Program) (ops : Array Oper) (Q : Exit → Act → World → Prop) : Nat → Nat → Act → World → Prop
  | _, 0, a, w => Q .normal a w
  | r, m + 1, a, w => wpOp P ops Q r (fun a w => wpTail P ops Q (r + 1) m a w) a w
theorem wpTail.cons {r m : Nat} {a : Act} {w : World} {o : Oper} (hi : ops[r]? = some o) (hg : o.guard = none) (h : ∀ K : Act → World → Prop, (∀ a w, wpTail P ops Q (r + 1) m a w → K a w) → o.wp P a w K Q) : wpTail P ops Q r (m + 1) a w := by
  show wpOp P ops Q r _ a w
  unfold wpOp
  simp only [hi]
  rw [if_pos (by unfold Region.wanted; rw [hg])]
  exact .inl (h _ fun _ _ h => h)
theorem wpTail.done {r : Nat} {a : Act} {w : World} (h : Q .normal a w) : wpTail P ops Q r 0 a w := h
/-- The first k of a list, and the others. -/
def splitN {α : Type} : Nat → List α → Option (List α × List α)
  | 0, l => some ([], l)
  | _ + 1, [] => none
  | k + 1, x :: xs => match splitN k xs with
    | none => none
    | some (a, b) => some (x :: a, b)
theorem splitN_eq {α : Type} : ∀ (k : Nat) (l a b : List α), splitN k l = some (a, b) → l = a ++ b ∧ a.length = k := by
  intro k
  induction k with
  | zero => intro l a b h; cases h; exact ⟨rfl, rfl⟩
  | succ k ih =>
    intro l a b h
    cases l with
    | nil => cases h
    | cons x xs =>
      unfold splitN at h
      cases hs : splitN k xs with
      | none => rw [hs] at h; cases h
      | some p =>
        obtain ⟨a', b'⟩ := p
        rw [hs] at h
        cases h
        obtain ⟨h1, h2⟩ := ih xs _ _ hs
        exact ⟨by rw [h1]; rfl, by simp [h2]⟩

end
end Go.Proofs.YtiokabhidjafeaaDoor
end
