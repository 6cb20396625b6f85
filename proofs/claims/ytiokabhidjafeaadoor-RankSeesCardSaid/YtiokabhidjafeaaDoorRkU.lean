/- What is seen at a name, from the groups: mathematics. Of no program. No condition. -/
import Derived.Test.YtiokabhidjafeaaDoorRkT
namespace Go.Proofs.YtiokabhidjafeaaDoor
open Go.RowKit

theorem addG_ne {p : List UInt8 → List UInt8 → Bool} {x : SibI} : ∀ {L : List GrpI}, (∀ g ∈ L, g.d ≠ []) → ∀ g ∈ addG p L x, g.d ≠ [] := by
  intro L
  induction L with
  | nil => intro _ g hg; simp [addG] at hg; subst hg; simp
  | cons g0 gs ih =>
    intro h g hg
    unfold addG at hg
    split at hg
    · rcases List.mem_cons.1 hg with rfl | hg
      · simp
      · exact h g (List.mem_cons_of_mem _ hg)
    · rcases List.mem_cons.1 hg with rfl | hg
      · exact h g List.mem_cons_self
      · exact ih (fun q hq => h q (List.mem_cons_of_mem _ hq)) g hg
theorem fold_ne {p : List UInt8 → List UInt8 → Bool} : ∀ (xs : List SibI) (L : List GrpI), (∀ g ∈ L, g.d ≠ []) → ∀ g ∈ xs.foldl (addG p) L, g.d ≠ [] := by
  intro xs
  induction xs with
  | nil => intro L h; exact h
  | cons x xs ih => intro L h; exact ih _ (addG_ne h)
/-- Each group has a dot. -/
theorem grps_ne {p : List UInt8 → List UInt8 → Bool} (l : List SibI) : ∀ g ∈ grps p l, g.d ≠ [] := fold_ne _ _ (fun g h => by cases h)
/-- What is seen of a group, as number k of all; cf gives conflict names. -/
def seeF (cf : List UInt8 → DotI → List UInt8) (nm : List UInt8) (k : Nat) (g : GrpI) : SeenI :=
  if k = 0 then ⟨nm, false, false, g⟩ else match g.d with
    | [] => ⟨nm, false, true, g⟩
    | d :: _ => ⟨cf nm d, false, true, g⟩
def seeD (nm : List UInt8) (g : GrpI) : SeenI := ⟨nm, true, false, g⟩
/-- What is seen of groups, the first of which is number k. -/
def seesF (cf : List UInt8 → DotI → List UInt8) (nm : List UInt8) : Nat → List (GrpI × Value) → List (SeenI × Value)
  | _, [] => []
  | k, x :: xs => (seeF cf nm k x.1, x.2) :: seesF cf nm (k + 1) xs
theorem seesF_add (cf : List UInt8 → DotI → List UInt8) (nm : List UInt8) (x : GrpI × Value) : ∀ (xs : List (GrpI × Value)) (k : Nat), seesF cf nm k (xs ++ [x]) = seesF cf nm k xs ++ [(seeF cf nm (k + xs.length) x.1, x.2)] := by
  intro xs
  induction xs with
  | nil => intro k; simp [seesF]
  | cons y ys ih =>
    intro k
    simp only [List.cons_append, seesF, ih, List.length_cons]
    rw [show k + 1 + ys.length = k + (ys.length + 1) from by omega]
theorem seesF_len (cf : List UInt8 → DotI → List UInt8) (nm : List UInt8) : ∀ (xs : List (GrpI × Value)) (k : Nat), (seesF cf nm k xs).length = xs.length := by
  intro xs
  induction xs with
  | nil => intro k; rfl
  | cons y ys ih => intro k; simp [seesF, ih]
/-- Of directories. -/
def seesD (nm : List UInt8) (xs : List (GrpI × Value)) : List (SeenI × Value) := xs.map fun x => (seeD nm x.1, x.2)
theorem seesD_add (nm : List UInt8) (x : GrpI × Value) (xs : List (GrpI × Value)) : seesD nm (xs ++ [x]) = seesD nm xs ++ [(seeD nm x.1, x.2)] := by simp [seesD]
/-- What is seen at a name: the directories' group, and the groups of all else. -/
def seenG (cf : List UInt8 → DotI → List UInt8) (nm : List UInt8) (k : Nat) : List GrpI → List SeenI
  | [] => []
  | g :: gs => seeF cf nm k g :: seenG cf nm (k + 1) gs
theorem seesF_fst (cf : List UInt8 → DotI → List UInt8) (nm : List UInt8) : ∀ (xs : List (GrpI × Value)) (k : Nat), (seesF cf nm k xs).map Prod.fst = seenG cf nm k (xs.map Prod.fst) := by
  intro xs
  induction xs with
  | nil => intro k; rfl
  | cons y ys ih => intro k; simp [seesF, seenG, ih]
def seenA (cf : List UInt8 → DotI → List UInt8) (nm : List UInt8) (q : List UInt8 → List UInt8 → Bool) (p : List UInt8 → Bool) (l : List SibI) : List SeenI :=
  (grps (fun _ _ => true) (l.filter (fun x => p x.s == true))).map (seeD nm) ++ seenG cf nm (grps (fun _ _ => true) (l.filter (fun x => p x.s == true))).length (grps q (l.filter (fun x => p x.s == false)))
end Go.Proofs.YtiokabhidjafeaaDoor

