/- A region that asks for its order, all of whose operations give, in every world that meets S, one value each, and leave a world that meets S: one order stands for all. Of no program. No condition. -/
import Derived.Test.YtiokabhidjafeaaDoorRows
import Derived.WalkKit
import Derived.OrdersHeld
import Derived.Lib.Hide
namespace Go.Proofs.YtiokabhidjafeaaDoor
open Go.RowKit

section
variable {P : Program} {ops : Array Oper} {Q : Exit → Act → World → Prop} {S : World → Prop} {F : Act → Prop}

/-- An operation's run ends in the value v, or in a call that does, and S holds behind it. -/
def Gives (P : Program) (S : World → Prop) (v : Value) : Result Next → Prop
  | .ok (.value u) w' => u = v ∧ S w'
  | .ok .skip w' => v = undef ∧ S w'
  | .ok (.enter f args) w' => Calls P f args w' fun e w'' => e = .returned v ∧ S w''
  | _ => False

/-- In state a operation o gives v, in every world that meets S; or it is passed over. -/
def Det (P : Program) (ops : Array Oper) (S : World → Prop) (o : Oper) (v : Value) (a : Act) : Prop :=
  (Region.wanted o (yielded ops a.tmps) = true ∧ ∀ w, S w → Gives P S v ((execOp a.eval o).run P w)) ∨
  (Region.wanted o (yielded ops a.tmps) = false ∧ v = undef)

theorem Det.wpOp {i : Nat} {o : Oper} {v : Value} {a : Act} (hi : ops[i]? = some o) (hy : Det P ops S o v a)
    {K : Act → World → Prop} {w : World} (hS : S w) (h : ∀ w', S w' → K (a.put o.dst v) w') : wpOp P ops Q i K a w := by
  unfold Go.wpOp
  simp only [hi]
  rcases hy with ⟨hw, hv⟩ | ⟨hw, rfl⟩
  · simp only [hw, if_true]
    refine .inl ?_
    have hv := hv w hS
    unfold Oper.wp
    generalize (execOp a.eval o).run P w = r at *
    cases r with
    | ok n w' =>
      cases n <;> simp only [Gives] at hv
      case value u => obtain ⟨rfl, h2⟩ := hv; exact h _ h2
      case skip => obtain ⟨rfl, h2⟩ := hv; exact h _ h2
      case enter f args =>
        simp only [Oper.upon]
        refine Calls.mono hv fun e w'' he => ?_
        obtain ⟨rfl, h2⟩ := he
        exact h _ h2
    | halt x w' => exact hv.elim
  · simp only [hw, Bool.false_eq_true, if_false]; exact h w hS

/-- Operation j waits for operation p. -/
def waits (md : Region.Mode) (ops : Array Oper) (j p : Nat) : Bool := ((ops[j]?).map fun o => o.after.any fun e => Region.binds md e && e.on == p).getD false
/-- Operation j is apart from operation p. -/
def apartB (ops : Array Oper) (p j : Nat) : Bool := match ops[p]?, ops[j]? with
  | some x, some y => x.apart ops y
  | _, _ => false

/-- What is still to come up, in an order that may be picked. -/
structure Left (md : Region.Mode) (ops : Array Oper) (listed : Array Bool) (is : List Nat) : Prop where
  here : ∀ i, listed.getD i true = false → i ∈ is
  un : ∀ i ∈ is, listed.getD i true = false
  nodup : is.Nodup
  pair : is.Pairwise fun p j => waits md ops p j = false ∧ (waits md ops j p = true ∨ apartB ops p j = true)
  deps : ∀ i ∈ is, ∀ o, ops[i]? = some o → ∀ e ∈ o.after, Region.binds md e = true → e.on ≠ i ∧ (e.on ∈ is ∨ listed.getD e.on false = true)
  there : ∀ i ∈ is, ∃ o, ops[i]? = some o

theorem waits_iff {md : Region.Mode} {j p : Nat} {o : Oper} (ho : ops[j]? = some o) : waits md ops j p = true ↔ ∃ e ∈ o.after, Region.binds md e = true ∧ e.on = p := by
  simp only [waits, ho, Option.map_some, Option.getD_some, Array.any_eq_true, Bool.and_eq_true, beq_iff_eq]
  constructor
  · rintro ⟨i, h, h1, h2⟩
    exact ⟨o.after[i], Array.getElem_mem h, h1, h2⟩
  · rintro ⟨e, he, h1, h2⟩
    obtain ⟨i, h, rfl⟩ := Array.mem_iff_getElem.1 he
    exact ⟨i, h, h1, h2⟩

theorem Left.take {md : Region.Mode} {listed : Array Bool} {j : Nat} {pre post : List Nat} (h : Left md ops listed (pre ++ j :: post)) : Left md ops (listed.setIfInBounds j true) (pre ++ post) := by
  have hsub : (pre ++ post).Sublist (pre ++ j :: post) := List.Sublist.append_left (List.sublist_cons_self _ _) _
  have hnd := h.nodup
  have hj : j ∉ pre ++ post := by
    rw [List.nodup_append] at hnd
    obtain ⟨_, h2, h3⟩ := hnd
    intro hm
    rcases List.mem_append.1 hm with hm | hm
    · exact h3 j hm j List.mem_cons_self rfl
    · exact (List.nodup_cons.1 h2).1 hm
  refine ⟨fun i hi => ?_, fun i hi => ?_, h.nodup.sublist hsub, h.pair.sublist hsub, fun i hi o ho e he hb => ?_, fun i hi => h.there i (hsub.subset hi)⟩
  · by_cases e : j = i
    · subst e
      exfalso
      rcases Nat.lt_or_ge j listed.size with h' | h'
      · simp [h'] at hi
      · simp at hi
    · rw [getD_set_ne true e] at hi
      have := h.here i hi
      rcases List.mem_append.1 this with hm | hm
      · exact List.mem_append_left _ hm
      · rcases List.mem_cons.1 hm with hm | hm
        · exact absurd hm.symm e
        · exact List.mem_append_right _ hm
  · have e : j ≠ i := fun e => hj (e ▸ hi)
    rw [getD_set_ne true e]
    exact h.un i (hsub.subset hi)
  · obtain ⟨h1, h2⟩ := h.deps i (hsub.subset hi) o ho e he hb
    refine ⟨h1, ?_⟩
    by_cases e2 : j = e.on
    · right
      have hu := h.un j (by simp)
      rcases Nat.lt_or_ge j listed.size with h' | h'
      · rw [← e2]; simp [h']
      · simp [Array.getElem?_eq_none h'] at hu
    · rcases h2 with h2 | h2
      · left
        rcases List.mem_append.1 h2 with hm | hm
        · exact List.mem_append_left _ hm
        · rcases List.mem_cons.1 hm with hm | hm
          · exact absurd hm.symm e2
          · exact List.mem_append_right _ hm
      · right; rw [getD_set_ne false e2]; exact h2

/-- Is the order in which the operations stand one that may be picked, and are those that do not wait for one another apart? -/
def canonB (md : Region.Mode) (ops : Array Oper) : Bool :=
  (List.range ops.size).all fun j => ((ops[j]?).map fun o => o.after.all fun e => !Region.binds md e || decide (e.on < j)).getD false &&
    (List.range j).all fun p => waits md ops j p || apartB ops p j

theorem pairwise_range (R : Nat → Nat → Prop) : ∀ n, (∀ p j, p < j → j < n → R p j) → (List.range n).Pairwise R := by
  intro n h
  rw [List.pairwise_iff_getElem]
  intro i j hi hj hij
  simp only [List.length_range] at hi hj
  simp only [List.getElem_range]
  exact h i j hij hj

theorem Left.start {md : Region.Mode} (h : canonB md ops = true) : Left md ops (Array.replicate ops.size false) (List.range ops.size) := by
  simp only [canonB, List.all_eq_true, Bool.and_eq_true, List.mem_range, Bool.or_eq_true] at h
  have hafter : ∀ j, j < ops.size → ∀ o, ops[j]? = some o → ∀ e ∈ o.after, Region.binds md e = true → e.on < j := by
    intro j hj o ho e he hb
    have h1 := (h j hj).1
    simp only [ho, Option.map_some, Option.getD_some, Array.all_eq_true_iff_forall_mem, Bool.or_eq_true, decide_eq_true_eq] at h1
    rcases h1 e he with h2 | h2
    · rw [hb] at h2; simp at h2
    · exact h2
  refine ⟨fun i hi => ?_, fun i hi => ?_, List.nodup_range, pairwise_range _ _ fun p j hpj hj => ⟨?_, ?_⟩, fun i hi o ho e he hb => ?_, fun i hi => ?_⟩
  · rcases Nat.lt_or_ge i ops.size with h' | h'
    · exact List.mem_range.2 h'
    · simp [Nat.not_lt.2 h'] at hi
  · have := List.mem_range.1 hi
    simp [this]
  · have hp : p < ops.size := by omega
    cases hw : waits md ops p j with
    | false => rfl
    | true =>
      obtain ⟨e, he, hb, h3⟩ := (waits_iff (Array.getElem?_eq_getElem hp)).1 hw
      have := hafter p hp _ (Array.getElem?_eq_getElem hp) e he hb
      omega
  · exact (h j hj).2 p hpj
  · have hi' := List.mem_range.1 hi
    have := hafter i hi' o ho e he hb
    exact ⟨by omega, .inl (List.mem_range.2 (by omega))⟩
  · exact ⟨_, Array.getElem?_eq_getElem (List.mem_range.1 hi)⟩

/-- The same, over the operations themselves. -/
def CanonL (P : Program) (ops : Array Oper) (S : World → Prop) (F : Act → Prop) : List Oper → Act → Prop
  | [], a => F a
  | o :: os, a => ∃ v, Det P ops S o v a ∧ CanonL P ops S F os (a.put o.dst v)

theorem CanonL.skip {os : List Oper} {a : Act} {o : Oper} (hw : Region.wanted o (yielded ops a.tmps) = false) (hK : CanonL P ops S F os (a.put o.dst undef)) : CanonL P ops S F (o :: os) a :=
  ⟨undef, .inr ⟨hw, rfl⟩, hK⟩
theorem CanonL.val {os : List Oper} {a : Act} {o : Oper} {v : Value} (hw : Region.wanted o (yielded ops a.tmps) = true)
    (h : ∀ w, S w → (execOp a.eval o).run P w = .ok (.value v) w) (hK : CanonL P ops S F os (a.put o.dst v)) : CanonL P ops S F (o :: os) a :=
  ⟨v, .inl ⟨hw, fun w hS => by rw [h w hS]; exact ⟨rfl, hS⟩⟩, hK⟩
theorem CanonL.call {os : List Oper} {a : Act} {o : Oper} {v : Value} {f : FuncId} {args : Array Value} (hw : Region.wanted o (yielded ops a.tmps) = true)
    (h : ∀ w, (execOp a.eval o).run P w = .ok (.enter f args) w) (hcall : ∀ w, S w → Calls P f args w fun e w' => e = .returned v ∧ S w') (hK : CanonL P ops S F os (a.put o.dst v)) : CanonL P ops S F (o :: os) a :=
  ⟨v, .inl ⟨hw, fun w hS => by rw [h w]; exact hcall w hS⟩, hK⟩
theorem CanonL.done {a : Act} (h : F a) : CanonL P ops S F [] a := h
end
end Go.Proofs.YtiokabhidjafeaaDoor

