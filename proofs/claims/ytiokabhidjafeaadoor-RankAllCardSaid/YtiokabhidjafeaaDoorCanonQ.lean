/- What those gives: the siblings that are wanted, in order, in memory of the call's own. Of whatever wants a dot or does not, and leaves all as it lay. -/
import Derived.Test.YtiokabhidjafeaaDoorSibB
import Derived.Test.YtiokabhidjafeaaDoorCanon
import Derived.Deep.RegionHeld
import Derived.Deep.RegionHeld3
section
namespace Go.Proofs.YtiokabhidjafeaaDoor
open Go.RowKit Go.Shelf
attribute [local go_sem] Oper.semAt_some

/-- What lies between two rounds. -/
structure ThI (w : World) (n1 : Nat) (c : Value) (p : SibI → Bool) (pre : List SibI) (W : World) : Prop where
  res : ∃ u, Blk W (w.heap.size + 1 + 1) 25 #[u] ∧ OwnL W u (pre.filter p) ∧ ∀ g, u.ownBlock = some g → n1 ≤ g
  fn : Blk W (w.heap.size + 1) 102 #[c]
  frm : Frm (fun _ => False) w W
  size : n1 ≤ W.heap.size
theorem ThI.own (w : World) (n1 : Nat) (c : Value) (p : SibI → Bool) (B : Nat) (hB : w.heap.size ≤ B) : OwnFrom B (ThI w n1 c p) := fun _ _ _ _ h hg hr => by
  have hr2 := fun r e => (hr r e).2
  obtain ⟨u, h1, h2, h3⟩ := h.res
  exact ⟨⟨u, h1.turned hg hr2, Row.turned h2 hg hr2, h3⟩, h.fn.turned hg hr2, h.frm.turned hB hg hr, Nat.le_trans h.size hg.size⟩

end Go.Proofs.YtiokabhidjafeaaDoor
end
section
namespace Go.Proofs.YtiokabhidjafeaaDoor
open Go.RowKit

section
variable {P : Program} {ops : Array Oper} {Q : Exit → Act → World → Prop} {S : World → Prop} {F : Act → Prop}

/-- What has come up came behind all for which it waits. -/
def Closed (md : Region.Mode) (ops : Array Oper) (listed : Array Bool) : Prop :=
  ∀ i, listed.getD i false = true → ∀ o, ops[i]? = some o → ∀ e ∈ o.after, Region.binds md e = true → listed.getD e.on false = true

theorem getD_set_true {listed : Array Bool} {i j : Nat} (h : listed.getD j false = true) : (listed.setIfInBounds i true).getD j false = true := by
  by_cases e : i = j
  · subst e
    rcases Nat.lt_or_ge i listed.size with h' | h'
    · simp [h']
    · simp [Array.getElem?_eq_none h'] at h
  · rw [getD_set_ne false e]; exact h

theorem Closed.set {md : Region.Mode} {listed : Array Bool} {j : Nat} (hc : Closed md ops listed) (hj : ∀ o, ops[j]? = some o → ∀ e ∈ o.after, Region.binds md e = true → listed.getD e.on false = true) : Closed md ops (listed.setIfInBounds j true) := by
  intro i hi o ho e he hb
  by_cases hij : j = i
  · subst hij; exact getD_set_true (hj o ho e he hb)
  · rw [getD_set_ne false hij] at hi
    exact getD_set_true (hc i hi o ho e he hb)

theorem Closed.start (md : Region.Mode) (n : Nat) : Closed md ops (Array.replicate n false) := by
  intro i hi
  rcases Nat.lt_or_ge i n with h | h
  · simp [h] at hi
  · simp [Nat.not_lt.2 h] at hi

end
end Go.Proofs.YtiokabhidjafeaaDoor
end
section
namespace Go.Proofs.YtiokabhidjafeaaDoor
open Go.RowKit

/-- The function of the program that an operation calls, if it is written there. -/
def callF (o : Oper) : Option FuncId :=
  match o.op with
  | .call c => (match c.callee with
    | .value (.func f) => some f
    | _ => none)
  | _ => none
theorem CanonL.callQ {P : Program} {ops : Array Oper} {S : World → Prop} {F : Act → Prop} {os : List Oper} {a : Act} {o : Oper} {v : Value} {f : FuncId} {args : Array Value} {T : World → World → Prop} (_ : callF o = some f) (hw : Region.wanted o (yielded ops a.tmps) = true)
    (h : ∀ w, (execOp a.eval o).run P w = .ok (.enter f args) w) (hcall : Hid (∀ w, Calls P f args w fun e w' => e = .returned v ∧ T w w')) (hST : ∀ w w', S w → T w w' → S w')
    (hK : CanonL P ops S F os (a.put o.dst v)) : CanonL P ops S F (o :: os) a := CanonL.callT hw h hcall hST hK
/-- The same by a contract that holds in the worlds that meet S. -/
theorem CanonL.callS {P : Program} {ops : Array Oper} {S : World → Prop} {F : Act → Prop} {os : List Oper} {a : Act} {o : Oper} {v : Value} {f : FuncId} {args : Array Value} {T : World → World → Prop} (_ : callF o = some f) (hw : Region.wanted o (yielded ops a.tmps) = true)
    (h : ∀ w, (execOp a.eval o).run P w = .ok (.enter f args) w) (hcall : ∀ w, S w → Calls P f args w fun e w' => e = .returned v ∧ T w w') (hST : ∀ w w', S w → T w w' → S w')
    (hK : CanonL P ops S F os (a.put o.dst v)) : CanonL P ops S F (o :: os) a := CanonL.call hw h (fun w hS => (hcall w hS).mono fun _ w' he => ⟨he.1, hST w w' hS he.2⟩) hK
/-- A load whose run is known in every world that meets S. -/
theorem CanonL.load {P : Program} {ops : Array Oper} {S : World → Prop} {F : Act → Prop} {os : List Oper} {a : Act} {o : Oper} {p v : Value} {t : TypeId} (hw : Region.wanted o (yielded ops a.tmps) = true) (x : Operand) (ho : o.op = .load t x) (hx : a.eval x = p)
    (h : ∀ w, S w → (Instr.loadAt t p).run P w = .ok v w) (hK : CanonL P ops S F os (a.put o.dst v)) : CanonL P ops S F (o :: os) a :=
  CanonL.val hw (fun w hs => by
    unfold execOp
    simp only [ho, hx, Sem.run_bind, h w hs, Result.andThen_ok, Sem.run_pure]) hK
/-- The same, at the list of a plain region's operations. -/
theorem wpl_load {P : Program} {ops : Array Oper} {rest : List Oper} {Q : Exit → Act → World → Prop} {o : Oper} {a : Act} {w : World} {p v : Value} {t : TypeId} (hg : o.guard = none) (x : Operand) (ho : o.op = .load t x) (hx : a.eval x = p)
    (h : (Instr.loadAt t p).run P w = .ok v w) (hK : wpList P ops Q rest (a.put o.dst v) w) : wpList P ops Q (o :: rest) a w :=
  wpList_plain hg fun _ hK' => by
    unfold Oper.wp execOp
    simp only [ho, hx, Sem.run_bind, h, Result.andThen_ok, Sem.run_pure]
    exact hK' _ _ hK
/-- The same, to be taken first. -/
theorem yieldsIf_load {P : Program} {ops : Array Oper} {S : World → Prop} {a : Act} {o : Oper} {p v : Value} {t : TypeId} (hw : Region.wanted o (yielded ops a.tmps) = true) (x : Operand) (ho : o.op = .load t x) (hx : a.eval x = p)
    (h : ∀ w, S w → (Instr.loadAt t p).run P w = .ok v w) : YieldsIf P ops S o v a :=
  .inl ⟨hw, fun w hs => by
    unfold execOp
    simp only [ho, hx, Sem.run_bind, h w hs, Result.andThen_ok, Sem.run_pure]⟩
end Go.Proofs.YtiokabhidjafeaaDoor
end
