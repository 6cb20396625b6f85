/- What the function gives that All of a register hands out: each sibling's dot and value, in order. No condition. -/
import Derived.Test.YtiokabhidjafeaaDoorSibA
import Derived.Test.YtiokabhidjafeaaDoorCodecV
import Derived.Test.YtiokabhidjafeaaDoorCanon
section
namespace Go.Proofs.YtiokabhidjafeaaDoor
open Go.RowKit Go.Shelf
attribute [local go_sem] Oper.semAt_some

theorem yield_eql (w : World) (f : Fn) (a c : Array Value) : (binOp .eql 123 (.func f a c) .nilFunc).run Tryd.prog w = .ok (.bool false) w := by
  have h : ∀ d : Nat, (Op.equalIn (d + 1) 123 (.func f a c) .nilFunc).run Tryd.prog w = .ok false w := fun d => by
    simp [Op.equalIn, run_underlying Tryd.underlying123]
  simp only [binOp]
  simp [Op.equal, Op.maxDepth, h 9999]
theorem frm_of_below {w w' : World} (h : Below w.heap.size w w') : Frm (fun _ => False) w w' := ⟨h.os, h.tape, h.output, h.size, fun k hk _ => h.block k hk⟩
theorem OwnL.isCells {w : World} {v : Value} {l : List SibI} (h : OwnL w v l) : ∀ k o, v.ownBlock = some k → w.heap[k]? = some o → o.isCells = true := fun k o hk ho => by
  obtain ⟨o', ho', hc⟩ := Row.isC h k hk
  rw [ho'] at ho; cases ho; exact hc

/-- An append whose run is known. -/
theorem wplIn_append {F : Fence} {n : Nat} {P : Program} {w : World} {ops : Array Oper} {rest : List Oper} {o : Oper} {a : Act} {Q : Exit → Act → World → Prop} (hg : o.guard = none) (s x : Operand) (t tn : TypeId)
    (ho : o.op = .call { callee := .builtin .append, args := #[s, x], argTypes := #[t, tn] }) (vs vx : Value) (hs : a.eval s = vs) (hx : a.eval x = vx) (v' : Value) (w' : World) (hr : (Builtin.append_ #[t, tn] o.type #[vs, vx]).run P w = .ok v' w')
    (h : wpListIn F n P ops Q rest (a.put o.dst v') w') : wpListIn F n P ops Q (o :: rest) a w := by
  refine wpListIn_plain hg fun K' hK' => ?_
  unfold Oper.wpIn
  refine ⟨by simp [Oper.about, ho, resolve, Target.leads, Sem.run_pure], ?_⟩
  rw [Oper.semAt_plain F _ _ (by rw [ho]; intro c hc'; cases hc')]
  simp [execOp, ho, resolve, invoke, builtin, hs, hx, hr, Result.andThen]
  exact hK' _ _ h

/-- What a round leaves as it lay. -/
def keptS (K : Nat → Prop) (W W' : World) : Prop := ∀ k, K k → W'.heap[k]? = W.heap[k]?
theorem keptS.trans {K : Nat → Prop} {A B C : World} (h : keptS K A B) (k : keptS K B C) : keptS K A C := fun q hq => (k q hq).trans (h q hq)
theorem keptS.put {K : Nat → Prop} {w : World} (hn : ∀ k, K k → k < w.heap.size) (W : World) (l : Nat) (o o' : Obj) (hl : w.heap.size ≤ l) (_ : W.heap[l]? = some o) (_ : o.isCells = false) (_ : o.isWalk = false) : keptS K W (W.putObj l o') :=
  fun q hq => World.putObj_heap_other (by have := hn q hq; omega)
/-- What is handed to a round. -/
abbrev sEnc (x : SibI) : Array Value := #[.agg (dv x.r x.n), .string (bs x.s)]
theorem SL.keepK {K : Nat → Prop} {w w' : World} {v : Value} {l : List SibI} (h : SL w v l) (hk : keptS K w w') (hv : ∀ g, blkOf v = some g → K g) : SL w' v l := by
  obtain ⟨h1, a, cap, rfl, h2, h3, h4⟩ := h
  refine ⟨h1, a, cap, rfl, h2, h3, ?_⟩
  rcases h4 with h4 | ⟨g, off, rfl, h5, h6⟩
  · exact .inl h4
  · have e := hk g (hv g rfl)
    refine .inr ⟨g, off, rfl, ?_, fun j hj => (World.cell?_of_block (a := ⟨g, off + j, none⟩) e).trans (h6 j hj)⟩
    obtain ⟨o, ho⟩ : ∃ o, w.heap[g]? = some o := ⟨_, Array.getElem?_eq_getElem h5⟩
    rw [ho] at e
    exact (Array.getElem?_eq_some_iff.1 e).1

end Go.Proofs.YtiokabhidjafeaaDoor
end
section
namespace Go.Proofs.YtiokabhidjafeaaDoor
open Go.RowKit Go.Shelf
attribute [local go_sem] Oper.semAt_some

/-- What lies between two rounds. -/
structure ThI (w : World) (n1 : Nat) (c : Value) (p : SibI → Bool) (pre : List SibI) (W : World) : Prop where
  res : ∃ u, Blk W (w.heap.size + 1 + 1) 25 #[u] ∧ OwnL W u (pre.filter p) ∧ ∀ g, u.ownBlock = some g → n1 ≤ g
  fn : Blk W (w.heap.size + 1) 102 #[c]
  frm : Frm (fun _ => False) w W
  size : n1 ≤ W.heap.size
theorem ThI.own (w : World) (n1 : Nat) (c : Value) (p : SibI → Bool) (B : Nat) (hB : w.heap.size ≤ B) : OwnFrom B (ThI w n1 c p) := fun _ _ _ _ h hg hr => by
  have hr2 := fun r e => (hr r e).2
  obtain ⟨u, h1, h2, h3⟩ := h.res
  exact ⟨⟨u, h1.turned hg hr2, Row.turned h2 hg hr2, h3⟩, h.fn.turned hg hr2, h.frm.turned hB hg hr, Nat.le_trans h.size hg.size⟩

end Go.Proofs.YtiokabhidjafeaaDoor
end
section
namespace Go.Proofs.YtiokabhidjafeaaDoor
open Go.RowKit

section
variable {P : Program} {ops : Array Oper} {Q : Exit → Act → World → Prop} {S : World → Prop} {F : Act → Prop}

/-- What has come up came behind all for which it waits. -/
def Closed (md : Region.Mode) (ops : Array Oper) (listed : Array Bool) : Prop :=
  ∀ i, listed.getD i false = true → ∀ o, ops[i]? = some o → ∀ e ∈ o.after, Region.binds md e = true → listed.getD e.on false = true

theorem getD_set_true {listed : Array Bool} {i j : Nat} (h : listed.getD j false = true) : (listed.setIfInBounds i true).getD j false = true := by
  by_cases e : i = j
  · subst e
    rcases Nat.lt_or_ge i listed.size with h' | h'
    · simp [h']
    · simp [Array.getElem?_eq_none h'] at h
  · rw [getD_set_ne false e]; exact h

theorem Closed.set {md : Region.Mode} {listed : Array Bool} {j : Nat} (hc : Closed md ops listed) (hj : ∀ o, ops[j]? = some o → ∀ e ∈ o.after, Region.binds md e = true → listed.getD e.on false = true) : Closed md ops (listed.setIfInBounds j true) := by
  intro i hi o ho e he hb
  by_cases hij : j = i
  · subst hij; exact getD_set_true (hj o ho e he hb)
  · rw [getD_set_ne false hij] at hi
    exact getD_set_true (hc i hi o ho e he hb)

theorem Closed.start (md : Region.Mode) (n : Nat) : Closed md ops (Array.replicate n false) := by
  intro i hi
  rcases Nat.lt_or_ge i n with h | h
  · simp [h] at hi
  · simp [Nat.not_lt.2 h] at hi

end
end Go.Proofs.YtiokabhidjafeaaDoor
end
