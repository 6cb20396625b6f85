/- As Canon, with a quick look at which function an operation calls. Of no program. No condition. -/
import Derived.Test.YtjodkgbpbibfbaaCanon
import Derived.Deep.RegionHeld
import Derived.Deep.RegionHeld3
namespace Go.Proofs.Ytjodkgbpbibfbaa
open Go.RowKit

/-- The function of the program that an operation calls, if it is written there. -/
def callF (o : Oper) : Option FuncId :=
  match o.op with
  | .call c => (match c.callee with
    | .value (.func f) => some f
    | _ => none)
  | _ => none
theorem CanonL.callQ {P : Program} {ops : Array Oper} {S : World → Prop} {F : Act → Prop} {os : List Oper} {a : Act} {o : Oper} {v : Value} {f : FuncId} {args : Array Value} {T : World → World → Prop} (_ : callF o = some f) (hw : Region.wanted o (yielded ops a.tmps) = true)
    (h : ∀ w, (execOp a.eval o).run P w = .ok (.enter f args) w) (hcall : Hid (∀ w, Calls P f args w fun e w' => e = .returned v ∧ T w w')) (hST : ∀ w w', S w → T w w' → S w')
    (hK : CanonL P ops S F os (a.put o.dst v)) : CanonL P ops S F (o :: os) a := CanonL.callT hw h hcall hST hK
/-- The same by a contract that holds in the worlds that meet S. -/
theorem CanonL.callS {P : Program} {ops : Array Oper} {S : World → Prop} {F : Act → Prop} {os : List Oper} {a : Act} {o : Oper} {v : Value} {f : FuncId} {args : Array Value} {T : World → World → Prop} (_ : callF o = some f) (hw : Region.wanted o (yielded ops a.tmps) = true)
    (h : ∀ w, (execOp a.eval o).run P w = .ok (.enter f args) w) (hcall : ∀ w, S w → Calls P f args w fun e w' => e = .returned v ∧ T w w') (hST : ∀ w w', S w → T w w' → S w')
    (hK : CanonL P ops S F os (a.put o.dst v)) : CanonL P ops S F (o :: os) a := CanonL.call hw h (fun w hS => (hcall w hS).mono fun _ w' he => ⟨he.1, hST w w' hS he.2⟩) hK
/-- A load whose run is known in every world that meets S. -/
theorem CanonL.load {P : Program} {ops : Array Oper} {S : World → Prop} {F : Act → Prop} {os : List Oper} {a : Act} {o : Oper} {p v : Value} {t : TypeId} (hw : Region.wanted o (yielded ops a.tmps) = true) (x : Operand) (ho : o.op = .load t x) (hx : a.eval x = p)
    (h : ∀ w, S w → (Instr.loadAt t p).run P w = .ok v w) (hK : CanonL P ops S F os (a.put o.dst v)) : CanonL P ops S F (o :: os) a :=
  CanonL.val hw (fun w hs => by
    unfold execOp
    simp only [ho, hx, Sem.run_bind, h w hs, Result.andThen_ok, Sem.run_pure]) hK
/-- The same, at the list of a plain region's operations. -/
theorem wpl_load {P : Program} {ops : Array Oper} {rest : List Oper} {Q : Exit → Act → World → Prop} {o : Oper} {a : Act} {w : World} {p v : Value} {t : TypeId} (hg : o.guard = none) (x : Operand) (ho : o.op = .load t x) (hx : a.eval x = p)
    (h : (Instr.loadAt t p).run P w = .ok v w) (hK : wpList P ops Q rest (a.put o.dst v) w) : wpList P ops Q (o :: rest) a w :=
  wpList_plain hg fun _ hK' => by
    unfold Oper.wp execOp
    simp only [ho, hx, Sem.run_bind, h, Result.andThen_ok, Sem.run_pure]
    exact hK' _ _ hK
/-- The same, to be taken first. -/
theorem yieldsIf_load {P : Program} {ops : Array Oper} {S : World → Prop} {a : Act} {o : Oper} {p v : Value} {t : TypeId} (hw : Region.wanted o (yielded ops a.tmps) = true) (x : Operand) (ho : o.op = .load t x) (hx : a.eval x = p)
    (h : ∀ w, S w → (Instr.loadAt t p).run P w = .ok v w) : YieldsIf P ops S o v a :=
  .inl ⟨hw, fun w hs => by
    unfold execOp
    simp only [ho, hx, Sem.run_bind, h w hs, Result.andThen_ok, Sem.run_pure]⟩
/-- An append whose run is known, as an operation of a region. -/
theorem append_step {P : Program} {ops : Array Oper} {i : Nat} {o : Oper} {a : Act} {w : World} {K : Act → World → Prop} {Q : Exit → Act → World → Prop}
    (hi : ops[i]? = some o) (hg : o.guard = none) (s x : Operand) (t tx : TypeId) (hop : o.op = Op.call { callee := Callee.builtin Builtin.append, args := #[s, x], argTypes := #[t, tx] })
    (vs vx : Value) (hs : a.eval s = vs) (hx : a.eval x = vx) (v' : Value) (w' : World) (hr : (Builtin.append_ #[t, tx] o.type #[vs, vx]).run P w = .ok v' w') (hK : K (a.put o.dst v') w') : wpOp P ops Q i K a w := by
  unfold wpOp
  simp only [hi]
  rw [if_pos (by unfold Region.wanted; rw [hg])]
  refine .inl ?_
  unfold Oper.wp
  simp [execOp, hop, resolve, invoke, builtin, hs, hx, hr, Result.andThen]
  exact hK
end Go.Proofs.Ytjodkgbpbibfbaa
