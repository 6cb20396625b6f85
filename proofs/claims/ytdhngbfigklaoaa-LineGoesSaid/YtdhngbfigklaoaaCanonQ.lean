/- As Canon, with a quick look at which function an operation calls. Of no program. No condition. -/
import Derived.Test.YtdhngbfigklaoaaCanon
import Derived.Deep.RegionHeld
import Derived.Deep.RegionHeld3
namespace Go.Proofs.Ytdhngbfigklaoaa
open Go.RowKit

/-- The function of the program that an operation calls, if it is written there. -/
def callF (o : Oper) : Option FuncId :=
  match o.op with
  | .call c => (match c.callee with
    | .value (.func f) => some f
    | _ => none)
  | _ => none
/-- The same by a contract that holds in the worlds that meet S. -/
theorem CanonL.callS {P : Program} {ops : Array Oper} {S : World → Prop} {F : Act → Prop} {os : List Oper} {a : Act} {o : Oper} {v : Value} {f : FuncId} {args : Array Value} {T : World → World → Prop} (_ : callF o = some f) (hw : Region.wanted o (yielded ops a.tmps) = true)
    (h : ∀ w, (execOp a.eval o).run P w = .ok (.enter f args) w) (hcall : ∀ w, S w → Calls P f args w fun e w' => e = .returned v ∧ T w w') (hST : ∀ w w', S w → T w w' → S w')
    (hK : CanonL P ops S F os (a.put o.dst v)) : CanonL P ops S F (o :: os) a := CanonL.call hw h (fun w hS => (hcall w hS).mono fun _ w' he => ⟨he.1, hST w w' hS he.2⟩) hK
/-- A load whose run is known in every world that meets S. -/
theorem CanonL.load {P : Program} {ops : Array Oper} {S : World → Prop} {F : Act → Prop} {os : List Oper} {a : Act} {o : Oper} {p v : Value} {t : TypeId} (hw : Region.wanted o (yielded ops a.tmps) = true) (x : Operand) (ho : o.op = .load t x) (hx : a.eval x = p)
    (h : ∀ w, S w → (Instr.loadAt t p).run P w = .ok v w) (hK : CanonL P ops S F os (a.put o.dst v)) : CanonL P ops S F (o :: os) a :=
  CanonL.val hw (fun w hs => by
    unfold execOp
    simp only [ho, hx, Sem.run_bind, h w hs, Result.andThen_ok, Sem.run_pure]) hK
end Go.Proofs.Ytdhngbfigklaoaa

