/- LineKnown: the chapter's examples hold; lines that are none. No condition. -/
import Derived.Test.YtdhngbfigklaoaaLnF
namespace Go.Proofs.Ytdhngbfigklaoaa
open Go.RowKit Go.Shelf

theorem neq_ptr (t : TypeId) (w : World) (a b : Option Addr) (q : Bool) (h : (binOp .eql t (.pointer a) (.pointer b)).run Try.prog w = .ok (.bool q) w) : (binOp .neq t (.pointer a) (.pointer b)).run Try.prog w = .ok (.bool !q) w := by
  simp only [binOp] at h ⊢
  cases hx : (Op.equal t (.pointer a) (.pointer b)).run Try.prog w with
  | ok v w' =>
    rw [Sem.run_bind, hx] at h ⊢
    simp only [Result.andThen_ok, Sem.run_pure] at h ⊢
    cases h
    rfl
  | _ => rw [Sem.run_bind, hx] at h; cases h
end Go.Proofs.Ytdhngbfigklaoaa

