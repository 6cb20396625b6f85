/- What the document's own TakeDot answers: the same. Of any reader. No condition but the reader's own. -/
import Derived.Test.YtmohegglclgcbaaVecK
namespace Go.Proofs.Ytmohegglclgcbaa
open Go.RowKit

/-- A store of a whole dot, in a region that asks for its order, under an S that it keeps. -/
theorem CanonL.storeD {ops : Array Oper} {S : World → Prop} {F : Act → Prop} {os : List Oper} {a : Act} {o : Oper} (hw : Region.wanted o (yielded ops a.tmps) = true) (x y : Operand) (ho : o.op = .store 27 x y)
    (b r n : Nat) (hx : a.eval x = .pointer (some ⟨b, 0, none⟩)) (hy : a.eval y = .agg (dv r n)) (hS : ∀ w, S w → ∃ old, Blk w b 27 old ∧ old.size = 2)
    (hS2 : ∀ w w', S w → Blk w' b 27 (dv r n) → Frm (· = b) w w' → S w') (hK : CanonL Try.prog ops S F os (a.put o.dst undef)) : CanonL Try.prog ops S F (o :: os) a := by
  refine ⟨undef, .inl ⟨hw, fun w hs => ?_⟩, hK⟩
  obtain ⟨old, h1, h2⟩ := hS w hs
  have hr := run_storeVar_row (P := Try.prog) w b 27 27 old (dv r n) h1 (by show _ = some 2; kernel_rfl) (by rw [h2]; rfl) (by simp [Value.oneCell'])
  have hb : Blk (w.setRow b (dv r n)) b 27 (dv r n) := by
    simp only [Blk] at h1
    simp only [Blk, World.setRow, Array.getElem?_modify]
    simp [h1]
  have hfr : Frm (· = b) w (w.setRow b (dv r n)) := by
    refine ⟨rfl, rfl, rfl, by simp [World.setRow], fun k _ hk => ?_⟩
    simp only [World.setRow, Array.getElem?_modify]
    rw [if_neg (fun e => hk e.symm)]
  have hs2 := hS2 w _ hs hb hfr
  unfold execOp
  simp only [ho, hx, hy, Instr.storeAt, Instr.sureAddr, Sem.run_bind, Sem.run_pure, Result.andThen_ok, hr]
  first | exact ⟨rfl, hs2⟩ | exact hs2
theorem dz_eq : dz = dv 0 0 := rfl

end Go.Proofs.Ytmohegglclgcbaa
