/- What Write answers of an empty register: for the statements' own works (its walk's beginning lies in wip/SibW.part.txt). -/
import Derived.Test.YtmdmkcofafhlcaaSibV
namespace Go.Proofs.Ytmdmkcofafhlcaa
open Go.RowKit

theorem next_a : nextS8 (fun _ => 0) 0 = (f1, (0, 1), 0) := by
  have h := (nextS8_ok (f := fun _ => 0) (r := 0) (by decide)).2.2
  have hm : mx (fun _ => 0) 8 = 0 := by decide
  rw [h, hm]
  refine Prod.ext (funext fun k => ?_) rfl
  simp only [upd8, f1]
theorem drop_a : dropS (fun _ => 0) [] 0 [] = (f1, [], (0, 1), 0) := by
  have hok : okR (fun _ => 0) [] = true := by decide
  unfold dropS
  rw [hok, next_a]
  rfl
theorem write_a : writeS (fun _ => 0) [] 0 [] [97] = (f1, [sA], (0, 1), 0) := by
  unfold writeS
  rw [drop_a]
  rfl

theorem swrite_a (w : World) : Calls Try.prog 18 #[.agg rz, .int .u8 0, .slice none 0 0, .string ⟨#[97]⟩] w (RegTo (f1, [sA], (0, 1), 0) w) := by
  rw [← write_a]
  exact swrite_any (fun _ => 0) (.slice none 0 0) [] 0 (.slice none 0 0) [] [97] w (fun k _ => Nat.zero_lt_succ _) (OwnL.nil_ w).sl (by decide) (by decide) (Sl.ofRow (Row.nil_ w 2)) (by decide)
end Go.Proofs.Ytmdmkcofafhlcaa

