/- The statements' own registers by their dots, and whether registers are the same. No condition. -/
import Derived.Test.YtmdmkcofafhlcaaRing
import Derived.Test.YtmdmkcofafhlcaaSwB
namespace Go.Proofs.Ytmdmkcofafhlcaa
open Go.RowKit

section
variable {ops : Array Oper} {Q : Exit → Act → World → Prop} {r m : Nat} {a : Act} {w W : World}
end
set_option maxRecDepth 100000 in
set_option maxHeartbeats 2000000 in
theorem equal_any (f g : Nat → Nat) (v1 v2 : Value) (l m : List SibI) (w : World) (h1 : SL w v1 l) (h2 : SL w v2 m) :
    Calls Try.prog 43 #[rg f v1, rg g v2] w fun e w' => e = .returned (.bool (eq8 f g && decide (l = m))) ∧ Frm (fun _ => False) w w' := by
  obtain ⟨a, cap, rfl, _, _⟩ := h1.slice
  obtain ⟨b, capb, rfl, _, _⟩ := h2.slice
  have g0 : Frm (fun _ => False) w ((w.alloc (.cells (rgc f (.slice a l.length cap)) 39)).alloc (.cells (rgc g (.slice b m.length capb)) 39)) := ((Frm.refl _ w).alloc _).alloc _
  have b0 : Blk ((w.alloc (.cells (rgc f (.slice a l.length cap)) 39)).alloc (.cells (rgc g (.slice b m.length capb)) 39)) w.heap.size 39 (rgc f (.slice a l.length cap)) := (Blk.alloc w _ _).old _
  have b1 : Blk ((w.alloc (.cells (rgc f (.slice a l.length cap)) 39)).alloc (.cells (rgc g (.slice b m.length capb)) 39)) (w.heap.size + 1) 39 (rgc g (.slice b m.length capb)) := Blk.at1 w _ _ _
  have h1' := h1.keepF g0
  have h2' := h2.keepF g0
  go_enter Try.func43, Try.ntmps43
  go_upto_region 1 with fail
  generalize (w.alloc (.cells (rgc f (.slice a l.length cap)) 39)).alloc (.cells (rgc g (.slice b m.length capb)) 39) = w0 at *
  have HI := Lib.hid (is_any f g _ _ l m w0 h1' h2')
  have l0 := load_reg b0
  have l1 := load_ctx b1
  have c8 := b1.cell 8 rfl
  have a3 := Try.isAgg37
  have z3 := Try.sizeOf37
  clear h1' h2' h1 h2
  go_wp2_with (first | ((with_reducible refine wpl_load rfl _ rfl ?_ l0 ?_); (focus rfl)) | ((with_reducible refine wpl_load rfl _ rfl ?_ l1 ?_); (focus rfl)))
  refine HI.out.mono ?_
  rintro e w1 ⟨rfl, g1⟩
  go_wp2_with fail
  go_ret
  exact ⟨rfl, g0.trans g1⟩

end Go.Proofs.Ytmdmkcofafhlcaa

