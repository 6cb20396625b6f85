/- The law's own small call: some of the chapter's answers. No condition. -/
import Derived.Test.YtcmchhakkeoklaaSumA
namespace Go.Proofs.Ytcmchhakkeoklaa
open Go.RowKit

set_option maxRecDepth 100000 in
set_option maxHeartbeats 1000000 in
theorem works_any (w : World) :
    Calls Try.prog 9 #[] w fun e w' => e = .returned (.bool true) ∧ Frm (fun _ => False) w w' := by
  go_enter Try.func9, Try.ntmps9
  go_wp2_with fail
  refine (sum_any [97, 98, 99] _ (by decide)).mono ?_
  rintro e w1 ⟨rfl, g1⟩
  have e1 : num (sm [97, 98, 99]) = 38600999 := by decide
  rw [e1]
  clear e1
  go_wp2_with fail
  refine (update_any 38600999 [100] _ (by decide) (by decide)).mono ?_
  rintro e w2 ⟨rfl, g2⟩
  have e1 : num (upd (rdn 38600999) [100]) = 64487819 := by decide
  rw [e1]
  clear e1
  go_wp2_with fail
  refine (sum_any [100] _ (by decide)).mono ?_
  rintro e w3 ⟨rfl, g3⟩
  go_wp2_with fail
  refine (join_nat 38600999 (num (sm [100])) 1 _ (by decide) (by decide) (by decide)).mono ?_
  rintro e w4 ⟨rfl, g4⟩
  have e1 : num (jn (rdn 38600999) (rdn (num (sm [100]))) 1) = 64487819 := by decide
  rw [e1]
  clear e1
  go_wp2_with fail
  go_ret
  exact ⟨rfl, ((g1.trans g2).trans g3).trans g4⟩
end Go.Proofs.Ytcmchhakkeoklaa
