/- HashBuckets: what the law's call answers. No condition. -/
import Derived.Test.YtmdnacboenehkaaHashW
namespace Go.Proofs.Ytmdnacboenehkaa
open Go.RowKit

set_option maxRecDepth 100000 in
set_option maxHeartbeats 1000000 in
theorem hashBuckets_any (l : List UInt8) (w : World) (hl : l.length ≤ 9223372036854775807) :
    Calls Try.prog 3 #[.string (bs l)] w fun e w' => e = .returned (.bool true) ∧ Frm (fun _ => False) w w' := by
  by_cases h7 : l.length ≤ 10000
  · have hsz : ((bs l).size : Int) ≤ 10000 := by rw [bs_size]; omega
    have hb := bk_lt l
    have hq : ((bk l : Int) == (bk l : Int)) = true := beq_self_eq_true _
    go_enter Try.func3, Try.ntmps3
    go_wp2_with fail
    refine (bucket_any l _ hl).mono ?_
    rintro e w1 ⟨rfl, hn⟩
    have f1 : Frm (fun _ => False) w w1 := Frm.ofDrew hn
    clear hn
    go_wp2_with fail
    refine (rbucket_any l _ hl).mono ?_
    rintro e w2 ⟨rfl, f2⟩
    go_wp2_with fail
    refine (awake_any _).mono ?_
    rintro e w3 ⟨rfl, f3⟩
    go_wp2_with fail
    go_ret
    exact ⟨rfl, (f1.trans f2).trans f3⟩
  · have hsz : (10000 : Int) < ((bs l).size : Int) := by rw [bs_size]; omega
    go_enter Try.func3, Try.ntmps3
    go_wp2_with fail
    refine (awake_any _).mono ?_
    rintro e w3 ⟨rfl, f3⟩
    go_wp2_with fail
    go_ret
    exact ⟨rfl, f3⟩
end Go.Proofs.Ytmdnacboenehkaa
