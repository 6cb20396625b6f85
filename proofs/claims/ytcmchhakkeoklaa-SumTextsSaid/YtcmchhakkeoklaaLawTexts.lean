/- SumTexts, SumJoins: what the law's calls answer. No condition. -/
import Derived.Test.YtcmchhakkeoklaaSumR
import Derived.Test.YtcmchhakkeoklaaSumW
namespace Go.Proofs.Ytcmchhakkeoklaa
open Go.RowKit

set_option maxRecDepth 100000 in
set_option maxHeartbeats 1000000 in
theorem sumTexts_any (l : List UInt8) (n : Nat) (w : World) (hn : n < 4294967296) (hl : l.length ≤ 9223372036854775807) :
    Calls Try.prog 3 #[.string (bs l), .int .u32 n] w fun e w' => e = .returned (.bool true) ∧ Frm (fun _ => False) w w' := by
  have hsz9 : (bs l).size ≤ 9223372036854775807 := hl
  by_cases h7 : l.length ≤ 131072
  · have hsz : (bs l).size ≤ 131072 := h7
    have b1 := num_lt (sm_lt l)
    have b2 := num_lt (upd_lt l _ (rdn_lt n))
    have y1 : ((num (sm l) : Int) == (num (sm l) : Int)) = true := beq_self_eq_true _
    have y2 : ((num (upd (rdn n) l) : Int) == (num (upd (rdn n) l) : Int)) = true := beq_self_eq_true _
    go_enter Try.func3, Try.ntmps3
    go_wp2_with fail
    refine (sum_any l _ hl).mono ?_
    rintro e w1 ⟨rfl, g1⟩
    go_wp2_with fail
    refine (rsum_any l _ hl).mono ?_
    rintro e w9 ⟨rfl, rfl⟩
    go_wp2_with fail
    refine (update_any n l _ hn hl).mono ?_
    rintro e w2 ⟨rfl, g2⟩
    go_wp2_with fail
    refine (rupdate_any n l _ hn hl).mono ?_
    rintro e w9 ⟨rfl, rfl⟩
    go_wp2_with fail
    refine (works_any _).mono ?_
    rintro e w3 ⟨rfl, g3⟩
    go_wp2_with fail
    go_ret
    exact ⟨rfl, (g1.trans g2).trans g3⟩
  · have hsz : 131072 < (bs l).size := by rw [bs_size]; omega
    go_enter Try.func3, Try.ntmps3
    go_wp2_with fail
    refine (works_any _).mono ?_
    rintro e w3 ⟨rfl, g3⟩
    go_wp2_with fail
    go_ret
    exact ⟨rfl, g3⟩

set_option maxRecDepth 100000 in
set_option maxHeartbeats 1000000 in
theorem sumJoins_any (a b : Nat) (n : Int) (w : World) (ha : a < 4294967296) (hb : b < 4294967296) (hn : n ≤ 9223372036854775807) :
    Calls Try.prog 4 #[.int .u32 a, .int .u32 b, .int .i64 n] w fun e w' => e = .returned (.bool true) ∧ Frm (fun _ => False) w w' := by
  have b1 := num_lt (jn_lt (rdn a) (rdn b) n.toNat)
  have y1 : ((num (jn (rdn a) (rdn b) n.toNat) : Int) == (num (jn (rdn a) (rdn b) n.toNat) : Int)) = true := beq_self_eq_true _
  go_enter Try.func4, Try.ntmps4
  go_wp2_with fail
  refine (join_any a b n _ ha hb hn).mono ?_
  rintro e w1 ⟨rfl, g1⟩
  go_wp2_with fail
  refine (rjoin_any a b n _ ha hb hn).mono ?_
  rintro e w9 ⟨rfl, rfl⟩
  go_wp2_with fail
  refine (works_any _).mono ?_
  rintro e w3 ⟨rfl, g3⟩
  go_wp2_with fail
  go_ret
  exact ⟨rfl, g1.trans g3⟩
end Go.Proofs.Ytcmchhakkeoklaa
