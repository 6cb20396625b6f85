/- SumKnown: the chapter's examples hold. No condition. -/
import Derived.Test.YtcmchhakkeoklaaSumW
import Derived.Test.YtcmchhakkeoklaaShelf
namespace Go.Proofs.Ytcmchhakkeoklaa
open Go.RowKit
theorem Frm.ofBelow0 {w w' : World} (h : Below w.heap.size w w') : Frm (fun _ => False) w w' := (Frm.ofBelow h).mono fun k hk hge => by omega

set_option maxRecDepth 100000 in
set_option maxHeartbeats 2000000 in
theorem sumKnown_any (w : World) :
    Calls Try.prog 8 #[] w fun e w' => e = .returned (.bool true) ∧ Frm (fun _ => False) w w' := by
  go_enter Try.func8, Try.ntmps8
  go_wp2_with fail
  refine (works_any _).mono ?_
  rintro e w1 ⟨rfl, g1⟩
  go_wp2_with fail
  refine (sum_any [] _ (by decide)).mono ?_
  rintro e w2 ⟨rfl, g2⟩
  have e1 : num (sm []) = 1 := by decide
  rw [e1]
  clear e1
  go_wp2_with fail
  refine (sum_any [0] _ (by decide)).mono ?_
  rintro e w3 ⟨rfl, g3⟩
  have e1 : num (sm [0]) = 65537 := by decide
  rw [e1]
  clear e1
  go_wp2_with fail
  refine (sum_any [87, 105, 107, 105, 112, 101, 100, 105, 97] _ (by decide)).mono ?_
  rintro e w4 ⟨rfl, g4⟩
  have e1 : num (sm [87, 105, 107, 105, 112, 101, 100, 105, 97]) = 300286872 := by decide
  rw [e1]
  clear e1
  go_wp2_with fail
  refine (update_any 4294967295 [] _ (by decide) (by decide)).mono ?_
  rintro e w5 ⟨rfl, g5⟩
  have e1 : num (upd (rdn 4294967295) []) = 0 := by decide
  rw [e1]
  clear e1
  go_wp2_with fail
  refine (join_any 0 0 (-5) _ (by decide) (by decide) (by decide)).mono ?_
  rintro e w6 ⟨rfl, g6⟩
  have e1 : num (jn (rdn 0) (rdn 0) (-5 : Int).toNat) = 65534 := by decide
  rw [e1]
  clear e1
  go_wp2_with fail
  refine (Try.strings_Repeat ⟨#[255]⟩ 257 _ (by decide) (by decide)).mono ?_
  rintro e w7 ⟨rfl, b7⟩
  have g7 := Frm.ofBelow0 b7
  clear b7
  have hr : (⟨(Lib.repeatL (⟨#[255]⟩ : ByteArray).data.toList 257).toArray⟩ : ByteArray) = bs (Lib.repeatL [255] 257) := rfl
  rw [hr]
  clear hr
  have hlen : (Lib.repeatL ([255] : List UInt8) 257).length = 257 := by kernel_rfl
  have e1 : num (sm (Lib.repeatL [255] 257)) = 16842753 := by kernel_rfl
  have Hlen := Lib.hid hlen
  have E1 := Lib.hid e1
  clear hlen e1
  obtain ⟨R, hR⟩ : ∃ R, Lib.repeatL ([255] : List UInt8) 257 = R := ⟨_, rfl⟩
  rw [hR] at Hlen E1 ⊢
  clear hR
  go_wp2_with fail
  refine (sum_any R _ (by rw [Hlen.out]; decide)).mono ?_
  rintro e w8 ⟨rfl, g8⟩
  rw [E1.out]
  go_wp2_with fail
  go_ret
  exact ⟨rfl, ((((((g1.trans g2).trans g3).trans g4).trans g5).trans g6).trans g7).trans g8⟩
end Go.Proofs.Ytcmchhakkeoklaa
