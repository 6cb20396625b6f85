/- What Bucket answers, the program's and the document's. No condition. -/
import Derived.Test.YtjodkgbpbibfbaaHashM
import Derived.Test.YtjodkgbpbibfbaaHashS
import Derived.Lib.Strings
import Derived.RegionTactic
import Derived.Deep.QuietTactic
import Derived.BigQuiet
import Derived.IntWalk
namespace Go.Proofs.Ytjodkgbpbibfbaa
open Go.RowKit
theorem ret_int {k : IntKind} {a b : Int} (h : a = b) : Ending.returned (.int k a) = .returned (.int k b) := by rw [h]
theorem ret_bool {a b : Bool} (h : a = b) : Ending.returned (.bool a) = .returned (.bool b) := by rw [h]
theorem val_int {k : IntKind} {a b : Int} (h : a = b) : Value.int k a = Value.int k b := by rw [h]
theorem drewN_more {w w1 : World} (h : ∃ m, w1 = w.drewN m) (n : Nat) : ∃ m, w1.drewN n = w.drewN m := by
  obtain ⟨m, rfl⟩ := h
  exact ⟨m + n, by rw [World.drewN_drewN]⟩
theorem drewN_one (w : World) : w.drew = w.drewN 1 := rfl

set_option maxHeartbeats 400000 in
theorem weight_any (i : Nat) (w : World) (hi : (i : Int) ≤ 9223372036854775807) :
    Calls Try.prog 75 #[.int .i64 i] w fun e w' => e = .returned (.int .u8 (wt i : Nat)) ∧ w' = w := by
  have h7 : (i : Int) % 7 < 7 := Int.emod_lt_of_pos _ (by decide)
  have h0 : (0 : Int) ≤ (i : Int) % 7 := Int.emod_nonneg _ (by decide)
  go_enter Try.func75, Try.ntmps75
  go_wp2
  go_ret
  exact ⟨ret_int (by unfold wt; omega), rfl⟩

set_option maxRecDepth 100000 in
set_option maxHeartbeats 1000000 in
theorem bucket_any (l : List UInt8) (w : World) (hl : l.length ≤ 9223372036854775807) :
    Calls Try.prog 61 #[.string (bs l)] w fun e w' => e = .returned (.int .u8 (bk l : Nat)) ∧ ∃ n, w' = w.drewN n := by
  have hsz : (bs l).size = l.length := rfl
  have Hsz := Lib.hid hsz
  have hl' : (bs l).size ≤ 9223372036854775807 := hl
  clear hsz
  go_enter Try.func61, Try.ntmps61
  go_wp2
  go_loopw [3, 10] (fun n i wr => ∃ k : Nat, k ≤ l.length ∧ i = .int .i64 k ∧ n = .int .u8 (bacc l k % 256 : Nat) ∧ ∃ m, wr = w.drewN m) (fun _ i _ => l.length - (intOf i).toNat)
  case atStart => exact ⟨0, Nat.zero_le _, rfl, by show Value.int _ _ = Value.int _ _; congr 1, 0, rfl⟩
  case round =>
    obtain ⟨k, hk, rfl, rfl, hm⟩ := hrel
    have Hm := Lib.hid hm
    clear hm
    by_cases hlt : k < l.length
    · have hlt' : k < (bs l).size := hlt
      have hw := wt_le k
      have hc : ((bs l)[k]'hlt').toNat < 256 := UInt8.toNat_lt _
      have hs : bacc l (k + 1) = bacc l k + ((bs l)[k]'hlt').toNat * wt k := bacc_succ l k hlt
      have Hs := Lib.hid hs
      clear hs
      generalize hX : ((bs l)[k]'hlt').toNat = c at *
      generalize hY : bacc l k = b at *
      go_wp2
      go_quiet ((go_at_call 75; exact Calls.quiet_of_same (weight_any k _ (by omega))))
      go_wp2
      go_roundw
      case rel => exact ⟨k + 1, by omega, by go_num, val_int (by rw [Hs.out]; omega), drewN_more Hm.out nq⟩
      case measure => simp [intOf]; omega
    · obtain rfl : k = l.length := by omega
      have hge : (bs l).size ≤ l.length := Nat.le_refl _
      go_wp2
      go_ret
      exact ⟨ret_int (by unfold bk; omega), Hm.out⟩

/-- What a call that makes memory leaves. -/
def Made (w w' : World) : Prop := Frm (fun _ => False) w w'
/-- The weights, as the document lays them. -/
def Wts (w : World) (b : Nat) : Prop := Blk w b 3 #[.int .i64 1, .int .i64 3, .int .i64 5, .int .i64 7, .int .i64 9, .int .i64 11, .int .i64 13]
theorem Wts.at {w : World} {b : Nat} (h : Wts w b) (k : Nat) : w.cell? ⟨b, k % 7, none⟩ = some (.int .i64 (wt k : Nat)) := by
  have h7 : k % 7 < 7 := Nat.mod_lt _ (by decide)
  have e : wt k = k % 7 * 2 + 1 := rfl
  rw [e]
  generalize k % 7 = j at *
  rcases (show j = 0 ∨ j = 1 ∨ j = 2 ∨ j = 3 ∨ j = 4 ∨ j = 5 ∨ j = 6 by omega) with rfl | rfl | rfl | rfl | rfl | rfl | rfl
  · exact Blk.cell h 0 rfl
  · exact Blk.cell h 1 rfl
  · exact Blk.cell h 2 rfl
  · exact Blk.cell h 3 rfl
  · exact Blk.cell h 4 rfl
  · exact Blk.cell h 5 rfl
  · exact Blk.cell h 6 rfl

end Go.Proofs.Ytjodkgbpbibfbaa
