/- CodecReads: what any bytes are read as, in any order, is the document's. No condition. -/
import Derived.Test.YtalalekbeabhiaaRefO
import Derived.Test.YtalalekbeabhiaaAsks
import Derived.Deep.RegionWith
namespace Go.Proofs.Ytalalekbeabhiaa
open Go.RowKit

set_option maxRecDepth 100000 in
set_option maxHeartbeats 2000000 in
theorem codecReads_main (v : Value) (L : List Ask) (s : List UInt8) (w : World) (h : As w v L) (hs : s.length ≤ 6000) (hL : L.length ≤ 100) :
    Calls Try.prog 4 #[.string (bs s), v] w fun e w' => e = .returned (.bool true) ∧ Frm (fun _ => False) w w' := by
  have hsz : (bs s).size ≤ 6000 := hs
  have h0 := h
  obtain ⟨a, cap, rfl, h1, h2, h3⟩ := h0
  clear h3
  unfold maxLen at h2
  go_enter Try.func4, Try.ntmps4
  go_wp2_with fail
  refine (read_any s w (by omega)).mono ?_
  rintro e w0 ⟨rfl, r0, f0⟩
  have hbr : w.heap.size < w0.heap.size := r0.lt
  generalize hbre : w.heap.size = br at r0 hbr ⊢
  have Hbre := Lib.hid hbre
  clear hbre
  go_wp2_with fail
  have hq0 : Rq (w0.alloc (.cells #[.string (bs s), .int .i64 0, .int .i64 0] 39)) w0.heap.size s s 0 := ⟨0, Blk.alloc w0 _ _, by omega, by omega, by omega, fun _ => rfl, fun h => absurd rfl h⟩
  have r1 := r0.keep ((Frm.refl (fun _ => False) w0).alloc (.cells #[.string (bs s), .int .i64 0, .int .i64 0] 39)) (fun h => h)
  have f1 := f0.alloc (.cells #[.string (bs s), .int .i64 0, .int .i64 0] 39)
  obtain ⟨bq, hbqe⟩ : ∃ bq, w0.heap.size = bq := ⟨_, rfl⟩
  rw [hbqe] at hq0 hbr ⊢
  have Hbqe := Lib.hid hbqe
  clear hbqe
  go_loopw [7] (fun i wr => ∃ k : Nat, k ≤ L.length ∧ i = .int .i64 k ∧ (∃ l e, Rd wr br l e ∧ Rq wr bq s l e) ∧ Frm (fun _ => False) w wr) (fun i _ => L.length - (intOf i).toNat)
  case atStart => exact ⟨0, Nat.zero_le _, rfl, ⟨s, 0, r1, hq0⟩, f1⟩
  case round =>
    obtain ⟨k, hk, rfl, ⟨l, e, r2, q2⟩, f2⟩ := hrel
    by_cases hlt : k < L.length
    · have hit := h.keep f2 (fun _ _ h => h)
      obtain ⟨a', cap', e', _, _, hcells⟩ := hit
      cases e'
      obtain ⟨b, off, rfl, hb, c0, c1, b1, b2, b3⟩ := hcells k hlt
      clear hcells
      have r2d := r2.keep ((Frm.refl (fun _ => False) wr).drew) (fun h => h)
      have q2d := q2.keep ((Frm.refl (fun _ => False) wr).drew) (fun h => h)
      go_wp2_with fail
      have hne : br ≠ bq := by omega
      go_region_with (first
        | (go_at_call 13; refine (one_any br bq s l e _ _ _ r2d q2d hne b1 b2 b3).mono ?_; rintro ee W1 ⟨rfl, l3, e3, r3, q3, g1⟩; have c2 := q3.c2; have hee : ((e3 : Int) != e3) = false := bne_self_eq_false _; have hyy : ((bs l3).toList == (bs l3).toList) = true := beq_self_eq_true _; have hen : ((endS l3 e3 : Int) != (endS l3 e3 : Int)) = false := bne_self_eq_false _)
        | (go_at_call 14; refine (err_any br l3 e3 _ r3).mono ?_; rintro ee W9 ⟨rfl, rfl⟩)
        | (go_at_call 15; refine (rest_any br l3 e3 _ r3).mono ?_; rintro ee W9 ⟨rfl, rfl⟩)
        | (go_at_call 16; refine (q_rest bq s l3 e3 _ q3).mono ?_; rintro ee W2 ⟨rfl, g2⟩; have r4 := r3.keep g2 (fun h => h); have q4 := q3.keep g2 (fun h => h))
        | (go_at_call 17; refine (end_any br l3 e3 _ r4).mono ?_; rintro ee W9 ⟨rfl, rfl⟩)
        | (go_at_call 18; refine (q_end bq s l3 e3 _ q4).mono ?_; rintro ee W3 ⟨rfl, g3⟩))
      all_goals go_wp2
      all_goals go_roundw
      all_goals first
        | (simp [intOf]; omega)
        | exact ⟨k + 1, by omega, by go_num, ⟨l3, e3, r4.keep g3 (fun h => h), q4.keep g3 (fun h => h)⟩, ((f2.drew.next g1 (fun j hj e => by have := Hbre.out; have := Hbqe.out; rcases e with e | e <;> omega)).trans g2).trans g3⟩
        | (repeat apply Exists.intro)
          exact ⟨⟨k + 1, by omega, by go_num, ⟨l3, e3, r4.keep g3 (fun h => h), q4.keep g3 (fun h => h)⟩, ((f2.drew.next g1 (fun j hj e => by have := Hbre.out; have := Hbqe.out; rcases e with e | e <;> omega)).trans g2).trans g3⟩, rfl⟩
    · obtain rfl : k = L.length := by omega
      go_wp2_with fail
      refine (awake_any _).mono ?_
      rintro e w2 ⟨rfl, g⟩
      go_wp2_with fail
      go_ret
      exact ⟨rfl, f2.trans g⟩

set_option maxRecDepth 100000 in
set_option maxHeartbeats 1000000 in
theorem codecReads_any (v : Value) (L : List Ask) (s : List UInt8) (w : World) (h : As w v L) (hs : s.length ≤ 9223372036854775807) :
    Calls Try.prog 4 #[.string (bs s), v] w fun e w' => e = .returned (.bool true) ∧ Frm (fun _ => False) w w' := by
  have hsz9 : (bs s).size ≤ 9223372036854775807 := hs
  by_cases h6 : s.length ≤ 6000
  · by_cases h1 : L.length ≤ 100
    · exact codecReads_main v L s w h h6 h1
    · have hsz : (bs s).size ≤ 6000 := h6
      obtain ⟨a, cap, rfl, _, _, _⟩ := id h
      go_enter Try.func4, Try.ntmps4
      go_wp2_with fail
      refine (awake_any _).mono ?_
      rintro e w1 ⟨rfl, g⟩
      go_wp2_with fail
      go_ret
      exact ⟨rfl, g⟩
  · have hsz : 6000 < (bs s).size := by rw [bs_size]; omega
    obtain ⟨a, cap, rfl, _, _, _⟩ := id h
    go_enter Try.func4, Try.ntmps4
    go_wp2_with fail
    refine (awake_any _).mono ?_
    rintro e w1 ⟨rfl, g⟩
    go_wp2_with fail
    go_ret
    exact ⟨rfl, g⟩
end Go.Proofs.Ytalalekbeabhiaa
