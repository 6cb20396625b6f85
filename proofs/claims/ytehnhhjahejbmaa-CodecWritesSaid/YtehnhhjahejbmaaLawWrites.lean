/- CodecWrites: what items are written as is the document's. No condition. -/
import Derived.Test.YtehnhhjahejbmaaRefW
import Derived.Test.YtehnhhjahejbmaaBackM
namespace Go.Proofs.Ytehnhhjahejbmaa
open Go.RowKit

set_option maxRecDepth 100000 in
set_option maxHeartbeats 1000000 in
theorem codecWrites_main (v : Value) (L : List Item) (w : World) (h : It w v L) (hfew : fewP L) :
    Calls Try.prog 3 #[v] w fun e w' => e = .returned (.bool true) ∧ Frm (fun _ => False) w w' := by
  have h0 := h
  obtain ⟨a, cap, rfl, h1, h2, h3⟩ := h0
  obtain ⟨hf1, hf2⟩ := hfew
  have Hf2 := Lib.hid hf2
  clear hf2 h3
  unfold maxLen at h2
  go_enter Try.func3, Try.ntmps3
  go_wp2_with fail
  refine (few_yes _ L _ h ⟨hf1, Hf2.out⟩).mono ?_
  rintro e w1 ⟨rfl, rfl⟩
  go_wp2_with fail
  have hw0 := Wr.zero (Blk.alloc w 28 #[.pointer none, .int .i64 0])
  have f0 := (Frm.refl (fun _ => False) w).alloc (.cells #[.pointer none, .int .i64 0] 28)
  obtain ⟨w0, he0⟩ : ∃ w0, w.alloc (.cells #[.pointer none, .int .i64 0] 28) = w0 := ⟨_, rfl⟩
  rw [he0] at hw0 f0 ⊢
  clear he0
  go_loopw [4, 5] (fun s i wr => ∃ k : Nat, k ≤ L.length ∧ s = .string (bs (encL (L.take k))) ∧ i = .int .i64 k ∧ (∃ fp, Wr wr w.heap.size (encL (L.take k)) fp ∧ ∀ j ∈ fp, w.heap.size ≤ j) ∧ Frm (fun _ => False) w wr) (fun _ i _ => L.length - (intOf i).toNat)
  case atStart => exact ⟨0, Nat.zero_le _, rfl, rfl, ⟨_, hw0, by simp⟩, f0⟩
  case round =>
    obtain ⟨k, hk, rfl, rfl, ⟨fp, hw, hfp⟩, f1⟩ := hrel
    by_cases hlt : k < L.length
    · have hit := h.keep f1 (fun _ _ h => h)
      obtain ⟨a', cap', e', _, _, hcells⟩ := hit
      cases e'
      obtain ⟨b, off, rfl, hb, c0, c1, c2, q1, q2, q3⟩ := hcells k hlt
      clear hcells
      have hs := Hf2.out k hlt
      have hlen : (encL (L.take k)).length ≤ 400 * 60 := encL_len _ 60 (fun x hx => by obtain ⟨j, hj, rfl⟩ := List.getElem_of_mem hx; rw [List.getElem_take]; exact Hf2.out j (by simp at hj; omega)) (by simp; omega)
      have hlen1 : (encL (L.take (k + 1))).length ≤ 400 * 60 := encL_len _ 60 (fun x hx => by obtain ⟨j, hj, rfl⟩ := List.getElem_of_mem hx; rw [List.getElem_take]; exact Hf2.out j (by simp at hj; omega)) (by simp; omega)
      have hsn := encL_snoc L k hlt
      have hlen2 : (encI L[k]).length ≤ 400 * 60 := by have := congrArg List.length hsn; rw [List.length_append] at this; omega
      have Hsn := Lib.hid hsn
      clear hsn
      have hz1 : (bs (encL (L.take k))).size ≤ 24000 := hlen
      have hz2 : (bs (encI L[k])).size ≤ 24000 := hlen2
      go_wp2_with fail
      refine (put_any _ _ fp L[k] wr hw q1 q2 hs (by omega)).mono ?_
      rintro e W1 ⟨rfl, fp1, hw1, g, hfp1⟩
      have f2 : Frm (fun _ => False) w W1 := f1.next g (fun k hk e => by have := hfp k e; omega)
      have hsz1 := f1.size
      have hfp2 : ∀ j ∈ fp1, w.heap.size ≤ j := fun j hj => (hfp1 j hj).elim (hfp j) (fun e => Nat.le_trans hsz1 e)
      clear g hsz1 hfp1 hw hfp f1
      rw [← Hsn.out] at hw1
      go_wp2_with fail
      refine (bytes_any _ _ fp1 W1 hw1).mono ?_
      rintro e w2 ⟨rfl, g⟩
      have f3 := f2.trans g
      have hw2 := hw1.keep g (fun _ _ h => h)
      clear g
      have hq : ((bs (encL (L.take (k + 1)))).toList == (bs (encL (L.take k)) ++ bs (encI L[k])).toList) = true := by rw [bs_append, ← Hsn.out]; exact beq_self_eq_true _
      go_wp2
      go_roundw
      case rel => exact ⟨k + 1, by omega, by rw [bs_append, ← Hsn.out], by go_num, ⟨fp1, hw2, hfp2⟩, f3⟩
      case measure => simp [intOf]; omega
    · obtain rfl : k = L.length := by omega
      go_wp2_with fail
      refine (awake_any _).mono ?_
      rintro e w2 ⟨rfl, g⟩
      go_wp2_with fail
      go_ret
      exact ⟨rfl, f1.trans g⟩

set_option maxRecDepth 100000 in
set_option maxHeartbeats 1000000 in
theorem codecWrites_any (v : Value) (L : List Item) (w : World) (h : It w v L) :
    Calls Try.prog 3 #[v] w fun e w' => e = .returned (.bool true) ∧ Frm (fun _ => False) w w' := by
  by_cases hfew : fewP L
  · exact codecWrites_main v L w h hfew
  · obtain ⟨a, cap, rfl, _, _, _⟩ := id h
    go_enter Try.func3, Try.ntmps3
    go_wp2_with fail
    refine (few_no _ L _ h hfew).mono ?_
    rintro e w1 ⟨rfl, rfl⟩
    go_wp2_with fail
    refine (awake_any _).mono ?_
    rintro e w1 ⟨rfl, g⟩
    go_wp2_with fail
    go_ret
    exact ⟨rfl, g⟩
end Go.Proofs.Ytehnhhjahejbmaa
