/- CodecBack: what is written, in order, is read, in the same order, as it was; then it is the end, or just what stands behind it; a beginning of it is torn. No condition. -/
import Derived.Test.YtehnhhjahejbmaaBackM
namespace Go.Proofs.Ytehnhhjahejbmaa
open Go.RowKit

set_option maxRecDepth 100000 in
set_option maxHeartbeats 1000000 in
theorem codecBack_main (v : Value) (L : List Item) (t : List UInt8) (cut : Nat) (hcut : cut < 65536) (w : World) (h : It w v L) (hfew : fewP L) (ht : t.length ≤ 300) :
    Calls Try.prog 6 #[v, .string (bs t), .int .u16 cut] w fun e w' => e = .returned (.bool true) ∧ Frm (fun _ => False) w w' := by
  have hsz : (bs t).size ≤ 300 := ht
  have h0 := h
  obtain ⟨a, cap, rfl, h1, h2, h3⟩ := h0
  obtain ⟨hf1, hf2⟩ := hfew
  have Hf2 := Lib.hid hf2
  have H3 := Lib.hid h3
  clear hf2 h3
  unfold maxLen at h2
  go_enter Try.func6, Try.ntmps6
  go_wp2_with fail
  refine (few_yes _ L _ h ⟨hf1, Hf2.out⟩).mono ?_
  rintro e w1 ⟨rfl, rfl⟩
  go_wp2_with fail
  have hw0 := Wr.zero (Blk.alloc w 28 #[.pointer none, .int .i64 0])
  have f0 := (Frm.refl (fun _ => False) w).alloc (.cells #[.pointer none, .int .i64 0] 28)
  obtain ⟨w0, he0⟩ : ∃ w0, w.alloc (.cells #[.pointer none, .int .i64 0] 28) = w0 := ⟨_, rfl⟩
  rw [he0] at hw0 f0 ⊢
  clear he0
  go_loopw [8] (fun i wr => ∃ k : Nat, k ≤ L.length ∧ i = .int .i64 k ∧ (∃ fp, Wr wr w.heap.size (encL (L.take k)) fp ∧ ∀ j ∈ fp, w.heap.size ≤ j) ∧ Frm (fun _ => False) w wr) (fun i _ => L.length - (intOf i).toNat)
  case atStart => exact ⟨0, Nat.zero_le _, rfl, ⟨_, hw0, by simp⟩, f0⟩
  case round =>
    obtain ⟨k, hk, rfl, ⟨fp, hw, hfp⟩, f1⟩ := hrel
    by_cases hlt : k < L.length
    · have hit := h.keep f1 (fun _ _ h => h)
      obtain ⟨a', cap', e', _, _, hcells⟩ := hit
      cases e'
      obtain ⟨b, off, rfl, hb, c0, c1, c2, q1, q2, q3⟩ := hcells k hlt
      clear hcells
      have hs := Hf2.out k hlt
      have hlen : (encL (L.take k)).length ≤ 400 * 60 := encL_len _ 60 (fun x hx => by obtain ⟨j, hj, rfl⟩ := List.getElem_of_mem hx; rw [List.getElem_take]; exact Hf2.out j (by simp at hj; omega)) (by simp; omega)
      go_wp2_with fail
      refine (write_any _ _ fp L[k] wr hw q1 q2 hs (by omega)).mono ?_
      intro e W1 r
      obtain ⟨rfl, ⟨fp1, hw1, hfp1⟩, f2⟩ := Own1.step f1 hfp r
      clear r
      go_wp2
      go_roundw
      case rel => exact ⟨k + 1, by omega, by go_num, ⟨fp1, by rw [encL_snoc L k hlt]; exact hw1, hfp1⟩, f2⟩
      case measure => simp [intOf]; omega
    · obtain rfl : k = L.length := by omega
      rw [List.take_length] at hw
      have hlen : (encL L).length ≤ 400 * 60 := encL_len L 60 (fun x hx => by obtain ⟨j, hj, rfl⟩ := List.getElem_of_mem hx; exact Hf2.out j hj) hf1
      have hsz1 : (bs (encL L)).size ≤ 24000 := hlen
      go_wp2_with fail
      refine (bytes_any _ _ fp wr hw).mono ?_
      rintro e w2 ⟨rfl, g⟩
      have f2 := f1.trans g
      clear g hw hfp f1
      go_wp2_with fail
      rw [bs_append]
      have hszt : t.length ≤ 300 := ht
      refine (read_any (encL L ++ t) w2 (by rw [List.length_append]; omega)).mono ?_
      rintro e w3 ⟨rfl, r3, g⟩
      have f3 := f2.trans g
      have hbr := f2.size
      generalize w2.heap.size = br at *
      clear g f2
      go_wp2_with fail
      go_loopw [11] (fun i wq => ∃ k : Nat, k ≤ L.length ∧ i = .int .i64 k ∧ Rd wq br (encL (L.drop k) ++ t) 0 ∧ Frm (fun _ => False) w wq) (fun i _ => L.length - (intOf i).toNat)
      case atStart => exact ⟨0, Nat.zero_le _, rfl, r3, f3⟩
      case round =>
        obtain ⟨k, hk, rfl, r4, f4⟩ := hrel
        by_cases hlt : k < L.length
        · have hit := h.keep f4 (fun _ _ h => h)
          obtain ⟨a', cap', e', _, _, hcells⟩ := hit
          cases e'
          obtain ⟨b, off, rfl, hb, c0, c1, c2, q1, q2, q3⟩ := hcells k hlt
          clear hcells
          have hs := Hf2.out k hlt
          have hE : readI L[k] (encL (L.drop k) ++ t) 0 = (true, encL (L.drop (k + 1)) ++ t, 0) := by rw [encL_drop L k hlt, List.append_assoc, readI_app _ _ q2 hs]
          have hE2 := Lib.hid hE
          clear hE
          go_wp2_with fail
          refine (readI_any br _ 0 L[k] _ r4 (fun h => absurd rfl h) q1 hs).mono ?_
          rw [hE2.out]
          rintro e w5 ⟨rfl, r5, g⟩
          have f5 : Frm (fun _ => False) w w5 := f4.next g (fun k hk e => by subst e; omega)
          clear g
          go_wp2
          go_roundw
          case rel => exact ⟨k + 1, by omega, by go_num, r5, f5⟩
          case measure => simp [intOf]; omega
        · obtain rfl : k = L.length := by omega
          rw [List.drop_length, show encL [] ++ t = t from rfl] at r4
          have hq : ((bs t).toList == (bs t).toList) = true := beq_self_eq_true _
          by_cases ht0 : t = []
          · have hend : endS t 0 = 0 := by rw [ht0]; rfl
            have hem : (bs t).toList.isEmpty = true := by rw [ht0, bs_toList]; rfl
            have Ht0 := Lib.hid ht0
            clear ht0
            go_wp2_with fail
            refine (err_any br t 0 _ r4).mono ?_
            rintro e w5 ⟨rfl, rfl⟩
            go_wp2_with fail
            refine (rest_any br t 0 _ r4).mono ?_
            rintro e w5 ⟨rfl, rfl⟩
            go_wp2_with fail
            refine (end_any br t 0 _ r4).mono ?_
            rw [hend]
            rintro e w5 ⟨rfl, rfl⟩
            clear hend
            by_cases hs0 : encL L = []
            · have hs1 : (bs (encL L)).toList.isEmpty = true := by rw [hs0, bs_toList]; rfl
              clear hs0
              go_wp2_with fail
              refine (awake_any _).mono ?_
              rintro e w6 ⟨rfl, g⟩
              go_wp2_with fail
              go_ret
              exact ⟨rfl, f4.trans g⟩
            · have hs1 : (bs (encL L)).toList.isEmpty = false := by rw [bs_toList]; simpa using hs0
              have hpos : 0 < (encL L).length := List.length_pos_iff.2 hs0
              have Hs0 := Lib.hid hs0
              clear hs0
              have hsz2 : (1 : Int) ≤ ((bs (encL L)).size : Int) := by rw [bs_size]; omega
              have hmod1 : (0 : Int) ≤ (cut : Int) % ((bs (encL L)).size : Int) := Int.emod_nonneg _ (by omega)
              have hmod2 : (cut : Int) % ((bs (encL L)).size : Int) < ((bs (encL L)).size : Int) := Int.emod_lt_of_pos _ (by omega)
              go_wp2_with fail
              rw [bs_take]
              have hc : cut % (bs (encL L)).size < (encL L).length := Nat.mod_lt _ hpos
              obtain ⟨p, q, hp, hq1, hpq⟩ : ∃ p q, (encL L).take (cut % (bs (encL L)).size) = p ∧ q ≠ [] ∧ encL L = p ++ q :=
                ⟨_, (encL L).drop (cut % (bs (encL L)).size), rfl, fun e => by have := congrArg List.length e; simp at this; omega, (List.take_append_drop _ _).symm⟩
              rw [hp]
              have hpl : p.length ≤ 24000 := by rw [← hp, List.length_take]; omega
              have hshort := Lib.hid (runL_short L p q (fun x hx => by obtain ⟨j, hj, rfl⟩ := List.getElem_of_mem hx; obtain ⟨_, _, _, _, _, _, _, _, q2, _⟩ := H3.out j hj; exact ⟨q2, Hf2.out j hj⟩) hpq hq1)
              clear hp hq1 hpq hc hmod1 hmod2 hsz2 hpos hs1
              refine (read_any p _ (by omega)).mono ?_
              rintro e w6 ⟨rfl, r6, g⟩
              have f6 := f4.trans g
              have hbr2 := f4.size
              generalize wr.heap.size = br2 at *
              clear g
              go_wp2_with fail
              clear hq hem
              go_loopw [13] (fun i wq => ∃ k : Nat, k ≤ L.length ∧ i = .int .i64 k ∧ Rd wq br2 (runL (L.take k) p 0).1 (runL (L.take k) p 0).2 ∧ Frm (fun _ => False) w wq) (fun i _ => L.length - (intOf i).toNat)
              case atStart => exact ⟨0, Nat.zero_le _, rfl, r6, f6⟩
              case round =>
                obtain ⟨k, hk, rfl, r7, f7⟩ := hrel
                by_cases hlt : k < L.length
                · have hit := h.keep f7 (fun _ _ h => h)
                  obtain ⟨a', cap', e', _, _, hcells⟩ := hit
                  cases e'
                  obtain ⟨b, off, rfl, hb, c0, c1, c2, q1, q2, q3⟩ := hcells k hlt
                  clear hcells
                  have hs := Hf2.out k hlt
                  have hinv := Lib.hid (runL_inv (L.take k) p 0 (fun h => absurd rfl h))
                  have hsn := Lib.hid (runL_snoc L k hlt p 0)
                  go_wp2_with fail
                  refine (readI_any br2 _ _ L[k] _ r7 hinv.out q1 hs).mono ?_
                  rintro e w8 ⟨rfl, r8, g⟩
                  have f8 : Frm (fun _ => False) w w8 := f7.next g (fun k hk e => by subst e; omega)
                  clear g
                  go_wp2
                  go_roundw
                  case rel => exact ⟨k + 1, by omega, by go_num, by rw [hsn.out]; exact r8, f8⟩
                  case measure => simp [intOf]; omega
                · obtain rfl : k = L.length := by omega
                  rw [List.take_length, hshort.out] at r7
                  go_wp2_with fail
                  refine (err_any br2 _ _ _ r7).mono ?_
                  rintro e w8 ⟨rfl, rfl⟩
                  go_wp2_with fail
                  refine (rest_any br2 _ _ _ r7).mono ?_
                  rintro e w8 ⟨rfl, rfl⟩
                  have hem : (bs []).toList.isEmpty = true := by rw [bs_toList]; rfl
                  go_wp2_with fail
                  refine (awake_any _).mono ?_
                  rintro e w9 ⟨rfl, g⟩
                  go_wp2_with fail
                  go_ret
                  exact ⟨rfl, f7.trans g⟩
          · have hend : endS t 0 = 4 := by unfold endS; rw [if_neg (by simp), if_neg ht0]
            have hem : (bs t).toList.isEmpty = false := by rw [bs_toList]; simpa using ht0
            have Ht0 := Lib.hid ht0
            clear ht0
            go_wp2_with fail
            refine (err_any br t 0 _ r4).mono ?_
            rintro e w5 ⟨rfl, rfl⟩
            go_wp2_with fail
            refine (rest_any br t 0 _ r4).mono ?_
            rintro e w5 ⟨rfl, rfl⟩
            go_wp2_with fail
            refine (end_any br t 0 _ r4).mono ?_
            rw [hend]
            rintro e w5 ⟨rfl, rfl⟩
            clear hend
            by_cases hs0 : encL L = []
            · have hs1 : (bs (encL L)).toList.isEmpty = true := by rw [hs0, bs_toList]; rfl
              clear hs0
              go_wp2_with fail
              refine (awake_any _).mono ?_
              rintro e w6 ⟨rfl, g⟩
              go_wp2_with fail
              go_ret
              exact ⟨rfl, f4.trans g⟩
            · have hs1 : (bs (encL L)).toList.isEmpty = false := by rw [bs_toList]; simpa using hs0
              have hpos : 0 < (encL L).length := List.length_pos_iff.2 hs0
              have Hs0 := Lib.hid hs0
              clear hs0
              have hsz2 : (1 : Int) ≤ ((bs (encL L)).size : Int) := by rw [bs_size]; omega
              have hmod1 : (0 : Int) ≤ (cut : Int) % ((bs (encL L)).size : Int) := Int.emod_nonneg _ (by omega)
              have hmod2 : (cut : Int) % ((bs (encL L)).size : Int) < ((bs (encL L)).size : Int) := Int.emod_lt_of_pos _ (by omega)
              go_wp2_with fail
              rw [bs_take]
              have hc : cut % (bs (encL L)).size < (encL L).length := Nat.mod_lt _ hpos
              obtain ⟨p, q, hp, hq1, hpq⟩ : ∃ p q, (encL L).take (cut % (bs (encL L)).size) = p ∧ q ≠ [] ∧ encL L = p ++ q :=
                ⟨_, (encL L).drop (cut % (bs (encL L)).size), rfl, fun e => by have := congrArg List.length e; simp at this; omega, (List.take_append_drop _ _).symm⟩
              rw [hp]
              have hpl : p.length ≤ 24000 := by rw [← hp, List.length_take]; omega
              have hshort := Lib.hid (runL_short L p q (fun x hx => by obtain ⟨j, hj, rfl⟩ := List.getElem_of_mem hx; obtain ⟨_, _, _, _, _, _, _, _, q2, _⟩ := H3.out j hj; exact ⟨q2, Hf2.out j hj⟩) hpq hq1)
              clear hp hq1 hpq hc hmod1 hmod2 hsz2 hpos hs1
              refine (read_any p _ (by omega)).mono ?_
              rintro e w6 ⟨rfl, r6, g⟩
              have f6 := f4.trans g
              have hbr2 := f4.size
              generalize wr.heap.size = br2 at *
              clear g
              go_wp2_with fail
              clear hq hem
              go_loopw [13] (fun i wq => ∃ k : Nat, k ≤ L.length ∧ i = .int .i64 k ∧ Rd wq br2 (runL (L.take k) p 0).1 (runL (L.take k) p 0).2 ∧ Frm (fun _ => False) w wq) (fun i _ => L.length - (intOf i).toNat)
              case atStart => exact ⟨0, Nat.zero_le _, rfl, r6, f6⟩
              case round =>
                obtain ⟨k, hk, rfl, r7, f7⟩ := hrel
                by_cases hlt : k < L.length
                · have hit := h.keep f7 (fun _ _ h => h)
                  obtain ⟨a', cap', e', _, _, hcells⟩ := hit
                  cases e'
                  obtain ⟨b, off, rfl, hb, c0, c1, c2, q1, q2, q3⟩ := hcells k hlt
                  clear hcells
                  have hs := Hf2.out k hlt
                  have hinv := Lib.hid (runL_inv (L.take k) p 0 (fun h => absurd rfl h))
                  have hsn := Lib.hid (runL_snoc L k hlt p 0)
                  go_wp2_with fail
                  refine (readI_any br2 _ _ L[k] _ r7 hinv.out q1 hs).mono ?_
                  rintro e w8 ⟨rfl, r8, g⟩
                  have f8 : Frm (fun _ => False) w w8 := f7.next g (fun k hk e => by subst e; omega)
                  clear g
                  go_wp2
                  go_roundw
                  case rel => exact ⟨k + 1, by omega, by go_num, by rw [hsn.out]; exact r8, f8⟩
                  case measure => simp [intOf]; omega
                · obtain rfl : k = L.length := by omega
                  rw [List.take_length, hshort.out] at r7
                  go_wp2_with fail
                  refine (err_any br2 _ _ _ r7).mono ?_
                  rintro e w8 ⟨rfl, rfl⟩
                  go_wp2_with fail
                  refine (rest_any br2 _ _ _ r7).mono ?_
                  rintro e w8 ⟨rfl, rfl⟩
                  have hem : (bs []).toList.isEmpty = true := by rw [bs_toList]; rfl
                  go_wp2_with fail
                  refine (awake_any _).mono ?_
                  rintro e w9 ⟨rfl, g⟩
                  go_wp2_with fail
                  go_ret
                  exact ⟨rfl, f7.trans g⟩

set_option maxRecDepth 100000 in
set_option maxHeartbeats 1000000 in
theorem codecBack_any (v : Value) (L : List Item) (t : List UInt8) (cut : Nat) (hcut : cut < 65536) (w : World) (h : It w v L) (_ht : t.length ≤ 9223372036854775807) :
    Calls Try.prog 6 #[v, .string (bs t), .int .u16 cut] w fun e w' => e = .returned (.bool true) ∧ Frm (fun _ => False) w w' := by
  by_cases hfew : fewP L
  · by_cases ht3 : t.length ≤ 300
    · exact codecBack_main v L t cut hcut w h hfew ht3
    · have hsz : (300 : Int) < ((bs t).size : Int) := by rw [bs_size]; omega
      obtain ⟨a, cap, rfl, _, _, _⟩ := id h
      go_enter Try.func6, Try.ntmps6
      go_wp2_with fail
      refine (few_yes _ L _ h hfew).mono ?_
      rintro e w1 ⟨rfl, rfl⟩
      go_wp2_with fail
      refine (awake_any _).mono ?_
      rintro e w1 ⟨rfl, g⟩
      go_wp2_with fail
      go_ret
      exact ⟨rfl, g⟩
  · obtain ⟨a, cap, rfl, _, _, _⟩ := id h
    go_enter Try.func6, Try.ntmps6
    go_wp2_with fail
    refine (few_no _ L _ h hfew).mono ?_
    rintro e w1 ⟨rfl, rfl⟩
    go_wp2_with fail
    refine (awake_any _).mono ?_
    rintro e w1 ⟨rfl, g⟩
    go_wp2_with fail
    go_ret
    exact ⟨rfl, g⟩
end Go.Proofs.Ytehnhhjahejbmaa
