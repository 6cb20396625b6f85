/- What the document's index tells: Of, Find; Same. No condition. -/
import Derived.Test.YtmdnacboenehkaaHashQ
namespace Go.Proofs.Ytmdnacboenehkaa
open Go.RowKit

set_option maxRecDepth 100000 in
set_option maxHeartbeats 2000000 in
theorem of_any (r k0 : Nat) (I : List (Nat × Nat)) (fq : Nat → Prop) (w : World) (h : Rf w r I fq) (hl : I.length ≤ 900000) :
    Calls Try.prog 14 #[.pointer (some ⟨r, 0, none⟩), .int .i64 k0] w (NewIds (sel I k0) w) := by
  obtain ⟨_, _, v, hb, ho, _⟩ := h
  obtain ⟨a, cap, rfl, hc1, hc2⟩ := Row.slice ho
  unfold maxLen at hc2
  go_enter Try.func14, Try.ntmps14
  go_wp2
  go_loopw [5, 6] (fun u j wr => ∃ k : Nat, k ≤ I.length ∧ j = .int .i64 k ∧ Frm (fun _ => False) w wr ∧ Own wr u (sel (I.take k) k0) ∧ ∀ g, u.ownBlock = some g → w.heap.size ≤ g) (fun _ j _ => I.length - (intOf j).toNat)
  case atStart => exact ⟨0, Nat.zero_le _, rfl, Frm.refl _ _, Own.nil_ _, fun g hg => by cases hg⟩
  case round =>
    obtain ⟨k, hk, rfl, f1, o1, n1⟩ := hrel
    have c0 := (hb.keep f1 (fun h => h)).cell 0 rfl
    by_cases hlt : k < I.length
    · obtain ⟨g, cap', e', _, _, c1, c2⟩ := (ho.keep f1 (fun _ _ h => h)).at k hlt
      cases e'
      have hts : I.take (k + 1) = I.take k ++ [I[k]] := List.take_succ_eq_append_getElem hlt
      have hk0 : (0 : Int) ≤ (k : Int) := by omega
      have hki : (k : Int) < (I.length : Int) := by omega
      by_cases hkb : I[k].1 = k0
      · have hq1 : ((I[k].1 : Int) == (k0 : Int)) = true := by rw [hkb]; exact beq_self_eq_true _
        have hs6 : sel (I.take (k + 1)) k0 = sel (I.take k) k0 ++ [I[k].2] := by
          rw [hts, sel_append, sel_cons, if_pos hkb]; rfl
        obtain ⟨y, hy⟩ : ∃ y, I[k].2 = y := ⟨_, rfl⟩
        rw [hy] at c2 hs6
        have fa : Frm (fun _ => False) wr (wr.alloc (.cells #[.int .u32 y] 35)) := (Frm.refl _ wr).alloc _
        have hlen := Nat.le_trans (sel_len (I.take k) k0) (List.length_take_le k I)
        obtain ⟨v', w6, hrun, hrow, hg, hn⟩ := append_ids _ _ _ _ [y] (o1.keep fa (fun _ _ h => h)) (Ids.one wr y) (by simp; omega)
        rw [← hs6] at hrow
        have f6 : Frm (fun _ => False) w w6 := (f1.trans fa).grown hg (fun q hq e => by have := n1 q e; omega)
        have n6 : ∀ q, v'.ownBlock = some q → w.heap.size ≤ q := fun q e => (hn q e).elim (n1 q) (fun e => Nat.le_trans (f1.trans fa).size e)
        have Hrun := Lib.hid hrun
        clear hrun hg hn hs6 hts hkb hy
        go_wp2_with (at_builtin; refine Lib.wpList_append_run _ rfl _ _ _ _ rfl _ _ rfl rfl _ _ Hrun.out ?_)
        go_roundw
        case rel => exact ⟨k + 1, by omega, by go_num, f6, hrow, n6⟩
        case measure => simp [intOf]; omega
      · have hq1 : ((I[k].1 : Int) == (k0 : Int)) = false := by rw [beq_eq_false_iff_ne]; omega
        have hs6 : sel (I.take (k + 1)) k0 = sel (I.take k) k0 := by
          rw [hts, sel_append, sel_cons, if_neg hkb, sel_nil, List.append_nil]
        rw [← hs6] at o1
        clear hs6 hts hkb
        go_wp2_with fail
        go_roundw
        case rel => exact ⟨k + 1, by omega, by go_num, f1, o1, n1⟩
        case measure => simp [intOf]; omega
    · obtain rfl : k = I.length := by omega
      rw [List.take_length] at o1
      go_wp2_with fail
      go_ret
      exact ⟨_, rfl, o1, f1, n1⟩

set_option maxRecDepth 100000 in
set_option maxHeartbeats 1000000 in
theorem rfind_any (r : Nat) (I : List (Nat × Nat)) (fq : Nat → Prop) (s : List UInt8) (w : World) (h : Rf w r I fq) (hs : s.length ≤ 9223372036854775807) (hl : I.length ≤ 900000) :
    Calls Try.prog 25 #[.pointer (some ⟨r, 0, none⟩), .string (bs s)] w (NewIds (sel I (bk s)) w) := by
  have hB : Calls Try.prog 9 #[.string (bs s)] w fun e w' => e = .returned (.int .i64 (bk s : Nat)) ∧ Frm (fun _ => False) w w' := rbucket_any s w hs
  generalize bk s = k0 at *
  have HB := Lib.hid hB
  clear hB
  go_enter Try.func25, Try.ntmps25
  go_wp2_with fail
  refine HB.out.mono ?_
  rintro e w1 ⟨rfl, g1⟩
  go_wp2_with fail
  refine (of_any r k0 I fq _ (h.keep g1 (fun _ _ h => h)) hl).mono ?_
  rintro e w2 ⟨v', rfl, a1, a2, a3⟩
  go_wp2_with fail
  go_ret
  exact ⟨v', rfl, a1, g1.trans a2, fun q hq => Nat.le_trans g1.size (a3 q hq)⟩

set_option maxRecDepth 100000 in
set_option maxHeartbeats 1000000 in
theorem same_yes (v1 v2 : Value) (l : List Nat) (w : World) (h1 : Ids w v1 l) (h2 : Ids w v2 l) :
    Calls Try.prog 16 #[v1, v2] w fun e w' => e = .returned (.bool true) ∧ Frm (fun _ => False) w w' := by
  obtain ⟨a, cap, rfl, hc1, hc2⟩ := h1.slice
  obtain ⟨a', cap', rfl, hc1', hc2'⟩ := h2.slice
  unfold maxLen at hc2 hc2'
  go_enter Try.func16, Try.ntmps16
  go_wp2
  go_loopw [5] (fun i wr => ∃ k : Nat, k ≤ l.length ∧ i = .int .i64 k ∧ Frm (fun _ => False) w wr) (fun i _ => l.length - (intOf i).toNat)
  case atStart => exact ⟨0, Nat.zero_le _, rfl, Frm.refl _ _⟩
  case round =>
    obtain ⟨k, hk, rfl, g4⟩ := hrel
    by_cases hlt : k < l.length
    · obtain ⟨b1, o1, rfl, _, c1⟩ := (h1.keepF g4).at k hlt
      obtain ⟨b2, o2, rfl, _, c2⟩ := (h2.keepF g4).at k hlt
      have hq : ((l[k] : Int) != (l[k] : Int)) = false := bne_self_eq_false _
      have hki : (k : Int) < (l.length : Int) := by omega
      have hk0 : (0 : Int) ≤ (k : Int) := by omega
      go_wp2_with fail
      go_quiet (fail)
      go_wp2_with fail
      go_roundw
      case rel => exact ⟨k + 1, by omega, by go_num, g4.drewN _⟩
      case measure => simp [intOf]; omega
    · obtain rfl : k = l.length := by omega
      go_wp2_with fail
      go_ret
      exact ⟨rfl, g4⟩
end Go.Proofs.Ytmdnacboenehkaa
