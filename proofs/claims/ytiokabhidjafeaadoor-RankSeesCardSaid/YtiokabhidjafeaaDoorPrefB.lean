/- What the document's Check, digits, Conflict, Text answer. No condition. -/
import Derived.Test.YtiokabhidjafeaaDoorText
import Derived.Test.YtiokabhidjafeaaDoorConf
namespace Go.Proofs.YtiokabhidjafeaaDoor
open Go.RowKit

theorem okc_iff (c : UInt8) : okc c = decide (33 ≤ c.toNat ∧ c.toNat ≤ 125 ∧ c.toNat ≠ 47) := rfl
set_option maxRecDepth 100000 in
set_option maxHeartbeats 1000000 in
theorem rcheck_any (s : List UInt8) (w : World) (hl : s.length ≤ 1000000) :
    Calls Tryd.prog 53 #[.string (bs s)] w fun e w' => e = .returned (.int .i64 (chk s)) ∧ Fr w w' := by
  have hsz : (bs s).size = s.length := rfl
  obtain ⟨r, hr⟩ : ∃ r, chk s = r := ⟨_, rfl⟩
  have Hr := Lib.hid hr
  rw [hr]
  clear hr
  by_cases h0 : s = []
  · subst h0
    have e0 : chk [] = 4 := rfl
    have e1 := Hr.out
    rw [e0] at e1
    subst e1
    go_enter Tryd.func53, Tryd.ntmps53
    go_wp2_with fail
    go_ret
    exact ⟨rfl, Frm.refl _ _⟩
  · have hp : 0 < s.length := by
      rcases Nat.eq_zero_or_pos s.length with e | e
      · exact absurd (List.eq_nil_of_length_eq_zero e) h0
      · exact e
    have q0 : ((s.length : Int) == 0) = false := by rw [beq_eq_false_iff_ne]; omega
    go_enter Tryd.func53, Tryd.ntmps53
    go_wp2_with fail
    go_loopw [3] (fun i wr => ∃ k : Nat, k ≤ s.length ∧ i = .int .i64 k ∧ Fr w wr ∧ Hid ((s.drop k).all okc = s.all okc)) (fun i _ => s.length - (intOf i).toNat)
    case atStart => exact ⟨0, Nat.zero_le _, rfl, Frm.refl _ _, Lib.hid rfl⟩
    case round =>
      obtain ⟨k, hk, rfl, g4, hall⟩ := hrel
      by_cases hlt : k < s.length
      · have hg := bs_get s k hlt
        have hds : s.drop k = s[k] :: s.drop (k + 1) := List.drop_eq_getElem_cons hlt
        have hki : (k : Int) < ((bs s).size : Int) := by omega
        have hk0 : (0 : Int) ≤ (k : Int) := by omega
        have hc := s[k].toNat_lt
        cases hb : okc s[k] with
        | true =>
          have hall2 : Hid ((s.drop (k + 1)).all okc = s.all okc) := Lib.hid (by rw [← hall.out, hds, List.all_cons, hb, Bool.true_and])
          rw [okc_iff] at hb
          have hb2 := of_decide_eq_true hb
          have hkn : k < (bs s).size := by omega
          have c1 : (33 : Int) ≤ ((bs s)[k].toNat : Int) := by show (33 : Int) ≤ (s[k].toNat : Int); omega
          have c2 : ((bs s)[k].toNat : Int) ≤ 125 := by show (s[k].toNat : Int) ≤ 125; omega
          have c3 : (((bs s)[k].toNat : Int) == 47) = false := by show ((s[k].toNat : Int) == 47) = false; rw [beq_eq_false_iff_ne]; omega
          clear hb hb2 hds
          go_wp2_with fail
          go_roundw
          case rel =>
            exact ⟨k + 1, by omega, by go_num, g4, hall2⟩
          case measure => simp [intOf]; omega
        | false =>
          have e1 : chk s = 4 := by
            unfold chk
            rw [if_neg h0, if_neg]
            rw [← hall.out, hds, List.all_cons, hb, Bool.false_and]
            simp
          rw [Hr.out] at e1
          subst e1
          rw [okc_iff] at hb
          have hb2 := of_decide_eq_false hb
          clear hb hds
          have hkn : k < (bs s).size := by omega
          by_cases c1 : (33 : Int) ≤ ((bs s)[k].toNat : Int)
          · by_cases c2 : ((bs s)[k].toNat : Int) ≤ 125
            · have c3 : (((bs s)[k].toNat : Int) == 47) = true := by
                rw [beq_iff_eq]
                have c1' : (33 : Int) ≤ (s[k].toNat : Int) := c1
                have c2' : (s[k].toNat : Int) ≤ 125 := c2
                show (s[k].toNat : Int) = 47
                omega
              go_wp2_with fail
              go_ret
              exact ⟨rfl, g4⟩
            · have c2' : (125 : Int) < ((bs s)[k].toNat : Int) := by omega
              go_wp2_with fail
              go_ret
              exact ⟨rfl, g4⟩
          · have c1' : ((bs s)[k].toNat : Int) < 33 := by omega
            go_wp2_with fail
            go_ret
            exact ⟨rfl, g4⟩
      · obtain rfl : k = s.length := by omega
        have ha : s.all okc = true := by rw [← hall.out, List.drop_length]; rfl
        by_cases h8 : 8 < s.length
        · have e1 : chk s = 3 := by unfold chk; rw [if_neg h0, if_pos ha, if_pos h8]
          rw [Hr.out] at e1
          subst e1
          have q8 : (8 : Int) < ((bs s).size : Int) := by omega
          go_wp2_with fail
          go_ret
          exact ⟨rfl, g4⟩
        · have e1 : chk s = 0 := by unfold chk; rw [if_neg h0, if_pos ha, if_neg h8]
          rw [Hr.out] at e1
          subst e1
          have q8 : ((bs s).size : Int) ≤ 8 := by omega
          go_wp2_with fail
          go_ret
          exact ⟨rfl, g4⟩
/-- Digits behind digits. -/
theorem digs_step (n : Nat) (t : List UInt8) : (if n / 10 = 0 then [] else digs (n / 10)) ++ (dig (n % 10) :: t) = digs n ++ t := by
  by_cases h : n < 10
  · rw [if_pos (by omega), digs_small h, Nat.mod_eq_of_lt h]; rfl
  · rw [if_neg (by omega), digs_great h]; simp
set_option maxRecDepth 100000 in
set_option maxHeartbeats 1000000 in
theorem rdigits_any (n : Nat) (w : World) (hn : n ≤ 65535) :
    Calls Tryd.prog 54 #[.int .u32 n] w fun e w' => e = .returned (.string (bs (digs n))) ∧ Fr w w' := by
  go_enter Tryd.func54, Tryd.ntmps54
  go_wp2_with fail
  go_loopw [0, 3] (fun i s wr => ∃ (m : Nat) (t : List UInt8), m ≤ n ∧ i = .int .u32 m ∧ s = .string (bs t) ∧ Fr w wr ∧ Hid (digs m ++ t = digs n) ∧ t.length ≤ 5) (fun i _ _ => (intOf i).toNat)
  case atStart => exact ⟨n, [], Nat.le_refl _, rfl, rfl, Frm.refl _ _, Lib.hid (by simp), by simp⟩
  case round =>
    obtain ⟨m, t, hm, rfl, rfl, g4, ht, hl⟩ := hrel
    have hsz : (bs t).size = t.length := rfl
    have hmm : m % 10 < 10 := Nat.mod_lt _ (by decide)
    have hstep := digs_step m t
    have hb := Blk.alloc wr 5 #[.int .u8 (48 + (m : Int) % 10)]
    have hd : (48 + (m : Int) % 10) = ((dig (m % 10)).toNat : Int) := by rw [dig_toNat hmm]; omega
    have hcv := run_text_at (P := Tryd.prog) (src := 140) (dst := 9) (e := 5) Tryd.underlying140 Tryd.underlying9 Tryd.underlying5 (wr.alloc (.cells #[.int .u8 (48 + (m : Int) % 10)] 5)) wr.heap.size 1 1 [dig (m % 10)] rfl (fun j hj => by
      obtain rfl : j = 0 := by omega
      rw [hb.cell 0 rfl, hd]; rfl)
    have f2 := g4.alloc (.cells #[.int .u8 (48 + (m : Int) % 10)] 5)
    have ha : bs [dig (m % 10)] ++ bs t = bs (dig (m % 10) :: t) := bs_append _ _
    have ls : (bs [dig (m % 10)]).size = 1 := rfl
    have z1 : ¬ 9223372036854775807 < 1 + (bs t).size := by omega
    have w8 : IntKind.u8.wrap (48 + (m : Int) % 10) = 48 + (m : Int) % 10 := IntWalk.u8_in _ (by omega)
    have w32 : IntKind.u32.wrap (48 + (m : Int) % 10) = 48 + (m : Int) % 10 := IntWalk.u32_in _ (by omega)
    clear hb hd
    generalize bs [dig (m % 10)] = D at *
    by_cases h10 : m / 10 = 0
    · have hz : (((m : Int) / 10) == 0) = true := by rw [beq_iff_eq]; omega
      have hz2 : (m : Int) / 10 = 0 := by omega
      rw [if_pos h10, List.nil_append, ht.out] at hstep
      have Hs := Lib.hid (hstep ▸ ha : D ++ bs t = bs (digs n))
      clear hstep ha
      go_wp2_with fail
      go_ret
      exact ⟨by rw [Hs.out]; rfl, f2⟩
    · have hz : (((m : Int) / 10) == 0) = false := by rw [beq_eq_false_iff_ne]; omega
      rw [if_neg h10, ht.out] at hstep
      have Hs := Lib.hid hstep
      have Ha := Lib.hid ha
      clear hstep ha
      go_wp2_with fail
      go_roundw
      case rel => exact ⟨m / 10, dig (m % 10) :: t, by omega, by go_num, by rw [Ha.out], f2, Lib.hid Hs.out, by
        have h1 := congrArg List.length Hs.out
        have h2 := digs_len5 hn
        rw [List.length_append] at h1
        omega⟩
      case measure => simp [intOf]; omega
end Go.Proofs.YtiokabhidjafeaaDoor

