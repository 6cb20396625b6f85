/- What the document's own answers for reading are: its reader's numbers. -/
import Derived.Test.YtdoeogfjbcannaaRefR
import Derived.IntWalk
namespace Go.Proofs.Ytdoeogfjbcannaa
open Go.RowKit

set_option maxHeartbeats 400000 in
theorem q_number (k b : Nat) (s l : List UInt8) (e : Nat) (w : World) (h : Rq w b s l e) (hk : k ≤ 4) :
    Calls Try.prog 45 #[.pointer (some ⟨b, 0, none⟩), .int .i64 k] w fun r w' =>
      r = .returned (.int .u32 (numS k l e).1) ∧ Rq w' b s (numS k l e).2.1 (numS k l e).2.2 ∧ Frm (· = b) w w' := by
  have hlen := nextS_len k l e
  unfold numS
  go_enter Try.func45, Try.ntmps45
  go_wp2_with fail
  refine (q_fixed b s l e k w h (by omega)).mono ?_
  rintro r w1 ⟨rfl, h1, h2⟩
  obtain ⟨t, ht⟩ : ∃ t, (nextS k l e).1 = t := ⟨_, rfl⟩
  rw [ht] at hlen ⊢
  have hsz : (bs t).size = t.length := rfl
  have Hsz := Lib.hid hsz
  have hsz4 : (bs t).size ≤ 4 := by rw [hsz]; omega
  have Ht := Lib.hid ht
  clear ht hsz
  go_wp2
  go_loop [6, 7] (fun n i => ∃ j : Nat, j ≤ t.length ∧ i = .int .i64 j ∧ n = .int .u32 (beN (t.take j))) (fun _ i => t.length - (intOf i).toNat)
  case atStart => exact ⟨0, Nat.zero_le _, rfl, rfl⟩
  case round =>
    obtain ⟨j, hj, rfl, rfl⟩ := hrel
    by_cases hlt : j < t.length
    · have hlt2 : j < (bs t).size := hlt
      have hb := t[j].toNat_lt
      have hm : beN (t.take j) < 256 ^ 3 := beN_lt 3 _ (by rw [List.length_take]; omega)
      go_wp2
      go_round
      case rel => exact ⟨j + 1, by omega, by go_num, by
        rw [take_snoc t j hlt, beN_snoc]
        refine congrArg (Value.int IntKind.u32) ?_
        show (256 * (beN (t.take j) : Int) + (t[j].toNat : Int) % 4294967296) % 4294967296 = ((256 * beN (t.take j) + t[j].toNat : Nat) : Int)
        omega⟩
      case measure => simp [intOf]; omega
    · have he : j = t.length := by omega
      subst he
      have hge : (bs t).size ≤ t.length := Nat.le_refl _
      go_wp2
      go_ret
      exact ⟨ret_int (by rw [Ht.out]), h1, h2⟩

theorem numS_cons (c : UInt8) (r : List UInt8) : numS 1 (c :: r) 0 = (c.toNat, r, 0) := by
  unfold numS nextS
  rw [if_pos (by simp)]
  simp [beN]
theorem numS_nil : numS 1 [] 0 = (0, [], 10) := rfl
theorem Rq.form {w : World} {b : Nat} {s l : List UInt8} (h : Rq w b s l 0) : Rq (w.setCell ⟨b, 2, none⟩ (.int .i64 4)) b s [] 4 := by
  obtain ⟨a, hb, h1, h2, h3, h4, h5⟩ := h
  exact ⟨a, hb.set 2 (.int .i64 4), h1, h2, by omega, by simp, fun _ => rfl⟩
theorem Rq.c2 {w : World} {b : Nat} {s l : List UInt8} {e : Nat} (h : Rq w b s l e) : w.cell? ⟨b, 2, none⟩ = some (.int .i64 e) := by
  obtain ⟨a, hb, _⟩ := h
  exact hb.cell 2 rfl
theorem Rq.f2 {w : World} {b : Nat} {s l : List UInt8} {e : Nat} (h : Rq w b s l e) : w.frozen? ⟨b, 2, none⟩ = false := by
  obtain ⟨a, hb, _⟩ := h
  exact hb.free 2

set_option maxRecDepth 100000 in
set_option maxHeartbeats 4000000 in
theorem q_var_main (b : Nat) (s l : List UInt8) (w : World) (h : Rq w b s l 0) :
    Calls Try.prog 46 #[.pointer (some ⟨b, 0, none⟩)] w fun r w' =>
      r = .returned (.int .u32 (varAt 0 0 l).1) ∧ Rq w' b s (varAt 0 0 l).2.1 (varAt 0 0 l).2.2 ∧ Frm (· = b) w w' := by
  go_enter Try.func46, Try.ntmps46
  go_wp2
  go_loopw [3, 4, 5] (fun n u i wr => ∃ k m v : Nat, ∃ t : List UInt8, i = .int .i64 k ∧ n = .int .u64 m ∧ u = .int .u64 v ∧ k ≤ 4 ∧ v = 128 ^ k ∧ m < v ∧ varAt 0 0 l = varAt k m t ∧ Rq wr b s t 0 ∧ Frm (· = b) w wr) (fun _ _ i _ => 5 - (intOf i).toNat)
  case atStart => exact ⟨0, 0, 1, l, rfl, rfl, rfl, by omega, rfl, by omega, rfl, h, Frm.refl _ _⟩
  case round =>
    obtain ⟨k, m, v, t, rfl, rfl, rfl, hk, hv, hm, hS, hq, f1⟩ := hrel
    have HS := Lib.hid hS
    clear hS
    have hk5 : k < 5 := by omega
    cases t with
    | nil =>
      clear hv
      go_wp2_with fail
      refine (q_number 1 b s [] 0 wr hq (by omega)).mono ?_
      rw [numS_nil]
      rintro r w1 ⟨rfl, h1, h2⟩
      have c2 := h1.c2
      go_wp2
      go_ret
      exact ⟨by rw [HS.out]; rfl, by rw [HS.out]; exact h1, f1.trans h2⟩
    | cons c t =>
      have hc := c.toNat_lt
      go_wp2_with fail
      refine (q_number 1 b s (c :: t) 0 wr hq (by omega)).mono ?_
      rw [numS_cons]
      rintro r w1 ⟨rfl, h1, h2⟩
      have c2 := h1.c2
      have f2 := h1.f2
      have f3 := f1.trans h2
      have h4 := h1.form
      have f4 := f3.trans (Frm.one b 2 (.int .i64 4) w1)
      clear hq f1 h2
      have HV : varAt 0 0 l = if (k = 4 ∧ 15 < c.toNat) ∨ (0 < k ∧ c.toNat = 0) then (0, [], 4) else if c.toNat < 128 then (m + c.toNat * 128 ^ k, t, 0) else varAt (k + 1) (m + (c.toNat - 128) * 128 ^ k) t := by rw [HS.out, varAt]
      rw [← hv] at HV
      have HW := Lib.hid HV
      clear HV HS
      generalize c.toNat = d at *
      rcases (show k = 0 ∨ k = 1 ∨ k = 2 ∨ k = 3 ∨ k = 4 by omega) with e | e | e | e | e
      · have hv2 : v = 1 := by rw [hv, e]
        have hvn : v * 128 = 128 ^ (k + 1) := by rw [hv, Nat.pow_succ]
        have Hvn := Lib.hid hvn
        have Hk := Lib.hid e
        have Hv := Lib.hid hv2
        rw [show (k : Int) = 0 by omega, show (v : Int) = 1 by omega]
        rw [hv2] at hm
        clear e hv2 hv hk hk5 hvn
        rcases (show (d = 0) ∨ (0 < d ∧ d < 128) ∨ (128 ≤ d) by omega) with hd | hd | hd
        · have e0 : ((d : Int) == 0) = true := by rw [beq_iff_eq]; omega
          have HB := HW.out
          rw [if_neg (by rw [Hk.out]; omega), if_pos (by omega), Hv.out] at HB
          have HE := Lib.hid HB
          clear HB HW
          have hd' : d ≤ 0 := by omega
          clear hd
          go_wp2
          go_ret
          exact ⟨by rw [HE.out]; exact ret_int (by simp only []; omega), by rw [HE.out]; exact h1, f3⟩
        · have e0 : ((d : Int) == 0) = false := by rw [beq_eq_false_iff_ne]; omega
          have HB := HW.out
          rw [if_neg (by rw [Hk.out]; omega), if_pos (by omega), Hv.out] at HB
          have HE := Lib.hid HB
          clear HB HW
          go_wp2
          go_ret
          exact ⟨by rw [HE.out]; exact ret_int (by simp only []; omega), by rw [HE.out]; exact h1, f3⟩
        · have e0 : ((d : Int) == 0) = false := by rw [beq_eq_false_iff_ne]; omega
          have HB := HW.out
          rw [if_neg (by rw [Hk.out]; omega), if_neg (by omega)] at HB
          have HE := Lib.hid HB
          clear HB HW
          go_wp2
          go_roundw
          case rel => exact ⟨k + 1, m + (d - 128) * v, v * 128, t, congrArg (Value.int IntKind.i64) (by have := Hk.out; omega), congrArg (Value.int IntKind.u64) (by rw [Hv.out]; omega), congrArg (Value.int IntKind.u64) (by have := Hv.out; omega), by have := Hk.out; omega, Hvn.out, by rw [Hv.out]; omega, HE.out, h1, f3⟩
          case measure =>
            have hk9 := Hk.out
            simp only [intOf, Int.toNat_natCast]
            omega
      · have hv2 : v = 128 := by rw [hv, e]
        have hvn : v * 128 = 128 ^ (k + 1) := by rw [hv, Nat.pow_succ]
        have Hvn := Lib.hid hvn
        have Hk := Lib.hid e
        have Hv := Lib.hid hv2
        rw [show (k : Int) = 1 by omega, show (v : Int) = 128 by omega]
        rw [hv2] at hm
        clear e hv2 hv hk hk5 hvn
        rcases (show (d = 0) ∨ (0 < d ∧ d < 128) ∨ (128 ≤ d) by omega) with hd | hd | hd
        · have e0 : ((d : Int) == 0) = true := by rw [beq_iff_eq]; omega
          have HB := HW.out
          rw [if_pos (by rw [Hk.out]; omega)] at HB
          have HE := Lib.hid HB
          clear HB HW
          have hd' : d ≤ 0 := by omega
          clear hd
          go_wp2
          go_ret
          exact ⟨by rw [HE.out]; rfl, by rw [HE.out]; exact h4, f4⟩
        · have e0 : ((d : Int) == 0) = false := by rw [beq_eq_false_iff_ne]; omega
          have HB := HW.out
          rw [if_neg (by rw [Hk.out]; omega), if_pos (by omega), Hv.out] at HB
          have HE := Lib.hid HB
          clear HB HW
          go_wp2
          go_ret
          exact ⟨by rw [HE.out]; exact ret_int (by simp only []; omega), by rw [HE.out]; exact h1, f3⟩
        · have e0 : ((d : Int) == 0) = false := by rw [beq_eq_false_iff_ne]; omega
          have HB := HW.out
          rw [if_neg (by rw [Hk.out]; omega), if_neg (by omega)] at HB
          have HE := Lib.hid HB
          clear HB HW
          go_wp2
          go_roundw
          case rel => exact ⟨k + 1, m + (d - 128) * v, v * 128, t, congrArg (Value.int IntKind.i64) (by have := Hk.out; omega), congrArg (Value.int IntKind.u64) (by rw [Hv.out]; omega), congrArg (Value.int IntKind.u64) (by have := Hv.out; omega), by have := Hk.out; omega, Hvn.out, by rw [Hv.out]; omega, HE.out, h1, f3⟩
          case measure =>
            have hk9 := Hk.out
            simp only [intOf, Int.toNat_natCast]
            omega
      · have hv2 : v = 16384 := by rw [hv, e]
        have hvn : v * 128 = 128 ^ (k + 1) := by rw [hv, Nat.pow_succ]
        have Hvn := Lib.hid hvn
        have Hk := Lib.hid e
        have Hv := Lib.hid hv2
        rw [show (k : Int) = 2 by omega]
        have hvi : (v : Int) = 16384 := by omega
        have p0 : 0 ≤ (d : Int) % 128 * (v : Int) := by rw [hvi]; omega
        have pv : (v : Int) ≤ 2097152 := by rw [hvi]; omega
        have p1 : (m : Int) + (d : Int) % 128 * (v : Int) ≤ 4294967295 := by rw [hvi]; omega
        rw [hv2] at hm
        have Hvi := Lib.hid hvi
        clear hvi e hv2 hv hk hk5 hvn
        rcases (show (d = 0) ∨ (0 < d ∧ d < 128) ∨ (128 ≤ d) by omega) with hd | hd | hd
        · have e0 : ((d : Int) == 0) = true := by rw [beq_iff_eq]; omega
          have HB := HW.out
          rw [if_pos (by rw [Hk.out]; omega)] at HB
          have HE := Lib.hid HB
          clear HB HW
          have hd' : d ≤ 0 := by omega
          clear hd
          go_wp2
          go_ret
          exact ⟨by rw [HE.out]; rfl, by rw [HE.out]; exact h4, f4⟩
        · have e0 : ((d : Int) == 0) = false := by rw [beq_eq_false_iff_ne]; omega
          have HB := HW.out
          rw [if_neg (by rw [Hk.out]; omega), if_pos (by omega)] at HB
          have HE := Lib.hid HB
          clear HB HW
          go_wp2
          go_ret
          exact ⟨by rw [HE.out]; exact ret_int (by
            show _ = ((m + d * v : Nat) : Int)
            rw [show (d : Int) % 128 = d by omega]
            simp), by rw [HE.out]; exact h1, f3⟩
        · have e0 : ((d : Int) == 0) = false := by rw [beq_eq_false_iff_ne]; omega
          have HB := HW.out
          rw [if_neg (by rw [Hk.out]; omega), if_neg (by omega)] at HB
          have HE := Lib.hid HB
          clear HB HW
          go_wp2
          go_roundw
          case rel => exact ⟨k + 1, m + (d - 128) * v, v * 128, t, congrArg (Value.int IntKind.i64) (by have := Hk.out; omega), congrArg (Value.int IntKind.u64) (by
            rw [show (d : Int) % 128 = ((d - 128 : Nat) : Int) by omega]
            simp), congrArg (Value.int IntKind.u64) (by simp), by have := Hk.out; omega, Hvn.out, by rw [Hv.out]; omega, HE.out, h1, f3⟩
          case measure =>
            have hk9 := Hk.out
            simp only [intOf, Int.toNat_natCast]
            omega
      · have hv2 : v = 2097152 := by rw [hv, e]
        have hvn : v * 128 = 128 ^ (k + 1) := by rw [hv, Nat.pow_succ]
        have Hvn := Lib.hid hvn
        have Hk := Lib.hid e
        have Hv := Lib.hid hv2
        rw [show (k : Int) = 3 by omega]
        have hvi : (v : Int) = 2097152 := by omega
        have p0 : 0 ≤ (d : Int) % 128 * (v : Int) := by rw [hvi]; omega
        have pv : (v : Int) ≤ 2097152 := by rw [hvi]; omega
        have p1 : (m : Int) + (d : Int) % 128 * (v : Int) ≤ 4294967295 := by rw [hvi]; omega
        rw [hv2] at hm
        have Hvi := Lib.hid hvi
        clear hvi e hv2 hv hk hk5 hvn
        rcases (show (d = 0) ∨ (0 < d ∧ d < 128) ∨ (128 ≤ d) by omega) with hd | hd | hd
        · have e0 : ((d : Int) == 0) = true := by rw [beq_iff_eq]; omega
          have HB := HW.out
          rw [if_pos (by rw [Hk.out]; omega)] at HB
          have HE := Lib.hid HB
          clear HB HW
          have hd' : d ≤ 0 := by omega
          clear hd
          go_wp2
          go_ret
          exact ⟨by rw [HE.out]; rfl, by rw [HE.out]; exact h4, f4⟩
        · have e0 : ((d : Int) == 0) = false := by rw [beq_eq_false_iff_ne]; omega
          have HB := HW.out
          rw [if_neg (by rw [Hk.out]; omega), if_pos (by omega)] at HB
          have HE := Lib.hid HB
          clear HB HW
          go_wp2
          go_ret
          exact ⟨by rw [HE.out]; exact ret_int (by
            show _ = ((m + d * v : Nat) : Int)
            rw [show (d : Int) % 128 = d by omega]
            simp), by rw [HE.out]; exact h1, f3⟩
        · have e0 : ((d : Int) == 0) = false := by rw [beq_eq_false_iff_ne]; omega
          have HB := HW.out
          rw [if_neg (by rw [Hk.out]; omega), if_neg (by omega)] at HB
          have HE := Lib.hid HB
          clear HB HW
          go_wp2
          go_roundw
          case rel => exact ⟨k + 1, m + (d - 128) * v, v * 128, t, congrArg (Value.int IntKind.i64) (by have := Hk.out; omega), congrArg (Value.int IntKind.u64) (by
            rw [show (d : Int) % 128 = ((d - 128 : Nat) : Int) by omega]
            simp), congrArg (Value.int IntKind.u64) (by simp), by have := Hk.out; omega, Hvn.out, by rw [Hv.out]; omega, HE.out, h1, f3⟩
          case measure =>
            have hk9 := Hk.out
            simp only [intOf, Int.toNat_natCast]
            omega
      · have hv2 : v = 268435456 := by rw [hv, e]
        have hvn : v * 128 = 128 ^ (k + 1) := by rw [hv, Nat.pow_succ]
        have Hvn := Lib.hid hvn
        have Hk := Lib.hid e
        have Hv := Lib.hid hv2
        rw [show (k : Int) = 4 by omega]
        have hvi : (v : Int) = 268435456 := by omega
        have p0 : 0 ≤ (d : Int) % 128 * (v : Int) := by rw [hvi]; omega
        have p9 : (d : Int) % 128 * (v : Int) ≤ 34359738368 := by rw [hvi]; omega
        rw [hv2] at hm
        have Hvi := Lib.hid hvi
        clear hvi e hv2 hv hk hk5 hvn
        rcases (show (d = 0) ∨ (0 < d ∧ d ≤ 15) ∨ (16 ≤ d ∧ d < 128) ∨ (128 ≤ d ∧ d < 144) ∨ (144 ≤ d) by omega) with hd | hd | hd | hd | hd
        · have e0 : ((d : Int) == 0) = true := by rw [beq_iff_eq]; omega
          have HB := HW.out
          rw [if_pos (by rw [Hk.out]; omega)] at HB
          have HE := Lib.hid HB
          clear HB HW
          have hd' : d ≤ 0 := by omega
          clear hd
          go_wp2
          go_ret
          exact ⟨by rw [HE.out]; rfl, by rw [HE.out]; exact h4, f4⟩
        · have e0 : ((d : Int) == 0) = false := by rw [beq_eq_false_iff_ne]; omega
          have HB := HW.out
          rw [if_neg (by rw [Hk.out]; omega), if_pos (by omega)] at HB
          have HE := Lib.hid HB
          clear HB HW
          have p1 : (m : Int) + (d : Int) % 128 * (v : Int) ≤ 4294967295 := by rw [Hvi.out]; omega
          go_wp2
          go_ret
          exact ⟨by rw [HE.out]; exact ret_int (by
            show _ = ((m + d * v : Nat) : Int)
            rw [show (d : Int) % 128 = d by omega]
            simp), by rw [HE.out]; exact h1, f3⟩
        · have e0 : ((d : Int) == 0) = false := by rw [beq_eq_false_iff_ne]; omega
          have HB := HW.out
          rw [if_pos (by rw [Hk.out]; omega)] at HB
          have HE := Lib.hid HB
          clear HB HW
          have p1 : 4294967295 < (m : Int) + (d : Int) % 128 * (v : Int) := by rw [Hvi.out]; omega
          go_wp2
          go_ret
          exact ⟨by rw [HE.out]; rfl, by rw [HE.out]; exact h4, f4⟩
        · have e0 : ((d : Int) == 0) = false := by rw [beq_eq_false_iff_ne]; omega
          have HB := HW.out
          rw [if_pos (by rw [Hk.out]; omega)] at HB
          have HE := Lib.hid HB
          clear HB HW
          have p1 : (m : Int) + (d : Int) % 128 * (v : Int) ≤ 4294967295 := by rw [Hvi.out]; omega
          go_wp2
          go_ret
          exact ⟨by rw [HE.out]; rfl, by rw [HE.out]; exact h4, f4⟩
        · have e0 : ((d : Int) == 0) = false := by rw [beq_eq_false_iff_ne]; omega
          have HB := HW.out
          rw [if_pos (by rw [Hk.out]; omega)] at HB
          have HE := Lib.hid HB
          clear HB HW
          have p1 : 4294967295 < (m : Int) + (d : Int) % 128 * (v : Int) := by rw [Hvi.out]; omega
          go_wp2
          go_ret
          exact ⟨by rw [HE.out]; rfl, by rw [HE.out]; exact h4, f4⟩

theorem q_var (b : Nat) (s l : List UInt8) (e : Nat) (w : World) (h : Rq w b s l e) :
    Calls Try.prog 46 #[.pointer (some ⟨b, 0, none⟩)] w fun r w' =>
      r = .returned (.int .u32 (varS l e).1) ∧ Rq w' b s (varS l e).2.1 (varS l e).2.2 ∧ Frm (· = b) w w' := by
  unfold varS
  by_cases he : e = 0
  · subst he
    rw [if_pos rfl]
    exact q_var_main b s l w h
  · rw [if_neg he]
    have hl := h.inv he
    subst hl
    have hn : numS 1 [] e = (0, [], e) := by unfold numS nextS; rw [if_neg (by simp), if_neg he]; rfl
    have hne : ((e : Int) != 0) = true := by simpa using he
    go_enter Try.func46, Try.ntmps46
    go_wp2
    refine wp_loop_rounds 2 ?_
    rw [rounds_succ]
    go_wp2_with fail
    refine (q_number 1 b s [] e w h (by omega)).mono ?_
    rw [hn]
    rintro r w1 ⟨rfl, h1, h2⟩
    have c2 := h1.c2
    go_wp2
    go_ret
    exact ⟨rfl, h1, h2⟩

end Go.Proofs.Ytdoeogfjbcannaa
