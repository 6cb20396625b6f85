/- What the document's answers of package sum are. No condition. -/
import Derived.Test.YtcmchhakkeoklaaSumA
namespace Go.Proofs.Ytcmchhakkeoklaa
open Go.RowKit

theorem val_int {k : IntKind} {a b : Int} (h : a = b) : Value.int k a = Value.int k b := by rw [h]
theorem low_of (n : Nat) : (((rdn n).1 : Nat) : Int) = (n : Int) % 65536 % 65535 := by
  show ((n % 65536 % 65535 : Nat) : Int) = _
  omega
theorem high_of (n : Nat) : (((rdn n).2 : Nat) : Int) = (n : Int) / 65536 % 65535 := by
  show ((n / 65536 % 65535 : Nat) : Int) = _
  omega
theorem stp_1 (p : Nat × Nat) (c : UInt8) : (((stp p c).1 : Nat) : Int) = ((p.1 : Int) + c.toNat) % 65535 := by
  show (((p.1 + c.toNat) % 65535 : Nat) : Int) = _
  omega
theorem stp_2 (p : Nat × Nat) (c : UInt8) : (((stp p c).2 : Nat) : Int) = ((p.2 : Int) + ((p.1 : Int) + c.toNat) % 65535) % 65535 := by
  show (((p.2 + (p.1 + c.toNat) % 65535) % 65535 : Nat) : Int) = _
  omega
theorem num_of (p : Nat × Nat) : ((num p : Nat) : Int) = (p.2 : Int) * 65536 + p.1 := by
  show ((p.2 * 65536 + p.1 : Nat) : Int) = _
  omega

set_option maxHeartbeats 1000000 in
theorem rupdate_any (n : Nat) (l : List UInt8) (w : World) (hn : n < 4294967296) (hl : l.length ≤ 9223372036854775807) :
    Calls Try.prog 13 #[.int .u32 n, .string (bs l)] w fun e w' => e = .returned (.int .u32 (num (upd (rdn n) l))) ∧ w = w' := by
  have hsz : (bs l).size = l.length := rfl
  have Hsz := Lib.hid hsz
  have hl' : (bs l).size ≤ 9223372036854775807 := hl
  clear hsz
  have h1 := low_of n
  have h2 := high_of n
  have H1 := Lib.hid h1
  have H2 := Lib.hid h2
  have hr := rdn_lt n
  clear h1 h2
  go_enter Try.func13, Try.ntmps13
  go_wp2
  all_goals
    go_loop [5, 6, 7] (fun a b i => ∃ k : Nat, k ≤ l.length ∧ i = .int .i64 k ∧ a = .int .i64 (upd (rdn n) (l.take k)).1 ∧ b = .int .i64 (upd (rdn n) (l.take k)).2) (fun _ _ i => l.length - (intOf i).toNat)
    case atStart =>
      rename_i _ hA hB _ _
      simp only [beq_iff_eq, beq_eq_false_iff_ne] at hA hB
      exact ⟨0, Nat.zero_le _, rfl, val_int (by have := H1.out; show _ = (((rdn n).1 : Nat) : Int); omega), val_int (by have := H2.out; show _ = (((rdn n).2 : Nat) : Int); omega)⟩
    case round =>
      obtain ⟨k, hk, rfl, rfl, rfl⟩ := hrel
      have hlu := upd_lt (l.take k) _ hr
      have hx := hlu.1
      have hy := hlu.2
      clear hlu
      by_cases hlt : k < l.length
      · have hlt' : k < (bs l).size := hlt
        have hb : (bs l)[k].toNat < 256 := UInt8.toNat_lt _
        have s2 := take_snoc l k hlt
        have e1 := stp_1 (upd (rdn n) (l.take k)) (bs l)[k]
        have e2 := stp_2 (upd (rdn n) (l.take k)) (bs l)[k]
        have S2 := Lib.hid s2
        have E1 := Lib.hid e1
        have E2 := Lib.hid e2
        clear s2 e1 e2
        go_wp2
        go_round
        case rel => exact ⟨k + 1, by omega, by go_num, by rw [S2.out, upd_snoc]; exact val_int E1.out.symm, by rw [S2.out, upd_snoc]; exact val_int E2.out.symm⟩
        case measure => simp [intOf]; omega
      · obtain rfl : k = l.length := by omega
        have hge : (bs l).size ≤ l.length := Nat.le_refl _
        rw [List.take_length] at hx hy ⊢
        have e3 := num_of (upd (rdn n) l)
        have E3 := Lib.hid e3
        clear e3
        go_wp2
        go_ret
        exact ⟨ret_int E3.out.symm, rfl⟩

theorem rsum_any (l : List UInt8) (w : World) (hl : l.length ≤ 9223372036854775807) :
    Calls Try.prog 11 #[.string (bs l)] w fun e w' => e = .returned (.int .u32 (num (sm l))) ∧ w = w' := by
  go_enter Try.func11, Try.ntmps11
  go_wp2_with fail
  refine (rupdate_any 1 l w (by decide) hl).mono ?_
  rintro e w1 ⟨rfl, rfl⟩
  go_wp2_with fail
  go_ret
  exact ⟨rfl, rfl⟩

theorem join_e3 (x y u v n : Nat) : ((y : Int) + v + (n : Int) % 65535 * (((x : Int) + 65534) % 65535)) % 65535 = (((jn (x, y) (u, v) n).2 : Nat) : Int) := by
  have j2 : (jn (x, y) (u, v) n).2 = _ := join_second x y v n
  have e : ((x : Int) + 65534) % 65535 = (((x + 65534) % 65535 : Nat) : Int) := by omega
  have e' : (n : Int) % 65535 = ((n % 65535 : Nat) : Int) := by omega
  rw [j2, e, e', ← Int.natCast_mul]
  generalize n % 65535 * ((x + 65534) % 65535) = q
  clear j2 e e'
  omega
theorem join_e4 (x u y v n : Nat) : ((x : Int) + 65534 + u) % 65535 = (((jn (x, y) (u, v) n).1 : Nat) : Int) := by
  show _ = (((x + 65534 + u) % 65535 : Nat) : Int)
  omega
theorem join_b (x n : Nat) : 0 ≤ (n : Int) % 65535 * (((x : Int) + 65534) % 65535) ∧ (n : Int) % 65535 * (((x : Int) + 65534) % 65535) ≤ 4294705156 := by
  have j3 := join_small x n
  have e : ((x : Int) + 65534) % 65535 = (((x + 65534) % 65535 : Nat) : Int) := by omega
  have e' : (n : Int) % 65535 = ((n % 65535 : Nat) : Int) := by omega
  rw [e, e', ← Int.natCast_mul]
  omega
theorem num_low (x y : Nat) (hx : x < 65535) : ((num (x, y) : Nat) : Int) % 65536 = x := by rw [num_of]; show ((y : Int) * 65536 + x) % 65536 = x; omega
theorem num_high (x y : Nat) (hx : x < 65535) : ((num (x, y) : Nat) : Int) / 65536 = y := by rw [num_of]; show ((y : Int) * 65536 + x) / 65536 = y; omega

set_option maxHeartbeats 1000000 in
theorem rjoin_nat (a b : Nat) (n : Nat) (w : World) (ha : a < 4294967296) (hb : b < 4294967296) (hn : n ≤ 9223372036854775807) :
    Calls Try.prog 15 #[.int .u32 a, .int .u32 b, .int .i64 n] w fun e w' => e = .returned (.int .u32 (num (jn (rdn a) (rdn b) n))) ∧ w = w' := by
  have hra := rdn_lt a
  have hrb := rdn_lt b
  obtain ⟨⟨x, y⟩, hp⟩ : ∃ p, rdn a = p := ⟨_, rfl⟩
  obtain ⟨⟨u, v⟩, hq⟩ : ∃ p, rdn b = p := ⟨_, rfl⟩
  rw [hp] at hra ⊢
  rw [hq] at hrb ⊢
  have hna := num_lt hra
  have hnb := num_lt hrb
  obtain ⟨hx, hy⟩ := hra
  obtain ⟨hu, hv⟩ := hrb
  simp only at hx hy hu hv
  have Hp := Lib.hid hp
  have Hq := Lib.hid hq
  clear hp hq
  go_enter Try.func15, Try.ntmps15
  go_wp2_with fail
  refine (rupdate_any a [] w ha (by decide)).mono ?_
  rintro e w1 ⟨rfl, rfl⟩
  rw [Hp.out, upd_nil]
  go_wp2_with fail
  refine (rupdate_any b [] w hb (by decide)).mono ?_
  rintro e w1 ⟨rfl, rfl⟩
  rw [Hq.out, upd_nil]
  have e1 := num_low x y hx
  have e2 := num_high x y hx
  have e3 := num_low u v hu
  have e4 := num_high u v hu
  have ⟨b1, b2⟩ := join_b x n
  go_wp2_with fail
  go_ret
  exact ⟨ret_int (by rw [join_e3 x y u v n, join_e4 x u y v n, num_of]), rfl⟩

theorem join_e5 (x y u v : Nat) : ((y : Int) + v) % 65535 = (((jn (x, y) (u, v) 0).2 : Nat) : Int) := by
  have h := join_e3 x y u v 0
  simpa using h

set_option maxHeartbeats 1000000 in
theorem rjoin_neg (a b : Nat) (n : Int) (w : World) (ha : a < 4294967296) (hb : b < 4294967296) (hn : n < 0) :
    Calls Try.prog 15 #[.int .u32 a, .int .u32 b, .int .i64 n] w fun e w' => e = .returned (.int .u32 (num (jn (rdn a) (rdn b) 0))) ∧ w = w' := by
  have hra := rdn_lt a
  have hrb := rdn_lt b
  obtain ⟨⟨x, y⟩, hp⟩ : ∃ p, rdn a = p := ⟨_, rfl⟩
  obtain ⟨⟨u, v⟩, hq⟩ : ∃ p, rdn b = p := ⟨_, rfl⟩
  rw [hp] at hra ⊢
  rw [hq] at hrb ⊢
  have hna := num_lt hra
  have hnb := num_lt hrb
  obtain ⟨hx, hy⟩ := hra
  obtain ⟨hu, hv⟩ := hrb
  simp only at hx hy hu hv
  have Hp := Lib.hid hp
  have Hq := Lib.hid hq
  clear hp hq
  go_enter Try.func15, Try.ntmps15
  go_wp2_with fail
  refine (rupdate_any a [] w ha (by decide)).mono ?_
  rintro e w1 ⟨rfl, rfl⟩
  rw [Hp.out, upd_nil]
  go_wp2_with fail
  refine (rupdate_any b [] w hb (by decide)).mono ?_
  rintro e w1 ⟨rfl, rfl⟩
  rw [Hq.out, upd_nil]
  have e1 := num_low x y hx
  have e2 := num_high x y hx
  have e3 := num_low u v hu
  have e4 := num_high u v hu
  go_wp2_with fail
  go_ret
  exact ⟨ret_int (by rw [join_e5 x y u v, join_e4 x u y v 0, num_of]), rfl⟩

theorem rjoin_any (a b : Nat) (n : Int) (w : World) (ha : a < 4294967296) (hb : b < 4294967296) (hn : n ≤ 9223372036854775807) :
    Calls Try.prog 15 #[.int .u32 a, .int .u32 b, .int .i64 n] w fun e w' => e = .returned (.int .u32 (num (jn (rdn a) (rdn b) n.toNat))) ∧ w = w' := by
  rcases Int.lt_or_le n 0 with h | h
  · rw [Int.toNat_of_nonpos (by omega)]
    exact rjoin_neg a b n w ha hb h
  · obtain ⟨m, rfl⟩ := Int.eq_ofNat_of_zero_le h
    exact rjoin_nat a b m w ha hb (by omega)
end Go.Proofs.Ytcmchhakkeoklaa
