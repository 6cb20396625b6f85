/- What the calls of package sum do. The two sums are a block of two cells. No condition. -/
import Derived.Test.YtcmchhakkeoklaaSumM
import Derived.Lib.Strings
import Derived.RegionTactic
namespace Go.Proofs.Ytcmchhakkeoklaa
open Go.RowKit
theorem ret_int {k : IntKind} {a b : Int} (h : a = b) : Ending.returned (.int k a) = .returned (.int k b) := by rw [h]

/-- Both sums, as an array's value. -/
def pv (p : Nat × Nat) : Value := .agg #[.int .u32 p.1, .int .u32 p.2]
/-- Both sums lie in the block b. -/
def Sm (w : World) (b : Nat) (p : Nat × Nat) : Prop := Blk w b 37 #[.int .u32 p.1, .int .u32 p.2]
theorem Sm.c0 {w : World} {b : Nat} {p : Nat × Nat} (h : Sm w b p) : w.cell? ⟨b, 0, none⟩ = some (.int .u32 p.1) := h.cell 0 rfl
theorem Sm.c1 {w : World} {b : Nat} {p : Nat × Nat} (h : Sm w b p) : w.cell? ⟨b, 1, none⟩ = some (.int .u32 p.2) := h.cell 1 rfl
theorem Sm.keep {X : Nat → Prop} {w w' : World} {b : Nat} {p : Nat × Nat} (h : Sm w b p) (hf : Frm X w w') (hn : ¬ X b) : Sm w' b p := Blk.keep h hf hn
theorem Sm.made (w : World) (p : Nat × Nat) : Sm (w.alloc (.cells #[.int .u32 p.1, .int .u32 p.2] 37)) w.heap.size p := Blk.alloc w _ _
theorem Frm.one (b i : Nat) (u : Value) (w : World) : Frm (· = b) w (w.setCell ⟨b, i, none⟩ u) := (Frm.refl (· = b) w).setCell (p := ⟨b, i, none⟩) (fun _ => rfl) u
theorem Frm.new {w w1 w2 : World} {X Y : Nat → Prop} (h : Frm X w w1) (h' : Frm Y w1 w2) (hy : ∀ k, Y k → w.heap.size ≤ k) : Frm X w w2 := h.next h' fun k hk hY => by have := hy k hY; omega

theorem and_low (n : Nat) (hn : n < 4294967296) : (bits BinOp.and IntKind.u32 (↑n) 65535).tmod 65535 = (((rdn n).1 : Nat) : Int) := by
  have e : bits BinOp.and IntKind.u32 (↑n) 65535 = ((n % 65536 : Nat) : Int) := by
    have h := u32_and_nat n 65535 hn (by decide)
    have h2 : n &&& 65535 = n % 65536 := Nat.and_two_pow_sub_one_eq_mod n 16
    rw [h2] at h
    exact h
  rw [e]
  show _ = ((n % 65536 % 65535 : Nat) : Int)
  rw [Int.tmod_eq_emod_of_nonneg (by omega)]
  omega
theorem shr_high (n : Nat) : (↑n : Int) / 65536 % 65535 = (((rdn n).2 : Nat) : Int) := by
  show _ = ((n / 65536 % 65535 : Nat) : Int)
  omega

set_option maxHeartbeats 400000 in
theorem read_any (n : Nat) (w : World) (hn : n < 4294967296) :
    Calls Try.prog 17 #[.int .u32 n] w fun e w' => e = .returned (pv (rdn n)) ∧ Frm (fun _ => False) w w' := by
  go_enter Try.func17, Try.ntmps17
  go_wp2
  rw [and_low n hn, shr_high n]
  exact bodyPost_ret (v := pv (rdn n)) (by simp [results, Try.results17, go_sem, pv]) rfl ⟨rfl, (Frm.refl _ w).alloc _⟩

theorem shl_or (x y : Nat) (hx : x < 65535) (hy : y < 65535) : bits BinOp.or IntKind.u32 (↑y * 65536) ↑x = ((num (x, y) : Nat) : Int) := by
  have e : (y : Int) * 65536 = ((y * 65536 : Nat) : Int) := by omega
  rw [e, u32_or_nat _ _ (by omega) (by omega), nat_join 16 _ _ (by omega) (by omega)]
  rfl

set_option maxHeartbeats 400000 in
theorem number_any (p : Nat × Nat) (w : World) (hp : Lt p) :
    Calls Try.prog 20 #[pv p] w fun e w' => e = .returned (.int .u32 (num p)) ∧ Frm (fun _ => False) w w' := by
  obtain ⟨x, y⟩ := p
  obtain ⟨hx, hy⟩ := hp
  simp only at hx hy
  have hs := shl_or x y hx hy
  have Hs := Lib.hid hs
  clear hs
  unfold pv
  go_enter Try.func20, Try.ntmps20
  go_wp2
  go_ret
  exact ⟨ret_int Hs.out, (Frm.refl _ w).alloc _⟩

set_option maxHeartbeats 400000 in
theorem add_any (b : Nat) (p : Nat × Nat) (c : UInt8) (w : World) (h : Sm w b p) (hp : Lt p) :
    Calls Try.prog 19 #[.pointer (some ⟨b, 0, none⟩), .int .u8 c.toNat] w fun e w' => e = .returned (.tuple #[]) ∧ Sm w' b (stp p c) ∧ Frm (· = b) w w' := by
  obtain ⟨x, y⟩ := p
  obtain ⟨hx, hy⟩ := hp
  simp only at hx hy
  have c0 : w.cell? ⟨b, 0, none⟩ = some (.int .u32 x) := h.cell 0 rfl
  have c1 : w.cell? ⟨b, 1, none⟩ = some (.int .u32 y) := h.cell 1 rfl
  have f0 := h.free 0
  have f1 := h.free 1
  have hc := c.toNat_lt
  go_enter Try.func19, Try.ntmps19
  go_wp2
  go_region
  go_wp2
  go_region
  go_wp2
  go_end0
  have e1 : ((x : Int) + c.toNat) % 65535 = (((stp (x, y) c).1 : Nat) : Int) := by
    show _ = (((x + c.toNat) % 65535 : Nat) : Int)
    omega
  have e2 : ((y : Int) + (x + c.toNat)) % 65535 = (((stp (x, y) c).2 : Nat) : Int) := by
    show _ = (((y + (x + c.toNat) % 65535) % 65535 : Nat) : Int)
    omega
  rw [e1, e2]
  exact ⟨rfl, (Blk.set h 0 _).set 1 _, ((Frm.one b 0 _ w).trans (Frm.one b 1 _ _)).drew.drew⟩

/-- The call that lets both sums of the block b go on by a byte. -/
abbrev addV (b : Nat) : Value := .func (.func 19) #[.pointer (some ⟨b, 0, none⟩)] #[]
theorem take_snoc (l : List UInt8) (k : Nat) (h : k < l.length) : l.take (k + 1) = l.take k ++ [l[k]] := by
  rw [List.take_succ_eq_append_getElem h]

set_option maxHeartbeats 400000 in
theorem each_any (b : Nat) (p : Nat × Nat) (l : List UInt8) (w : World) (h : Sm w b p) (hp : Lt p) (hl : l.length ≤ 9223372036854775807) :
    Calls Try.prog 18 #[.string (bs l), addV b] w fun e w' => e = .returned (.tuple #[]) ∧ Sm w' b (upd p l) ∧ Frm (· = b) w w' := by
  have hsz : (bs l).size = l.length := rfl
  have Hsz := Lib.hid hsz
  have hl' : (bs l).size ≤ 9223372036854775807 := hl
  clear hsz
  go_enter Try.func18, Try.ntmps18
  go_wp2
  go_loopw [7] (fun i wr => ∃ k : Nat, k ≤ l.length ∧ i = .int .i64 k ∧ Sm wr b (upd p (l.take k)) ∧ Frm (· = b) w wr) (fun i _ => l.length - (intOf i).toNat)
  case atStart => exact ⟨0, Nat.zero_le _, rfl, h, Frm.refl _ _⟩
  case round =>
    obtain ⟨k, hk, rfl, s1, g1⟩ := hrel
    by_cases hlt : k < l.length
    · have hlt' : k < (bs l).size := hlt
      have s2 := take_snoc l k hlt
      have S2 := Lib.hid s2
      clear s2
      go_wp2_with fail
      refine (add_any b _ (bs l)[k] _ s1 (upd_lt _ p hp)).mono ?_
      rintro e w2 ⟨rfl, s3, g2⟩
      go_wp2_with fail
      go_roundw
      case rel => exact ⟨k + 1, by omega, by go_num, by rw [S2.out, upd_snoc]; exact s3, g1.trans g2⟩
      case measure => simp [intOf]; omega
    · obtain rfl : k = l.length := by omega
      have hge : (bs l).size ≤ l.length := Nat.le_refl _
      go_wp2_with fail
      rw [List.take_length] at s1
      go_end0
      exact ⟨rfl, s1, g1⟩

set_option maxHeartbeats 400000 in
theorem update_any (n : Nat) (l : List UInt8) (w : World) (hn : n < 4294967296) (hl : l.length ≤ 9223372036854775807) :
    Calls Try.prog 12 #[.int .u32 n, .string (bs l)] w fun e w' => e = .returned (.int .u32 (num (upd (rdn n) l))) ∧ Frm (fun _ => False) w w' := by
  have hr := rdn_lt n
  obtain ⟨p, hp⟩ : ∃ p, rdn n = p := ⟨_, rfl⟩
  rw [hp] at hr ⊢
  have Hp := Lib.hid hp
  clear hp
  go_enter Try.func12, Try.ntmps12
  go_wp2_with fail
  refine (read_any n w hn).mono ?_
  rintro e w1 ⟨rfl, g1⟩
  rw [Hp.out]
  unfold pv
  go_wp2_with fail
  have s1 := Sm.made w1 p
  have g2 := g1.alloc (.cells #[.int .u32 p.1, .int .u32 p.2] 37)
  have hz := g1.size
  refine (each_any _ p l _ s1 hr hl).mono ?_
  rintro e w2 ⟨rfl, s2, g3⟩
  have g4 := g2.next g3 (by intro k hk hY; omega)
  have c0 := s2.c0
  have c1 := s2.c1
  clear g1 s1 g2 g3 hz
  go_wp2_with fail
  refine (number_any (upd p l) _ (upd_lt l p hr)).mono ?_
  rintro e w3 ⟨rfl, g5⟩
  go_wp2_with fail
  go_ret
  exact ⟨rfl, g4.trans g5⟩

set_option maxHeartbeats 400000 in
theorem sum_any (l : List UInt8) (w : World) (hl : l.length ≤ 9223372036854775807) :
    Calls Try.prog 10 #[.string (bs l)] w fun e w' => e = .returned (.int .u32 (num (sm l))) ∧ Frm (fun _ => False) w w' := by
  go_enter Try.func10, Try.ntmps10
  go_wp2_with fail
  refine (update_any 1 l w (by decide) hl).mono ?_
  rintro e w1 ⟨rfl, g1⟩
  go_wp2_with fail
  go_ret
  exact ⟨rfl, g1⟩

theorem number_of (p : Nat × Nat) (x y : Int) (w : World) (h1 : x = p.1) (h2 : y = p.2) (hp : Lt p) :
    Calls Try.prog 20 #[.agg #[.int .u32 x, .int .u32 y]] w fun e w' => e = .returned (.int .u32 (num p)) ∧ Frm (fun _ => False) w w' := by
  subst h1 h2
  exact number_any p w hp
theorem join_second (x y v m : Nat) : (y + v + m * (x + 65534)) % 65535 = (y + v + (m % 65535) * ((x + 65534) % 65535)) % 65535 :=
  modeq_add rfl (modeq_mul (modeq_mod _ _).symm (modeq_mod _ _).symm)
theorem join_small (x m : Nat) : (m % 65535) * ((x + 65534) % 65535) ≤ 65534 * 65534 := Nat.mul_le_mul (by omega) (by omega)
theorem join_e1 (x u y v n : Nat) : (((x : Int) + 65535 - 1) % 65535 + u) % 65535 = (((jn (x, y) (u, v) n).1 : Nat) : Int) := by
  show _ = (((x + 65534 + u) % 65535 : Nat) : Int)
  omega
theorem join_e1b (x u y v n : Nat) : ((x : Int) + 65535 - 1 + u) % 65535 = (((jn (x, y) (u, v) n).1 : Nat) : Int) := by
  show _ = (((x + 65534 + u) % 65535 : Nat) : Int)
  omega
theorem join_e2 (x y u v n : Nat) : ((y : Int) + v + (n : Int) % 65535 * (((x : Int) + 65535 - 1) % 65535) % 4294967296) % 65535 = (((jn (x, y) (u, v) n).2 : Nat) : Int) := by
  have j2 : (jn (x, y) (u, v) n).2 = _ := join_second x y v n
  have j3 := join_small x n
  have e : ((x : Int) + 65535 - 1) % 65535 = (((x + 65534) % 65535 : Nat) : Int) := by omega
  have e' : (n : Int) % 65535 = ((n % 65535 : Nat) : Int) := by omega
  rw [j2, e, e', ← Int.natCast_mul]
  generalize n % 65535 * ((x + 65534) % 65535) = q at j3
  clear j2 e e'
  omega

set_option maxHeartbeats 400000 in
theorem join_nat (a b : Nat) (n : Nat) (w : World) (ha : a < 4294967296) (hb : b < 4294967296) (hn : n ≤ 9223372036854775807) :
    Calls Try.prog 14 #[.int .u32 a, .int .u32 b, .int .i64 n] w fun e w' => e = .returned (.int .u32 (num (jn (rdn a) (rdn b) n))) ∧ Frm (fun _ => False) w w' := by
  have hra := rdn_lt a
  have hrb := rdn_lt b
  obtain ⟨⟨x, y⟩, hp⟩ : ∃ p, rdn a = p := ⟨_, rfl⟩
  obtain ⟨⟨u, v⟩, hq⟩ : ∃ p, rdn b = p := ⟨_, rfl⟩
  rw [hp] at hra ⊢
  rw [hq] at hrb ⊢
  obtain ⟨hx, hy⟩ := hra
  obtain ⟨hu, hv⟩ := hrb
  simp only at hx hy hu hv
  have Hp := Lib.hid hp
  have Hq := Lib.hid hq
  clear hp hq
  go_enter Try.func14, Try.ntmps14
  go_wp2_with fail
  refine (read_any a w ha).mono ?_
  rintro e w1 ⟨rfl, g1⟩
  go_wp2_with fail
  refine (read_any b _ hb).mono ?_
  rintro e w2 ⟨rfl, g2⟩
  rw [Hp.out, Hq.out]
  unfold pv
  go_wp2_with fail
  refine (number_of (jn (x, y) (u, v) n) _ _ _ ?_ (join_e2 x y u v n) (jn_lt _ _ _)).mono ?_
  · with_reducible first | exact join_e1 x u y v n | exact join_e1b x u y v n
  rintro e w3 ⟨rfl, g3⟩
  go_wp2_with fail
  go_ret
  exact ⟨rfl, (((g1.trans g2).alloc _).alloc _).trans g3⟩

set_option maxHeartbeats 400000 in
theorem join_neg (a b : Nat) (n : Int) (w : World) (ha : a < 4294967296) (hb : b < 4294967296) (hn : n < 0) :
    Calls Try.prog 14 #[.int .u32 a, .int .u32 b, .int .i64 n] w fun e w' => e = .returned (.int .u32 (num (jn (rdn a) (rdn b) 0))) ∧ Frm (fun _ => False) w w' := by
  have hra := rdn_lt a
  have hrb := rdn_lt b
  obtain ⟨⟨x, y⟩, hp⟩ : ∃ p, rdn a = p := ⟨_, rfl⟩
  obtain ⟨⟨u, v⟩, hq⟩ : ∃ p, rdn b = p := ⟨_, rfl⟩
  rw [hp] at hra ⊢
  rw [hq] at hrb ⊢
  obtain ⟨hx, hy⟩ := hra
  obtain ⟨hu, hv⟩ := hrb
  simp only at hx hy hu hv
  have Hp := Lib.hid hp
  have Hq := Lib.hid hq
  clear hp hq
  go_enter Try.func14, Try.ntmps14
  go_wp2_with fail
  refine (read_any a w ha).mono ?_
  rintro e w1 ⟨rfl, g1⟩
  go_wp2_with fail
  refine (read_any b _ hb).mono ?_
  rintro e w2 ⟨rfl, g2⟩
  rw [Hp.out, Hq.out]
  unfold pv
  go_wp2_with fail
  refine (number_of (jn (x, y) (u, v) 0) _ _ _ ?_ ?_ (jn_lt _ _ _)).mono ?_
  · with_reducible first | exact join_e1 x u y v 0 | exact join_e1b x u y v 0
  · rw [← join_e2]
    trace_state
    simp
  rintro e w3 ⟨rfl, g3⟩
  go_wp2_with fail
  go_ret
  exact ⟨rfl, (((g1.trans g2).alloc _).alloc _).trans g3⟩

theorem join_any (a b : Nat) (n : Int) (w : World) (ha : a < 4294967296) (hb : b < 4294967296) (hn : n ≤ 9223372036854775807) :
    Calls Try.prog 14 #[.int .u32 a, .int .u32 b, .int .i64 n] w fun e w' => e = .returned (.int .u32 (num (jn (rdn a) (rdn b) n.toNat))) ∧ Frm (fun _ => False) w w' := by
  rcases Int.lt_or_le n 0 with h | h
  · rw [Int.toNat_of_nonpos (by omega)]
    exact join_neg a b n w ha hb h
  · obtain ⟨m, rfl⟩ := Int.eq_ofNat_of_zero_le h
    exact join_nat a b m w ha hb (by omega)
end Go.Proofs.Ytcmchhakkeoklaa
