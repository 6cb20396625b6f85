/- What the document's own answers for writing are. No condition but the numbers' own. -/
import Derived.Test.YtehnhhjahejbmaaItems
namespace Go.Proofs.Ytehnhhjahejbmaa
open Go.RowKit
theorem beB_front (i : Nat) : ∀ n, beB (i + 1) n = UInt8.ofNat (n / 256 ^ i) :: beB i n := by
  induction i with
  | zero => intro n; simp [beB]
  | succ i ih =>
    intro n
    rw [beB, ih (n / 256), List.cons_append, Nat.div_div_eq_div_mul, Nat.mul_comm, ← Nat.pow_succ]
    rfl
theorem ofNat_mod (n : Nat) : UInt8.ofNat (n % 256) = UInt8.ofNat n := by
  apply UInt8.toNat_inj.1
  rw [UInt8.toNat_ofNat', UInt8.toNat_ofNat']
  omega
theorem u8s_one (n : Nat) (h : n < 256) : u8s [UInt8.ofNat n] = [.int .u8 n] := by
  have : (UInt8.ofNat n).toNat = n := by rw [UInt8.toNat_ofNat']; omega
  simp only [u8s, List.map_cons, List.map_nil, this]

set_option maxRecDepth 100000 in
set_option maxHeartbeats 1000000 in
theorem refFixed_any (n k : Nat) (hn : n < 4294967296) (hk : k ≤ 4) (w : World) :
    Calls Try.prog 33 #[.int .u32 n, .int .i64 k] w fun e w' => e = .returned (.string (bs (beB k n))) ∧ Frm (fun _ => False) w w' := by
  go_enter Try.func33, Try.ntmps33
  go_wp2
  go_loopw [0, 5, 6] (fun m s i wr => ∃ j : Nat, j ≤ k ∧ i = .int .i64 j ∧ m = .int .u32 (n / 256 ^ j : Nat) ∧ s = .string (bs (beB j n)) ∧ Frm (fun _ => False) w wr) (fun _ _ i _ => k - (intOf i).toNat)
  case atStart => exact ⟨0, Nat.zero_le _, rfl, by simp, rfl, Frm.refl _ _⟩
  case round =>
    obtain ⟨j, hj, rfl, rfl, rfl, f1⟩ := hrel
    obtain ⟨q, hq⟩ : ∃ q, n / 256 ^ j = q := ⟨_, rfl⟩
    rw [hq]
    have Hq := Lib.hid hq
    have hq2 : q < 4294967296 := by rw [← hq]; exact Nat.lt_of_le_of_lt (Nat.div_le_self _ _) hn
    have hsz : (bs (beB j n)).size ≤ 4 := by rw [bs_size, beB_len]; omega
    clear hq
    by_cases hlt : j < k
    · go_wp2_with fail
      rw [text_of_cells (l := [UInt8.ofNat (q % 256)]) _ 1 1 (Blk.alloc wr _ _) rfl (by rw [u8s_one (q % 256) (by omega), ← mod8a])]
      have hs1 : (bs [UInt8.ofNat (q % 256)]).size ≤ 1 := Nat.le_refl _
      have f2 := f1.alloc (.cells #[.int .u8 ((q : Int) % 256)] 5)
      go_wp2
      go_roundw
      case rel =>
        refine ⟨j + 1, by omega, by go_num, ?_, ?_, f2⟩
        · rw [Nat.pow_succ, ← Nat.div_div_eq_div_mul, Hq.out]; congr 1
        · rw [bs_append, beB_front, Hq.out, ofNat_mod]; rfl
      case measure => simp [intOf]; omega
    · obtain rfl : j = k := by omega
      go_wp2
      go_ret
      exact ⟨rfl, f1⟩

set_option maxRecDepth 100000 in
set_option maxHeartbeats 1000000 in
theorem refVar_any (n : Nat) (hn : n < 4294967296) (w : World) :
    Calls Try.prog 34 #[.int .u32 n] w fun e w' => e = .returned (.string (bs (varB n))) ∧ Frm (fun _ => False) w w' := by
  go_enter Try.func34, Try.ntmps34
  go_wp2
  go_loopw [0, 3] (fun i s wr => ∃ k m : Nat, i = .int .u32 m ∧ m < 128 ^ (k + 1) ∧ m < 4294967296 ∧ k ≤ 4 ∧ ∃ pre, pre.length = 4 - k ∧ varB n = pre ++ varD k m ∧ s = .string (bs pre) ∧ Frm (fun _ => False) w wr) (fun i _ _ => (intOf i).toNat)
  case atStart => exact ⟨4, n, rfl, by omega, hn, by omega, [], rfl, rfl, rfl, Frm.refl _ _⟩
  case round =>
    obtain ⟨k, m, rfl, hm, hm2, hk, pre, hp1, hp2, rfl, f1⟩ := hrel
    have hsz : (bs pre).size ≤ 4 := by rw [bs_size]; omega
    have Hp1 := Lib.hid hp1
    have Hp2 := Lib.hid hp2
    clear hp1 hp2
    by_cases hlt : m < 128
    · have hd := Lib.hid (varD_small k m hlt)
      have hlt' : m ≤ 127 := by omega
      go_wp2_with fail
      rw [text_of_cells (l := [UInt8.ofNat m]) _ 1 1 (Blk.alloc wr _ _) rfl (by rw [u8s_one m (by omega)])]
      have hs1 : (bs [UInt8.ofNat m]).size ≤ 1 := Nat.le_refl _
      go_wp2
      go_ret
      exact ⟨ret_str (by rw [bs_append, Hp2.out, hd.out]), f1.alloc _⟩
    · have hk0 : k ≠ 0 := by rintro rfl; omega
      obtain ⟨k, rfl⟩ : ∃ j, k = j + 1 := ⟨k - 1, by omega⟩
      have hd := varD_great k m hlt
      obtain ⟨q, hq⟩ : ∃ q, UInt8.ofNat (128 + m % 128) = q := ⟨_, rfl⟩
      rw [hq] at hd
      have Hd := Lib.hid hd
      clear hd
      have Hq := Lib.hid hq
      clear hq
      have hge : 127 < m := by omega
      go_wp2_with fail
      rw [text_of_cells (l := [q]) _ 1 1 (Blk.alloc wr _ _) rfl (by
        have e1 : (128 + (m : Int) % 128) = ((128 + m % 128 : Nat) : Int) := by omega
        rw [← Hq.out, u8s_one (128 + m % 128) (by omega), ← e1])]
      have hs1 : (bs [q]).size ≤ 1 := Nat.le_refl _
      have f2 := f1.alloc (.cells #[.int .u8 (128 + (m : Int) % 128)] 5)
      go_wp2
      go_roundw
      case rel =>
        refine ⟨k, m / 128, by first | rfl | congr 1, ?_, by omega, by omega, pre ++ [q], ?_, ?_, ?_, f2⟩
        · rw [Nat.pow_succ] at hm
          exact Nat.div_lt_of_lt_mul (by rw [Nat.mul_comm]; exact hm)
        · rw [List.length_append, Hp1.out]; simp; omega
        · rw [Hp2.out, Hd.out]; simp
        · rw [bs_append]
      case measure => simp [intOf]; omega

set_option maxHeartbeats 1000000 in
theorem refText_any (s : List UInt8) (hs : s.length ≤ 300) (w : World) :
    Calls Try.prog 35 #[.string (bs s)] w fun e w' => e = .returned (.string (bs (textB s))) ∧ Frm (fun _ => False) w w' := by
  have hsz : (bs s).size ≤ 300 := hs
  go_enter Try.func35, Try.ntmps35
  go_wp2_with fail
  refine (refVar_any s.length (by omega) _).mono ?_
  rintro e w1 ⟨rfl, f1⟩
  have hs1 : (bs (varB s.length)).size ≤ 5 := varB_len _
  go_wp2_with fail
  go_ret
  exact ⟨ret_str (by rw [bs_append]; rfl), f1⟩

theorem mod2 (n : Nat) : beB 2 n = beB 2 (n % 65536) := by
  have h1 : UInt8.ofNat (n % 65536) = UInt8.ofNat n := by
    apply UInt8.toNat_inj.1
    rw [UInt8.toNat_ofNat', UInt8.toNat_ofNat']
    omega
  have h2 : UInt8.ofNat (n % 65536 / 256) = UInt8.ofNat (n / 256) := by
    apply UInt8.toNat_inj.1
    rw [UInt8.toNat_ofNat', UInt8.toNat_ofNat']
    omega
  simp only [beB, h1, h2]
/-- How 'put' ends. -/
def PutTo (b : Nat) (s : List UInt8) (x : Item) (fp : List Nat) (w : World) (e : Ending) (W : World) : Prop :=
  e = .returned (.string (bs (encI x))) ∧ ∃ fp', Wr W b (s ++ encI x) fp' ∧ Frm (· ∈ fp) w W ∧ ∀ k ∈ fp', k ∈ fp ∨ w.heap.size ≤ k

set_option maxRecDepth 100000 in
set_option maxHeartbeats 2000000 in
theorem put_any (b : Nat) (s : List UInt8) (fp : List Nat) (x : Item) (w : World) (h : Wr w b s fp) (hk : x.k < 256) (hn : x.n < 4294967296) (hs : x.s.length ≤ 300) (hl : s.length ≤ 70368744000000) :
    Calls Try.prog 10 #[.pointer (some ⟨b, 0, none⟩), .agg #[.int .u8 x.k, .int .u32 x.n, .string (bs x.s)]] w (PutTo b s x fp w) := by
  obtain ⟨c, hc⟩ : ∃ c, x.k % 6 = c := ⟨_, rfl⟩
  have hc6 : c < 6 := by omega
  have He := Lib.hid hc
  clear hc
  have hb0 := Blk.alloc w 32 #[.int .u8 x.k, .int .u32 x.n, .string (bs x.s)]
  have h1 := h.keep ((Frm.refl (fun _ => False) w).alloc (.cells #[.int .u8 x.k, .int .u32 x.n, .string (bs x.s)] 32)) (fun _ _ h => h)
  have f1 := (Frm.refl (fun _ => False) w).alloc (.cells #[.int .u8 x.k, .int .u32 x.n, .string (bs x.s)] 32)
  have hx : ∀ t W e, WrTo b (s ++ t) fp (w.alloc (.cells #[.int .u8 x.k, .int .u32 x.n, .string (bs x.s)] 32)) e W → e = .returned (.tuple #[]) ∧ WrTo b (s ++ t) fp w (.returned (.tuple #[])) W ∧ Blk W w.heap.size 32 #[.int .u8 x.k, .int .u32 x.n, .string (bs x.s)] := by
    rintro t W e ⟨rfl, fp', a1, a2, a3⟩
    refine ⟨rfl, ⟨rfl, fp', a1, (f1.mono (fun _ _ h => h.elim)).next a2 (fun _ _ h => h), fun k hk => (a3 k hk).imp id fun e => Nat.le_trans f1.size e⟩, hb0.keep a2 fun hk => ?_⟩
    have := h.lt _ hk
    omega
  have hy : ∀ W W', WrTo b (s ++ encI x) fp w (.returned (.tuple #[])) W → Frm (fun _ => False) W W' → PutTo b s x fp w (.returned (.string (bs (encI x)))) W' := by
    rintro W W' ⟨_, fp', a1, a2, a3⟩ g
    exact ⟨rfl, fp', a1.keep g (fun _ _ h => h), a2.next g (fun _ _ h => h.elim), a3⟩
  have Hx := Lib.hid hx
  have Hy := Lib.hid hy
  clear hx hy
  go_enter Try.func10, Try.ntmps10
  rcases (show c = 0 ∨ c = 1 ∨ c = 2 ∨ c = 3 ∨ c = 4 ∨ c = 5 by omega) with rfl | rfl | rfl | rfl | rfl | rfl
  · have hE : encI x = beB 1 (x.n % 256) := by unfold encI; rw [if_pos He.out]
    have HE := Lib.hid hE
    clear hE
    have t0 : ((x.k : Int) % 6 == 0) = true := by rw [beq_iff_eq]; have := He.out; omega
    go_wp2_with fail
    first | rw [mod8] | rw [mod8a]
    refine (wu8_any b s fp (x.n % 256) (by omega) _ h1 (by omega)).mono ?_
    intro e W1 r
    obtain ⟨rfl, r2, hbx⟩ := Hx.out _ _ _ r
    clear r
    rw [← HE.out] at r2
    have c1 : W1.cell? ⟨w.heap.size, 1, none⟩ = some (.int .u32 x.n) := hbx.cell 1 rfl
    have c2 : W1.cell? ⟨w.heap.size, 2, none⟩ = some (.string (bs x.s)) := hbx.cell 2 rfl
    go_wp2_with fail
    refine (refFixed_any x.n 1 hn (by omega) W1).mono ?_
    rintro e W2 ⟨rfl, g⟩
    go_wp2_with fail
    go_ret
    have e5 : beB 1 x.n = encI x := by rw [HE.out]; simp [beB, ofNat_mod]
    show PutTo b s x fp w (.returned (.string (bs (beB 1 x.n)))) W2
    rw [e5]
    exact Hy.out W1 W2 r2 g
  · have hE : encI x = beB 2 (x.n % 65536) := by unfold encI; rw [if_neg (by rw [He.out]; decide), if_pos He.out]
    have HE := Lib.hid hE
    clear hE
    have t0 : ((x.k : Int) % 6 == 0) = false := by rw [beq_eq_false_iff_ne]; have := He.out; omega
    have t1 : ((x.k : Int) % 6 == 1) = true := by rw [beq_iff_eq]; have := He.out; omega
    go_wp2_with fail
    first | rw [mod16] | rw [mod16a]
    refine (wu16_any b s fp (x.n % 65536) (by omega) _ h1 (by omega)).mono ?_
    intro e W1 r
    obtain ⟨rfl, r2, hbx⟩ := Hx.out _ _ _ r
    clear r
    rw [← HE.out] at r2
    have c1 : W1.cell? ⟨w.heap.size, 1, none⟩ = some (.int .u32 x.n) := hbx.cell 1 rfl
    have c2 : W1.cell? ⟨w.heap.size, 2, none⟩ = some (.string (bs x.s)) := hbx.cell 2 rfl
    go_wp2_with fail
    refine (refFixed_any x.n 2 hn (by omega) W1).mono ?_
    rintro e W2 ⟨rfl, g⟩
    go_wp2_with fail
    go_ret
    have e5 : beB 2 x.n = encI x := by rw [HE.out]; (have := mod2 x.n; exact this)
    show PutTo b s x fp w (.returned (.string (bs (beB 2 x.n)))) W2
    rw [e5]
    exact Hy.out W1 W2 r2 g
  · have hE : encI x = beB 4 x.n := by unfold encI; rw [if_neg (by rw [He.out]; decide), if_neg (by rw [He.out]; decide), if_pos He.out]
    have HE := Lib.hid hE
    clear hE
    have t0 : ((x.k : Int) % 6 == 0) = false := by rw [beq_eq_false_iff_ne]; have := He.out; omega
    have t1 : ((x.k : Int) % 6 == 1) = false := by rw [beq_eq_false_iff_ne]; have := He.out; omega
    have t2 : ((x.k : Int) % 6 == 2) = true := by rw [beq_iff_eq]; have := He.out; omega
    go_wp2_with fail
    refine (wu32_any b s fp x.n hn _ h1 (by omega)).mono ?_
    intro e W1 r
    obtain ⟨rfl, r2, hbx⟩ := Hx.out _ _ _ r
    clear r
    rw [← HE.out] at r2
    have c1 : W1.cell? ⟨w.heap.size, 1, none⟩ = some (.int .u32 x.n) := hbx.cell 1 rfl
    have c2 : W1.cell? ⟨w.heap.size, 2, none⟩ = some (.string (bs x.s)) := hbx.cell 2 rfl
    go_wp2_with fail
    refine (refFixed_any x.n 4 hn (by omega) W1).mono ?_
    rintro e W2 ⟨rfl, g⟩
    go_wp2_with fail
    go_ret
    have e5 : beB 4 x.n = encI x := by rw [HE.out]
    show PutTo b s x fp w (.returned (.string (bs (beB 4 x.n)))) W2
    rw [e5]
    exact Hy.out W1 W2 r2 g
  · have hE : encI x = varB x.n := by unfold encI; rw [if_neg (by rw [He.out]; decide), if_neg (by rw [He.out]; decide), if_neg (by rw [He.out]; decide), if_pos He.out]
    have HE := Lib.hid hE
    clear hE
    have t0 : ((x.k : Int) % 6 == 0) = false := by rw [beq_eq_false_iff_ne]; have := He.out; omega
    have t1 : ((x.k : Int) % 6 == 1) = false := by rw [beq_eq_false_iff_ne]; have := He.out; omega
    have t2 : ((x.k : Int) % 6 == 2) = false := by rw [beq_eq_false_iff_ne]; have := He.out; omega
    have t3 : ((x.k : Int) % 6 == 3) = true := by rw [beq_iff_eq]; have := He.out; omega
    go_wp2_with fail
    refine (wvar_any b s fp x.n hn _ h1 (by omega)).mono ?_
    intro e W1 r
    obtain ⟨rfl, r2, hbx⟩ := Hx.out _ _ _ r
    clear r
    rw [← HE.out] at r2
    have c1 : W1.cell? ⟨w.heap.size, 1, none⟩ = some (.int .u32 x.n) := hbx.cell 1 rfl
    have c2 : W1.cell? ⟨w.heap.size, 2, none⟩ = some (.string (bs x.s)) := hbx.cell 2 rfl
    go_wp2_with fail
    refine (refVar_any x.n hn W1).mono ?_
    rintro e W2 ⟨rfl, g⟩
    go_wp2_with fail
    go_ret
    have e5 : varB x.n = encI x := by rw [HE.out]
    show PutTo b s x fp w (.returned (.string (bs (varB x.n)))) W2
    rw [e5]
    exact Hy.out W1 W2 r2 g
  · have hE : encI x = x.s := by unfold encI; rw [if_neg (by rw [He.out]; decide), if_neg (by rw [He.out]; decide), if_neg (by rw [He.out]; decide), if_neg (by rw [He.out]; decide), if_pos He.out]
    have HE := Lib.hid hE
    clear hE
    have t0 : ((x.k : Int) % 6 == 0) = false := by rw [beq_eq_false_iff_ne]; have := He.out; omega
    have t1 : ((x.k : Int) % 6 == 1) = false := by rw [beq_eq_false_iff_ne]; have := He.out; omega
    have t2 : ((x.k : Int) % 6 == 2) = false := by rw [beq_eq_false_iff_ne]; have := He.out; omega
    have t3 : ((x.k : Int) % 6 == 3) = false := by rw [beq_eq_false_iff_ne]; have := He.out; omega
    have t4 : ((x.k : Int) % 6 == 4) = true := by rw [beq_iff_eq]; have := He.out; omega
    go_wp2_with fail
    refine (raw_any b s x.s fp _ h1 (by omega)).mono ?_
    intro e W1 r
    obtain ⟨rfl, r2, hbx⟩ := Hx.out _ _ _ r
    clear r
    rw [← HE.out] at r2
    have c1 : W1.cell? ⟨w.heap.size, 1, none⟩ = some (.int .u32 x.n) := hbx.cell 1 rfl
    have c2 : W1.cell? ⟨w.heap.size, 2, none⟩ = some (.string (bs x.s)) := hbx.cell 2 rfl
    go_wp2_with fail
    go_ret
    have e5 : x.s = encI x := by rw [HE.out]
    show PutTo b s x fp w (.returned (.string (bs x.s))) W1
    rw [e5]
    exact Hy.out W1 W1 r2 (Frm.refl _ _)
  · have hE : encI x = textB x.s := by unfold encI; rw [if_neg (by rw [He.out]; decide), if_neg (by rw [He.out]; decide), if_neg (by rw [He.out]; decide), if_neg (by rw [He.out]; decide), if_neg (by rw [He.out]; decide)]
    have HE := Lib.hid hE
    clear hE
    have t0 : ((x.k : Int) % 6 == 0) = false := by rw [beq_eq_false_iff_ne]; have := He.out; omega
    have t1 : ((x.k : Int) % 6 == 1) = false := by rw [beq_eq_false_iff_ne]; have := He.out; omega
    have t2 : ((x.k : Int) % 6 == 2) = false := by rw [beq_eq_false_iff_ne]; have := He.out; omega
    have t3 : ((x.k : Int) % 6 == 3) = false := by rw [beq_eq_false_iff_ne]; have := He.out; omega
    have t4 : ((x.k : Int) % 6 == 4) = false := by rw [beq_eq_false_iff_ne]; have := He.out; omega
    go_wp2_with fail
    refine (wtext_any b s x.s fp _ h1 (by omega) (by omega)).mono ?_
    intro e W1 r
    obtain ⟨rfl, r2, hbx⟩ := Hx.out _ _ _ r
    clear r
    rw [← HE.out] at r2
    have c1 : W1.cell? ⟨w.heap.size, 1, none⟩ = some (.int .u32 x.n) := hbx.cell 1 rfl
    have c2 : W1.cell? ⟨w.heap.size, 2, none⟩ = some (.string (bs x.s)) := hbx.cell 2 rfl
    go_wp2_with fail
    refine (refText_any x.s hs W1).mono ?_
    rintro e W2 ⟨rfl, g⟩
    go_wp2_with fail
    go_ret
    have e5 : textB x.s = encI x := by rw [HE.out]
    show PutTo b s x fp w (.returned (.string (bs (textB x.s)))) W2
    rw [e5]
    exact Hy.out W1 W2 r2 g
end Go.Proofs.Ytehnhhjahejbmaa
