/- What the document's own answers for writing are. No condition but the numbers' own. -/
import Derived.Test.YtdoeogfjbcannaaItems
namespace Go.Proofs.Ytdoeogfjbcannaa
open Go.RowKit
theorem beB_front (i : Nat) : ∀ n, beB (i + 1) n = UInt8.ofNat (n / 256 ^ i) :: beB i n := by
  induction i with
  | zero => intro n; simp [beB]
  | succ i ih =>
    intro n
    rw [beB, ih (n / 256), List.cons_append, Nat.div_div_eq_div_mul, Nat.mul_comm, ← Nat.pow_succ]
    rfl
theorem ofNat_mod (n : Nat) : UInt8.ofNat (n % 256) = UInt8.ofNat n := by
  apply UInt8.toNat_inj.1
  rw [UInt8.toNat_ofNat', UInt8.toNat_ofNat']
  omega
theorem u8s_one (n : Nat) (h : n < 256) : u8s [UInt8.ofNat n] = [.int .u8 n] := by
  have : (UInt8.ofNat n).toNat = n := by rw [UInt8.toNat_ofNat']; omega
  simp only [u8s, List.map_cons, List.map_nil, this]

set_option maxRecDepth 100000 in
set_option maxHeartbeats 1000000 in
theorem refVar_any (n : Nat) (hn : n < 4294967296) (w : World) :
    Calls Try.prog 41 #[.int .u32 n] w fun e w' => e = .returned (.string (bs (varB n))) ∧ Frm (fun _ => False) w w' := by
  go_enter Try.func41, Try.ntmps41
  go_wp2
  go_loopw [0, 3] (fun i s wr => ∃ k m : Nat, i = .int .u32 m ∧ m < 128 ^ (k + 1) ∧ m < 4294967296 ∧ k ≤ 4 ∧ ∃ pre, pre.length = 4 - k ∧ varB n = pre ++ varD k m ∧ s = .string (bs pre) ∧ Frm (fun _ => False) w wr) (fun i _ _ => (intOf i).toNat)
  case atStart => exact ⟨4, n, rfl, by omega, hn, by omega, [], rfl, rfl, rfl, Frm.refl _ _⟩
  case round =>
    obtain ⟨k, m, rfl, hm, hm2, hk, pre, hp1, hp2, rfl, f1⟩ := hrel
    have hsz : (bs pre).size ≤ 4 := by rw [bs_size]; omega
    have Hp1 := Lib.hid hp1
    have Hp2 := Lib.hid hp2
    clear hp1 hp2
    by_cases hlt : m < 128
    · have hd := Lib.hid (varD_small k m hlt)
      have hlt' : m ≤ 127 := by omega
      go_wp2_with fail
      rw [text_of_cells (l := [UInt8.ofNat m]) _ 1 1 (Blk.alloc wr _ _) rfl (by rw [u8s_one m (by omega)])]
      have hs1 : (bs [UInt8.ofNat m]).size ≤ 1 := Nat.le_refl _
      go_wp2
      go_ret
      exact ⟨ret_str (by rw [bs_append, Hp2.out, hd.out]), f1.alloc _⟩
    · have hk0 : k ≠ 0 := by rintro rfl; omega
      obtain ⟨k, rfl⟩ : ∃ j, k = j + 1 := ⟨k - 1, by omega⟩
      have hd := varD_great k m hlt
      obtain ⟨q, hq⟩ : ∃ q, UInt8.ofNat (128 + m % 128) = q := ⟨_, rfl⟩
      rw [hq] at hd
      have Hd := Lib.hid hd
      clear hd
      have Hq := Lib.hid hq
      clear hq
      have hge : 127 < m := by omega
      go_wp2_with fail
      rw [text_of_cells (l := [q]) _ 1 1 (Blk.alloc wr _ _) rfl (by
        have e1 : (128 + (m : Int) % 128) = ((128 + m % 128 : Nat) : Int) := by omega
        rw [← Hq.out, u8s_one (128 + m % 128) (by omega), ← e1])]
      have hs1 : (bs [q]).size ≤ 1 := Nat.le_refl _
      have f2 := f1.alloc (.cells #[.int .u8 (128 + (m : Int) % 128)] 5)
      go_wp2
      go_roundw
      case rel =>
        refine ⟨k, m / 128, by first | rfl | congr 1, ?_, by omega, by omega, pre ++ [q], ?_, ?_, ?_, f2⟩
        · rw [Nat.pow_succ] at hm
          exact Nat.div_lt_of_lt_mul (by rw [Nat.mul_comm]; exact hm)
        · rw [List.length_append, Hp1.out]; simp; omega
        · rw [Hp2.out, Hd.out]; simp
        · rw [bs_append]
      case measure => simp [intOf]; omega

theorem mod2 (n : Nat) : beB 2 n = beB 2 (n % 65536) := by
  have h1 : UInt8.ofNat (n % 65536) = UInt8.ofNat n := by
    apply UInt8.toNat_inj.1
    rw [UInt8.toNat_ofNat', UInt8.toNat_ofNat']
    omega
  have h2 : UInt8.ofNat (n % 65536 / 256) = UInt8.ofNat (n / 256) := by
    apply UInt8.toNat_inj.1
    rw [UInt8.toNat_ofNat', UInt8.toNat_ofNat']
    omega
  simp only [beB, h1, h2]
/-- How 'put' ends. -/
def PutTo (b : Nat) (s : List UInt8) (x : Item) (fp : List Nat) (w : World) (e : Ending) (W : World) : Prop :=
  e = .returned (.string (bs (encI x))) ∧ ∃ fp', Wr W b (s ++ encI x) fp' ∧ Frm (· ∈ fp) w W ∧ ∀ k ∈ fp', k ∈ fp ∨ w.heap.size ≤ k

end Go.Proofs.Ytdoeogfjbcannaa
