/- What the document's own answers for writing are. No condition but the numbers' own. -/
import Derived.Test.YtlajfmpgodcbmaaItems
namespace Go.Proofs.Ytlajfmpgodcbmaa
open Go.RowKit
theorem beB_front (i : Nat) : ∀ n, beB (i + 1) n = UInt8.ofNat (n / 256 ^ i) :: beB i n := by
  induction i with
  | zero => intro n; simp [beB]
  | succ i ih =>
    intro n
    rw [beB, ih (n / 256), List.cons_append, Nat.div_div_eq_div_mul, Nat.mul_comm, ← Nat.pow_succ]
    rfl
theorem ofNat_mod (n : Nat) : UInt8.ofNat (n % 256) = UInt8.ofNat n := by
  apply UInt8.toNat_inj.1
  rw [UInt8.toNat_ofNat', UInt8.toNat_ofNat']
  omega
theorem u8s_one (n : Nat) (h : n < 256) : u8s [UInt8.ofNat n] = [.int .u8 n] := by
  have : (UInt8.ofNat n).toNat = n := by rw [UInt8.toNat_ofNat']; omega
  simp only [u8s, List.map_cons, List.map_nil, this]

set_option maxRecDepth 100000 in
set_option maxHeartbeats 1000000 in
theorem refFixed_any (n k : Nat) (hn : n < 4294967296) (hk : k ≤ 4) (w : World) :
    Calls Try.prog 42 #[.int .u32 n, .int .i64 k] w fun e w' => e = .returned (.string (bs (beB k n))) ∧ Frm (fun _ => False) w w' := by
  go_enter Try.func42, Try.ntmps42
  go_wp2
  go_loopw [0, 5, 6] (fun m s i wr => ∃ j : Nat, j ≤ k ∧ i = .int .i64 j ∧ m = .int .u32 (n / 256 ^ j : Nat) ∧ s = .string (bs (beB j n)) ∧ Frm (fun _ => False) w wr) (fun _ _ i _ => k - (intOf i).toNat)
  case atStart => exact ⟨0, Nat.zero_le _, rfl, by simp, rfl, Frm.refl _ _⟩
  case round =>
    obtain ⟨j, hj, rfl, rfl, rfl, f1⟩ := hrel
    obtain ⟨q, hq⟩ : ∃ q, n / 256 ^ j = q := ⟨_, rfl⟩
    rw [hq]
    have Hq := Lib.hid hq
    have hq2 : q < 4294967296 := by rw [← hq]; exact Nat.lt_of_le_of_lt (Nat.div_le_self _ _) hn
    have hsz : (bs (beB j n)).size ≤ 4 := by rw [bs_size, beB_len]; omega
    clear hq
    by_cases hlt : j < k
    · go_wp2_with fail
      rw [text_of_cells (l := [UInt8.ofNat (q % 256)]) _ 1 1 (Blk.alloc wr _ _) rfl (by rw [u8s_one (q % 256) (by omega), ← mod8a])]
      have hs1 : (bs [UInt8.ofNat (q % 256)]).size ≤ 1 := Nat.le_refl _
      have f2 := f1.alloc (.cells #[.int .u8 ((q : Int) % 256)] 5)
      go_wp2
      go_roundw
      case rel =>
        refine ⟨j + 1, by omega, by go_num, ?_, ?_, f2⟩
        · rw [Nat.pow_succ, ← Nat.div_div_eq_div_mul, Hq.out]; congr 1
        · rw [bs_append, beB_front, Hq.out, ofNat_mod]; rfl
      case measure => simp [intOf]; omega
    · obtain rfl : j = k := by omega
      go_wp2
      go_ret
      exact ⟨rfl, f1⟩

theorem mod2 (n : Nat) : beB 2 n = beB 2 (n % 65536) := by
  have h1 : UInt8.ofNat (n % 65536) = UInt8.ofNat n := by
    apply UInt8.toNat_inj.1
    rw [UInt8.toNat_ofNat', UInt8.toNat_ofNat']
    omega
  have h2 : UInt8.ofNat (n % 65536 / 256) = UInt8.ofNat (n / 256) := by
    apply UInt8.toNat_inj.1
    rw [UInt8.toNat_ofNat', UInt8.toNat_ofNat']
    omega
  simp only [beB, h1, h2]
/-- How 'put' ends. -/
def PutTo (b : Nat) (s : List UInt8) (x : Item) (fp : List Nat) (w : World) (e : Ending) (W : World) : Prop :=
  e = .returned (.string (bs (encI x))) ∧ ∃ fp', Wr W b (s ++ encI x) fp' ∧ Frm (· ∈ fp) w W ∧ ∀ k ∈ fp', k ∈ fp ∨ w.heap.size ≤ k

end Go.Proofs.Ytlajfmpgodcbmaa
