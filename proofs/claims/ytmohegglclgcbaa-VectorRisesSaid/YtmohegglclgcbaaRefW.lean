/- What the document's own answers for writing are. No condition but the numbers' own. -/
import Derived.Test.YtmohegglclgcbaaItems
namespace Go.Proofs.Ytmohegglclgcbaa
open Go.RowKit
theorem beB_front (i : Nat) : ∀ n, beB (i + 1) n = UInt8.ofNat (n / 256 ^ i) :: beB i n := by
  induction i with
  | zero => intro n; simp [beB]
  | succ i ih =>
    intro n
    rw [beB, ih (n / 256), List.cons_append, Nat.div_div_eq_div_mul, Nat.mul_comm, ← Nat.pow_succ]
    rfl
theorem ofNat_mod (n : Nat) : UInt8.ofNat (n % 256) = UInt8.ofNat n := by
  apply UInt8.toNat_inj.1
  rw [UInt8.toNat_ofNat', UInt8.toNat_ofNat']
  omega
theorem u8s_one (n : Nat) (h : n < 256) : u8s [UInt8.ofNat n] = [.int .u8 n] := by
  have : (UInt8.ofNat n).toNat = n := by rw [UInt8.toNat_ofNat']; omega
  simp only [u8s, List.map_cons, List.map_nil, this]

theorem mod2 (n : Nat) : beB 2 n = beB 2 (n % 65536) := by
  have h1 : UInt8.ofNat (n % 65536) = UInt8.ofNat n := by
    apply UInt8.toNat_inj.1
    rw [UInt8.toNat_ofNat', UInt8.toNat_ofNat']
    omega
  have h2 : UInt8.ofNat (n % 65536 / 256) = UInt8.ofNat (n / 256) := by
    apply UInt8.toNat_inj.1
    rw [UInt8.toNat_ofNat', UInt8.toNat_ofNat']
    omega
  simp only [beB, h1, h2]
/-- How 'put' ends. -/
def PutTo (b : Nat) (s : List UInt8) (x : Item) (fp : List Nat) (w : World) (e : Ending) (W : World) : Prop :=
  e = .returned (.string (bs (encI x))) ∧ ∃ fp', Wr W b (s ++ encI x) fp' ∧ Frm (· ∈ fp) w W ∧ ∀ k ∈ fp', k ∈ fp ∨ w.heap.size ≤ k

end Go.Proofs.Ytmohegglclgcbaa
