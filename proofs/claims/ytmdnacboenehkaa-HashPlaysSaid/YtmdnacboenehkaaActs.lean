/- The law's calls, as they lie in the argument's memory. No condition. -/
import Derived.Test.YtmdnacboenehkaaHashB
namespace Go.Proofs.Ytmdnacboenehkaa
open Go.RowKit
/-- A call: what, of which text, of which id. -/
structure ActI where
  k : Nat
  n : Nat
  s : List UInt8
/-- The slice value v reads as these calls. -/
def It (w : World) (v : Value) (L : List ActI) : Prop :=
  ∃ a cap, v = .slice a L.length cap ∧ L.length ≤ cap ∧ cap ≤ maxLen ∧ ∀ i (h : i < L.length), ∃ b off, a = some ⟨b, off, none⟩ ∧ b < w.heap.size ∧
    w.cell? ⟨b, off + i * 3, none⟩ = some (.int .u8 L[i].k) ∧ w.cell? ⟨b, off + i * 3 + 1, none⟩ = some (.string (bs L[i].s)) ∧ w.cell? ⟨b, off + i * 3 + 2, none⟩ = some (.int .u32 L[i].n) ∧
    L[i].k < 256 ∧ L[i].n < 4294967296 ∧ L[i].s.length ≤ 9223372036854775807
theorem It.keep {X : Nat → Prop} {w w' : World} {v : Value} {L : List ActI} (h : It w v L) (hf : Frm X w w') (hn : ∀ k, k < w.heap.size → ¬ X k) : It w' v L := by
  obtain ⟨a, cap, hv, h1, h2, h3⟩ := h
  refine ⟨a, cap, hv, h1, h2, fun i hi => ?_⟩
  obtain ⟨b, off, ha, hb, c0, c1, c2, r⟩ := h3 i hi
  have e := hf.block b hb (hn b hb)
  have ec : ∀ j, w'.cell? ⟨b, j, none⟩ = w.cell? ⟨b, j, none⟩ := fun j => World.cell?_of_block (a := ⟨b, j, none⟩) e
  exact ⟨b, off, ha, Nat.lt_of_lt_of_le hb hf.size, by rw [ec]; exact c0, by rw [ec]; exact c1, by rw [ec]; exact c2, r⟩

/-- May these calls be gone through? -/
def fewP (L : List ActI) : Prop := L.length ≤ 100 ∧ ∀ i (h : i < L.length), L[i].s.length ≤ 300

set_option maxRecDepth 100000 in
set_option maxHeartbeats 1000000 in
theorem few_yes (v : Value) (L : List ActI) (w : World) (h : It w v L) (hfew : fewP L) :
    Calls Try.prog 10 #[v] w fun e w' => e = .returned (.bool true) ∧ w = w' := by
  obtain ⟨a, cap, rfl, h1, h2, h3⟩ := h
  obtain ⟨f1, f2⟩ := hfew
  have H3 := Lib.hid h3
  have F2 := Lib.hid f2
  clear h3 f2
  unfold maxLen at h2
  go_enter Try.func10, Try.ntmps10
  go_wp2
  go_loop [3] (fun i => ∃ k : Nat, k ≤ L.length ∧ i = .int .i64 k) (fun i => L.length - (intOf i).toNat)
  case atStart => exact ⟨0, Nat.zero_le _, rfl⟩
  case round =>
    obtain ⟨k, hk, rfl⟩ := hrel
    by_cases hlt : k < L.length
    · obtain ⟨b, off, rfl, hb, c0, c1, c2, q1, q2, q3⟩ := H3.out k hlt
      have hs := F2.out k hlt
      have hsz : ((bs L[k].s).size : Int) ≤ 300 := by rw [bs_size]; omega
      have h110 : (k : Int) < 110 := by omega
      go_wp2
      go_round
      case rel => exact ⟨k + 1, by omega, by go_num⟩
      case measure => simp [intOf]; omega
    · obtain rfl : k = L.length := by omega
      go_wp2
      go_ret
      exact ⟨ret_bool (by simp; omega), rfl⟩

set_option maxRecDepth 100000 in
set_option maxHeartbeats 1000000 in
theorem few_no (v : Value) (L : List ActI) (w : World) (h : It w v L) (hfew : ¬ fewP L) :
    Calls Try.prog 10 #[v] w fun e w' => e = .returned (.bool false) ∧ w = w' := by
  obtain ⟨a, cap, rfl, h1, h2, h3⟩ := h
  have H3 := Lib.hid h3
  have HF := Lib.hid hfew
  clear h3 hfew
  unfold maxLen at h2
  go_enter Try.func10, Try.ntmps10
  go_wp2
  go_loop [3] (fun i => ∃ k : Nat, k ≤ L.length ∧ k ≤ 110 ∧ i = .int .i64 k ∧ ∀ j (h : j < L.length), j < k → L[j].s.length ≤ 300) (fun i => L.length - (intOf i).toNat)
  case atStart => exact ⟨0, Nat.zero_le _, by omega, rfl, fun j _ h => absurd h (by omega)⟩
  case round =>
    obtain ⟨k, hk, hk110, rfl, hall⟩ := hrel
    have Hall := Lib.hid hall
    clear hall
    by_cases hlt : k < L.length
    · obtain ⟨b, off, rfl, hb, c0, c1, c2, q1, q2, q3⟩ := H3.out k hlt
      by_cases h110 : k < 110
      · have h110i : (k : Int) < 110 := by omega
        by_cases hs : L[k].s.length ≤ 300
        · have hsz : ((bs L[k].s).size : Int) ≤ 300 := by rw [bs_size]; omega
          go_wp2
          go_round
          case rel =>
            refine ⟨k + 1, by omega, by omega, by go_num, fun j hj hjk => ?_⟩
            by_cases e : j = k
            · subst e; exact hs
            · exact Hall.out j hj (by omega)
          case measure => simp [intOf]; omega
        · have hsz : (300 : Int) < ((bs L[k].s).size : Int) := by rw [bs_size]; omega
          go_wp2
          go_ret
          exact ⟨rfl, rfl⟩
      · have h110i : (110 : Int) ≤ (k : Int) := by omega
        have h100 : (100 : Int) < (L.length : Int) := by omega
        go_wp2
        go_ret
        exact ⟨ret_bool (by simp; omega), rfl⟩
    · obtain rfl : k = L.length := by omega
      have h100 : (100 : Int) < (L.length : Int) := by
        rcases Nat.lt_or_ge 100 L.length with h | h
        · omega
        · exact absurd ⟨h, fun i hi => Hall.out i hi hi⟩ HF.out
      go_wp2
      go_ret
      exact ⟨ret_bool (by simp; omega), rfl⟩

end Go.Proofs.Ytmdnacboenehkaa
