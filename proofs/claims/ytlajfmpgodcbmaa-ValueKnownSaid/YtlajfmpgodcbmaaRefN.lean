/- What the document's own answers for reading are: its reader's numbers. -/
import Derived.Test.YtlajfmpgodcbmaaRefR
import Derived.IntWalk
namespace Go.Proofs.Ytlajfmpgodcbmaa
open Go.RowKit

set_option maxHeartbeats 400000 in
theorem q_number (k b : Nat) (s l : List UInt8) (e : Nat) (w : World) (h : Rq w b s l e) (hk : k ≤ 4) :
    Calls Try.prog 50 #[.pointer (some ⟨b, 0, none⟩), .int .i64 k] w fun r w' =>
      r = .returned (.int .u32 (numS k l e).1) ∧ Rq w' b s (numS k l e).2.1 (numS k l e).2.2 ∧ Frm (· = b) w w' := by
  have hlen := nextS_len k l e
  unfold numS
  go_enter Try.func50, Try.ntmps50
  go_wp2_with fail
  refine (q_fixed b s l e k w h (by omega)).mono ?_
  rintro r w1 ⟨rfl, h1, h2⟩
  obtain ⟨t, ht⟩ : ∃ t, (nextS k l e).1 = t := ⟨_, rfl⟩
  rw [ht] at hlen ⊢
  have hsz : (bs t).size = t.length := rfl
  have Hsz := Lib.hid hsz
  have hsz4 : (bs t).size ≤ 4 := by rw [hsz]; omega
  have Ht := Lib.hid ht
  clear ht hsz
  go_wp2
  go_loop [6, 7] (fun n i => ∃ j : Nat, j ≤ t.length ∧ i = .int .i64 j ∧ n = .int .u32 (beN (t.take j))) (fun _ i => t.length - (intOf i).toNat)
  case atStart => exact ⟨0, Nat.zero_le _, rfl, rfl⟩
  case round =>
    obtain ⟨j, hj, rfl, rfl⟩ := hrel
    by_cases hlt : j < t.length
    · have hlt2 : j < (bs t).size := hlt
      have hb := t[j].toNat_lt
      have hm : beN (t.take j) < 256 ^ 3 := beN_lt 3 _ (by rw [List.length_take]; omega)
      go_wp2
      go_round
      case rel => exact ⟨j + 1, by omega, by go_num, by
        rw [take_snoc t j hlt, beN_snoc]
        refine congrArg (Value.int IntKind.u32) ?_
        show (256 * (beN (t.take j) : Int) + (t[j].toNat : Int) % 4294967296) % 4294967296 = ((256 * beN (t.take j) + t[j].toNat : Nat) : Int)
        omega⟩
      case measure => simp [intOf]; omega
    · have he : j = t.length := by omega
      subst he
      have hge : (bs t).size ≤ t.length := Nat.le_refl _
      go_wp2
      go_ret
      exact ⟨ret_int (by rw [Ht.out]), h1, h2⟩

theorem numS_cons (c : UInt8) (r : List UInt8) : numS 1 (c :: r) 0 = (c.toNat, r, 0) := by
  unfold numS nextS
  rw [if_pos (by simp)]
  simp [beN]
theorem numS_nil : numS 1 [] 0 = (0, [], 10) := rfl
theorem Rq.form {w : World} {b : Nat} {s l : List UInt8} (h : Rq w b s l 0) : Rq (w.setCell ⟨b, 2, none⟩ (.int .i64 4)) b s [] 4 := by
  obtain ⟨a, hb, h1, h2, h3, h4, h5⟩ := h
  exact ⟨a, hb.set 2 (.int .i64 4), h1, h2, by omega, by simp, fun _ => rfl⟩
theorem Rq.c2 {w : World} {b : Nat} {s l : List UInt8} {e : Nat} (h : Rq w b s l e) : w.cell? ⟨b, 2, none⟩ = some (.int .i64 e) := by
  obtain ⟨a, hb, _⟩ := h
  exact hb.cell 2 rfl
theorem Rq.f2 {w : World} {b : Nat} {s l : List UInt8} {e : Nat} (h : Rq w b s l e) : w.frozen? ⟨b, 2, none⟩ = false := by
  obtain ⟨a, hb, _⟩ := h
  exact hb.free 2

end Go.Proofs.Ytlajfmpgodcbmaa
