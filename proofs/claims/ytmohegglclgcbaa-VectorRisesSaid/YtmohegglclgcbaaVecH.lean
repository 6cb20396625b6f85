/- What the calls of package vector answer: Take, TakeDot. Of any reader. No condition but the reader's own. -/
import Derived.Test.YtmohegglclgcbaaVecG
import Derived.Test.YtmohegglclgcbaaReadI
import Derived.Test.YtmohegglclgcbaaCodecM
namespace Go.Proofs.Ytmohegglclgcbaa
open Go.RowKit

/-- What the reading of the first k numbers that m indicates does: the numbers, what is left, the error. -/
def rdV (m : Nat) (l : List UInt8) (e : Nat) : Nat → (Nat → Nat) × List UInt8 × Nat
  | 0 => (fun _ => 0, l, e)
  | k + 1 => if m / 2 ^ k % 2 = 1 then (upd8 (rdV m l e k).1 k (varS (rdV m l e k).2.1 (rdV m l e k).2.2).1, (varS (rdV m l e k).2.1 (rdV m l e k).2.2).2) else rdV m l e k
/-- What Take answers, of whatever was read: the first byte, the numbers, the error. -/
def judgeV (m : Nat) (q : (Nat → Nat) × List UInt8 × Nat) : (Nat → Nat) × Nat :=
  if q.2.2 ≠ 0 then (fun _ => 0, q.2.2) else if mk8 q.1 8 = m ∧ mx q.1 8 ≤ 65535 then (q.1, 0) else (fun _ => 0, 4)
def readV (l : List UInt8) (e : Nat) : (Nat → Nat) × List UInt8 × Nat := rdV (numS 1 l e).1 (numS 1 l e).2.1 (numS 1 l e).2.2 8
def takeS (l : List UInt8) (e : Nat) : (Nat → Nat) × Nat := judgeV (numS 1 l e).1 (readV l e)
def TakeTo (b : Nat) (l : List UInt8) (e : Nat) (w : World) (r : Ending) (w' : World) : Prop :=
  r = .returned (.tuple #[.agg (vv (takeS l e).1), .int .i64 (takeS l e).2]) ∧ Rd w' b (readV l e).2.1 (readV l e).2.2 ∧ Frm (· = b) w w'
theorem rdV_inv (m : Nat) (l : List UInt8) (e : Nat) (h : e ≠ 0 → l = []) : ∀ k, (rdV m l e k).2.2 ≠ 0 → (rdV m l e k).2.1 = [] := by
  intro k
  induction k with
  | zero => exact h
  | succ k ih =>
    simp only [rdV]
    split
    · exact varS_inv ih
    · exact ih
theorem rdV_fit (m : Nat) (l : List UInt8) (e : Nat) : ∀ k j, (rdV m l e k).1 j < 4294967296 := by
  intro k
  induction k with
  | zero => intro j; simp [rdV]
  | succ k ih =>
    intro j
    simp only [rdV]
    split
    · simp only [upd8]
      split
      · exact varS_lt _ _
      · exact ih j
    · exact ih j

set_option maxRecDepth 100000 in
set_option maxHeartbeats 2000000 in
theorem take_any8 (b : Nat) (l : List UInt8) (e : Nat) (w : World) (h : Rd w b l e) (hi : e ≠ 0 → l = []) : Calls Try.prog 77 #[.pointer (some ⟨b, 0, none⟩)] w (TakeTo b l e w) := by
  have hbl := h.lt
  have g0 : Frm (fun _ => False) w ((w.alloc (Obj.cells vz 24)).alloc (Obj.cells vz 24)) := ((Frm.refl _ w).alloc _).alloc _
  have b0 : Blk ((w.alloc (Obj.cells vz 24)).alloc (Obj.cells vz 24)) w.heap.size 24 vz := (Blk.alloc w _ _).old _
  have b1 : Blk ((w.alloc (Obj.cells vz 24)).alloc (Obj.cells vz 24)) (w.heap.size + 1) 24 vz := Blk.at1 w _ _ _
  have r0 := h.keep g0 (fun h => h)
  obtain ⟨q, hq⟩ : ∃ q, q = TakeTo b l e w := ⟨_, rfl⟩
  rw [← hq]
  have Hq := Lib.hid hq
  clear hq
  have hinv1 := nextS_inv (n := 1) hi
  have hm : (numS 1 l e).1 < 256 := beN_lt 1 _ (nextS_len 1 l e)
  go_enter Try.func77, Try.ntmps77
  go_wp2_with fail
  refine (ru8_any b l e _ r0).mono ?_
  rintro e1 w1 ⟨rfl, r1, g1⟩
  have d0 := b0.keep g1 (by omega)
  have d1 := b1.keep g1 (by omega)
  have k1 : Frm (· = b) w w1 := (g0.mono (fun _ _ h => h.elim)).trans g1
  have HT := Lib.hid (show takeS l e = judgeV (numS 1 l e).1 (rdV (numS 1 l e).1 (numS 1 l e).2.1 (numS 1 l e).2.2 8) from rfl)
  have HR := Lib.hid (show readV l e = rdV (numS 1 l e).1 (numS 1 l e).2.1 (numS 1 l e).2.2 8 from rfl)
  generalize (numS 1 l e).1 = m at *
  have hinv : (numS 1 l e).2.2 ≠ 0 → (numS 1 l e).2.1 = [] := hinv1
  generalize (numS 1 l e).2.1 = l1 at *
  generalize (numS 1 l e).2.2 = e1 at *
  have HI := Lib.hid hinv
  clear b0 b1 r0 g0 g1 hi hinv hinv1 h
  go_wp2_with fail
  go_loopw [10] (fun i wr => ∃ k : Nat, k ≤ 8 ∧ i = .int .i64 k ∧ Blk wr w.heap.size 24 vz ∧ Blk wr (w.heap.size + 1) 24 (vv (rdV m l1 e1 k).1) ∧ Rd wr b (rdV m l1 e1 k).2.1 (rdV m l1 e1 k).2.2 ∧ Frm (· = b) w wr) (fun i _ => 8 - (intOf i).toNat)
  case atStart => exact ⟨0, by omega, rfl, d0, d1, r1, k1⟩
  case round =>
    clear d0 d1 r1 k1
    obtain ⟨k, hk, rfl, d0, d1, r1, k1⟩ := hrel
    by_cases hk8 : k < 8
    · have hki : (k : Int) < 8 := by omega
      have hk0 : (0 : Int) ≤ (k : Int) := by omega
      by_cases h0 : m / 2 ^ k % 2 = 1
      · have hq1 : bits BinOp.and IntKind.u8 ((m : Int) / 2 ^ k) 1 = 1 := by rw [and_bit m k hm, h0]; rfl
        have HS := Lib.hid (show rdV m l1 e1 (k + 1) = (upd8 (rdV m l1 e1 k).1 k (varS (rdV m l1 e1 k).2.1 (rdV m l1 e1 k).2.2).1, (varS (rdV m l1 e1 k).2.1 (rdV m l1 e1 k).2.2).2) by simp [rdV, h0])
        have hik := rdV_inv m l1 e1 HI.out k
        clear h0
        generalize rdV m l1 e1 k = p at *
        go_wp2_with fail
        refine (var_any b p.2.1 p.2.2 _ r1 hik).mono ?_
        rintro e2 w2 ⟨rfl, r2, g2⟩
        have c0 := d0.keep g2 (by omega)
        have c1 := d1.keep g2 (by omega)
        have k2 := k1.trans g2
        have c1c := vblk_cell c1 hk8
        have c1f := c1.free k
        clear d0 d1 r1 k1 g2
        go_wp2_with ((with_reducible refine wpl_store_at rfl _ _ rfl (w.heap.size + 1) k (varS p.2.1 p.2.2).1 p.1 hk8 ?_ ?_ c1 ?_); (focus rfl); (focus rfl); intro w4 e4 g4 z4)
        go_roundw
        case rel => exact ⟨k + 1, by omega, by go_num, c0.keep g4 (by omega), by rw [HS.out]; exact e4, by rw [HS.out]; exact r2.keep g4 (by omega), k2.next g4 (fun j hj h => by omega)⟩
        case measure => simp [intOf]; omega
      · have h00 : m / 2 ^ k % 2 = 0 := by omega
        have hq1 : bits BinOp.and IntKind.u8 ((m : Int) / 2 ^ k) 1 = 0 := by rw [and_bit m k hm, h00]; rfl
        have HS := Lib.hid (show rdV m l1 e1 (k + 1) = rdV m l1 e1 k by simp [rdV, h00])
        clear h0 h00
        generalize rdV m l1 e1 k = p at *
        go_wp2_with fail
        go_roundw
        case rel => exact ⟨k + 1, by omega, by go_num, d0, by rw [HS.out]; exact d1, by rw [HS.out]; exact r1, k1⟩
        case measure => simp [intOf]; omega
    · obtain rfl : k = 8 := by omega
      have hfit : Fit8 (rdV m l1 e1 8).1 := fun j _ => rdV_fit m l1 e1 8 j
      clear hk8 hk HI
      generalize rdV m l1 e1 8 = p at *
      go_wp2_with fail
      refine (err_any b p.2.1 p.2.2 _ r1).mono ?_
      rintro e2 w2 ⟨rfl, rfl⟩
      by_cases he : p.2.2 = 0
      · have hed : ((p.2.2 : Int) != 0) = false := by rw [he]; rfl
        have hl1 := vcells d1
        have M := fun w => marks_any p.1 w
        have V := fun w => valid_any p.1 w hfit
        have HM := Lib.hid M
        clear M
        go_wp2_with fail
        refine (HM.out _).mono ?_
        rintro e3 w3 ⟨rfl, g3⟩
        have c0 := d0.keep g3 (fun h => h)
        have c1 := d1.keep g3 (fun h => h)
        have rr := r1.keep g3 (fun h => h)
        have kk := k1.trans (g3.mono (fun _ _ h => h.elim))
        clear hl1 d0 d1 r1 k1 g3
        have hl1 := vcells c1
        by_cases hmm : mk8 p.1 8 = m
        · have hmd : ((mk8 p.1 8 : Int) != (m : Int)) = false := by rw [hmm, bne_self_eq_false]
          by_cases hmx : mx p.1 8 ≤ 65535
          · have HJ := Lib.hid (show judgeV m p = (p.1, 0) by simp [judgeV, he, hmm, hmx])
            rw [decide_eq_true hmx] at V
            have HV := Lib.hid V
            clear V hmx hmm he HM hed
            generalize mk8 p.1 8 = MK at *
            go_wp2_with fail
            refine (HV.out _).mono ?_
            rintro e4 w4 ⟨rfl, g4⟩
            have dd := c0.keep g4 (fun h => h)
            have d1 := c1.keep g4 (fun h => h)
            have rr := rr.keep g4 (fun h => h)
            have kk := kk.trans (g4.mono (fun _ _ h => h.elim))
            clear hl1 c0 c1 g4
            have hl1 := vcells d1
            go_wp2_with ((with_reducible refine wpl_store_vec rfl _ _ rfl w.heap.size p.1 vz ?_ ?_ dd rfl ?_); (focus rfl); (focus rfl); intro w5 e5 g5 z5; have h5 := vcells e5)
            refine bodyPost_ret (v := .tuple #[.agg (vv p.1), .int .i64 0]) (by simp [results, Try.results77, go_sem, h5]) rfl ?_
            rw [Hq.out]
            unfold TakeTo
            rw [HT.out, HR.out, HJ.out]
            exact ⟨rfl, rr.keep g5 (by omega), kk.next g5 (fun j hj h => by omega)⟩
          · have HJ := Lib.hid (show judgeV m p = (fun _ => 0, 4) by simp [judgeV, he, hmx])
            rw [decide_eq_false hmx] at V
            have HV := Lib.hid V
            clear V hmx hmm he HM hed
            generalize mk8 p.1 8 = MK at *
            go_wp2_with fail
            refine (HV.out _).mono ?_
            rintro e4 w4 ⟨rfl, g4⟩
            have dd := c0.keep g4 (fun h => h)
            have rr := rr.keep g4 (fun h => h)
            have kk := kk.trans (g4.mono (fun _ _ h => h.elim))
            clear hl1 c0 c1 g4
            go_wp2_with (first
              | ((with_reducible refine wpl_store_vec rfl _ _ rfl w.heap.size (fun _ => 0) vz ?_ ?_ dd rfl ?_); (focus rfl); (focus rfl); intro w5 e5 g5 z5; have h5 := vcells e5))
            refine bodyPost_ret (v := .tuple #[.agg (vv fun _ => 0), .int .i64 4]) (by simp [results, Try.results77, go_sem, h5]) rfl ?_
            rw [Hq.out]
            unfold TakeTo
            rw [HT.out, HR.out, HJ.out]
            exact ⟨rfl, rr.keep g5 (by omega), kk.next g5 (fun j hj h => by omega)⟩
        · have hmd : ((mk8 p.1 8 : Int) != (m : Int)) = true := by simp only [bne_iff_ne, ne_eq]; omega
          have HJ := Lib.hid (show judgeV m p = (fun _ => 0, 4) by simp [judgeV, he, hmm])
          have dd := c0
          clear V hmm he HM hed c0
          generalize mk8 p.1 8 = MK at *
          go_wp2_with (first
            | ((with_reducible refine wpl_store_vec rfl _ _ rfl w.heap.size (fun _ => 0) vz ?_ ?_ dd rfl ?_); (focus rfl); (focus rfl); intro w5 e5 g5 z5; have h5 := vcells e5))
          refine bodyPost_ret (v := .tuple #[.agg (vv fun _ => 0), .int .i64 4]) (by simp [results, Try.results77, go_sem, h5]) rfl ?_
          rw [Hq.out]
          unfold TakeTo
          rw [HT.out, HR.out, HJ.out]
          exact ⟨rfl, rr.keep g5 (by omega), kk.next g5 (fun j hj h => by omega)⟩
      · have hed : ((p.2.2 : Int) != 0) = true := by simpa using he
        have hJ : judgeV m p = (fun _ => 0, p.2.2) := by simp [judgeV, he]
        have HJ := Lib.hid hJ
        clear hJ he
        go_wp2_with ((with_reducible refine wpl_store_vec rfl _ _ rfl w.heap.size (fun _ => 0) vz ?_ ?_ d0 rfl ?_); (focus rfl); (focus rfl); intro w5 e5 g5 z5; have h5 := vcells e5)
        refine bodyPost_ret (v := .tuple #[.agg (vv fun _ => 0), .int .i64 p.2.2]) (by simp [results, Try.results77, go_sem, h5]) rfl ?_
        rw [Hq.out]
        unfold TakeTo
        rw [HT.out, HR.out, HJ.out]
        exact ⟨rfl, r1.keep g5 (by omega), k1.next g5 (fun j hj h => by omega)⟩
end Go.Proofs.Ytmohegglclgcbaa
