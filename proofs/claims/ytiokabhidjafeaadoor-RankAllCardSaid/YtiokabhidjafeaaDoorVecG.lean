/- What the calls of package vector answer: Put, PutDot. Of any vectors and dots. No condition but that the numbers have their bits. -/
import Derived.Test.YtiokabhidjafeaaDoorVecC
import Derived.Test.YtiokabhidjafeaaDoorCodecX
namespace Go.Proofs.YtiokabhidjafeaaDoor
open Go.RowKit

/-- The texts of those of the first k numbers that are above 0. -/
def putB (f : Nat → Nat) : Nat → List UInt8
  | 0 => []
  | k + 1 => if 0 < f k then putB f k ++ varB (f k) else putB f k
theorem putB_len (f : Nat → Nat) : ∀ k, (putB f k).length ≤ 5 * k := by
  intro k
  induction k with
  | zero => simp [putB]
  | succ k ih =>
    simp only [putB]
    split
    · rw [List.length_append]
      have := varB_len (f k)
      omega
    · omega
/-- A vector's text. -/
def encV (f : Nat → Nat) : List UInt8 := beB 1 (mk8 f 8) ++ putB f 8
def putS (f : Nat → Nat) : List UInt8 × Nat := if mx f 8 ≤ 65535 then (encV f, 0) else ([], 4)
def PutVTo (f : Nat → Nat) (w : World) (e : Ending) (w' : World) : Prop := e = .returned (.tuple #[.string (bs (putS f).1), .int .i64 (putS f).2]) ∧ Frm (fun _ => False) w w'
set_option maxRecDepth 100000 in
set_option maxHeartbeats 1000000 in
theorem put_any8 (f : Nat → Nat) (w : World) (hf : Fit8 f) : Calls Tryd.prog 31 #[.agg (vv f)] w (PutVTo f w) := by
  have hb : Blk (w.alloc (Obj.cells (vv f) 24)) w.heap.size 24 (vv f) := Blk.alloc w _ _
  have g0 : Frm (fun _ => False) w (w.alloc (Obj.cells (vv f) 24)) := (Frm.refl _ w).alloc _
  have hl := vcells hb
  have hm : mk8 f 8 < 256 := mk8_lt f 8
  have V : ∀ w, Calls Tryd.prog 55 #[.agg (vv f)] w fun e w' => e = .returned (.bool (decide (mx f 8 ≤ 65535))) ∧ Frm (fun _ => False) w w' := fun w => valid_any f w hf
  by_cases hx : mx f 8 ≤ 65535
  · rw [decide_eq_true hx] at V
    have HV := Lib.hid V
    have HP := Lib.hid (show putS f = (encV f, 0) by simp [putS, hx])
    clear V hx
    go_enter Tryd.func31, Tryd.ntmps31
    go_wp2_with fail
    refine (HV.out _).mono ?_
    rintro e w1 ⟨rfl, g1⟩
    have d0 := hb.keep g1 (fun h => h)
    have k1 := g0.trans g1
    clear hl hb g0 g1
    have hl := vcells (d0.old (.cells #[.pointer none, .int .i64 0] 118))
    go_wp2_with fail
    refine (marks_any f _).mono ?_
    rintro e w2 ⟨rfl, g2⟩
    have d2 := (d0.old _).keep g2 (fun h => h)
    have k2 := (k1.alloc _).trans g2
    have v2 : Wr w2 w1.heap.size [] [w1.heap.size] := (Wr.zero (Blk.alloc w1 _ _)).keep g2 (fun _ _ h => h)
    have hlt := d0.lt
    have hA := k1.size
    clear hl d0 k1 g2
    go_wp2_with fail
    refine (wu8_any _ [] _ (mk8 f 8) hm _ v2 (by simp)).mono ?_
    rintro e w3 ⟨rfl, fp, v3, g3, n3⟩
    have d3 := d2.keep g3 (by simp; omega)
    have k3 := k2.next g3 (fun k hk h => by simp at h; omega)
    have hfp : ∀ j ∈ fp, w.heap.size < j := fun j hj => by
      have h1 := n3 j hj
      simp only [List.mem_singleton] at h1
      have h2 := k2.size
      have h3 := d2.lt
      omega
    obtain ⟨B, hB⟩ : ∃ B, w1.heap.size = B := ⟨_, rfl⟩
    rw [hB] at v3 ⊢
    clear d2 k2 v2 g3 n3 hlt hA hB
    obtain ⟨A, hA'⟩ : ∃ A, w.heap.size = A := ⟨_, rfl⟩
    rw [hA'] at d3 hfp ⊢
    have HA := Lib.hid hA'
    clear hA'
    go_wp2_with fail
    go_loopw [12] (fun i wr => ∃ k : Nat, k ≤ 8 ∧ i = .int .i64 k ∧ Blk wr A 24 (vv f) ∧ (∃ fp, Wr wr B (beB 1 (mk8 f 8) ++ putB f k) fp ∧ ∀ j ∈ fp, A < j) ∧ Frm (fun _ => False) w wr) (fun i _ => 8 - (intOf i).toNat)
    case atStart => exact ⟨0, by omega, rfl, d3, ⟨fp, by simpa [putB] using v3, hfp⟩, k3⟩
    case round =>
      clear d3 v3 hfp k3
      obtain ⟨k, hk, rfl, d4, ⟨fq, v4, hfq⟩, k4⟩ := hrel
      by_cases hk8 : k < 8
      · have c0 := vblk_cell d4 hk8
        have hki : (k : Int) < 8 := by omega
        have hk0 : (0 : Int) ≤ (k : Int) := by omega
        have hfk := hf k hk8
        by_cases h0 : 0 < f k
        · have h0d : decide (0 < f k) = true := by rw [decide_eq_true_eq]; omega
          have HS := Lib.hid (show putB f (k + 1) = putB f k ++ varB (f k) by simp [putB, h0])
          have hlen := putB_len f k
          clear h0
          go_wp2_with fail
          refine (wvar_any _ _ _ (f k) hfk _ v4 (by rw [List.length_append, beB_len]; omega)).mono ?_
          rintro e w5 ⟨rfl, fr, v5, g5, n5⟩
          rw [List.append_assoc, ← HS.out] at v5
          go_wp2_with fail
          go_roundw
          case rel =>
            have hA := HA.out
            have h1 := d4.lt
            exact ⟨k + 1, by omega, by go_num, d4.keep g5 (fun h => by have := hfq A h; omega), ⟨fr, v5, fun j hj => by have := n5 j hj; rcases this with h | h; exact hfq j h; omega⟩, k4.next g5 (fun j hj h => by have := hfq j h; omega)⟩
          case measure => simp [intOf]; omega
        · have h0d : decide (0 < f k) = false := by rw [decide_eq_false_iff_not]; omega
          have HS := Lib.hid (show putB f (k + 1) = putB f k by simp [putB, h0])
          clear h0
          go_wp2_with fail
          go_roundw
          case rel => exact ⟨k + 1, by omega, by go_num, d4, ⟨fq, by rw [HS.out]; exact v4, hfq⟩, k4⟩
          case measure => simp [intOf]; omega
      · obtain rfl : k = 8 := by omega
        go_wp2_with fail
        refine (bytes_any _ _ _ _ v4).mono ?_
        rintro e w5 ⟨rfl, g5⟩
        go_wp2_with fail
        go_ret2
        unfold PutVTo
        rw [HP.out]
        exact ⟨rfl, k4.trans g5⟩
  · rw [decide_eq_false hx] at V
    have HV := Lib.hid V
    have HP := Lib.hid (show putS f = ([], 4) by simp [putS, hx])
    clear V hx
    go_enter Tryd.func31, Tryd.ntmps31
    go_wp2_with fail
    refine (HV.out _).mono ?_
    rintro e w1 ⟨rfl, g1⟩
    go_wp2_with fail
    go_ret2
    unfold PutVTo
    rw [HP.out]
    exact ⟨rfl, g0.trans g1⟩

end Go.Proofs.YtiokabhidjafeaaDoor

