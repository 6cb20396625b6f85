/- What the document's own Put, PutDot answer: the same. Of any vectors and dots. No condition but that the numbers have their bits. -/
import Derived.Test.YtdoeogfjbcannaaVecI
import Derived.Test.YtdoeogfjbcannaaRefW
import Derived.Deep.RegionWith
import Derived.Deep.RegionHeld3
namespace Go.Proofs.Ytdoeogfjbcannaa
open Go.RowKit

set_option maxRecDepth 100000 in
set_option maxHeartbeats 1000000 in
theorem rput_any8 (f : Nat → Nat) (w : World) (hf : Fit8 f) : Calls Try.prog 19 #[.agg (vv f)] w (PutVTo f w) := by
  have hb : Blk (w.alloc (Obj.cells (vv f) 24)) w.heap.size 24 (vv f) := Blk.alloc w _ _
  have g0 : Frm (fun _ => False) w (w.alloc (Obj.cells (vv f) 24)) := (Frm.refl _ w).alloc _
  have hl := vcells hb
  have hm : mk8 f 8 < 256 := mk8_lt f 8
  have V := fun w => rmay_any f w
  by_cases hx : mx f 8 ≤ 65535
  · rw [decide_eq_true hx] at V
    have HV := Lib.hid V
    have HP := Lib.hid (show putS f = (encV f, 0) by simp [putS, hx])
    clear V hx
    go_enter Try.func19, Try.ntmps19
    go_wp2_with fail
    refine (HV.out _).mono ?_
    rintro e w1 ⟨rfl, g1⟩
    have d0 := hb.keep g1 (fun h => h)
    have k1 := g0.trans g1
    clear hl hb g0 g1
    go_wp2_with fail
    go_loopw [4, 5, 6, 7] (fun x s u i wr => ∃ k : Nat, k ≤ 8 ∧ i = .int .i64 k ∧ x = .int .i64 (mk8 f k) ∧ s = .string (bs (putB f k)) ∧ u = .int .i64 (2 ^ k : Nat) ∧ Frm (fun _ => False) w1 wr) (fun _ _ _ i _ => 8 - (intOf i).toNat)
    case atStart => exact ⟨0, by omega, rfl, rfl, rfl, rfl, Frm.refl _ _⟩
    case round =>
      obtain ⟨k, hk, rfl, rfl, rfl, rfl, k4⟩ := hrel
      have d4 := d0.keep k4 (fun h => h)
      by_cases hk8 : k < 8
      · have c0 := vblk_cell d4 hk8
        have hki : (k : Int) < 8 := by omega
        have hk0 : (0 : Int) ≤ (k : Int) := by omega
        have hfk := hf k hk8
        have hp : 2 ^ k ≤ 128 := by
          have := Nat.pow_le_pow_right (show 0 < 2 by omega) (show k ≤ 7 by omega)
          omega
        have hm2 := mk8_lt f k
        have hsz : (bs (putB f k)).size ≤ 40 := by rw [bs_size]; have := putB_len f k; omega
        have HU := Lib.hid (show ((2 ^ k : Nat) : Int) * 2 = ((2 ^ (k + 1) : Nat) : Int) by rw [Nat.pow_succ]; omega)
        by_cases h0 : 0 < f k
        · have h0d : decide (0 < f k) = true := by rw [decide_eq_true_eq]; omega
          have HS := Lib.hid (show putB f (k + 1) = putB f k ++ varB (f k) by simp [putB, h0])
          have HM := Lib.hid (show mk8 f (k + 1) = mk8 f k + 2 ^ k by simp [mk8, h0])
          clear h0
          generalize mk8 f k = M at *
          generalize 2 ^ k = U at *
          go_wp2_with fail
          refine (refVar_any (f k) hfk _).mono ?_
          rintro e w5 ⟨rfl, g5⟩
          have hs1 : (bs (varB (f k))).size ≤ 5 := varB_len _
          go_wp2_with fail
          go_roundw
          case rel => exact ⟨k + 1, by omega, by go_num, by rw [HM.out]; go_num, by rw [HS.out, ← bs_append], by first | (rw [← HU.out]; done) | (rw [← HU.out]; go_num), k4.trans g5⟩
          case measure => simp [intOf]; omega
        · have h0d : decide (0 < f k) = false := by rw [decide_eq_false_iff_not]; omega
          have HS := Lib.hid (show putB f (k + 1) = putB f k by simp [putB, h0])
          have HM := Lib.hid (show mk8 f (k + 1) = mk8 f k by simp [mk8, h0])
          clear h0
          generalize 2 ^ k = U at *
          go_wp2_with fail
          go_roundw
          case rel => exact ⟨k + 1, by omega, by go_num, by rw [HM.out], by rw [HS.out], by first | (rw [← HU.out]; done) | (rw [← HU.out]; go_num), k4⟩
          case measure => simp [intOf]; omega
      · obtain rfl : k = 8 := by omega
        have hsz : (bs (putB f 8)).size ≤ 40 := by rw [bs_size]; have := putB_len f 8; omega
        have HE := Lib.hid (show encV f = [UInt8.ofNat (mk8 f 8)] ++ putB f 8 from rfl)
        generalize mk8 f 8 = M at *
        generalize putB f 8 = L at *
        have hM : ((M : Int) % 256) = (M : Int) := by omega
        go_wp2_with fail
        rw [text_of_cells (l := [UInt8.ofNat M]) _ 1 1 (Blk.alloc wr _ _) rfl (by rw [u8s_one M (by omega)])]
        have hs1 : (bs [UInt8.ofNat M]).size ≤ 1 := Nat.le_refl _
        go_wp2
        go_ret2
        unfold PutVTo
        rw [HP.out, HE.out, ← bs_append]
        exact ⟨rfl, (k1.trans k4).alloc _⟩
  · rw [decide_eq_false hx] at V
    have HV := Lib.hid V
    have HP := Lib.hid (show putS f = ([], 4) by simp [putS, hx])
    clear V hx
    go_enter Try.func19, Try.ntmps19
    go_wp2_with fail
    refine (HV.out _).mono ?_
    rintro e w1 ⟨rfl, g1⟩
    go_wp2_with fail
    go_ret2
    unfold PutVTo
    rw [HP.out]
    exact ⟨rfl, g0.trans g1⟩

set_option maxRecDepth 100000 in
set_option maxHeartbeats 1000000 in
theorem rputDot_any (r n : Nat) (w : World) (hr : r < 256) (hn : n < 4294967296) : Calls Try.prog 21 #[.agg (dv r n)] w (PutDTo r n w) := by
  have hb : Blk (w.alloc (Obj.cells (dv r n) 26)) w.heap.size 26 (dv r n) := Blk.alloc w _ _
  have g0 : Frm (fun _ => False) w (w.alloc (Obj.cells (dv r n) 26)) := (Frm.refl _ w).alloc _
  have c0 := hb.cell 0 rfl
  have c1 := hb.cell 1 rfl
  have V := fun w => rmayDot_any r n w
  cases hx : okD r n with
  | true =>
    rw [hx] at V
    have HV := Lib.hid V
    have HP := Lib.hid (show putDS r n = ([UInt8.ofNat r] ++ varB n, 0) by simp [putDS, hx, encD]; rfl)
    clear V hx
    go_enter Try.func21, Try.ntmps21
    go_wp2_with fail
    refine (HV.out _).mono ?_
    rintro e w1 ⟨rfl, g1⟩
    have d0 := hb.keep g1 (fun h => h)
    have k1 := g0.trans g1
    clear c0 c1 hb g0 g1
    have c0 := d0.cell 0 rfl
    have c1 := d0.cell 1 rfl
    have hs1 : (bs [UInt8.ofNat r]).size ≤ 1 := Nat.le_refl _
    have hs2 : (bs (varB n)).size ≤ 5 := varB_len _
    have hu : [Value.int .u8 (r : Int)] = u8s [UInt8.ofNat r] := by rw [u8s_one r hr]
    have HX := Lib.hid hu
    clear hu
    have HA : Hid (∀ (ww : World) (g : Nat), Blk ww g 5 #[.int .u8 (r : Int)] → (convert 84 9 (.slice (some ⟨g, 0, none⟩) 1 1)).run Try.prog ww = .ok (.string (bs [UInt8.ofNat r])) ww) := Lib.hid fun ww g hB =>
      text_of_cells (cs := [Value.int .u8 (r : Int)]) (l := [UInt8.ofNat r]) g 1 1 hB rfl HX.out
    have hrun0 := HA.out _ _ (Blk.alloc w1.drew 5 #[.int .u8 (r : Int)])
    have hrun1 := HA.out _ _ (Blk.alloc w1 5 #[.int .u8 (r : Int)]).drew
    have HVar := Lib.hid (fun w => refVar_any n hn w)
    go_wp2_with fail
    have c1a := (d0.old (.cells #[.int .u8 (r : Int)] 5)).cell 1 rfl
    have hlt := d0.lt
    go_region_with (first
      | (go_at_call 41; refine (HVar.out _).mono ?_; rintro e ww ⟨rfl, gg⟩; (try have e0 := Frm.cellF (a := ⟨w.heap.size, 0, none⟩) (v := .int .u8 (r : Int)) gg c0); have hrunA := HA.out _ _ (Blk.alloc ww 5 #[.int .u8 (r : Int)]); (try have hrunB := HA.out _ _ ((Blk.alloc w1 5 #[.int .u8 (r : Int)]).drew.keep gg (fun h => h)))))
    all_goals clear HA hrun0 hrun1 HVar HX HV
    all_goals go_wp2_with fail
    all_goals go_ret2
    all_goals unfold PutDTo
    all_goals rw [HP.out, ← bs_append]
    all_goals first | exact ⟨rfl, k1.trans (((Frm.refl _ w1).alloc _).drew.trans gg)⟩ | exact ⟨rfl, k1.trans ((Frm.drew (Frm.refl _ w1)).trans (gg.alloc _))⟩ | skip
  | false =>
    rw [hx] at V
    have HV := Lib.hid V
    have HP := Lib.hid (show putDS r n = ([], 4) by simp [putDS, hx])
    clear V hx
    go_enter Try.func21, Try.ntmps21
    go_wp2_with fail
    refine (HV.out _).mono ?_
    rintro e w1 ⟨rfl, g1⟩
    go_wp2_with fail
    go_ret2
    unfold PutDTo
    rw [HP.out]
    exact ⟨rfl, g0.trans g1⟩
end Go.Proofs.Ytdoeogfjbcannaa
