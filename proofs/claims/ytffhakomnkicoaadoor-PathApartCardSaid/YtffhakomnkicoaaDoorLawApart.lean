/- PathApart: what the law's call answers. Conditions: the tables and errors of strconv lie as the program's text lays them (Vars). -/
import Derived.Test.YtffhakomnkicoaaDoorWorks
namespace Go.Proofs.YtffhakomnkicoaaDoor
open Go.RowKit

theorem seen_x {a : List UInt8} {r n : Nat} (h : okd a r n) : seen ([47, 120, 47] ++ conf a r n) = ([[120], a], some (r, n), 0) := by
  have h2 := seen_conf (l := [[120]]) h (by decide) (by decide)
  have e : txt ([[120]] ++ [conf a r n]) = [47, 120, 47] ++ conf a r n := by simp [txt]
  rw [e] at h2
  exact h2
theorem join_x (a : List UInt8) : Lib.join [[120], a] [124] = [120, 124] ++ a := by simp [Lib.join, List.intercalate]
/-- Both are the same just if both have one conflict name. -/
theorem apart {a b : List UInt8} {r n q m : Nat} (h : okd a r n) (h' : okd b q m) : decide (conf a r n = conf b q m) = (decide (a = b) && (decide (r = q) && decide (n = m))) := by
  rw [Bool.eq_iff_iff]
  simp only [decide_eq_true_eq, Bool.and_eq_true]
  constructor
  · intro e; exact conf_inj h h' e
  · rintro ⟨rfl, rfl, rfl⟩; rfl
set_option maxRecDepth 100000 in
set_option maxHeartbeats 4000000 in
theorem apart_long1 (a b : List UInt8) (r n q m : Nat) (w : World) (hv : Vars w) (hl : 300 < a.length) :
    Calls Tryd.prog 7 #[.string (bs a), .string (bs b), .agg #[.int .u8 r, .int .u32 n, .int .u8 q, .int .u32 m]] w fun e w' => e = .returned (.bool true) ∧ Fr w w' := by
  have l1 : (300 : Int) < ((bs a).size : Int) := by rw [bs_size]; omega
  clear hl
  go_enter Tryd.func7, Tryd.ntmps7
  have hB := Blk.alloc w 57 #[.int .u8 r, .int .u32 n, .int .u8 q, .int .u32 m]
  have f0 : Fr w (w.alloc (.cells #[.int .u8 r, .int .u32 n, .int .u8 q, .int .u32 m] 57)) := (Frm.refl _ w).alloc _
  clear hB
  go_wp2_with fail
  refine (works_any _ (hv.keep f0)).mono ?_
  rintro e wh ⟨rfl, fh⟩
  go_wp2_with fail
  go_ret
  exact ⟨rfl, f0.trans fh⟩
set_option maxRecDepth 100000 in
set_option maxHeartbeats 4000000 in
theorem apart_long2 (a b : List UInt8) (r n q m : Nat) (w : World) (hv : Vars w) (hl : a.length ≤ 300) (hl2 : 300 < b.length) :
    Calls Tryd.prog 7 #[.string (bs a), .string (bs b), .agg #[.int .u8 r, .int .u32 n, .int .u8 q, .int .u32 m]] w fun e w' => e = .returned (.bool true) ∧ Fr w w' := by
  have l1 : ((bs a).size : Int) ≤ 300 := by rw [bs_size]; omega
  have l2 : (300 : Int) < ((bs b).size : Int) := by rw [bs_size]; omega
  clear hl hl2
  go_enter Tryd.func7, Tryd.ntmps7
  have hB := Blk.alloc w 57 #[.int .u8 r, .int .u32 n, .int .u8 q, .int .u32 m]
  have f0 : Fr w (w.alloc (.cells #[.int .u8 r, .int .u32 n, .int .u8 q, .int .u32 m] 57)) := (Frm.refl _ w).alloc _
  clear hB
  go_wp2_with fail
  refine (works_any _ (hv.keep f0)).mono ?_
  rintro e wh ⟨rfl, fh⟩
  go_wp2_with fail
  go_ret
  exact ⟨rfl, f0.trans fh⟩
set_option maxRecDepth 100000 in
set_option maxHeartbeats 4000000 in
theorem apart_no (a b : List UInt8) (r n q m : Nat) (w : World) (hv : Vars w) (hl : a.length ≤ 300) (hl2 : b.length ≤ 300) (ha : ¬ okd a r n) :
    Calls Tryd.prog 7 #[.string (bs a), .string (bs b), .agg #[.int .u8 r, .int .u32 n, .int .u8 q, .int .u32 m]] w fun e w' => e = .returned (.bool true) ∧ Fr w w' := by
  have l1 : ((bs a).size : Int) ≤ 300 := by rw [bs_size]; omega
  have l2 : ((bs b).size : Int) ≤ 300 := by rw [bs_size]; omega
  have C1 := Lib.hid (fun w => by have := conflict_no a r n w ha; unfold ConfTo at this; dsimp only at this; exact this)
  have C2 := Lib.hid (fun w (hv : Vars w) => by have := conflict_any b q m w hv; unfold ConfTo at this; exact this)
  clear hl hl2 ha
  generalize conflict b q m = X at *
  go_enter Tryd.func7, Tryd.ntmps7
  have hB := Blk.alloc w 57 #[.int .u8 r, .int .u32 n, .int .u8 q, .int .u32 m]
  have f0 : Fr w (w.alloc (.cells #[.int .u8 r, .int .u32 n, .int .u8 q, .int .u32 m] 57)) := (Frm.refl _ w).alloc _
  go_wp2_with fail
  have ca0 := hB.cell 0 rfl
  have ca1 := hB.cell 1 rfl
  have ca2 := hB.cell 2 rfl
  have ca3 := hB.cell 3 rfl
  go_wp2_with fail
  refine (C1.out _).mono ?_
  rintro e w1 ⟨rfl, f1⟩
  have g1 := f0.trans f1
  have hB1 := hB.keep f1 (fun h => h)
  clear f0 f1 hB ca0 ca1 ca2 ca3
  have cb0 := hB1.cell 0 rfl
  have cb1 := hB1.cell 1 rfl
  have cb2 := hB1.cell 2 rfl
  have cb3 := hB1.cell 3 rfl
  go_wp2_with fail
  refine (C2.out _ (hv.keep g1)).mono ?_
  rintro e w2 ⟨rfl, f2⟩
  have g2 := g1.trans f2
  clear hB1 cb0 cb1 cb2 cb3
  go_wp2_with fail
  refine (works_any _ (hv.keep g2)).mono ?_
  rintro e wh ⟨rfl, fh⟩
  go_wp2_with fail
  go_ret
  exact ⟨rfl, g2.trans fh⟩
set_option maxRecDepth 100000 in
set_option maxHeartbeats 4000000 in
theorem apart_yn (a b : List UInt8) (r n q m : Nat) (w : World) (hv : Vars w) (hl : a.length ≤ 300) (hl2 : b.length ≤ 300) (ha : okd a r n) (hb : ¬ okd b q m) :
    Calls Tryd.prog 7 #[.string (bs a), .string (bs b), .agg #[.int .u8 r, .int .u32 n, .int .u8 q, .int .u32 m]] w fun e w' => e = .returned (.bool true) ∧ Fr w w' := by
  have l1 : ((bs a).size : Int) ≤ 300 := by rw [bs_size]; omega
  have l2 : ((bs b).size : Int) ≤ 300 := by rw [bs_size]; omega
  have C1 := Lib.hid (fun w (hv : Vars w) => by have := conflict_yes a r n w hv ha; unfold ConfTo at this; dsimp only at this; exact this)
  have C2 := Lib.hid (fun w => by have := conflict_no b q m w hb; unfold ConfTo at this; dsimp only at this; exact this)
  have hle := conf_len ha
  have S1 := Lib.hid (fun w (hv : Vars w) => by have := split_any (conf a r n) w hv (by omega); unfold SplitTo splitV at this; simp only [splitO_conf ha, dotV] at this; exact this)
  have hnm : decide (chk (conf a r n) = 0) = false := decide_eq_false (conf_not a r n)
  have N1 := Lib.hid (fun w => by have := name_any (conf a r n) w; rw [hnm] at this; exact this)
  have Z1 := Lib.hid (fun w (hv : Vars w) => seen_some ([47, 120, 47] ++ conf a r n) ([120, 124] ++ a) [[120], a] r n w hv (seen_x ha) ha.2.2.1 (by simp) (join_x a) (by simp; omega))
  have k1 : (⟨#[47, 120, 47]⟩ : ByteArray) ++ bs (conf a r n) = bs ([47, 120, 47] ++ conf a r n) := by
    have e1 : (⟨#[47, 120, 47]⟩ : ByteArray) = bs [47, 120, 47] := rfl
    rw [e1, bs_append]
  have k2 : (⟨#[120, 124]⟩ : ByteArray) ++ bs a = bs ([120, 124] ++ a) := by
    have e1 : (⟨#[120, 124]⟩ : ByteArray) = bs [120, 124] := rfl
    rw [e1, bs_append]
  have ls : (⟨#[47, 120, 47]⟩ : ByteArray).size = 3 := rfl
  have lt : (⟨#[120, 124]⟩ : ByteArray).size = 2 := rfl
  have lc : (bs (conf a r n)).size ≤ 16 := hle
  have z1 : ¬ 9223372036854775807 < 3 + (bs (conf a r n)).size := by omega
  have z2 : ¬ 9223372036854775807 < 2 + (bs a).size := by rw [bs_size]; omega
  have p1 : ((bs a).toList == (bs a).toList) = true := beq_self_eq_true _
  have p2 : ((r : Int) == (r : Int)) = true := beq_self_eq_true _
  have p3 : ((n : Int) == (n : Int)) = true := beq_self_eq_true _
  have K1 := Lib.hid k1
  have K2 := Lib.hid k2
  clear k1 k2 hnm hle hl hl2
  clear ha hb
  go_enter Tryd.func7, Tryd.ntmps7
  have hB := Blk.alloc w 57 #[.int .u8 r, .int .u32 n, .int .u8 q, .int .u32 m]
  have f0 : Fr w (w.alloc (.cells #[.int .u8 r, .int .u32 n, .int .u8 q, .int .u32 m] 57)) := (Frm.refl _ w).alloc _
  go_wp2_with fail
  have ca0 := hB.cell 0 rfl
  have ca1 := hB.cell 1 rfl
  have ca2 := hB.cell 2 rfl
  have ca3 := hB.cell 3 rfl
  go_wp2_with fail
  refine (C1.out _ (hv.keep f0)).mono ?_
  rintro e w1 ⟨rfl, f1⟩
  have g1 := f0.trans f1
  have hB1 := hB.keep f1 (fun h => h)
  clear f0 f1 hB ca0 ca1 ca2 ca3
  have cb0 := hB1.cell 0 rfl
  have cb1 := hB1.cell 1 rfl
  have cb2 := hB1.cell 2 rfl
  have cb3 := hB1.cell 3 rfl
  go_wp2_with fail
  refine (C2.out _).mono ?_
  rintro e w2 ⟨rfl, f2⟩
  have g2 := g1.trans f2
  have hB2 := hB1.keep f2 (fun h => h)
  clear hB1 cb0 cb1 cb2 cb3 f2 C1 C2
  go_wp2_with fail
  refine (S1.out _ (hv.keep g2)).mono ?_
  rintro e w3 ⟨rfl, f3⟩
  have hB3 := (hB2.keep f3 (fun h => h)).old (.cells #[.int .u8 r, .int .u32 n] 31)
  have hD3 := Blk.alloc w3 31 #[.int .u8 r, .int .u32 n]
  have g3 := (g2.trans f3).alloc (.cells #[.int .u8 r, .int .u32 n] 31)
  have d0 := hD3.cell 0 rfl
  have d1 := hD3.cell 1 rfl
  have cc0 := hB3.cell 0 rfl
  have cc1 := hB3.cell 1 rfl
  have cc2 := hB3.cell 2 rfl
  have cc3 := hB3.cell 3 rfl
  clear f3 hB2 hD3 S1
  go_wp2_with fail
  refine (N1.out _).mono ?_
  rintro e w4 ⟨rfl, f4⟩
  have hB4 := hB3.keep f4 (fun h => h)
  have g4 := g3.trans f4
  clear d0 d1 cc0 cc1 cc2 cc3 hB3 f4
  have cd0 := hB4.cell 0 rfl
  have cd1 := hB4.cell 1 rfl
  have cd2 := hB4.cell 2 rfl
  have cd3 := hB4.cell 3 rfl
  go_wp2_with fail
  rw [K1.out, K2.out]
  refine (Z1.out _ (hv.keep g4)).mono ?_
  rintro e w5 ⟨rfl, f5⟩
  have hB5 := hB4.keep f5 (fun h => h)
  have g5 := g4.trans f5
  clear cd0 cd1 cd2 cd3 hB4 f5
  have ce0 := hB5.cell 0 rfl
  have ce1 := hB5.cell 1 rfl
  have ce2 := hB5.cell 2 rfl
  have ce3 := hB5.cell 3 rfl
  go_wp2_with fail
  refine (works_any _ (hv.keep g5)).mono ?_
  rintro e wh ⟨rfl, fh⟩
  go_wp2_with fail
  go_ret
  exact ⟨rfl, g5.trans fh⟩
set_option maxRecDepth 100000 in
set_option maxHeartbeats 4000000 in
theorem apart_same (a : List UInt8) (r n : Nat) (w : World) (hv : Vars w) (hl : a.length ≤ 300) (ha : okd a r n) :
    Calls Tryd.prog 7 #[.string (bs a), .string (bs a), .agg #[.int .u8 r, .int .u32 n, .int .u8 r, .int .u32 n]] w fun e w' => e = .returned (.bool true) ∧ Fr w w' := by
  have l1 : ((bs a).size : Int) ≤ 300 := by rw [bs_size]; omega
  have C1 := Lib.hid (fun w (hv : Vars w) => by have := conflict_yes a r n w hv ha; unfold ConfTo at this; dsimp only at this; exact this)
  have C2 := C1
  have p4 : ((bs (conf a r n)).toList == (bs (conf a r n)).toList) = true := beq_self_eq_true _
  have hle := conf_len ha
  have S1 := Lib.hid (fun w (hv : Vars w) => by have := split_any (conf a r n) w hv (by omega); unfold SplitTo splitV at this; simp only [splitO_conf ha, dotV] at this; exact this)
  have hnm : decide (chk (conf a r n) = 0) = false := decide_eq_false (conf_not a r n)
  have N1 := Lib.hid (fun w => by have := name_any (conf a r n) w; rw [hnm] at this; exact this)
  have Z1 := Lib.hid (fun w (hv : Vars w) => seen_some ([47, 120, 47] ++ conf a r n) ([120, 124] ++ a) [[120], a] r n w hv (seen_x ha) ha.2.2.1 (by simp) (join_x a) (by simp; omega))
  have k1 : (⟨#[47, 120, 47]⟩ : ByteArray) ++ bs (conf a r n) = bs ([47, 120, 47] ++ conf a r n) := by
    have e1 : (⟨#[47, 120, 47]⟩ : ByteArray) = bs [47, 120, 47] := rfl
    rw [e1, bs_append]
  have k2 : (⟨#[120, 124]⟩ : ByteArray) ++ bs a = bs ([120, 124] ++ a) := by
    have e1 : (⟨#[120, 124]⟩ : ByteArray) = bs [120, 124] := rfl
    rw [e1, bs_append]
  have ls : (⟨#[47, 120, 47]⟩ : ByteArray).size = 3 := rfl
  have lt : (⟨#[120, 124]⟩ : ByteArray).size = 2 := rfl
  have lc : (bs (conf a r n)).size ≤ 16 := hle
  have z1 : ¬ 9223372036854775807 < 3 + (bs (conf a r n)).size := by omega
  have z2 : ¬ 9223372036854775807 < 2 + (bs a).size := by rw [bs_size]; omega
  have p1 : ((bs a).toList == (bs a).toList) = true := beq_self_eq_true _
  have p2 : ((r : Int) == (r : Int)) = true := beq_self_eq_true _
  have p3 : ((n : Int) == (n : Int)) = true := beq_self_eq_true _
  have K1 := Lib.hid k1
  have K2 := Lib.hid k2
  clear k1 k2 hnm hle hl
  clear ha
  go_enter Tryd.func7, Tryd.ntmps7
  have hB := Blk.alloc w 57 #[.int .u8 r, .int .u32 n, .int .u8 r, .int .u32 n]
  have f0 : Fr w (w.alloc (.cells #[.int .u8 r, .int .u32 n, .int .u8 r, .int .u32 n] 57)) := (Frm.refl _ w).alloc _
  go_wp2_with fail
  have ca0 := hB.cell 0 rfl
  have ca1 := hB.cell 1 rfl
  have ca2 := hB.cell 2 rfl
  have ca3 := hB.cell 3 rfl
  go_wp2_with fail
  refine (C1.out _ (hv.keep f0)).mono ?_
  rintro e w1 ⟨rfl, f1⟩
  have g1 := f0.trans f1
  have hB1 := hB.keep f1 (fun h => h)
  clear f0 f1 hB ca0 ca1 ca2 ca3
  have cb0 := hB1.cell 0 rfl
  have cb1 := hB1.cell 1 rfl
  have cb2 := hB1.cell 2 rfl
  have cb3 := hB1.cell 3 rfl
  go_wp2_with fail
  refine (C2.out _ (hv.keep g1)).mono ?_
  rintro e w2 ⟨rfl, f2⟩
  have g2 := g1.trans f2
  have hB2 := hB1.keep f2 (fun h => h)
  clear hB1 cb0 cb1 cb2 cb3 f2 C1 C2
  go_wp2_with fail
  refine (S1.out _ (hv.keep g2)).mono ?_
  rintro e w3 ⟨rfl, f3⟩
  have hB3 := (hB2.keep f3 (fun h => h)).old (.cells #[.int .u8 r, .int .u32 n] 31)
  have hD3 := Blk.alloc w3 31 #[.int .u8 r, .int .u32 n]
  have g3 := (g2.trans f3).alloc (.cells #[.int .u8 r, .int .u32 n] 31)
  have d0 := hD3.cell 0 rfl
  have d1 := hD3.cell 1 rfl
  have cc0 := hB3.cell 0 rfl
  have cc1 := hB3.cell 1 rfl
  have cc2 := hB3.cell 2 rfl
  have cc3 := hB3.cell 3 rfl
  clear f3 hB2 hD3 S1
  go_wp2_with fail
  refine (N1.out _).mono ?_
  rintro e w4 ⟨rfl, f4⟩
  have hB4 := hB3.keep f4 (fun h => h)
  have g4 := g3.trans f4
  clear d0 d1 cc0 cc1 cc2 cc3 hB3 f4
  have cd0 := hB4.cell 0 rfl
  have cd1 := hB4.cell 1 rfl
  have cd2 := hB4.cell 2 rfl
  have cd3 := hB4.cell 3 rfl
  go_wp2_with fail
  rw [K1.out, K2.out]
  refine (Z1.out _ (hv.keep g4)).mono ?_
  rintro e w5 ⟨rfl, f5⟩
  have hB5 := hB4.keep f5 (fun h => h)
  have g5 := g4.trans f5
  clear cd0 cd1 cd2 cd3 hB4 f5
  have ce0 := hB5.cell 0 rfl
  have ce1 := hB5.cell 1 rfl
  have ce2 := hB5.cell 2 rfl
  have ce3 := hB5.cell 3 rfl
  go_wp2_with fail
  refine (works_any _ (hv.keep g5)).mono ?_
  rintro e wh ⟨rfl, fh⟩
  go_wp2_with fail
  go_ret
  exact ⟨rfl, g5.trans fh⟩
set_option maxRecDepth 100000 in
set_option maxHeartbeats 4000000 in
theorem apart_ne1 (a b : List UInt8) (r n q m : Nat) (w : World) (hv : Vars w) (hl : a.length ≤ 300) (hl2 : b.length ≤ 300) (ha : okd a r n) (hb : okd b q m) (hne : a ≠ b) :
    Calls Tryd.prog 7 #[.string (bs a), .string (bs b), .agg #[.int .u8 r, .int .u32 n, .int .u8 q, .int .u32 m]] w fun e w' => e = .returned (.bool true) ∧ Fr w w' := by
  have l1 : ((bs a).size : Int) ≤ 300 := by rw [bs_size]; omega
  have l2 : ((bs b).size : Int) ≤ 300 := by rw [bs_size]; omega
  have C1 := Lib.hid (fun w (hv : Vars w) => by have := conflict_yes a r n w hv ha; unfold ConfTo at this; dsimp only at this; exact this)
  have C2 := Lib.hid (fun w (hv : Vars w) => by have := conflict_yes b q m w hv hb; unfold ConfTo at this; dsimp only at this; exact this)
  have p4 : ((bs (conf a r n)).toList == (bs (conf b q m)).toList) = false := by rw [str_eq]; exact decide_eq_false fun e => hne (conf_inj ha hb e).1
  have p5 : ((bs a).toList == (bs b).toList) = false := by rw [str_eq]; exact decide_eq_false hne
  have hle := conf_len ha
  have S1 := Lib.hid (fun w (hv : Vars w) => by have := split_any (conf a r n) w hv (by omega); unfold SplitTo splitV at this; simp only [splitO_conf ha, dotV] at this; exact this)
  have hnm : decide (chk (conf a r n) = 0) = false := decide_eq_false (conf_not a r n)
  have N1 := Lib.hid (fun w => by have := name_any (conf a r n) w; rw [hnm] at this; exact this)
  have Z1 := Lib.hid (fun w (hv : Vars w) => seen_some ([47, 120, 47] ++ conf a r n) ([120, 124] ++ a) [[120], a] r n w hv (seen_x ha) ha.2.2.1 (by simp) (join_x a) (by simp; omega))
  have k1 : (⟨#[47, 120, 47]⟩ : ByteArray) ++ bs (conf a r n) = bs ([47, 120, 47] ++ conf a r n) := by
    have e1 : (⟨#[47, 120, 47]⟩ : ByteArray) = bs [47, 120, 47] := rfl
    rw [e1, bs_append]
  have k2 : (⟨#[120, 124]⟩ : ByteArray) ++ bs a = bs ([120, 124] ++ a) := by
    have e1 : (⟨#[120, 124]⟩ : ByteArray) = bs [120, 124] := rfl
    rw [e1, bs_append]
  have ls : (⟨#[47, 120, 47]⟩ : ByteArray).size = 3 := rfl
  have lt : (⟨#[120, 124]⟩ : ByteArray).size = 2 := rfl
  have lc : (bs (conf a r n)).size ≤ 16 := hle
  have z1 : ¬ 9223372036854775807 < 3 + (bs (conf a r n)).size := by omega
  have z2 : ¬ 9223372036854775807 < 2 + (bs a).size := by rw [bs_size]; omega
  have p1 : ((bs a).toList == (bs a).toList) = true := beq_self_eq_true _
  have p2 : ((r : Int) == (r : Int)) = true := beq_self_eq_true _
  have p3 : ((n : Int) == (n : Int)) = true := beq_self_eq_true _
  have K1 := Lib.hid k1
  have K2 := Lib.hid k2
  clear k1 k2 hnm hle hl hl2
  clear ha hb hne
  go_enter Tryd.func7, Tryd.ntmps7
  have hB := Blk.alloc w 57 #[.int .u8 r, .int .u32 n, .int .u8 q, .int .u32 m]
  have f0 : Fr w (w.alloc (.cells #[.int .u8 r, .int .u32 n, .int .u8 q, .int .u32 m] 57)) := (Frm.refl _ w).alloc _
  go_wp2_with fail
  have ca0 := hB.cell 0 rfl
  have ca1 := hB.cell 1 rfl
  have ca2 := hB.cell 2 rfl
  have ca3 := hB.cell 3 rfl
  go_wp2_with fail
  refine (C1.out _ (hv.keep f0)).mono ?_
  rintro e w1 ⟨rfl, f1⟩
  have g1 := f0.trans f1
  have hB1 := hB.keep f1 (fun h => h)
  clear f0 f1 hB ca0 ca1 ca2 ca3
  have cb0 := hB1.cell 0 rfl
  have cb1 := hB1.cell 1 rfl
  have cb2 := hB1.cell 2 rfl
  have cb3 := hB1.cell 3 rfl
  go_wp2_with fail
  refine (C2.out _ (hv.keep g1)).mono ?_
  rintro e w2 ⟨rfl, f2⟩
  have g2 := g1.trans f2
  have hB2 := hB1.keep f2 (fun h => h)
  clear hB1 cb0 cb1 cb2 cb3 f2 C1 C2
  go_wp2_with fail
  refine (S1.out _ (hv.keep g2)).mono ?_
  rintro e w3 ⟨rfl, f3⟩
  have hB3 := (hB2.keep f3 (fun h => h)).old (.cells #[.int .u8 r, .int .u32 n] 31)
  have hD3 := Blk.alloc w3 31 #[.int .u8 r, .int .u32 n]
  have g3 := (g2.trans f3).alloc (.cells #[.int .u8 r, .int .u32 n] 31)
  have d0 := hD3.cell 0 rfl
  have d1 := hD3.cell 1 rfl
  have cc0 := hB3.cell 0 rfl
  have cc1 := hB3.cell 1 rfl
  have cc2 := hB3.cell 2 rfl
  have cc3 := hB3.cell 3 rfl
  clear f3 hB2 hD3 S1
  go_wp2_with fail
  refine (N1.out _).mono ?_
  rintro e w4 ⟨rfl, f4⟩
  have hB4 := hB3.keep f4 (fun h => h)
  have g4 := g3.trans f4
  clear d0 d1 cc0 cc1 cc2 cc3 hB3 f4
  have cd0 := hB4.cell 0 rfl
  have cd1 := hB4.cell 1 rfl
  have cd2 := hB4.cell 2 rfl
  have cd3 := hB4.cell 3 rfl
  go_wp2_with fail
  rw [K1.out, K2.out]
  refine (Z1.out _ (hv.keep g4)).mono ?_
  rintro e w5 ⟨rfl, f5⟩
  have hB5 := hB4.keep f5 (fun h => h)
  have g5 := g4.trans f5
  clear cd0 cd1 cd2 cd3 hB4 f5
  have ce0 := hB5.cell 0 rfl
  have ce1 := hB5.cell 1 rfl
  have ce2 := hB5.cell 2 rfl
  have ce3 := hB5.cell 3 rfl
  go_wp2_with fail
  refine (works_any _ (hv.keep g5)).mono ?_
  rintro e wh ⟨rfl, fh⟩
  go_wp2_with fail
  go_ret
  exact ⟨rfl, g5.trans fh⟩
set_option maxRecDepth 100000 in
set_option maxHeartbeats 4000000 in
theorem apart_ne2 (a b : List UInt8) (r n q m : Nat) (w : World) (hv : Vars w) (hl : a.length ≤ 300) (hl2 : b.length ≤ 300) (ha : okd a r n) (hb : okd b q m) (hne : a = b) (hne2 : r ≠ q) :
    Calls Tryd.prog 7 #[.string (bs a), .string (bs b), .agg #[.int .u8 r, .int .u32 n, .int .u8 q, .int .u32 m]] w fun e w' => e = .returned (.bool true) ∧ Fr w w' := by
  have l1 : ((bs a).size : Int) ≤ 300 := by rw [bs_size]; omega
  have l2 : ((bs b).size : Int) ≤ 300 := by rw [bs_size]; omega
  have C1 := Lib.hid (fun w (hv : Vars w) => by have := conflict_yes a r n w hv ha; unfold ConfTo at this; dsimp only at this; exact this)
  have C2 := Lib.hid (fun w (hv : Vars w) => by have := conflict_yes b q m w hv hb; unfold ConfTo at this; dsimp only at this; exact this)
  have p4 : ((bs (conf a r n)).toList == (bs (conf b q m)).toList) = false := by rw [str_eq]; exact decide_eq_false fun e => hne2 (conf_inj ha hb e).2.1
  have p5 : ((bs a).toList == (bs b).toList) = true := by rw [str_eq]; exact decide_eq_true hne
  have p6 : ((r : Int) == (q : Int)) = false := by rw [beq_eq_false_iff_ne]; omega
  have hle := conf_len ha
  have S1 := Lib.hid (fun w (hv : Vars w) => by have := split_any (conf a r n) w hv (by omega); unfold SplitTo splitV at this; simp only [splitO_conf ha, dotV] at this; exact this)
  have hnm : decide (chk (conf a r n) = 0) = false := decide_eq_false (conf_not a r n)
  have N1 := Lib.hid (fun w => by have := name_any (conf a r n) w; rw [hnm] at this; exact this)
  have Z1 := Lib.hid (fun w (hv : Vars w) => seen_some ([47, 120, 47] ++ conf a r n) ([120, 124] ++ a) [[120], a] r n w hv (seen_x ha) ha.2.2.1 (by simp) (join_x a) (by simp; omega))
  have k1 : (⟨#[47, 120, 47]⟩ : ByteArray) ++ bs (conf a r n) = bs ([47, 120, 47] ++ conf a r n) := by
    have e1 : (⟨#[47, 120, 47]⟩ : ByteArray) = bs [47, 120, 47] := rfl
    rw [e1, bs_append]
  have k2 : (⟨#[120, 124]⟩ : ByteArray) ++ bs a = bs ([120, 124] ++ a) := by
    have e1 : (⟨#[120, 124]⟩ : ByteArray) = bs [120, 124] := rfl
    rw [e1, bs_append]
  have ls : (⟨#[47, 120, 47]⟩ : ByteArray).size = 3 := rfl
  have lt : (⟨#[120, 124]⟩ : ByteArray).size = 2 := rfl
  have lc : (bs (conf a r n)).size ≤ 16 := hle
  have z1 : ¬ 9223372036854775807 < 3 + (bs (conf a r n)).size := by omega
  have z2 : ¬ 9223372036854775807 < 2 + (bs a).size := by rw [bs_size]; omega
  have p1 : ((bs a).toList == (bs a).toList) = true := beq_self_eq_true _
  have p2 : ((r : Int) == (r : Int)) = true := beq_self_eq_true _
  have p3 : ((n : Int) == (n : Int)) = true := beq_self_eq_true _
  have K1 := Lib.hid k1
  have K2 := Lib.hid k2
  clear k1 k2 hnm hle hl hl2
  clear ha hb hne hne2
  go_enter Tryd.func7, Tryd.ntmps7
  have hB := Blk.alloc w 57 #[.int .u8 r, .int .u32 n, .int .u8 q, .int .u32 m]
  have f0 : Fr w (w.alloc (.cells #[.int .u8 r, .int .u32 n, .int .u8 q, .int .u32 m] 57)) := (Frm.refl _ w).alloc _
  go_wp2_with fail
  have ca0 := hB.cell 0 rfl
  have ca1 := hB.cell 1 rfl
  have ca2 := hB.cell 2 rfl
  have ca3 := hB.cell 3 rfl
  go_wp2_with fail
  refine (C1.out _ (hv.keep f0)).mono ?_
  rintro e w1 ⟨rfl, f1⟩
  have g1 := f0.trans f1
  have hB1 := hB.keep f1 (fun h => h)
  clear f0 f1 hB ca0 ca1 ca2 ca3
  have cb0 := hB1.cell 0 rfl
  have cb1 := hB1.cell 1 rfl
  have cb2 := hB1.cell 2 rfl
  have cb3 := hB1.cell 3 rfl
  go_wp2_with fail
  refine (C2.out _ (hv.keep g1)).mono ?_
  rintro e w2 ⟨rfl, f2⟩
  have g2 := g1.trans f2
  have hB2 := hB1.keep f2 (fun h => h)
  clear hB1 cb0 cb1 cb2 cb3 f2 C1 C2
  go_wp2_with fail
  refine (S1.out _ (hv.keep g2)).mono ?_
  rintro e w3 ⟨rfl, f3⟩
  have hB3 := (hB2.keep f3 (fun h => h)).old (.cells #[.int .u8 r, .int .u32 n] 31)
  have hD3 := Blk.alloc w3 31 #[.int .u8 r, .int .u32 n]
  have g3 := (g2.trans f3).alloc (.cells #[.int .u8 r, .int .u32 n] 31)
  have d0 := hD3.cell 0 rfl
  have d1 := hD3.cell 1 rfl
  have cc0 := hB3.cell 0 rfl
  have cc1 := hB3.cell 1 rfl
  have cc2 := hB3.cell 2 rfl
  have cc3 := hB3.cell 3 rfl
  clear f3 hB2 hD3 S1
  go_wp2_with fail
  refine (N1.out _).mono ?_
  rintro e w4 ⟨rfl, f4⟩
  have hB4 := hB3.keep f4 (fun h => h)
  have g4 := g3.trans f4
  clear d0 d1 cc0 cc1 cc2 cc3 hB3 f4
  have cd0 := hB4.cell 0 rfl
  have cd1 := hB4.cell 1 rfl
  have cd2 := hB4.cell 2 rfl
  have cd3 := hB4.cell 3 rfl
  go_wp2_with fail
  rw [K1.out, K2.out]
  refine (Z1.out _ (hv.keep g4)).mono ?_
  rintro e w5 ⟨rfl, f5⟩
  have hB5 := hB4.keep f5 (fun h => h)
  have g5 := g4.trans f5
  clear cd0 cd1 cd2 cd3 hB4 f5
  have ce0 := hB5.cell 0 rfl
  have ce1 := hB5.cell 1 rfl
  have ce2 := hB5.cell 2 rfl
  have ce3 := hB5.cell 3 rfl
  go_wp2_with fail
  refine (works_any _ (hv.keep g5)).mono ?_
  rintro e wh ⟨rfl, fh⟩
  go_wp2_with fail
  go_ret
  exact ⟨rfl, g5.trans fh⟩
set_option maxRecDepth 100000 in
set_option maxHeartbeats 4000000 in
theorem apart_ne3 (a b : List UInt8) (r n q m : Nat) (w : World) (hv : Vars w) (hl : a.length ≤ 300) (hl2 : b.length ≤ 300) (ha : okd a r n) (hb : okd b q m) (hne : a = b) (hne2 : r = q) (hne3 : n ≠ m) :
    Calls Tryd.prog 7 #[.string (bs a), .string (bs b), .agg #[.int .u8 r, .int .u32 n, .int .u8 q, .int .u32 m]] w fun e w' => e = .returned (.bool true) ∧ Fr w w' := by
  have l1 : ((bs a).size : Int) ≤ 300 := by rw [bs_size]; omega
  have l2 : ((bs b).size : Int) ≤ 300 := by rw [bs_size]; omega
  have C1 := Lib.hid (fun w (hv : Vars w) => by have := conflict_yes a r n w hv ha; unfold ConfTo at this; dsimp only at this; exact this)
  have C2 := Lib.hid (fun w (hv : Vars w) => by have := conflict_yes b q m w hv hb; unfold ConfTo at this; dsimp only at this; exact this)
  have p4 : ((bs (conf a r n)).toList == (bs (conf b q m)).toList) = false := by rw [str_eq]; exact decide_eq_false fun e => hne3 (conf_inj ha hb e).2.2
  have p5 : ((bs a).toList == (bs b).toList) = true := by rw [str_eq]; exact decide_eq_true hne
  have p6 : ((r : Int) == (q : Int)) = true := by rw [beq_iff_eq]; omega
  have p7 : ((n : Int) == (m : Int)) = false := by rw [beq_eq_false_iff_ne]; omega
  have hle := conf_len ha
  have S1 := Lib.hid (fun w (hv : Vars w) => by have := split_any (conf a r n) w hv (by omega); unfold SplitTo splitV at this; simp only [splitO_conf ha, dotV] at this; exact this)
  have hnm : decide (chk (conf a r n) = 0) = false := decide_eq_false (conf_not a r n)
  have N1 := Lib.hid (fun w => by have := name_any (conf a r n) w; rw [hnm] at this; exact this)
  have Z1 := Lib.hid (fun w (hv : Vars w) => seen_some ([47, 120, 47] ++ conf a r n) ([120, 124] ++ a) [[120], a] r n w hv (seen_x ha) ha.2.2.1 (by simp) (join_x a) (by simp; omega))
  have k1 : (⟨#[47, 120, 47]⟩ : ByteArray) ++ bs (conf a r n) = bs ([47, 120, 47] ++ conf a r n) := by
    have e1 : (⟨#[47, 120, 47]⟩ : ByteArray) = bs [47, 120, 47] := rfl
    rw [e1, bs_append]
  have k2 : (⟨#[120, 124]⟩ : ByteArray) ++ bs a = bs ([120, 124] ++ a) := by
    have e1 : (⟨#[120, 124]⟩ : ByteArray) = bs [120, 124] := rfl
    rw [e1, bs_append]
  have ls : (⟨#[47, 120, 47]⟩ : ByteArray).size = 3 := rfl
  have lt : (⟨#[120, 124]⟩ : ByteArray).size = 2 := rfl
  have lc : (bs (conf a r n)).size ≤ 16 := hle
  have z1 : ¬ 9223372036854775807 < 3 + (bs (conf a r n)).size := by omega
  have z2 : ¬ 9223372036854775807 < 2 + (bs a).size := by rw [bs_size]; omega
  have p1 : ((bs a).toList == (bs a).toList) = true := beq_self_eq_true _
  have p2 : ((r : Int) == (r : Int)) = true := beq_self_eq_true _
  have p3 : ((n : Int) == (n : Int)) = true := beq_self_eq_true _
  have K1 := Lib.hid k1
  have K2 := Lib.hid k2
  clear k1 k2 hnm hle hl hl2
  clear ha hb hne hne2 hne3
  go_enter Tryd.func7, Tryd.ntmps7
  have hB := Blk.alloc w 57 #[.int .u8 r, .int .u32 n, .int .u8 q, .int .u32 m]
  have f0 : Fr w (w.alloc (.cells #[.int .u8 r, .int .u32 n, .int .u8 q, .int .u32 m] 57)) := (Frm.refl _ w).alloc _
  go_wp2_with fail
  have ca0 := hB.cell 0 rfl
  have ca1 := hB.cell 1 rfl
  have ca2 := hB.cell 2 rfl
  have ca3 := hB.cell 3 rfl
  go_wp2_with fail
  refine (C1.out _ (hv.keep f0)).mono ?_
  rintro e w1 ⟨rfl, f1⟩
  have g1 := f0.trans f1
  have hB1 := hB.keep f1 (fun h => h)
  clear f0 f1 hB ca0 ca1 ca2 ca3
  have cb0 := hB1.cell 0 rfl
  have cb1 := hB1.cell 1 rfl
  have cb2 := hB1.cell 2 rfl
  have cb3 := hB1.cell 3 rfl
  go_wp2_with fail
  refine (C2.out _ (hv.keep g1)).mono ?_
  rintro e w2 ⟨rfl, f2⟩
  have g2 := g1.trans f2
  have hB2 := hB1.keep f2 (fun h => h)
  clear hB1 cb0 cb1 cb2 cb3 f2 C1 C2
  go_wp2_with fail
  refine (S1.out _ (hv.keep g2)).mono ?_
  rintro e w3 ⟨rfl, f3⟩
  have hB3 := (hB2.keep f3 (fun h => h)).old (.cells #[.int .u8 r, .int .u32 n] 31)
  have hD3 := Blk.alloc w3 31 #[.int .u8 r, .int .u32 n]
  have g3 := (g2.trans f3).alloc (.cells #[.int .u8 r, .int .u32 n] 31)
  have d0 := hD3.cell 0 rfl
  have d1 := hD3.cell 1 rfl
  have cc0 := hB3.cell 0 rfl
  have cc1 := hB3.cell 1 rfl
  have cc2 := hB3.cell 2 rfl
  have cc3 := hB3.cell 3 rfl
  clear f3 hB2 hD3 S1
  go_wp2_with fail
  refine (N1.out _).mono ?_
  rintro e w4 ⟨rfl, f4⟩
  have hB4 := hB3.keep f4 (fun h => h)
  have g4 := g3.trans f4
  clear d0 d1 cc0 cc1 cc2 cc3 hB3 f4
  have cd0 := hB4.cell 0 rfl
  have cd1 := hB4.cell 1 rfl
  have cd2 := hB4.cell 2 rfl
  have cd3 := hB4.cell 3 rfl
  go_wp2_with fail
  rw [K1.out, K2.out]
  refine (Z1.out _ (hv.keep g4)).mono ?_
  rintro e w5 ⟨rfl, f5⟩
  have hB5 := hB4.keep f5 (fun h => h)
  have g5 := g4.trans f5
  clear cd0 cd1 cd2 cd3 hB4 f5
  have ce0 := hB5.cell 0 rfl
  have ce1 := hB5.cell 1 rfl
  have ce2 := hB5.cell 2 rfl
  have ce3 := hB5.cell 3 rfl
  go_wp2_with fail
  refine (works_any _ (hv.keep g5)).mono ?_
  rintro e wh ⟨rfl, fh⟩
  go_wp2_with fail
  go_ret
  exact ⟨rfl, g5.trans fh⟩
theorem pathApart_any (a b : List UInt8) (r n q m : Nat) (w : World) (hv : Vars w) :
    Calls Tryd.prog 7 #[.string (bs a), .string (bs b), .agg #[.int .u8 r, .int .u32 n, .int .u8 q, .int .u32 m]] w fun e w' => e = .returned (.bool true) ∧ Fr w w' := by
  by_cases h1 : a.length ≤ 300
  · by_cases h2 : b.length ≤ 300
    · by_cases ha : okd a r n
      · by_cases hb : okd b q m
        · by_cases e1 : a = b
          · by_cases e2 : r = q
            · by_cases e3 : n = m
              · subst e1 e2 e3
                exact apart_same a r n w hv h1 ha
              · exact apart_ne3 a b r n q m w hv h1 h2 ha hb e1 e2 e3
            · exact apart_ne2 a b r n q m w hv h1 h2 ha hb e1 e2
          · exact apart_ne1 a b r n q m w hv h1 h2 ha hb e1
        · exact apart_yn a b r n q m w hv h1 h2 ha hb
      · exact apart_no a b r n q m w hv h1 h2 ha
    · exact apart_long2 a b r n q m w hv h1 (by omega)
  · exact apart_long1 a b r n q m w hv (by omega)
end Go.Proofs.YtffhakomnkicoaaDoor
