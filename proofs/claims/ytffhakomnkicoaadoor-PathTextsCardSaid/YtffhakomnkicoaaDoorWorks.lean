/- What the helpers of the statements on paths answer where all is as it should be. Conditions: the tables and errors of strconv lie as the program's text lays them (Vars). -/
import Derived.Test.YtffhakomnkicoaaDoorSeen
import Derived.Test.YtffhakomnkicoaaDoorText
import Derived.Test.YtffhakomnkicoaaDoorMove
namespace Go.Proofs.YtffhakomnkicoaaDoor
open Go.RowKit

set_option maxRecDepth 100000 in
set_option maxHeartbeats 1000000 in
theorem means_yes (p want : List UInt8) (l : List (List UInt8)) (w : World) (hl : p.length ≤ 1000) (h : parse p = (l, 0)) (hn : l.length ≤ 1000) (hw : Lib.join l [124] = want) (hb : want.length ≤ 1000) :
    Calls Tryd.prog 33 #[.string (bs p), .string (bs want)] w fun e w' => e = .returned (.bool true) ∧ Fr w w' := by
  have hp := parse_any p w hl
  rw [h] at hp
  have Hp := Lib.hid hp
  have HJ := Lib.hid (fun v w1 (o : OwnS w1 v l) => by have := join_any v l 124 w1 o.reads (by omega) (by rw [hw]; omega); rw [hw] at this; exact this)
  have q1 : ((bs want).toList == (bs want).toList) = true := beq_self_eq_true _
  clear hp h hw
  go_enter Tryd.func33, Tryd.ntmps33
  go_wp2_with fail
  refine Hp.out.mono ?_
  rintro e w1 ⟨v, rfl, o1, f1, _⟩
  have hj := HJ.out v w1 o1
  obtain ⟨a, cap, rfl, _, _⟩ := Row.slice o1
  have Hj := Lib.hid hj
  clear hj HJ
  go_wp2_with fail
  refine Hj.out.mono ?_
  rintro e w2 ⟨rfl, f2⟩
  go_wp2_with fail
  go_ret
  exact ⟨rfl, f1.trans f2⟩
set_option maxRecDepth 100000 in
set_option maxHeartbeats 1000000 in
theorem fails_yes (p : List UInt8) (n : Nat) (w : World) (hl : p.length ≤ 1000) (h : parse p = ([], n)) :
    Calls Tryd.prog 34 #[.string (bs p), .int .i64 n] w fun e w' => e = .returned (.bool true) ∧ Fr w w' := by
  have hp := parse_any p w hl
  rw [h] at hp
  have Hp := Lib.hid hp
  have q1 : ((n : Int) == (n : Int)) = true := beq_self_eq_true _
  clear hp h
  go_enter Tryd.func34, Tryd.ntmps34
  go_wp2_with fail
  refine Hp.out.mono ?_
  rintro e w1 ⟨v, rfl, o1, f1, _⟩
  obtain ⟨a, cap, rfl, _, _⟩ := Row.slice o1
  go_wp2_with fail
  go_ret
  exact ⟨rfl, f1⟩
set_option maxRecDepth 100000 in
set_option maxHeartbeats 2000000 in
theorem seen_some (p want : List UInt8) (l : List (List UInt8)) (r n : Nat) (w : World) (hv : Vars w) (h : seen p = (l, some (r, n), 0)) (hn1 : 1 ≤ n) (hn : l.length ≤ 1000) (hw : Lib.join l [124] = want) (hb : want.length ≤ 1000) :
    Calls Tryd.prog 32 #[.string (bs p), .string (bs want), .agg #[.int .u8 r, .int .u32 n]] w fun e w' => e = .returned (.bool true) ∧ Fr w w' := by
  have HP := Lib.hid (fun w (hv : Vars w) => by have := seen_any p w hv; rw [h] at this; exact this)
  have HJ := Lib.hid (fun v w1 (o : OwnS w1 v l) => by have := join_any v l 124 w1 o.reads (by omega) (by rw [hw]; omega); rw [hw] at this; exact this)
  have q1 : ((bs want).toList == (bs want).toList) = true := beq_self_eq_true _
  have q2 : ((r : Int) == (r : Int)) = true := beq_self_eq_true _
  have q3 : ((n : Int) == (n : Int)) = true := beq_self_eq_true _
  have q4 : ((n : Int) == 0) = false := by simp; omega
  clear h hw
  go_enter Tryd.func32, Tryd.ntmps32
  have f0 : Fr w (w.alloc (.cells #[.int .u8 r, .int .u32 n] 31)) := (Frm.refl _ w).alloc _
  have hB0 := Blk.alloc w 31 #[.int .u8 r, .int .u32 n]
  go_wp2_with fail
  refine (HP.out _ (hv.keep f0)).mono ?_
  rintro e w1 ⟨v, rfl, o1, f1, _⟩
  simp only [dotO, dotV] at o1 ⊢
  have hB1 := hB0.keep f1 (fun h => h)
  have g1 := f0.trans f1
  clear hB0 f0 f1
  go_wp2_with fail
  have hB2 := Blk.alloc w1 31 #[.int .u8 r, .int .u32 n]
  have hB3 := hB1.old (.cells #[.int .u8 r, .int .u32 n] 31)
  have g2 := g1.alloc (.cells #[.int .u8 r, .int .u32 n] 31)
  have o2 : OwnS (w1.alloc (.cells #[.int .u8 r, .int .u32 n] 31)) v l := Row.alloc o1 _
  refine (HJ.out v _ o2).mono ?_
  rintro e w2 ⟨rfl, f2⟩
  have hC2 := hB2.keep f2 (fun h => h)
  have hC3 := hB3.keep f2 (fun h => h)
  have g3 := g2.trans f2
  have c0 := hC2.cell 0 rfl
  have c1 := hC2.cell 1 rfl
  have c2 := hC3.cell 0 rfl
  have c3 := hC3.cell 1 rfl
  clear hB1 hB2 hB3 hC2 hC3 o1 o2 f2 g1 g2 HJ HP
  go_wp2_with fail
  go_ret
  exact ⟨rfl, g3⟩
set_option maxRecDepth 100000 in
set_option maxHeartbeats 2000000 in
theorem seen_none (p want : List UInt8) (l : List (List UInt8)) (w : World) (hv : Vars w) (h : seen p = (l, none, 0)) (hn : l.length ≤ 1000) (hw : Lib.join l [124] = want) (hb : want.length ≤ 1000) :
    Calls Tryd.prog 32 #[.string (bs p), .string (bs want), .agg #[.int .u8 0, .int .u32 0]] w fun e w' => e = .returned (.bool true) ∧ Fr w w' := by
  have HP := Lib.hid (fun w (hv : Vars w) => by have := seen_any p w hv; rw [h] at this; exact this)
  have HJ := Lib.hid (fun v w1 (o : OwnS w1 v l) => by have := join_any v l 124 w1 o.reads (by omega) (by rw [hw]; omega); rw [hw] at this; exact this)
  have q1 : ((bs want).toList == (bs want).toList) = true := beq_self_eq_true _
  clear h hw
  go_enter Tryd.func32, Tryd.ntmps32
  have f0 : Fr w (w.alloc (.cells #[.int .u8 0, .int .u32 0] 31)) := (Frm.refl _ w).alloc _
  have hB0 := Blk.alloc w 31 #[.int .u8 0, .int .u32 0]
  go_wp2_with fail
  refine (HP.out _ (hv.keep f0)).mono ?_
  rintro e w1 ⟨v, rfl, o1, f1, _⟩
  simp only [dotO, dotV] at o1 ⊢
  have hB1 := hB0.keep f1 (fun h => h)
  have g1 := f0.trans f1
  clear hB0 f0 f1
  go_wp2_with fail
  have hB2 := Blk.alloc w1 31 #[.int .u8 0, .int .u32 0]
  have hB3 := hB1.old (.cells #[.int .u8 0, .int .u32 0] 31)
  have g2 := g1.alloc (.cells #[.int .u8 0, .int .u32 0] 31)
  have o2 : OwnS (w1.alloc (.cells #[.int .u8 0, .int .u32 0] 31)) v l := Row.alloc o1 _
  refine (HJ.out v _ o2).mono ?_
  rintro e w2 ⟨rfl, f2⟩
  have hC2 := hB2.keep f2 (fun h => h)
  have hC3 := hB3.keep f2 (fun h => h)
  have g3 := g2.trans f2
  have c0 := hC2.cell 0 rfl
  have c1 := hC2.cell 1 rfl
  have c2 := hC3.cell 0 rfl
  have c3 := hC3.cell 1 rfl
  clear hB1 hB2 hB3 hC2 hC3 o1 o2 f2 g1 g2 HJ HP
  go_wp2_with fail
  go_ret
  exact ⟨rfl, g3⟩
set_option maxRecDepth 100000 in
set_option maxHeartbeats 2000000 in
theorem unseen_yes (p : List UInt8) (n : Nat) (w : World) (hv : Vars w) (h : seen p = ([], none, n)) :
    Calls Tryd.prog 38 #[.string (bs p), .int .i64 n] w fun e w' => e = .returned (.bool true) ∧ Fr w w' := by
  have HP := Lib.hid (fun w (hv : Vars w) => by have := seen_any p w hv; rw [h] at this; exact this)
  have q1 : ((n : Int) == (n : Int)) = true := beq_self_eq_true _
  clear h
  go_enter Tryd.func38, Tryd.ntmps38
  go_wp2_with fail
  refine (HP.out _ hv).mono ?_
  rintro e w1 ⟨v, rfl, o1, f1, _⟩
  simp only [dotO, dotV] at o1 ⊢
  obtain ⟨a, cap, rfl, _, _⟩ := Row.slice o1
  have hB2 := Blk.alloc w1 31 #[.int .u8 0, .int .u32 0]
  have g2 := f1.alloc (.cells #[.int .u8 0, .int .u32 0] 31)
  have c0 := hB2.cell 0 rfl
  have c1 := hB2.cell 1 rfl
  clear o1 f1 HP hB2
  go_wp2_with fail
  go_ret
  exact ⟨rfl, g2⟩
set_option maxRecDepth 100000 in
set_option maxHeartbeats 2000000 in
theorem plain_yes (s : List UInt8) (w : World) (hv : Vars w) (hl : s.length ≤ 1000) (h : splitO s = none) :
    Calls Tryd.prog 36 #[.string (bs s)] w fun e w' => e = .returned (.bool true) ∧ Fr w w' := by
  have HP := Lib.hid (fun w (hv : Vars w) => by have := split_any s w hv hl; unfold SplitTo splitV at this; simp only [h, dotV] at this; exact this)
  have q1 : ((bs s).toList == (bs s).toList) = true := beq_self_eq_true _
  clear h
  go_enter Tryd.func36, Tryd.ntmps36
  go_wp2_with fail
  refine (HP.out _ hv).mono ?_
  rintro e w1 ⟨rfl, f1⟩
  have hB2 := Blk.alloc w1 31 #[.int .u8 0, .int .u32 0]
  have g2 := f1.alloc (.cells #[.int .u8 0, .int .u32 0] 31)
  have c0 := hB2.cell 0 rfl
  have c1 := hB2.cell 1 rfl
  clear f1 HP hB2
  go_wp2_with fail
  go_ret
  exact ⟨rfl, g2⟩
set_option maxRecDepth 100000 in
set_option maxHeartbeats 2000000 in
theorem conf_yes (a want : List UInt8) (r n : Nat) (w : World) (hv : Vars w) (hl : want.length ≤ 1000) (h : okd a r n) (hw : conf a r n = want) :
    Calls Tryd.prog 37 #[.string (bs a), .agg #[.int .u8 r, .int .u32 n], .string (bs want)] w fun e w' => e = .returned (.bool true) ∧ Fr w w' := by
  have hs : splitO want = some (a, r, n) := splitO_iff.2 ⟨h, hw⟩
  have HS := Lib.hid (fun w (hv : Vars w) => by have := split_any want w hv hl; unfold SplitTo splitV at this; simp only [hs, dotV] at this; exact this)
  have HC := Lib.hid (fun w (hv : Vars w) => by have := conflict_yes a r n w hv h; unfold ConfTo at this; rw [hw] at this; exact this)
  have q1 : ((bs want).toList == (bs want).toList) = true := beq_self_eq_true _
  have q2 : ((bs a).toList == (bs a).toList) = true := beq_self_eq_true _
  have q3 : ((r : Int) == (r : Int)) = true := beq_self_eq_true _
  have q4 : ((n : Int) == (n : Int)) = true := beq_self_eq_true _
  clear h hw hs
  go_enter Tryd.func37, Tryd.ntmps37
  have f0 : Fr w (w.alloc (.cells #[.int .u8 r, .int .u32 n] 31)) := (Frm.refl _ w).alloc _
  have hB0 := Blk.alloc w 31 #[.int .u8 r, .int .u32 n]
  go_wp2_with fail
  refine (HC.out _ (hv.keep f0)).mono ?_
  rintro e w1 ⟨rfl, f1⟩
  have hB1 := hB0.keep f1 (fun h => h)
  have g1 := f0.trans f1
  clear hB0 f0 f1
  go_wp2_with fail
  refine (HS.out _ (hv.keep g1)).mono ?_
  rintro e w2 ⟨rfl, f2⟩
  have hB2 := (hB1.keep f2 (fun h => h)).old (.cells #[.int .u8 r, .int .u32 n] 31)
  have hB3 := Blk.alloc w2 31 #[.int .u8 r, .int .u32 n]
  have g2 := (g1.trans f2).alloc (.cells #[.int .u8 r, .int .u32 n] 31)
  have c0 := hB2.cell 0 rfl
  have c1 := hB2.cell 1 rfl
  have c2 := hB3.cell 0 rfl
  have c3 := hB3.cell 1 rfl
  clear hB1 hB2 hB3 f2 g1 HC HS
  go_wp2_with fail
  go_ret
  exact ⟨rfl, g2⟩

theorem digs7 : digs 7 = [55] := by rw [digs_small (by decide)]; rfl
theorem conf_a37 : conf [97] 3 7 = [97, 126, 51, 46, 55] := by unfold conf; rw [digs7]; rfl
theorem okd_a37 : okd [97] 3 7 := ⟨by decide, by decide, by decide, by decide⟩
theorem seen_da : seen [47, 100, 47, 97, 126, 51, 46, 55] = ([[100], [97]], some (3, 7), 0) := by
  have h := seen_conf (l := [[100]]) okd_a37 (by decide) (by decide)
  rw [conf_a37] at h
  exact h
set_option maxRecDepth 100000 in
set_option maxHeartbeats 2000000 in
theorem works_any (w : World) (hv : Vars w) : Calls Tryd.prog 10 #[] w fun e w' => e = .returned (.bool true) ∧ Fr w w' := by
  have H1 := Lib.hid (fun w => means_yes [47] [] [] w (by decide) (by decide) (by decide) rfl (by decide))
  have H2 := Lib.hid (fun w => means_yes [47, 97, 47, 98] [97, 124, 98] [[97], [98]] w (by decide) (by decide) (by decide) rfl (by decide))
  have H3 := Lib.hid (fun w => fails_yes [] 4 w (by decide) (by decide))
  have H4 := Lib.hid (fun w (hv : Vars w) => conf_yes [97] [97, 126, 51, 46, 55] 3 7 w hv (by decide) okd_a37 conf_a37)
  have H5 := Lib.hid (fun w (hv : Vars w) => seen_some [47, 100, 47, 97, 126, 51, 46, 55] [100, 124, 97] [[100], [97]] 3 7 w hv seen_da (by decide) (by decide) rfl (by decide))
  go_enter Tryd.func10, Tryd.ntmps10
  go_wp2_with fail
  refine (H1.out _).mono ?_
  rintro e w1 ⟨rfl, f1⟩
  go_wp2_with fail
  refine (H2.out _).mono ?_
  rintro e w2 ⟨rfl, f2⟩
  go_wp2_with fail
  refine (H3.out _).mono ?_
  rintro e w3 ⟨rfl, f3⟩
  go_wp2_with fail
  have g3 := (f1.trans f2).trans f3
  clear f1 f2 f3
  refine (H4.out _ (hv.keep g3)).mono ?_
  rintro e w4 ⟨rfl, f4⟩
  go_wp2_with fail
  have g4 := g3.trans f4
  refine (H5.out _ (hv.keep g4)).mono ?_
  rintro e w5 ⟨rfl, f5⟩
  go_wp2_with fail
  go_ret
  exact ⟨rfl, g4.trans f5⟩
end Go.Proofs.YtffhakomnkicoaaDoor
