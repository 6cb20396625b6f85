/- PathTexts: what the law's call answers. Conditions: the tables and errors of strconv lie as the program's text lays them (Vars). -/
import Derived.Test.YtffhakomnkicoaaDoorFew
import Derived.Test.YtffhakomnkicoaaDoorPrefA
import Derived.Test.YtffhakomnkicoaaDoorPrefF
namespace Go.Proofs.YtffhakomnkicoaaDoor
open Go.RowKit

theorem dotO_agg (o : Option (Nat × Nat)) : ∃ r n : Nat, dotO o = .agg #[.int .u8 r, .int .u32 n] := by
  cases o with
  | none => exact ⟨0, 0, rfl⟩
  | some x => exact ⟨x.1, x.2, rfl⟩
theorem splitV_tuple (s : List UInt8) : ∃ (x : List UInt8) (r n : Nat) (b : Bool), splitV s = .tuple #[.string (bs x), .agg #[.int .u8 r, .int .u32 n], .bool b] := by
  unfold splitV
  cases splitO s with
  | none => exact ⟨s, 0, 0, false, rfl⟩
  | some x => exact ⟨x.1, x.2.1, x.2.2, true, rfl⟩
theorem chk_le (s : List UInt8) : chk s ≤ 4 := by
  unfold chk
  split
  · exact Nat.le_refl _
  · split
    · split <;> omega
    · exact Nat.le_refl _
theorem walk_le : ∀ (l : List (List UInt8)) (i : Nat), walk i l ≤ 4
  | [], _ => Nat.zero_le _
  | s :: l, i => by
    unfold walk
    have h := chk_le s
    have := walk_le l (i + 1)
    split
    · exact h
    · split <;> omega
theorem seenW_le : ∀ (l : List (List UInt8)) (i : Nat), seenW i l ≤ 4
  | [], _ => Nat.zero_le _
  | [s], i => by
    unfold seenW
    have h := chk_le (base s)
    split
    · exact h
    · split
      · omega
      · split <;> omega
  | s :: t :: l, i => by
    unfold seenW
    have h := chk_le s
    have := seenW_le (t :: l) (i + 1)
    split
    · exact h
    · split <;> omega
theorem parse_two (p : List UInt8) : (parse p).2 ≤ 4 := by
  unfold parse
  split
  · show 3 ≤ 4; decide
  · split
    · exact Nat.le_refl _
    · split
      · exact Nat.zero_le _
      · split
        · exact walk_le _ _
        · exact Nat.zero_le _
theorem seen_two (p : List UInt8) : (seen p).2.2 ≤ 4 := by
  unfold seen
  split
  · show 3 ≤ 4; decide
  · split
    · exact Nat.le_refl _
    · split
      · exact Nat.zero_le _
      · split
        · exact seenW_le _ _
        · exact Nat.zero_le _
set_option maxRecDepth 100000 in
set_option maxHeartbeats 1500000 in
theorem texts_few (p : List UInt8) (w : World) (hv : Vars w) (hl : p.length ≤ 300) :
    Calls Tryd.prog 3 #[.string (bs p)] w fun e w' => e = .returned (.bool true) ∧ Fr w w' := by
  have hps : ((bs p).size : Int) ≤ 300 := by rw [bs_size]; omega
  have H1 := Lib.hid (fun w => by have := parse_any p w (by omega); unfold NewSE at this; exact this)
  have H2 := Lib.hid (fun w => by have := rparse_any p w (by omega); unfold RdS at this; exact this)
  have H3 := Lib.hid (fun w (hv : Vars w) => by have := seen_any p w hv; unfold SeenTo at this; exact this)
  have H4 := Lib.hid (fun w => by have := rseen_any p w (by omega); unfold SeenTo at this; exact this)
  have H5 := Lib.hid (fun w (hv : Vars w) => by have := split_any p w hv (by omega); unfold SplitTo at this; exact this)
  have H6 := Lib.hid (fun w => by have := rsplit_any p w (by omega); unfold SplitTo at this; exact this)
  have H7 := Lib.hid (fun w => name_any p w)
  have H8 := Lib.hid (fun w => rcheck_any p w (by omega))
  obtain ⟨x, r2, n2, b2, hx⟩ := splitV_tuple p
  rw [hx] at H5 H6
  have hp2 := parse_two p
  have hs2 := seen_two p
  generalize parse p = P at *
  generalize seen p = S at *
  obtain ⟨P1, P2⟩ := P
  obtain ⟨S1, S2, S3⟩ := S
  dsimp only at H1 H2 H3 H4 hp2 hs2
  obtain ⟨r1, n1, hd⟩ := dotO_agg S2
  rw [hd] at H3 H4
  generalize S2.isSome = b1 at *
  have e1 : IntKind.i64.wrap (P2 : Int) = P2 := IntWalk.i64_in _ (by omega)
  have e2 : IntKind.i64.wrap (S3 : Int) = S3 := IntWalk.i64_in _ (by omega)
  have q1 : ((P2 : Int) == (P2 : Int)) = true := beq_self_eq_true _
  have q2 : ((S3 : Int) == (S3 : Int)) = true := beq_self_eq_true _
  have q3 : ((bs x).toList == (bs x).toList) = true := beq_self_eq_true _
  have q4 : ((r1 : Int) == (r1 : Int)) = true := beq_self_eq_true _
  have q5 : ((n1 : Int) == (n1 : Int)) = true := beq_self_eq_true _
  have q6 : ((r2 : Int) == (r2 : Int)) = true := beq_self_eq_true _
  have q7 : ((n2 : Int) == (n2 : Int)) = true := beq_self_eq_true _
  have q8 : (b1 == b1) = true := beq_self_eq_true _
  have q9 : (b2 == b2) = true := beq_self_eq_true _
  clear hx hd
  generalize bs x = A at *
  go_enter Tryd.func3, Tryd.ntmps3
  have g0 : Fr w w := Frm.refl _ _
  go_wp2_with fail
  refine (H1.out _).mono ?_
  rintro e w1 ⟨v1, rfl, o1, f1, _⟩
  obtain ⟨a1, c1, rfl, _, _⟩ := Row.slice o1
  have g1 := g0.trans f1
  go_wp2_with fail
  refine (H2.out _).mono ?_
  rintro e w2 ⟨v2, rfl, s2, f2⟩
  obtain ⟨a2, c2, rfl, _, _⟩ := s2.slice
  have g2 := g1.trans f2
  have s1 := o1.reads.keepF f2
  clear o1 f1 f2 g1 g0 H1 H2
  go_wp2_with fail
  refine (H3.out _ (hv.keep g2)).mono ?_
  rintro e w3 ⟨v3, rfl, o3, f3, _⟩
  obtain ⟨a3, c3, rfl, _, _⟩ := Row.slice o3
  have g3 := g2.trans f3
  have B3 := Blk.alloc w3 31 #[.int .u8 r1, .int .u32 n1]
  have F2 : Fr w2 (w3.alloc (.cells #[.int .u8 r1, .int .u32 n1] 31)) := f3.alloc _
  have F3 : Fr w3 (w3.alloc (.cells #[.int .u8 r1, .int .u32 n1] 31)) := (Frm.refl _ w3).alloc _
  have g3a := g3.alloc (.cells #[.int .u8 r1, .int .u32 n1] 31)
  clear f3 g3 g2 H3
  go_wp2_with fail
  refine (H4.out _).mono ?_
  rintro e w4 ⟨v4, rfl, o4, f4, _⟩
  obtain ⟨a4, c4, rfl, _, _⟩ := Row.slice o4
  have B3b := (B3.keep f4 (fun h => h)).old (.cells #[.int .u8 r1, .int .u32 n1] 34)
  have B4 := Blk.alloc w4 34 #[.int .u8 r1, .int .u32 n1]
  have F2b := (F2.trans f4).alloc (.cells #[.int .u8 r1, .int .u32 n1] 34)
  have F3b := (F3.trans f4).alloc (.cells #[.int .u8 r1, .int .u32 n1] 34)
  have F4 : Fr w4 (w4.alloc (.cells #[.int .u8 r1, .int .u32 n1] 34)) := (Frm.refl _ w4).alloc _
  have g4 := (g3a.trans f4).alloc (.cells #[.int .u8 r1, .int .u32 n1] 34)
  clear f4 g3a F2 F3 B3 H4
  go_wp2_with fail
  refine (H5.out _ (hv.keep g4)).mono ?_
  rintro e w5 ⟨rfl, f5⟩
  have B3c := (B3b.keep f5 (fun h => h)).old (.cells #[.int .u8 r2, .int .u32 n2] 31)
  have B4c := (B4.keep f5 (fun h => h)).old (.cells #[.int .u8 r2, .int .u32 n2] 31)
  have B5 := Blk.alloc w5 31 #[.int .u8 r2, .int .u32 n2]
  have F2c := (F2b.trans f5).alloc (.cells #[.int .u8 r2, .int .u32 n2] 31)
  have F3c := (F3b.trans f5).alloc (.cells #[.int .u8 r2, .int .u32 n2] 31)
  have F4c := (F4.trans f5).alloc (.cells #[.int .u8 r2, .int .u32 n2] 31)
  have g5 := (g4.trans f5).alloc (.cells #[.int .u8 r2, .int .u32 n2] 31)
  clear f5 g4 F2b F3b F4 B3b B4 H5
  go_wp2_with fail
  refine (H6.out _).mono ?_
  rintro e w6 ⟨rfl, f6⟩
  have B3d := (B3c.keep f6 (fun h => h)).old (.cells #[.int .u8 r2, .int .u32 n2] 34)
  have B4d := (B4c.keep f6 (fun h => h)).old (.cells #[.int .u8 r2, .int .u32 n2] 34)
  have B5d := (B5.keep f6 (fun h => h)).old (.cells #[.int .u8 r2, .int .u32 n2] 34)
  have B6 := Blk.alloc w6 34 #[.int .u8 r2, .int .u32 n2]
  have F2d := (F2c.trans f6).alloc (.cells #[.int .u8 r2, .int .u32 n2] 34)
  have F3d := (F3c.trans f6).alloc (.cells #[.int .u8 r2, .int .u32 n2] 34)
  have F4d := (F4c.trans f6).alloc (.cells #[.int .u8 r2, .int .u32 n2] 34)
  have g6 := (g5.trans f6).alloc (.cells #[.int .u8 r2, .int .u32 n2] 34)
  clear f6 g5 F2c F3c F4c B3c B4c B5 H6
  go_wp2_with fail
  have hs1 := rsame_any _ _ P1 P1 _ (s1.keepF F2d) (s2.keepF F2d)
  rw [decide_eq_true rfl] at hs1
  refine hs1.mono ?_
  clear hs1
  rintro e w7 ⟨rfl, f7⟩
  have B3e := B3d.keep f7 (fun h => h)
  have B4e := B4d.keep f7 (fun h => h)
  have B5e := B5d.keep f7 (fun h => h)
  have B6e := B6.keep f7 (fun h => h)
  have F3e := F3d.trans f7
  have F4e := F4d.trans f7
  have g7 := g6.trans f7
  clear f7 g6 F2d F3d F4d B3d B4d B5d B6 s1 s2
  go_wp2_with fail
  have hs2 := rsame_any _ _ S1 S1 _ (o3.reads.keepF F3e) (o4.reads.keepF F4e)
  rw [decide_eq_true rfl] at hs2
  refine hs2.mono ?_
  clear hs2
  rintro e w8 ⟨rfl, f8⟩
  have C3 := B3e.keep f8 (fun h => h)
  have C4 := B4e.keep f8 (fun h => h)
  have C5 := B5e.keep f8 (fun h => h)
  have C6 := B6e.keep f8 (fun h => h)
  have m0 := C3.cell 0 rfl
  have m1 := C3.cell 1 rfl
  have m2 := C4.cell 0 rfl
  have m3 := C4.cell 1 rfl
  have m4 := C5.cell 0 rfl
  have m5 := C5.cell 1 rfl
  have m6 := C6.cell 0 rfl
  have m7 := C6.cell 1 rfl
  have g8 := g7.trans f8
  clear f8 g7 F3e F4e B3e B4e B5e B6e o3 o4 C3 C4 C5 C6
  obtain ⟨c, hc⟩ : ∃ c, chk p = c := ⟨_, rfl⟩
  rw [hc] at H7 H8
  clear hc
  by_cases h0 : c = 0
  · subst h0
    have ed : decide ((0 : Nat) = 0) = true := rfl
    rw [ed] at H7
    go_wp2_with fail
    refine (H7.out _).mono ?_
    rintro e w9 ⟨rfl, f9⟩
    go_wp2_with fail
    refine (H8.out _).mono ?_
    rintro e wa ⟨rfl, fa⟩
    have ga := (g8.trans f9).trans fa
    go_wp2_with fail
    refine (works_any _ (hv.keep ga)).mono ?_
    rintro e wb ⟨rfl, fb⟩
    go_wp2_with fail
    go_ret
    exact ⟨rfl, ga.trans fb⟩
  · have ed : decide (c = 0) = false := decide_eq_false h0
    have q : ((c : Int) == 0) = false := by rw [beq_eq_false_iff_ne]; omega
    rw [ed] at H7
    go_wp2_with fail
    refine (H7.out _).mono ?_
    rintro e w9 ⟨rfl, f9⟩
    go_wp2_with fail
    refine (H8.out _).mono ?_
    rintro e wa ⟨rfl, fa⟩
    have ga := (g8.trans f9).trans fa
    go_wp2_with fail
    refine (works_any _ (hv.keep ga)).mono ?_
    rintro e wb ⟨rfl, fb⟩
    go_wp2_with fail
    go_ret
    exact ⟨rfl, ga.trans fb⟩
set_option maxRecDepth 100000 in
set_option maxHeartbeats 1000000 in
theorem pathTexts_any (p : List UInt8) (w : World) (hv : Vars w) : Calls Tryd.prog 3 #[.string (bs p)] w fun e w' => e = .returned (.bool true) ∧ Fr w w' := by
  by_cases hl : p.length ≤ 300
  · exact texts_few p w hv hl
  · have hps : (300 : Int) < ((bs p).size : Int) := by rw [bs_size]; omega
    go_enter Tryd.func3, Tryd.ntmps3
    go_wp2_with fail
    refine (works_any _ hv).mono ?_
    rintro e wb ⟨rfl, fb⟩
    go_wp2_with fail
    go_ret
    exact ⟨rfl, fb⟩
end Go.Proofs.YtffhakomnkicoaaDoor
