/- Some of the chapter's answers. No condition. -/
import Derived.Test.YtpabblkdepefcaaQF
namespace Go.Proofs.Ytpabblkdepefcaa
open Go.RowKit Go.Shelf
set_option maxRecDepth 100000 in
set_option maxHeartbeats 2000000 in
theorem given_any (w : World) : Calls Try.prog 20 #[] w fun e w' => ∃ v, e = .returned v ∧ QL w' v givenQ ∧ Frm (fun _ => False) w w' := by
  have HI := Lib.hid item_any
  go_enter Try.func20, Try.ntmps20
  go_wp2_with fail
  refine (HI.out _ _ _ _ _).mono ?_
  rintro e w1 ⟨rfl, g1⟩
  go_wp2_with fail
  refine (HI.out _ _ _ _ _).mono ?_
  rintro e w2 ⟨rfl, g2⟩
  go_wp2_with fail
  refine (HI.out _ _ _ _ _).mono ?_
  rintro e w3 ⟨rfl, g3⟩
  go_wp2_with fail
  refine (HI.out _ _ _ _ _).mono ?_
  rintro e w4 ⟨rfl, g4⟩
  have G := Lib.hid (((g1.trans g2).trans g3).trans g4)
  clear g1 g2 g3 g4
  go_wp2_with fail
  go_ret
  refine ⟨_, rfl, QL.lit w4 36 givenQ _ 4 rfl (by omega) (by omega) given_flat.symm, G.out.alloc _⟩
theorem goes_true (v wv : Value) (l : List QI) (most : Int) (ok : Bool) (want : List Nat) (w : World) (hp : pruneQ l most = (want, ok)) (h : QL w v l) (hw : Ids w wv want) (h40 : l.length < 40) (hm : -9223372036854775808 ≤ most ∧ most ≤ 9223372036854775807) :
    Calls Try.prog 18 #[v, .int .i64 most, .bool ok, wv] w fun e w' => e = .returned (.bool true) ∧ Frm (fun _ => False) w w' :=
  (goes_any v wv l most ok want w h hw h40 hm).mono fun e w' ⟨h1, h2⟩ => ⟨by rw [h1, decide_eq_true hp], h2⟩
set_option maxRecDepth 100000 in
set_option maxHeartbeats 4000000 in
theorem works_any (w : World) : Calls Try.prog 8 #[] w fun e w' => e = .returned (.bool true) ∧ Frm (fun _ => False) w w' := by
  have HG := Lib.hid given_any
  have HT := Lib.hid goes_true
  go_enter Try.func8, Try.ntmps8
  go_wp2_with fail
  refine (HG.out _).mono ?_
  rintro e w1 ⟨v1, rfl, q1, g1⟩
  have F0 := Lib.hid g1
  have Q1 := Lib.hid q1
  clear g1 q1
  go_wp2_with fail
  refine (HT.out _ _ _ _ _ _ _ given_20 Q1.out (Ids.nilQ _) (by decide) (by decide)).mono ?_
  rintro e w2 ⟨rfl, g2⟩
  have F1 := Lib.hid (F0.out.trans g2)
  clear g2 F0 Q1
  go_wp2_with fail
  refine (HG.out _).mono ?_
  rintro e w3 ⟨v3, rfl, q3, g3⟩
  have F2 := Lib.hid (F1.out.trans g3)
  have Q3 := Lib.hid (And.intro (q3.keepF ((Frm.refl _ w3).alloc (.cells #[.int .u32 1] 34))) (us_lit w3 [1] 1 rfl (by omega) #[.int .u32 1] rfl))
  have G3 := Lib.hid ((Frm.refl (fun _ => False) w3).alloc (.cells #[.int .u32 1] 34))
  clear g3 q3 F1
  go_wp2_with fail
  refine (HT.out _ _ _ _ _ _ _ given_19 Q3.out.1 Q3.out.2 (by decide) (by decide)).mono ?_
  rintro e w4 ⟨rfl, g4⟩
  have F3 := Lib.hid ((F2.out.trans G3.out).trans g4)
  clear g4 F2 Q3 G3
  go_wp2_with fail
  refine (HG.out _).mono ?_
  rintro e w5 ⟨v5, rfl, q5, g5⟩
  have F4 := Lib.hid (F3.out.trans g5)
  have Q5 := Lib.hid (And.intro (q5.keepF ((Frm.refl _ w5).alloc (.cells #[.int .u32 1, .int .u32 3] 34))) (us_lit w5 [1, 3] 2 rfl (by omega) #[.int .u32 1, .int .u32 3] rfl))
  have G5 := Lib.hid ((Frm.refl (fun _ => False) w5).alloc (.cells #[.int .u32 1, .int .u32 3] 34))
  clear g5 q5 F3
  go_wp2_with fail
  refine (HT.out _ _ _ _ _ _ _ given_10 Q5.out.1 Q5.out.2 (by decide) (by decide)).mono ?_
  rintro e w6 ⟨rfl, g6⟩
  have F5 := Lib.hid ((F4.out.trans G5.out).trans g6)
  clear g6 F4 Q5 G5
  go_wp2_with fail
  refine (HG.out _).mono ?_
  rintro e w7 ⟨v7, rfl, q7, g7⟩
  have F6 := Lib.hid (F5.out.trans g7)
  have Q7 := Lib.hid q7
  clear g7 q7 F5
  go_wp2_with fail
  refine (HT.out _ _ _ _ _ _ _ given_9 Q7.out (Ids.nilQ _) (by decide) (by decide)).mono ?_
  rintro e w8 ⟨rfl, g8⟩
  have F7 := Lib.hid (F6.out.trans g8)
  clear g8 F6 Q7
  go_wp2_with fail
  go_ret
  exact ⟨rfl, F7.out⟩
end Go.Proofs.Ytpabblkdepefcaa
