/- QuotaKnown answers true. No condition. -/
import Derived.Test.YtpabblkdepefcaaQG
namespace Go.Proofs.Ytpabblkdepefcaa
open Go.RowKit Go.Shelf
set_option maxRecDepth 100000 in
set_option maxHeartbeats 8000000 in
theorem quotaKnown_any (w : World) : Calls Try.prog 6 #[] w fun e w' => e = .returned (.bool true) ∧ Frm (fun _ => False) w w' := by
  have HI := Lib.hid item_any
  have HT := Lib.hid goes_true
  have HW := Lib.hid works_any
  have HS := Lib.hid sum_any
  have F0 := Lib.hid (Frm.refl (fun _ => False) w)
  go_enter Try.func6, Try.ntmps6
  go_wp2_with fail
  refine (HW.out w).mono ?_
  rintro e w1 ⟨rfl, g⟩
  have F1 := Lib.hid (F0.out.trans g)
  clear g F0
  go_wp2_with fail
  refine (HI.out _ _ _ _ _).mono ?_
  rintro e w2 ⟨rfl, g⟩
  have F2 := Lib.hid (F1.out.trans g)
  clear g F1
  go_wp2_with fail
  refine (HI.out _ _ _ _ _).mono ?_
  rintro e w3 ⟨rfl, g⟩
  have F3 := Lib.hid (F2.out.trans g)
  clear g F2
  have g : Frm (fun _ => False) w3 (w3.alloc (.cells #[.string ⟨#[97]⟩, .int .u32 2, .int .u32 0, .int .i64 5, .string ⟨#[97]⟩, .int .u32 1, .int .u32 0, .int .i64 5] 36)) := (Frm.refl _ _).alloc _
  have QQ := Lib.hid (QL.lit w3 36 [qI 97 2 0 5, qI 97 1 0 5] #[.string ⟨#[97]⟩, .int .u32 2, .int .u32 0, .int .i64 5, .string ⟨#[97]⟩, .int .u32 1, .int .u32 0, .int .i64 5] 2 rfl (by omega) (by omega) rfl)
  have UU := us_lit (w3.alloc (.cells #[.string ⟨#[97]⟩, .int .u32 2, .int .u32 0, .int .i64 5, .string ⟨#[97]⟩, .int .u32 1, .int .u32 0, .int .i64 5] 36)) [1] 1 rfl (by omega) #[.int .u32 1] rfl
  rw [World.size_alloc] at UU
  have UU := Lib.hid UU
  have QU := Lib.hid (QQ.out.keepF ((Frm.refl _ _).alloc (.cells #[.int .u32 1] 34)))
  have GG := Lib.hid (g.alloc (.cells #[.int .u32 1] 34))
  clear g QQ
  go_wp2_with fail
  refine (HT.out _ _ _ _ _ _ _ two_5 QU.out UU.out (by decide) (by decide)).mono ?_
  rintro e w4 ⟨rfl, g⟩
  have F4 := Lib.hid ((F3.out.trans GG.out).trans g)
  clear g F3 GG QU UU
  go_wp2_with fail
  refine (HI.out _ _ _ _ _).mono ?_
  rintro e w5 ⟨rfl, g⟩
  have F5 := Lib.hid (F4.out.trans g)
  clear g F4
  go_wp2_with fail
  refine (HI.out _ _ _ _ _).mono ?_
  rintro e w6 ⟨rfl, g⟩
  have F6 := Lib.hid (F5.out.trans g)
  clear g F5
  have g : Frm (fun _ => False) w6 (w6.alloc (.cells #[.string ⟨#[97]⟩, .int .u32 1, .int .u32 0, .int .i64 5, .string ⟨#[97]⟩, .int .u32 1, .int .u32 0, .int .i64 6] 36)) := (Frm.refl _ _).alloc _
  have QQ := Lib.hid (QL.lit w6 36 [qI 97 1 0 5, qI 97 1 0 6] #[.string ⟨#[97]⟩, .int .u32 1, .int .u32 0, .int .i64 5, .string ⟨#[97]⟩, .int .u32 1, .int .u32 0, .int .i64 6] 2 rfl (by omega) (by omega) rfl)
  have UU := us_lit (w6.alloc (.cells #[.string ⟨#[97]⟩, .int .u32 1, .int .u32 0, .int .i64 5, .string ⟨#[97]⟩, .int .u32 1, .int .u32 0, .int .i64 6] 36)) [1] 1 rfl (by omega) #[.int .u32 1] rfl
  rw [World.size_alloc] at UU
  have UU := Lib.hid UU
  have QU := Lib.hid (QQ.out.keepF ((Frm.refl _ _).alloc (.cells #[.int .u32 1] 34)))
  have GG := Lib.hid (g.alloc (.cells #[.int .u32 1] 34))
  clear g QQ
  go_wp2_with fail
  refine (HT.out _ _ _ _ _ _ _ two_6 QU.out UU.out (by decide) (by decide)).mono ?_
  rintro e w7 ⟨rfl, g⟩
  have F7 := Lib.hid ((F6.out.trans GG.out).trans g)
  clear g F6 GG QU UU
  go_wp2_with fail
  refine (HT.out _ _ _ _ _ _ _ nil_0 (QL.nilQ _) (Ids.nilQ _) (by decide) (by decide)).mono ?_
  rintro e w8 ⟨rfl, g⟩
  have F8 := Lib.hid (F7.out.trans g)
  clear g F7
  go_wp2_with fail
  refine (HT.out _ _ _ _ _ _ _ nil_1 (QL.nilQ _) (Ids.nilQ _) (by decide) (by decide)).mono ?_
  rintro e w9 ⟨rfl, g⟩
  have F9 := Lib.hid (F8.out.trans g)
  clear g F8
  go_wp2_with fail
  refine (HI.out _ _ _ _ _).mono ?_
  rintro e w10 ⟨rfl, g⟩
  have F10 := Lib.hid (F9.out.trans g)
  clear g F9
  have g : Frm (fun _ => False) w10 (w10.alloc (.cells #[.string ⟨#[97]⟩, .int .u32 1, .int .u32 0, .int .i64 (-5)] 36)) := (Frm.refl _ _).alloc _
  have QQ := Lib.hid (QL.lit w10 36 [qI 97 1 0 (-5)] #[.string ⟨#[97]⟩, .int .u32 1, .int .u32 0, .int .i64 (-5)] 1 rfl (by omega) (by omega) rfl)
  have GG := Lib.hid g
  clear g
  go_wp2_with fail
  refine (HT.out _ _ _ _ _ _ _ one_0 QQ.out (Ids.nilQ _) (by decide) (by decide)).mono ?_
  rintro e w11 ⟨rfl, g⟩
  have F11 := Lib.hid ((F10.out.trans GG.out).trans g)
  clear g F10 GG QQ
  go_wp2_with fail
  refine (HI.out _ _ _ _ _).mono ?_
  rintro e w12 ⟨rfl, g⟩
  have F12 := Lib.hid (F11.out.trans g)
  clear g F11
  go_wp2_with fail
  refine (HI.out _ _ _ _ _).mono ?_
  rintro e w13 ⟨rfl, g⟩
  have F13 := Lib.hid (F12.out.trans g)
  clear g F12
  go_wp2_with fail
  refine (HI.out _ _ _ _ _).mono ?_
  rintro e w14 ⟨rfl, g⟩
  have F14 := Lib.hid (F13.out.trans g)
  clear g F13
  have g : Frm (fun _ => False) w14 (w14.alloc (.cells #[.string ⟨#[97]⟩, .int .u32 1, .int .u32 0, .int .i64 (-5), .string ⟨#[97]⟩, .int .u32 2, .int .u32 0, .int .i64 99999, .string ⟨#[97]⟩, .int .u32 3, .int .u32 0, .int .i64 4] 36)) := (Frm.refl _ _).alloc _
  have QQ := Lib.hid (QL.lit w14 36 [qI 97 1 0 (-5), qI 97 2 0 99999, qI 97 3 0 4] #[.string ⟨#[97]⟩, .int .u32 1, .int .u32 0, .int .i64 (-5), .string ⟨#[97]⟩, .int .u32 2, .int .u32 0, .int .i64 99999, .string ⟨#[97]⟩, .int .u32 3, .int .u32 0, .int .i64 4] 3 rfl (by omega) (by omega) rfl)
  have GG := Lib.hid g
  clear g
  have hs : sumQ [qI 97 1 0 (-5), qI 97 2 0 99999, qI 97 3 0 4] = 65540 := by decide
  have HC := Lib.hid (HS.out _ _ _ QQ.out (by decide))
  rw [hs] at HC
  clear hs
  go_wp2_with fail
  refine (HC.out).mono ?_
  rintro e w15 ⟨rfl, g⟩
  have F15 := Lib.hid ((F14.out.trans GG.out).trans g)
  clear g F14 GG QQ HC
  have hs : sumQ [] = 0 := rfl
  have HC := Lib.hid (HS.out _ _ w15 (QL.nilQ _) (by decide))
  rw [hs] at HC
  clear hs
  go_wp2_with fail
  refine (HC.out).mono ?_
  rintro e w16 ⟨rfl, g⟩
  have F16 := Lib.hid (F15.out.trans g)
  clear g F15
  go_wp2_with fail
  go_ret
  exact ⟨rfl, F16.out⟩
end Go.Proofs.Ytpabblkdepefcaa
