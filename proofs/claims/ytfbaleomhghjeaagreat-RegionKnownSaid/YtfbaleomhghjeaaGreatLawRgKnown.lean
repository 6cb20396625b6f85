/- RegionKnown: the chapter's examples; regions that are none. No condition. -/
import Derived.Test.YtfbaleomhghjeaaGreatRgKn
namespace Go.Proofs.YtfbaleomhghjeaaGreat
open Go.RowKit Go.Shelf

/-- Texts laid anew. -/
theorem rstrs_new (w : World) (l : List (List UInt8)) (hl : l.length ≤ 1000 := by (show _ + 1 ≤ 1000; simp)) : Strs (w.alloc (.cells (strs l).toArray 9)) (.slice (some ⟨w.heap.size, 0, none⟩) l.length l.length) l := by
  refine ⟨by rw [strs_length]; omega, _, l.length, rfl, Nat.le_refl _, by unfold maxLen; omega, .inr ⟨_, 0, rfl, by simp, fun j hj => ?_⟩⟩
  have hj : j < l.length := by omega
  have h := strs_get l j hj
  rw [Nat.zero_add, h]
  exact (Blk.alloc w 9 (strs l).toArray).cell j (by rw [List.getElem?_toArray]; exact h)
theorem repeatL_one13 (c : UInt8) (n : Nat) : Lib.repeatL [c] n = List.replicate n c := by
  induction n with
  | zero => rfl
  | succ n ih => simp [Lib.repeatL, ih, List.replicate_succ]
theorem xs13_any (w : World) : Calls Tryz.prog 25 #[.string ⟨#[120]⟩, .int .i64 59] w fun e w' => e = .returned (.string (bs (List.replicate 59 120))) ∧ Frm (fun _ => False) w w' :=
  (Tryz.strings_Repeat ⟨#[120]⟩ 59 w (by decide) (by decide)).mono fun e w' ⟨h1, h2⟩ => ⟨by rw [h1, ← repeatL_one13]; rfl, (Frm.ofBelow h2).mono fun k hk h => by omega⟩
theorem ys13_any (n : Nat) (hn : n ≤ 4000) (w : World) : Calls Tryz.prog 25 #[.string ⟨#[121]⟩, .int .i64 (n : Nat)] w fun e w' => e = .returned (.string (bs (List.replicate n 121))) ∧ Frm (fun _ => False) w w' :=
  (Tryz.strings_Repeat ⟨#[121]⟩ n w (by omega) (by show 1 * _ ≤ _; omega)).mono fun e w' ⟨h1, h2⟩ => ⟨by rw [h1, ← repeatL_one13]; rfl, (Frm.ofBelow h2).mono fun k hk h => by omega⟩
set_option maxRecDepth 100000 in
set_option maxHeartbeats 32000000 in
theorem regionKnown_any (w : World) : Calls Tryz.prog 4 #[] w fun e w' => e = .returned (.bool true) ∧ Frm (fun _ => False) w w' := by
  have HX := Lib.hid (fun W => xs13_any W)
  have HY := Lib.hid (fun W => ys13_any 3480 (by decide) W)
  have HZ := Lib.hid (fun W => ys13_any 3481 (by decide) W)
  have h1 : (List.replicate 59 (120 : UInt8)).length = 59 := List.length_replicate
  have h2 : (List.replicate 3480 (121 : UInt8)).length = 3480 := List.length_replicate
  have h3 : (List.replicate 3481 (121 : UInt8)).length = 3481 := List.length_replicate
  obtain ⟨lg, hlg⟩ : ∃ lg, List.replicate 59 (120 : UInt8) = lg := ⟨_, rfl⟩
  obtain ⟨yl, hyl⟩ : ∃ yl, List.replicate 3480 (121 : UInt8) = yl := ⟨_, rfl⟩
  obtain ⟨zl, hzl⟩ : ∃ zl, List.replicate 3481 (121 : UInt8) = zl := ⟨_, rfl⟩
  rw [hlg] at HX h1
  rw [hyl] at HY h2
  rw [hzl] at HZ h3
  clear hlg hyl hzl
  obtain ⟨L1, L2, L3, L4, L5, hk⟩ := kns lg yl h1 h2
  have HK := Lib.hid hk
  have HL1 := Lib.hid h1
  have HL2 := Lib.hid h2
  have HL3 := Lib.hid h3
  have HWK := Lib.hid (fun W => awake13_any W)
  clear hk h1 h2 h3
  have hne := rg_neqn
  have hbs : (⟨#[97, 98]⟩ : ByteArray) = bs [97, 98] := rfl
  have hbe : (⟨#[]⟩ : ByteArray) = bs [] := rfl
  have HN := Lib.hid (new256 w)
  go_enter Tryz.func4, Tryz.ntmps4
  go_wp2_with fail
  refine HN.out.mono ?_
  rintro e w1 ⟨_, rfl, b, f, x, rfl, hd, hb, hf, hx, g1⟩
  have HL := Lib.hid (lnew_any b f x _ (-1) _ [] w1 hd (by unfold Z64; decide) (nil_zs (w := w1)) (fun _ h => by cases h) (show 0 ≤ 1000000 by decide))
  have H1 := Lib.hid (And.intro (And.intro hb (And.intro hf hx)) g1)
  clear hd hb hf hx g1 HN
  go_wp2_with fail
  refine HL.out.mono ?_
  rintro e w2 ⟨_, rfl, l, rfl, hl, hlo, g2⟩
  have HF := format_any l b f x _ 64 64 w2 hl (by show 0 ≤ 900000; decide) (by unfold Z64; decide) (by unfold Z64; decide) (.inl rfl)
  unfold FmtTo at HF
  rw [HK.out.f1] at HF
  have HF := Lib.hid HF
  have H2 := Lib.hid (And.intro (show w.heap.size ≤ l from Nat.le_trans H1.out.2.size hlo) (H1.out.2.trans g2))
  clear hl hlo g2 HL
  go_wp2_with fail
  refine HF.out.mono ?_
  rintro e w3 ⟨v, rfl, hl3, g3, hz, _⟩
  obtain ⟨g, rfl, hg, hR⟩ := hz trivial
  have HR := Lib.hid (show RgM w3 g l b f x ⟨64, 64, 0, false⟩ L1 from hR)
  have HB := Lib.hid (show w.heap.size ≤ g ∧ w.heap.size ≤ l ∧ w.heap.size ≤ f ∧ w.heap.size ≤ x from ⟨Nat.le_trans H2.out.2.size hg, H2.out.1, H1.out.1.2.1, H1.out.1.2.2⟩)
  have HG := Lib.hid (H2.out.2.toNewX g3 ⟨H2.out.1, H1.out.1.2.1, H1.out.1.2.2⟩)
  clear hl3 g3 hz hg hR HF H1 H2
  have HQ := Lib.hid (HX.out w3)
  go_wp2_with fail
  refine HQ.out.mono ?_
  rintro e w4 ⟨rfl, gg⟩
  have HG := Lib.hid (HG.out.trans gg)
  have HR := Lib.hid (HR.out.keepF gg)
  clear gg HQ
  have HQ := Lib.hid (needs_any (0) w4 (by unfold Z64; decide))
  go_wp2_with fail
  refine HQ.out.mono ?_
  rintro e ww ⟨rfl, rfl⟩
  clear HQ
  rw [show ((needs (0 : Int).toNat : Nat) : Int) = 1 from rfl]
  have HQ := Lib.hid (needs_any (58) w4 (by unfold Z64; decide))
  go_wp2_with fail
  refine HQ.out.mono ?_
  rintro e ww ⟨rfl, rfl⟩
  clear HQ
  rw [show ((needs (58 : Int).toNat : Nat) : Int) = 1 from rfl]
  have HQ := Lib.hid (needs_any (-5) w4 (by unfold Z64; decide))
  go_wp2_with fail
  refine HQ.out.mono ?_
  rintro e ww ⟨rfl, rfl⟩
  clear HQ
  rw [show ((needs (-5 : Int).toNat : Nat) : Int) = 1 from rfl]
  have HQ := Lib.hid (tells_true l b f x L1 0 [] (.slice none 0 0) w4 HR.out.ln (Strs.none_ _) HK.out.r1)
  go_wp2_with fail
  refine HQ.out.mono ?_
  rintro e w5 ⟨rfl, gg⟩
  have HG := Lib.hid (HG.out.trans gg)
  have HR := Lib.hid (HR.out.keepF gg)
  clear gg HQ
  have hq := rappend_any g l b f x ⟨64, 64, 0, false⟩ L1 [97, 98] w5 HR.out HK.out.a1.1 (by decide) (.inl HK.out.a1.2)
  rw [HK.out.p1] at hq
  unfold RgTo at hq
  have HQ := Lib.hid hq
  clear hq
  go_wp2_with fail
  refine HQ.out.mono ?_
  rintro e w6 ⟨rfl, hh, gg⟩
  have HG := Lib.hid (HG.out.toNewR gg HB.out)
  have HR := Lib.hid (show RgM w6 g l b f x ⟨64, 64, 1, false⟩ L2 from hh)
  clear hh gg HQ
  have hq := rappend_any g l b f x ⟨64, 64, 1, false⟩ L2 lg w6 HR.out HK.out.a2.1 (by rw [HL1.out]; decide) (.inl HK.out.a2.2)
  rw [HK.out.p2] at hq
  unfold RgTo at hq
  have HQ := Lib.hid hq
  clear hq
  go_wp2_with fail
  refine HQ.out.mono ?_
  rintro e w7 ⟨rfl, hh, gg⟩
  have HG := Lib.hid (HG.out.toNewR gg HB.out)
  have HR := Lib.hid (show RgM w7 g l b f x ⟨64, 64, 3, false⟩ L3 from hh)
  clear hh gg HQ
  have HQ := Lib.hid (rleft_any g l b f x _ _ w7 HR.out)
  go_wp2_with fail
  refine HQ.out.mono ?_
  rintro e w8 ⟨rfl, gg⟩
  have HG := Lib.hid (HG.out.trans gg)
  have HR := Lib.hid (HR.out.keepF gg)
  clear gg HQ
  try rw [show ((RV.left ⟨64, 64, 3, false⟩ : Nat) : Int) = 60 from rfl]
  have gg : Frm (fun _ => False) w8 (w8.alloc (.cells #[.string (bs [97, 98]), .string (bs lg)] 9)) := (Frm.refl _ w8).alloc _
  have hs : Strs (w8.alloc (.cells #[.string (bs [97, 98]), .string (bs lg)] 9)) (.slice (some ⟨w8.heap.size, 0, none⟩) 2 2) [[97, 98], lg] := rstrs_new w8 [[97, 98], lg]
  have HQ := Lib.hid (tells_true l b f x L3 0 [[97, 98], lg] _ _ (HR.out.ln.keepF gg) hs HK.out.r3)
  have HG := Lib.hid (HG.out.trans gg)
  have HR := Lib.hid (HR.out.keepF gg)
  clear gg hs
  go_wp2_with fail
  refine HQ.out.mono ?_
  rintro e w9 ⟨rfl, gg⟩
  have HG := Lib.hid (HG.out.trans gg)
  have HR := Lib.hid (HR.out.keepF gg)
  clear gg HQ
  have hq := read_any b f x L3.D 65 w9 HR.out.ln.dev (by unfold Z64; decide)
  rw [HK.out.b3] at hq
  have hq : Calls Tryz.prog 28 #[.pointer (some ⟨b, 0, none⟩), .int .i64 65] w9 fun e w' => e = .returned (.tuple #[.string (bs (L3.D.read 65)), .int .i64 0]) ∧ Frm (fun _ => False) w9 w' := hq
  rw [HK.out.d3] at hq
  have HQ := Lib.hid hq
  clear hq
  obtain ⟨blq, hblq⟩ : ∃ blq, bs (logB 1 1 [97, 98]) = blq := ⟨_, rfl⟩
  have hz1 : (blq.size : Int) = 64 := by rw [← hblq]; rfl
  have hz2 : blq.size = 64 := by rw [← hblq]; rfl
  have hz3 : blq.extract 0 6 = ⟨#[0, 1, 1, 2, 97, 98]⟩ := by rw [← hblq]; decide +kernel
  have hz4 : blq.extract 62 64 = ⟨#[0, 1]⟩ := by rw [← hblq]; decide +kernel
  rw [hblq] at HQ
  clear hblq
  go_wp2_with fail
  refine HQ.out.mono ?_
  rintro e w10 ⟨rfl, gg⟩
  have HG := Lib.hid (HG.out.trans gg)
  have HR := Lib.hid (HR.out.keepF gg)
  clear gg HQ
  have hq := rseal_any g l b f x 7 ⟨64, 64, 3, false⟩ L3 w10 HR.out HK.out.a3.1 (by decide)
  rw [HK.out.s3] at hq
  unfold RgTo at hq
  have HQ := Lib.hid hq
  clear hq
  go_wp2_with fail
  refine HQ.out.mono ?_
  rintro e w11 ⟨rfl, hh, gg⟩
  have HG := Lib.hid (HG.out.toNewR gg HB.out)
  have HR := Lib.hid (show RgM w11 g l b f x ⟨64, 64, 3, false⟩ L4 from hh)
  clear hh gg HQ
  have gg : Frm (fun _ => False) w11 (w11.alloc (.cells #[.string (bs [97, 98]), .string (bs lg)] 9)) := (Frm.refl _ w11).alloc _
  have hs : Strs (w11.alloc (.cells #[.string (bs [97, 98]), .string (bs lg)] 9)) (.slice (some ⟨w11.heap.size, 0, none⟩) 2 2) [[97, 98], lg] := rstrs_new w11 [[97, 98], lg]
  have HQ := Lib.hid (tells_true l b f x L4 7 [[97, 98], lg] _ _ (HR.out.ln.keepF gg) hs HK.out.r4)
  have HG := Lib.hid (HG.out.trans gg)
  have HR := Lib.hid (HR.out.keepF gg)
  clear gg hs
  go_wp2_with fail
  refine HQ.out.mono ?_
  rintro e w12 ⟨rfl, gg⟩
  have HG := Lib.hid (HG.out.trans gg)
  have HR := Lib.hid (HR.out.keepF gg)
  clear gg HQ
  have HQ := Lib.hid (HZ.out w12)
  go_wp2_with fail
  refine HQ.out.mono ?_
  rintro e w13 ⟨rfl, gg⟩
  have HG := Lib.hid (HG.out.trans gg)
  have HR := Lib.hid (HR.out.keepF gg)
  clear gg HQ
  have hq := rappend_any g l b f x ⟨64, 64, 3, false⟩ L4 zl w13 HR.out HK.out.a4.1 (by rw [HL3.out]; decide) (.inl HK.out.a4.2)
  rw [HK.out.q4 zl HL3.out] at hq
  unfold RgTo at hq
  have HQ := Lib.hid hq
  clear hq
  go_wp2_with fail
  refine HQ.out.mono ?_
  rintro e w14 ⟨rfl, hh, gg⟩
  have HG := Lib.hid (HG.out.toNewR gg HB.out)
  have HR := Lib.hid (show RgM w14 g l b f x ⟨64, 64, 3, false⟩ L4 from hh)
  clear hh gg HQ
  have HQ := Lib.hid (HY.out w14)
  go_wp2_with fail
  refine HQ.out.mono ?_
  rintro e w15 ⟨rfl, gg⟩
  have HG := Lib.hid (HG.out.trans gg)
  have HR := Lib.hid (HR.out.keepF gg)
  clear gg HQ
  have hq := rappend_any g l b f x ⟨64, 64, 3, false⟩ L4 yl w15 HR.out HK.out.a4.1 (by rw [HL2.out]; decide) (.inl HK.out.a4.2)
  rw [HK.out.p4] at hq
  unfold RgTo at hq
  have HQ := Lib.hid hq
  clear hq
  go_wp2_with fail
  refine HQ.out.mono ?_
  rintro e w16 ⟨rfl, hh, gg⟩
  have HG := Lib.hid (HG.out.toNewR gg HB.out)
  have HR := Lib.hid (show RgM w16 g l b f x ⟨64, 64, 63, false⟩ L5 from hh)
  clear hh gg HQ
  have HQ := Lib.hid (rleft_any g l b f x _ _ w16 HR.out)
  go_wp2_with fail
  refine HQ.out.mono ?_
  rintro e w17 ⟨rfl, gg⟩
  have HG := Lib.hid (HG.out.trans gg)
  have HR := Lib.hid (HR.out.keepF gg)
  clear gg HQ
  try rw [show ((RV.left ⟨64, 64, 63, false⟩ : Nat) : Int) = 0 from rfl]
  have hq := rappend_any g l b f x ⟨64, 64, 63, false⟩ L5 [] w17 HR.out HK.out.a5.1 (by decide) (.inl HK.out.a5.2)
  rw [HK.out.q5] at hq
  unfold RgTo at hq
  have HQ := Lib.hid hq
  clear hq
  go_wp2_with fail
  refine HQ.out.mono ?_
  rintro e w18 ⟨rfl, hh, gg⟩
  have HG := Lib.hid (HG.out.toNewR gg HB.out)
  have HR := Lib.hid (show RgM w18 g l b f x ⟨64, 64, 63, false⟩ L5 from hh)
  clear hh gg HQ
  have hq := rseal_any g l b f x 0 ⟨64, 64, 63, false⟩ L5 w18 HR.out HK.out.a5.1 (by decide)
  rw [HK.out.s5] at hq
  unfold RgTo at hq
  have HQ := Lib.hid hq
  clear hq
  go_wp2_with fail
  refine HQ.out.mono ?_
  rintro e w19 ⟨rfl, hh, gg⟩
  have HG := Lib.hid (HG.out.toNewR gg HB.out)
  have HR := Lib.hid (show RgM w19 g l b f x ⟨64, 64, 63, false⟩ L5 from hh)
  clear hh gg HQ
  have hq := format_any l b f x L5 0 1 w19 HR.out.ln HK.out.a5.1 (by unfold Z64; decide) (by unfold Z64; decide) (.inl HK.out.a5.2)
  unfold FmtTo at hq
  rw [HK.out.f5] at hq
  have HQ := Lib.hid hq
  clear hq
  go_wp2_with fail
  refine HQ.out.mono ?_
  rintro e w20 ⟨v, rfl, hl3, gg, _, hz⟩
  obtain rfl := hz (by decide)
  have HR := Lib.hid (HR.out.lined hl3 gg rfl rfl rfl)
  have HG := Lib.hid (HG.out.toNewX gg ⟨HB.out.2.1, HB.out.2.2.1, HB.out.2.2.2⟩)
  clear hl3 gg hz HQ
  have hq := format_any l b f x L5 200 64 w20 HR.out.ln HK.out.a5.1 (by unfold Z64; decide) (by unfold Z64; decide) (.inl HK.out.a5.2)
  unfold FmtTo at hq
  rw [HK.out.g5] at hq
  have HQ := Lib.hid hq
  clear hq
  go_wp2_with fail
  refine HQ.out.mono ?_
  rintro e w21 ⟨v, rfl, hl3, gg, _, hz⟩
  obtain rfl := hz (by decide)
  have HR := Lib.hid (HR.out.lined hl3 gg rfl rfl rfl)
  have HG := Lib.hid (HG.out.toNewX gg ⟨HB.out.2.1, HB.out.2.2.1, HB.out.2.2.2⟩)
  clear hl3 gg hz HQ
  have HQ := Lib.hid (format_no (.pointer none) 0 64 w21 (.inl rfl))
  go_wp2_with fail
  refine HQ.out.mono ?_
  rintro e ww ⟨rfl, rfl⟩
  clear HQ
  have hq := rgread_any l b f x L5 (-1) 64 w21 HR.out.ln (by unfold Z64; decide) (by unfold Z64; decide)
  rw [HK.out.e5] at hq
  unfold ReadTo at hq
  have HQ := Lib.hid hq
  clear hq
  go_wp2_with fail
  refine HQ.out.mono ?_
  rintro e w22 ⟨v, rfl, hn⟩
  have gg := hn.frm
  have HG := Lib.hid (HG.out.trans gg)
  have HR := Lib.hid (HR.out.keepF gg)
  clear gg hn HQ
  have HQ := Lib.hid (rgread_no (.pointer none) 0 64 w22 (.inl rfl))
  go_wp2_with fail
  refine HQ.out.mono ?_
  rintro e ww ⟨rfl, rfl⟩
  clear HQ
  have HQ := Lib.hid (HY.out w22)
  go_wp2_with fail
  refine HQ.out.mono ?_
  rintro e w23 ⟨rfl, gg⟩
  have HG := Lib.hid (HG.out.trans gg)
  have HR := Lib.hid (HR.out.keepF gg)
  clear gg HQ
  have gg : Frm (fun _ => False) w23 (w23.alloc (.cells #[.string (bs [97, 98]), .string (bs lg), .string (bs yl)] 9)) := (Frm.refl _ w23).alloc _
  have hs : Strs (w23.alloc (.cells #[.string (bs [97, 98]), .string (bs lg), .string (bs yl)] 9)) (.slice (some ⟨w23.heap.size, 0, none⟩) 3 3) [[97, 98], lg, yl] := rstrs_new w23 [[97, 98], lg, yl]
  have HQ := Lib.hid (tells_true l b f x L5 7 [[97, 98], lg, yl] _ _ (HR.out.ln.keepF gg) hs HK.out.r5)
  have HG := Lib.hid (HG.out.trans gg)
  have HR := Lib.hid (HR.out.keepF gg)
  clear gg hs
  go_wp2_with fail
  refine HQ.out.mono ?_
  rintro e w24 ⟨rfl, gg⟩
  have HG := Lib.hid (HG.out.trans gg)
  have HR := Lib.hid (HR.out.keepF gg)
  clear gg HQ
  have HQ := Lib.hid (lblow_any l b f x L5 w24 HR.out.ln)
  go_wp2_with fail
  refine HQ.out.mono ?_
  rintro e w25 ⟨rfl, hh, gg⟩
  have HR := Lib.hid (show RgM w25 g l b f x ⟨64, 64, 63, false⟩ L5.blow from HR.out.lined hh gg (blow_same L5).1 (blow_same L5).2.1 (blow_same L5).2.2)
  have HG := Lib.hid (HG.out.toNewX gg ⟨HB.out.2.1, HB.out.2.2.1, HB.out.2.2.2⟩)
  clear hh gg HQ
  have HRL := Lib.hid HR.out.lt
  obtain ⟨z, hz⟩ : ∃ z, w25.heap.size = z := ⟨_, rfl⟩
  have bz := Blk.alloc w25 64 #[.pointer none, .pointer none, .int .i64 0, .int .i64 0, .int .i64 0, .bool false]
  have gz : Frm (fun _ => False) w25 (w25.alloc (.cells #[.pointer none, .pointer none, .int .i64 0, .int .i64 0, .int .i64 0, .bool false] 64)) := (Frm.refl _ _).alloc _
  obtain ⟨w26, hw⟩ : ∃ wz, w25.alloc (.cells #[.pointer none, .pointer none, .int .i64 0, .int .i64 0, .int .i64 0, .bool false] 64) = wz := ⟨_, rfl⟩
  rw [hw, hz] at bz
  rw [hw] at gz
  have HZR := Lib.hid (show NoRg (.pointer (some ⟨z, 0, none⟩)) w26 from .inr ⟨z, rfl, bz.cell 0 rfl⟩)
  have HG := Lib.hid (HG.out.trans gz)
  have HR := Lib.hid (HR.out.keepF gz)
  have hgz := Lib.hid bz
  have HZN := Lib.hid (show ¬ RgX g l f x z by have := HRL.out; unfold RgX LnX; omega)
  clear bz gz
  have hq := rflush13_any g l b f x ⟨64, 64, 63, false⟩ L5.blow w26 HR.out (Nat.le_trans HK.out.a6 (by decide))
  rw [HK.out.l6] at hq
  unfold RgTo at hq
  have HQ := Lib.hid hq
  clear hq
  go_wp2_with fail
  refine HQ.out.mono ?_
  rintro e w27 ⟨rfl, hh, gg⟩
  have HG := Lib.hid (HG.out.toNewR gg HB.out)
  have HR := Lib.hid (show RgM w27 g l b f x ⟨64, 64, 63, true⟩ L5.blow from hh)
  have hgz := Lib.hid (hgz.out.keep gg HZN.out)
  clear hh gg HQ
  have hq := rflush13_any g l b f x ⟨64, 64, 63, true⟩ L5.blow w27 HR.out (Nat.le_trans HK.out.a6 (by decide))
  rw [HK.out.l7] at hq
  unfold RgTo at hq
  have HQ := Lib.hid hq
  clear hq
  go_wp2_with fail
  refine HQ.out.mono ?_
  rintro e w28 ⟨rfl, hh, gg⟩
  have HG := Lib.hid (HG.out.toNewR gg HB.out)
  have HR := Lib.hid (show RgM w28 g l b f x ⟨64, 64, 63, true⟩ L5.blow from hh)
  have hgz := Lib.hid (hgz.out.keep gg HZN.out)
  clear hh gg HQ
  have hq := rseal_any g l b f x 1 ⟨64, 64, 63, true⟩ L5.blow w28 HR.out HK.out.a6 (by decide)
  rw [HK.out.s7] at hq
  unfold RgTo at hq
  have HQ := Lib.hid hq
  clear hq
  go_wp2_with fail
  refine HQ.out.mono ?_
  rintro e w29 ⟨rfl, hh, gg⟩
  have HG := Lib.hid (HG.out.toNewR gg HB.out)
  have HR := Lib.hid (show RgM w29 g l b f x ⟨64, 64, 63, true⟩ L5.blow from hh)
  have hgz := Lib.hid (hgz.out.keep gg HZN.out)
  clear hh gg HQ
  have HQ := Lib.hid (rappend_no (.pointer none) (bs []) w29 (.inl rfl))
  go_wp2_with fail
  refine HQ.out.mono ?_
  rintro e w30 ⟨rfl, gg⟩
  have HG := Lib.hid (HG.out.trans gg)
  have HR := Lib.hid (HR.out.keepF gg)
  have hgz := Lib.hid (hgz.out.keep gg (fun h => h))
  clear gg HQ
  have HZ3 := Lib.hid (show NoRg (.pointer (some ⟨z, 0, none⟩)) w30 from .inr ⟨z, rfl, hgz.out.cell 0 rfl⟩)
  have HQ := Lib.hid (rflush13_no _ w30 HZ3.out)
  go_wp2_with fail
  refine HQ.out.mono ?_
  rintro e ww ⟨rfl, rfl⟩
  clear HQ
  have HQ := Lib.hid (rseal_no (.pointer none) 0 w30 (.inl rfl))
  go_wp2_with fail
  refine HQ.out.mono ?_
  rintro e ww ⟨rfl, rfl⟩
  clear HQ
  have HQ := Lib.hid (rleft_no (.pointer none) w30 (.inl rfl))
  go_wp2_with fail
  refine HQ.out.mono ?_
  rintro e ww ⟨rfl, rfl⟩
  clear HQ
  have HQ := Lib.hid (rleft_no _ w30 HZ3.out)
  go_wp2_with fail
  refine HQ.out.mono ?_
  rintro e ww ⟨rfl, rfl⟩
  clear HQ
  have HQ := Lib.hid (HWK.out w30)
  go_wp2_with fail
  refine HQ.out.mono ?_
  rintro e w31 ⟨rfl, gg⟩
  have HG := Lib.hid (HG.out.trans gg)
  have HR := Lib.hid (HR.out.keepF gg)
  have hgz := Lib.hid (hgz.out.keep gg (fun h => h))
  clear gg HQ
  go_wp2_with fail
  go_ret
  exact ⟨rfl, HG.out⟩
end Go.Proofs.YtfbaleomhghjeaaGreat

