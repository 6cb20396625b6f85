/- cutBy and works: the chapter's line answers as told. No condition. -/
import Derived.Test.YtdhngbfigklaoaaLnE
namespace Go.Proofs.Ytdhngbfigklaoaa
open Go.RowKit Go.Shelf

theorem LV.act_live {L : LV} (D' : DV) (h : L.down = false) (hne : (L.acts : Int) ≠ L.cut) : L.act D' = { L.count with D := D' } := by
  unfold LV.act
  rw [h, if_neg Bool.false_ne_true, if_pos hne]
theorem LV.act_cut {L : LV} (D' : DV) (h : L.down = false) (he : (L.acts : Int) = L.cut) : L.act D' = if L.odd then ({ L.count with D := D' } : LV).fall else L.count.fall := by
  unfold LV.act
  rw [h, if_neg Bool.false_ne_true, if_neg (not_not_intro he)]
theorem LV.act_over {L : LV} (D' : DV) (h : L.down = true) : L.act D' = L := by
  unfold LV.act
  rw [if_pos h]
def LV.writeAct (L : LV) (q : Int) (s : List UInt8) : LV := L.act (L.D.writeTo q s)
def cutL (c : Int) : LV := (((LV.new (DV.new 256) 1 [c]).writeAct 5 [97, 98]).writeAct 6 [99, 100]).writeAct 7 [101, 102]
theorem writeTo_n (D : DV) (q : Int) (s : List UInt8) : (D.writeTo q s).n = D.n := by
  unfold DV.writeTo
  split <;> rfl
theorem writeAct_n (L : LV) (q : Int) (s : List UInt8) : (L.writeAct q s).D.n = L.D.n := by
  unfold LV.writeAct LV.act
  split
  · rfl
  split
  · exact writeTo_n _ _ _
  split
  · exact writeTo_n _ _ _
  · rfl
theorem cutL_n (c : Int) : (cutL c).D.n = 256 := by
  unfold cutL
  rw [writeAct_n, writeAct_n, writeAct_n]
  rfl
theorem cut2 (c : Int) : ((((LV.new (DV.new 256) 1 [c]).writeAct 5 [97, 98]).writeAct 6 [99, 100]).down = true) ∧ (((LV.new (DV.new 256) 1 [c]).writeAct 5 [97, 98]).writeAct 6 [99, 100]).acts = 2 := by
  have e1 : (LV.new (DV.new 256) 1 [c]).writeAct 5 [97, 98] = ⟨(DV.new 256).writeTo 5 [97, 98], 1, [c], 1, false, fun _ => True⟩ := rfl
  rw [e1]
  unfold LV.writeAct
  rw [LV.act_cut _ rfl rfl]
  split <;> exact ⟨rfl, rfl⟩
theorem writeAct_down {L : LV} (h : L.down = true) (q : Int) (s : List UInt8) : L.writeAct q s = L := by
  unfold LV.writeAct LV.act
  rw [if_pos h]
theorem code_down {L : LV} (h : L.down = true) (c : Nat) : L.code c = 8 := by
  unfold LV.code
  rw [if_pos (.inl h)]
theorem Frm.toNewX {w w1 w2 : World} {l f x : Nat} (g1 : Frm (fun _ => False) w w1) (g2 : Frm (LnX l f x) w1 w2) (h : w.heap.size ≤ l ∧ w.heap.size ≤ f ∧ w.heap.size ≤ x) : Frm (fun _ => False) w w2 := g1.next g2 fun j hj e => by unfold LnX at e; omega
theorem zs_one12 (w : World) (q : Int) (t : TypeId) : Zs (w.alloc (.cells #[.int .i64 q] t)) (.slice (some ⟨w.heap.size, 0, none⟩) 1 1) [q] := by
  refine ⟨rfl, _, 1, rfl, Nat.le_refl _, by decide, .inr ⟨_, 0, rfl, by simp, fun j hj => ?_⟩⟩
  obtain rfl : j = 0 := by simp at hj; omega
  exact (Blk.alloc w t #[.int .i64 q]).cell 0 rfl
theorem new256 (w : World) : Calls Try.prog 9 #[.int .i64 256] w fun e w' => ∃ v, e = .returned v ∧ NewDev (DV.new 256) w v w' := (new_any 256 w).mono fun e w' h => by
  unfold NewTo at h
  rw [if_pos (by decide)] at h
  exact h
set_option maxRecDepth 100000 in
set_option maxHeartbeats 4000000 in
theorem cutBy_any (c : Int) (five six : List UInt8) (w : World) (hc : Z64 c) (h5 : ((cutL c).D.read 5).take 2 = five) (h6 : ((cutL c).D.read 6).take 2 = six) (h7 : ((cutL c).D.read 7).take 2 = [0, 0]) :
    Calls Try.prog 26 #[.int .i64 c, .string (bs five), .string (bs six)] w fun e w' => e = .returned (.bool true) ∧ Frm (fun _ => False) w w' := by
  have HN := Lib.hid (new256 w)
  have HH := Lib.hid (And.intro h5 (And.intro h6 (And.intro h7 hc)))
  clear h5 h6 h7 hc
  go_enter Try.func26, Try.ntmps26
  go_wp2_with fail
  refine HN.out.mono ?_
  rintro e w1 ⟨_, rfl, b, f, x, rfl, hd, hb, hf, hx, g1⟩
  have gz : Frm (fun _ => False) w1 (w1.alloc (.cells #[.int .i64 c] 3)) := (Frm.refl _ w1).alloc _
  have HL := Lib.hid (lnew_any b f x _ 1 _ [c] _ (hd.keepF gz) (by unfold Z64; decide) (zs_one12 w1 c 3) (fun z hz => by simp at hz; subst hz; exact HH.out.2.2.2) (show 1 ≤ 1000000 by decide))
  have HG := Lib.hid (And.intro (And.intro hf hx) (g1.trans gz))
  have HZ := Lib.hid g1.size
  clear hd hb hf hx g1 gz
  go_wp2_with fail
  refine HL.out.mono ?_
  rintro e w2 ⟨_, rfl, l, rfl, h2, hl2, g2⟩
  have hl2 : w.heap.size ≤ l := Nat.le_trans HG.out.2.size hl2
  have G2 := Lib.hid (And.intro (And.intro hl2 HG.out.1) (HG.out.2.trans g2))
  have HW := Lib.hid (lwrite_any l b f x _ 5 [97, 98] w2 h2 (show 0 ≤ 1000000 by decide) (by unfold Z64; decide) (by decide))
  clear h2 hl2 g2 HL
  have cc1 : LV.code (LV.new (DV.new 256) 1 [c]) (DV.writeE (LV.new (DV.new 256) 1 [c]).D 5 [97, 98]) = 0 := rfl
  rw [cc1] at HW
  clear cc1
  go_wp2_with fail
  refine HW.out.mono ?_
  rintro e w3 ⟨rfl, h3, g3⟩
  have G3 := Lib.hid (G2.out.2.toNewX g3 G2.out.1)
  have HW3 := (lwrite_any l b f x ((LV.new (DV.new 256) 1 [c]).writeAct 5 [97, 98]) 6 [99, 100] w3 h3 (by show 1 ≤ 1000000; decide) (by unfold Z64; decide) (by decide))
  have cc1 : LV.code ((LV.new (DV.new 256) 1 [c]).writeAct 5 [97, 98]) (DV.writeE ((LV.new (DV.new 256) 1 [c]).writeAct 5 [97, 98]).D 6 [99, 100]) = 8 := rfl
  rw [cc1] at HW3
  have HW3 := Lib.hid HW3
  clear cc1 h3 g3 HW
  go_wp2_with fail
  refine HW3.out.mono ?_
  rintro e w4 ⟨rfl, h4, g4⟩
  have G4 := Lib.hid (G3.out.toNewX g4 G2.out.1)
  have HW4 := (lwrite_any l b f x (((LV.new (DV.new 256) 1 [c]).writeAct 5 [97, 98]).writeAct 6 [99, 100]) 7 [101, 102] w4 h4 (by rw [(cut2 c).2]; decide) (by unfold Z64; decide) (by decide))
  rw [code_down (cut2 c).1] at HW4
  have HW4 := Lib.hid HW4
  clear h4 g4 HW3
  go_wp2_with fail
  refine HW4.out.mono ?_
  rintro e w5 ⟨rfl, h5, g5⟩
  change LnM w5 l b f x (cutL c) at h5
  have hdn : (cutL c).down = true := by unfold cutL; rw [writeAct_down (cut2 c).1]; exact (cut2 c).1
  have hac : (cutL c).acts = 2 := by unfold cutL; rw [writeAct_down (cut2 c).1]; exact (cut2 c).2
  have G5 := Lib.hid (G4.out.toNewX g5 G2.out.1)
  have HR := lread_any l b f x (cutL c) 5 w5 h5 (by unfold Z64; decide)
  rw [hdn] at HR
  have HR := Lib.hid HR
  have H5 := Lib.hid (And.intro h5 (And.intro hdn hac))
  clear h5 hdn hac g5 HW4
  go_wp2_with fail
  refine HR.out.mono ?_
  rintro e w6 ⟨rfl, g6⟩
  have h6 := H5.out.1.keepF g6
  have G6 := Lib.hid (G5.out.trans g6)
  have HA := lacts_any l b f x (cutL c) w6 h6
  rw [H5.out.2.2] at HA
  have HA := Lib.hid HA
  have HDN := ldown_any l b f x (cutL c) w6 h6
  rw [H5.out.2.1] at HDN
  have HDN := Lib.hid HDN
  have hbad : ∀ q : Int, 0 ≤ q → q < 256 → (cutL c).D.bad q = false := fun q h1 h2 => decide_eq_false (by rw [cutL_n]; omega)
  have HB5 := begins12_any b f x (cutL c).D 5 five w6 h6.dev (by unfold Z64; decide) (hbad 5 (by decide) (by decide))
  rw [decide_eq_true (show ((cutL c).D.read (5 : Int).toNat).take 2 = five from HH.out.1)] at HB5
  have HB5 := Lib.hid HB5
  have HB6 : Hid (∀ W, Frm (fun _ => False) w6 W → Calls Try.prog 24 #[.pointer (some ⟨b, 0, none⟩), .int .i64 6, .string (bs six)] W fun e w' => e = .returned (.bool true) ∧ Frm (fun _ => False) W w') := Lib.hid fun W g => by
    have := begins12_any b f x (cutL c).D 6 six W (h6.keepF g).dev (by unfold Z64; decide) (hbad 6 (by decide) (by decide))
    rw [decide_eq_true (show ((cutL c).D.read (6 : Int).toNat).take 2 = six from HH.out.2.1)] at this
    exact this
  have HB7 : Hid (∀ W, Frm (fun _ => False) w6 W → Calls Try.prog 24 #[.pointer (some ⟨b, 0, none⟩), .int .i64 7, .string (bs [0, 0])] W fun e w' => e = .returned (.bool true) ∧ Frm (fun _ => False) W w') := Lib.hid fun W g => by
    have := begins12_any b f x (cutL c).D 7 [0, 0] W (h6.keepF g).dev (by unfold Z64; decide) (hbad 7 (by decide) (by decide))
    rw [decide_eq_true (show ((cutL c).D.read (7 : Int).toNat).take 2 = [0, 0] from HH.out.2.2.1)] at this
    exact this
  clear h6 g6 hbad
  have hz0 : (bs []).toList = [] := by rw [bs_toList]
  go_wp2_with fail
  refine HA.out.mono ?_
  rintro e w7 ⟨rfl, rfl⟩
  go_wp2_with fail
  refine HDN.out.mono ?_
  rintro e w7 ⟨rfl, rfl⟩
  go_wp2_with fail
  refine HB5.out.mono ?_
  rintro e w7 ⟨rfl, g7⟩
  have G7 := Lib.hid g7
  clear g7
  go_wp2_with fail
  refine (HB6.out _ G7.out).mono ?_
  rintro e w8 ⟨rfl, g8⟩
  have G8 := Lib.hid (G7.out.trans g8)
  clear g8
  go_wp2_with fail
  refine (HB7.out _ G8.out).mono ?_
  rintro e w9 ⟨rfl, g9⟩
  have G9 := Lib.hid ((G6.out.trans G8.out).trans g9)
  clear g9
  go_wp2_with fail
  go_ret
  exact ⟨rfl, G9.out⟩
set_option maxRecDepth 100000 in
theorem lnWorks_any (w : World) : Calls Try.prog 8 #[] w fun e w' => e = .returned (.bool true) ∧ Frm (fun _ => False) w w' := by
  have H1 := Lib.hid (fun W => cutBy_any 1 [97, 0] [99, 0] W (by unfold Z64; decide) (by decide +kernel) (by decide +kernel) (by decide +kernel))
  have H2 := Lib.hid (fun W => cutBy_any 2 [97, 98] [0, 0] W (by unfold Z64; decide) (by decide +kernel) (by decide +kernel) (by decide +kernel))
  go_enter Try.func8, Try.ntmps8
  go_wp2_with fail
  refine (H1.out _).mono ?_
  rintro e w1 ⟨rfl, g1⟩
  have G1 := Lib.hid g1
  clear g1
  go_wp2_with fail
  refine (H2.out _).mono ?_
  rintro e w2 ⟨rfl, g2⟩
  have G2 := Lib.hid (G1.out.trans g2)
  clear g2
  go_wp2_with fail
  go_ret
  exact ⟨rfl, G2.out⟩
end Go.Proofs.Ytdhngbfigklaoaa

