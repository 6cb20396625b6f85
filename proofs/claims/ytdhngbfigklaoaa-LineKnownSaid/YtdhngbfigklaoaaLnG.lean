/- LineKnown: the chapter's examples hold; lines that are none. No condition. -/
import Derived.Test.YtdhngbfigklaoaaLnF
namespace Go.Proofs.Ytdhngbfigklaoaa
open Go.RowKit Go.Shelf

def K0 : LV := LV.new (DV.new 256) (-1) []
def K1 : LV := K0.writeAct 5 [97, 98]
def K2 : LV := K1.act K1.D.flush
def K3 : LV := K2.writeAct 5 [120, 121]
def K4 : LV := K3.writeAct 256 []
def K5 : LV := K4.blow
theorem K5_n : K5.D.n = 256 := by decide +kernel
theorem K5_read : (K5.D.read 5).take 2 = [97, 98] := by decide +kernel
theorem neq_ptr (t : TypeId) (w : World) (a b : Option Addr) (q : Bool) (h : (binOp .eql t (.pointer a) (.pointer b)).run Try.prog w = .ok (.bool q) w) : (binOp .neq t (.pointer a) (.pointer b)).run Try.prog w = .ok (.bool !q) w := by
  simp only [binOp] at h ⊢
  cases hx : (Op.equal t (.pointer a) (.pointer b)).run Try.prog w with
  | ok v w' =>
    rw [Sem.run_bind, hx] at h ⊢
    simp only [Result.andThen_ok, Sem.run_pure] at h ⊢
    cases h
    rfl
  | _ => rw [Sem.run_bind, hx] at h; cases h
set_option maxRecDepth 100000 in
set_option maxHeartbeats 8000000 in
theorem lineKnown_any (w : World) : Calls Try.prog 5 #[] w fun e w' => e = .returned (.bool true) ∧ Frm (fun _ => False) w w' := by
  have HN := Lib.hid (new256 w)
  have HWK := Lib.hid (fun W => lnWorks_any W)
  go_enter Try.func5, Try.ntmps5
  go_wp2_with fail
  refine HN.out.mono ?_
  rintro e w1 ⟨_, rfl, b, f, x, rfl, hd, hb, hf, hx, g1⟩
  have HL := Lib.hid (lnew_any b f x _ (-1) _ [] w1 hd (by unfold Z64; decide) (Sl.nil_ w1 1 none 0 (by decide)) (fun z hz => by cases hz) (by decide))
  have HG := Lib.hid (And.intro (And.intro hf hx) g1)
  clear hd hb hf hx g1
  go_wp2_with fail
  refine HL.out.mono ?_
  rintro e w2 ⟨_, rfl, l, rfl, h2, hl2, g2⟩
  have hl2 : w.heap.size ≤ l := Nat.le_trans HG.out.2.size hl2
  have HB := Lib.hid (And.intro hl2 HG.out.1)
  have G2 := Lib.hid (HG.out.2.trans g2)
  have H2 := Lib.hid (show LnM w2 l b f x K0 from h2)
  clear h2 hl2 g2 HL HG HN
  go_wp2_with fail
  refine (HWK.out _).mono ?_
  rintro e w3 ⟨rfl, g⟩
  have G3 := Lib.hid (G2.out.trans g)
  have H3 := Lib.hid (H2.out.keepF g)
  clear g H2 G2
  have HQ := ldown_any l b f x K0 w3 H3.out
  rw [show K0.down = false from rfl] at HQ
  have HQ := Lib.hid HQ
  go_wp2_with fail
  refine HQ.out.mono ?_
  rintro e ww ⟨rfl, rfl⟩
  clear HQ
  have HQ := lwrite_any l b f x K0 5 [97, 98] w3 H3.out (by decide) (by unfold Z64; decide) (by decide)
  rw [show K0.code (K0.D.writeE 5 [97, 98]) = 0 from rfl] at HQ
  have HQ := Lib.hid HQ
  go_wp2_with fail
  refine HQ.out.mono ?_
  rintro e w4 ⟨rfl, h, g⟩
  have G4 := Lib.hid (G3.out.toNewX g HB.out)
  have H4 := Lib.hid (show LnM w4 l b f x K1 from h)
  clear h g H3 G3 HQ
  have HQ := lnflush_any l b f x K1 w4 H4.out (by decide)
  rw [show K1.code 0 = 0 from rfl] at HQ
  have HQ := Lib.hid HQ
  go_wp2_with fail
  refine HQ.out.mono ?_
  rintro e w5 ⟨rfl, h, g⟩
  have G5 := Lib.hid (G4.out.toNewX g HB.out)
  have H5 := Lib.hid (show LnM w5 l b f x K2 from h)
  clear h g H4 G4 HQ
  have HQ := lwrite_any l b f x K2 5 [120, 121] w5 H5.out (by decide) (by unfold Z64; decide) (by decide)
  rw [show K2.code (K2.D.writeE 5 [120, 121]) = 0 from rfl] at HQ
  have HQ := Lib.hid HQ
  go_wp2_with fail
  refine HQ.out.mono ?_
  rintro e w6 ⟨rfl, h, g⟩
  have G6 := Lib.hid (G5.out.toNewX g HB.out)
  have H6 := Lib.hid (show LnM w6 l b f x K3 from h)
  clear h g H5 G5 HQ
  have HQ := lwrite_any l b f x K3 256 [] w6 H6.out (by decide) (by unfold Z64; decide) (by decide)
  rw [show K3.code (K3.D.writeE 256 []) = 2 from rfl] at HQ
  have HQ := Lib.hid HQ
  go_wp2_with fail
  refine HQ.out.mono ?_
  rintro e w7 ⟨rfl, h, g⟩
  have G7 := Lib.hid (G6.out.toNewX g HB.out)
  have H7 := Lib.hid (show LnM w7 l b f x K4 from h)
  clear h g H6 G6 HQ
  have HQ := lacts_any l b f x K4 w7 H7.out
  rw [show K4.acts = 4 from rfl] at HQ
  have HQ := Lib.hid HQ
  go_wp2_with fail
  refine HQ.out.mono ?_
  rintro e ww ⟨rfl, rfl⟩
  clear HQ
  have HQ := lblow_any l b f x K4 w7 H7.out
  have HQ := Lib.hid HQ
  go_wp2_with fail
  refine HQ.out.mono ?_
  rintro e w8 ⟨rfl, h, g⟩
  have G8 := Lib.hid (G7.out.toNewX g HB.out)
  have H8 := Lib.hid (show LnM w8 l b f x K5 from h)
  clear h g H7 G7 HQ
  have HQ := lblow_any l b f x K5 w8 H8.out
  have HQ := Lib.hid HQ
  go_wp2_with fail
  refine HQ.out.mono ?_
  rintro e w9 ⟨rfl, h, g⟩
  have G9 := Lib.hid (G8.out.toNewX g HB.out)
  have H9 := Lib.hid (show LnM w9 l b f x K5 from h)
  clear h g H8 G8 HQ
  have HQ := ldown_any l b f x K5 w9 H9.out
  rw [show K5.down = true from rfl] at HQ
  have HQ := Lib.hid HQ
  go_wp2_with fail
  refine HQ.out.mono ?_
  rintro e ww ⟨rfl, rfl⟩
  clear HQ
  have HQ := begins12_any b f x K5.D 5 [97, 98] w9 H9.out.dev (by unfold Z64; decide) (decide_eq_false (by rw [K5_n]; decide))
  rw [decide_eq_true (show (K5.D.read (5 : Int).toNat).take 2 = [97, 98] from K5_read)] at HQ
  have HQ := Lib.hid HQ
  go_wp2_with fail
  refine HQ.out.mono ?_
  rintro e w10 ⟨rfl, g⟩
  have G10 := Lib.hid (G9.out.trans g)
  have H10 := Lib.hid (H9.out.keepF g)
  clear g H9 G9 HQ
  have HQ := lnflush_any l b f x K5 w10 H10.out (by decide)
  rw [show K5.code 0 = 8 from rfl] at HQ
  have HQ := Lib.hid HQ
  go_wp2_with fail
  refine HQ.out.mono ?_
  rintro e w11 ⟨rfl, h, g⟩
  have G11 := Lib.hid (G10.out.toNewX g HB.out)
  have H11 := Lib.hid (show LnM w11 l b f x K5 from h)
  clear h g H10 G10 HQ
  have HQ := lacts_any l b f x K5 w11 H11.out
  rw [show K5.acts = 4 from rfl] at HQ
  have HQ := Lib.hid HQ
  go_wp2_with fail
  refine HQ.out.mono ?_
  rintro e ww ⟨rfl, rfl⟩
  clear HQ
  have hqs := fun (W : World) (a : Addr) => neq_ptr 26 W _ _ _ (dev_same W a)
  have HQ := ldev_any l b f x K5 w11 H11.out
  have HQ := Lib.hid HQ
  go_wp2_with fail
  refine HQ.out.mono ?_
  rintro e ww ⟨rfl, rfl⟩
  clear HQ
  clear H11
  have hnil : ∀ W, NoLn (.pointer none) W := fun W => .inl rfl
  have HNIL := Lib.hid hnil
  clear hnil
  obtain ⟨z, hz⟩ : ∃ z, w11.heap.size = z := ⟨_, rfl⟩
  have gz : Frm (fun _ => False) w11 (w11.alloc (.cells #[.pointer none, .pointer none, .int .i64 0, .slice none 0 0, .int .i64 0, .bool false] 53)) := (Frm.refl _ w11).alloc _
  have hzl : NoLn (.pointer (some ⟨z, 0, none⟩)) (w11.alloc (.cells #[.pointer none, .pointer none, .int .i64 0, .slice none 0 0, .int .i64 0, .bool false] 53)) := .inr ⟨z, rfl, by rw [← hz]; exact (Blk.alloc w11 53 _).cell 0 rfl⟩
  have HB1 := Lib.hid (lblow_no (.pointer none) _ (HNIL.out (w11.alloc (.cells #[.pointer none, .pointer none, .int .i64 0, .slice none 0 0, .int .i64 0, .bool false] 53))))
  have HB2 := Lib.hid (lblow_no (.pointer (some ⟨z, 0, none⟩)) _ hzl)
  have HB3 := Lib.hid (lread_no (.pointer none) 5 _ (HNIL.out (w11.alloc (.cells #[.pointer none, .pointer none, .int .i64 0, .slice none 0 0, .int .i64 0, .bool false] 53))))
  have HZ := Lib.hid (And.intro hzl (G11.out.trans gz))
  clear hzl gz
  go_wp2_with fail
  clear hqs
  refine HB1.out.mono ?_
  rintro e ww ⟨rfl, rfl⟩
  go_wp2_with fail
  refine HB2.out.mono ?_
  rintro e ww ⟨rfl, rfl⟩
  go_wp2_with fail
  refine HB3.out.mono ?_
  rintro e ww ⟨rfl, rfl⟩
  obtain ⟨W0, hW0⟩ : ∃ W0, w11.alloc (.cells #[.pointer none, .pointer none, .int .i64 0, .slice none 0 0, .int .i64 0, .bool false] 53) = W0 := ⟨_, rfl⟩
  rw [hW0] at HZ ⊢
  clear HB1 HB2 HB3 hW0 hz
  have HC1 := Lib.hid (cutBy_any 65 [97, 98] [99, 100] W0 (by unfold Z64; decide) (by decide +kernel) (by decide +kernel) (by decide +kernel))
  go_wp2_with fail
  refine HC1.out.mono ?_
  rintro e W1 ⟨rfl, g⟩
  have Z1 := Lib.hid (And.intro (HZ.out.1.keepF g) (HZ.out.2.trans g))
  clear g HC1 HZ
  have HC1 := Lib.hid (cutBy_any (-1) [97, 98] [99, 100] W1 (by unfold Z64; decide) (by decide +kernel) (by decide +kernel) (by decide +kernel))
  go_wp2_with fail
  refine HC1.out.mono ?_
  rintro e W2 ⟨rfl, g⟩
  have Z2 := Lib.hid (And.intro (Z1.out.1.keepF g) (Z1.out.2.trans g))
  clear g HC1 Z1
  have HC1 := Lib.hid (lnew_no (.pointer none) (.slice none 0 0) 0 W2 (noDev_nil W2))
  go_wp2_with fail
  refine HC1.out.mono ?_
  rintro e ww ⟨rfl, rfl⟩
  clear HC1
  have g : Frm (fun _ => False) W2 (W2.alloc (.cells #[.pointer none, .int .i64 0, .map none, .map none] 57)) := (Frm.refl _ W2).alloc _
  have HC1 := Lib.hid (lnew_no (.pointer (some ⟨W2.heap.size, 0, none⟩)) (.slice none 0 0) 0 (W2.alloc (.cells #[.pointer none, .int .i64 0, .map none, .map none] 57)) (dmade_zero _ _ ((Blk.alloc W2 57 _).cell 0 rfl)))
  have Z3 := Lib.hid (And.intro (Z2.out.1.keepF g) (Z2.out.2.trans g))
  clear g Z2
  go_wp2_with fail
  refine HC1.out.mono ?_
  rintro e ww ⟨rfl, rfl⟩
  obtain ⟨W3, hW3⟩ : ∃ W3, W2.alloc (.cells #[.pointer none, .int .i64 0, .map none, .map none] 57) = W3 := ⟨_, rfl⟩
  rw [hW3] at Z3 ⊢
  clear hW3 HC1
  have HC1 := Lib.hid (lwrite_no (.pointer none) 5 (bs []) W3 (HNIL.out _))
  go_wp2_with fail
  refine HC1.out.mono ?_
  rintro e W4 ⟨rfl, g⟩
  have Z4 := Lib.hid (And.intro (Z3.out.1.keepF g) (Z3.out.2.trans g))
  clear g HC1 Z3
  have HC1 := Lib.hid (lnflush_no (.pointer (some ⟨z, 0, none⟩)) W4 Z4.out.1)
  go_wp2_with fail
  refine HC1.out.mono ?_
  rintro e W5 ⟨rfl, g⟩
  have Z5 := Lib.hid (And.intro (Z4.out.1.keepF g) (Z4.out.2.trans g))
  clear g HC1 Z4
  have HC1 := Lib.hid (ldown_no (.pointer none) W5 (HNIL.out _))
  have HC2 := Lib.hid (ldown_no (.pointer (some ⟨z, 0, none⟩)) W5 Z5.out.1)
  have HC3 := Lib.hid (lacts_no (.pointer none) W5 (HNIL.out _))
  have HC4 := Lib.hid (ldev_no (.pointer (some ⟨z, 0, none⟩)) W5 Z5.out.1)
  go_wp2_with fail
  refine HC1.out.mono ?_
  rintro e ww ⟨rfl, rfl⟩
  go_wp2_with fail
  refine HC2.out.mono ?_
  rintro e ww ⟨rfl, rfl⟩
  go_wp2_with fail
  refine HC3.out.mono ?_
  rintro e ww ⟨rfl, rfl⟩
  go_wp2_with fail
  refine HC4.out.mono ?_
  rintro e ww ⟨rfl, rfl⟩
  clear HC1 HC2 HC3 HC4
  go_wp2_with fail
  refine (HWK.out _).mono ?_
  rintro e W6 ⟨rfl, g⟩
  have Z6 := Lib.hid (Z5.out.2.trans g)
  clear g Z5
  go_wp2_with fail
  go_ret
  exact ⟨rfl, Z6.out⟩
end Go.Proofs.Ytdhngbfigklaoaa
