/- The statements' own functions on devices: given, begins, left, awake. No condition. -/
import Derived.Test.YtnhihadnaiaojaaDvJ
namespace Go.Proofs.Ytnhihadnaiaojaa
open Go.RowKit Go.Shelf

/-- The chapter's device. -/
def D5 : DV := (DV.new 256).write 5 [97, 98]
theorem D5_ok : D5.ok := (DV.ok_new (by decide) (by decide)).write (by decide) (by decide)
theorem five_ok : D5.bad 5 = false := decide_eq_false (by decide)
theorem Frm.toNew {w w1 w2 : World} {x : Nat} (g1 : Frm (fun _ => False) w w1) (g2 : Frm (· = x) w1 w2) (h : w.heap.size ≤ x) : Frm (fun _ => False) w w2 := g1.next g2 fun j hj e => by omega
set_option maxRecDepth 100000 in
set_option maxHeartbeats 1000000 in
theorem given_any (w : World) : Calls Try.prog 21 #[] w fun e w' => ∃ v, e = .returned v ∧ NewDev D5 w v w' := by
  have HN := Lib.hid (new_any 256 w)
  go_enter Try.func21, Try.ntmps21
  go_wp2_with fail
  refine HN.out.mono ?_
  intro e w1 h
  unfold NewTo at h
  rw [if_pos (by decide)] at h
  obtain ⟨v, rfl, b, f, x, rfl, hd, hb, hf, hx, g1⟩ := h
  have HW := Lib.hid (write_any b f x (DV.new 256) 5 [97, 98] w1 hd (by unfold Z64; decide) (by decide))
  have HD := Lib.hid (And.intro hb (And.intro hf (And.intro hx g1)))
  clear hd hb hf hx g1
  go_wp2_with fail
  refine HW.out.mono ?_
  rintro e w2 ⟨rfl, h2, g2⟩
  have e5 : (DV.new 256).writeTo 5 [97, 98] = D5 := rfl
  rw [e5] at h2
  go_wp2_with fail
  go_ret
  obtain ⟨hb, hf, hx, g1⟩ := HD.out
  exact ⟨_, rfl, b, f, x, rfl, h2, hb, hf, hx, g1.toNew g2 hx⟩

theorem bs_ext (r : List UInt8) (j : Nat) : (bs r).extract 0 j = bs (r.take j) := by
  apply ByteArray.ext
  apply Array.ext'
  simp [bs]
theorem bs_ext2 (r : List UInt8) (i j : Nat) (h : i ≤ j) : (bs r).extract i j = bs ((r.take j).drop i) := by
  apply ByteArray.ext
  apply Array.ext'
  have e : i + (j - i) = j := by omega
  simp [bs, List.take_drop, e]
theorem list_beq (a b : List UInt8) : (a == b) = decide (a = b) := by
  rw [Bool.eq_iff_iff]
  simp
theorem ext_eq (r s : List UInt8) : (((bs r).extract 0 3).toList == (bs s).toList) = decide (r.take 3 = s) := by
  rw [bs_ext, bs_toList, bs_toList, list_beq]
set_option maxRecDepth 100000 in
set_option maxHeartbeats 1000000 in
theorem begins_any (b f x : Nat) (D : DV) (s : List UInt8) (w : World) (h : DevM w b f x D) :
    Calls Try.prog 25 #[.pointer (some ⟨b, 0, none⟩), .string (bs s)] w fun e w' => e = .returned (.bool (decide ((D.read 5).take 3 = s))) ∧ Frm (fun _ => False) w w' := by
  have hlo := h.ok.lo
  have hbad : D.bad 5 = false := decide_eq_false (by omega)
  have HR := read_any b f x D 5 w h (by unfold Z64; decide)
  rw [hbad] at HR
  have hl := h.ok.rlen 5
  have HR := Lib.hid HR
  obtain ⟨r, hr⟩ : ∃ r, D.read 5 = r := ⟨_, rfl⟩
  rw [show (5 : Int).toNat = 5 from rfl, hr] at HR
  rw [hr] at hl ⊢
  have hls : ((bs r).size : Int) = 64 := by rw [bs_size]; omega
  have hls2 : (bs r).size = 64 := by rw [bs_size]; omega
  clear h hbad hr
  go_enter Try.func25, Try.ntmps25
  go_wp2_with fail
  refine HR.out.mono ?_
  rintro e w1 ⟨rfl, g1⟩
  go_wp2_with fail
  go_ret
  exact ⟨by rw [ext_eq]; rfl, g1⟩

theorem crash_read (D : DV) (cs : List Int) (k : Nat) : (D.crash cs).read k = D.left cs k := rfl
set_option maxRecDepth 100000 in
set_option maxHeartbeats 2000000 in
theorem left_any (v : Value) (cs : List Int) (w : World) (h : Zs w v cs) (hz : ∀ z ∈ cs, Z64 z) (hcl : cs.length ≤ 1000000) :
    Calls Try.prog 23 #[v] w fun e w' => e = .returned (.string (bs ((D5.left cs 5).take 3))) ∧ Frm (fun _ => False) w w' := by
  have HG := Lib.hid (given_any w)
  have HV := Lib.hid (And.intro h (And.intro hz hcl))
  have hll := D5_ok.llen cs 5
  obtain ⟨r, hr⟩ : ∃ r, D5.left cs 5 = r := ⟨_, rfl⟩
  rw [hr] at hll ⊢
  have HRR := Lib.hid hr
  clear h hz hcl hr
  go_enter Try.func23, Try.ntmps23
  go_wp2_with fail
  refine HG.out.mono ?_
  rintro e w1 ⟨_, rfl, b, f, x, rfl, hd, hb, hf, hx, g1⟩
  have H1 := Lib.hid (And.intro hd g1)
  have HC := Lib.hid (copy_any b f x D5 w1 hd)
  clear hd g1
  go_wp2_with fail
  refine HC.out.mono ?_
  rintro e w2 ⟨_, rfl, b2, f2, x2, rfl, hd2, hb2, hf2, hx2, g2⟩
  have h12 := H1.out.2.trans g2
  have hsz := H1.out.2.size
  have HK := Lib.hid (crash_any b2 f2 x2 D5 v cs w2 hd2 (HV.out.1.keepF h12) HV.out.2.1 HV.out.2.2 (HV.out.1.low.imp id fun h q e hq => by have := h q e; omega))
  have H2 := Lib.hid (And.intro (H1.out.1.keepF g2) h12)
  have hb1 := H1.out.1.lt
  clear hd2 g2 h12 HC
  go_wp2_with fail
  refine HK.out.mono ?_
  rintro e w3 ⟨rfl, hd3, g3⟩
  have h3 := H2.out.1.keep g3 (by omega) (by omega) (by omega)
  have g13 : Frm (fun _ => False) w w3 := H2.out.2.next g3 fun j hj e => by omega
  have HR := read_any b2 f2 x2 (D5.crash cs) 5 w3 hd3 (by unfold Z64; decide)
  have hbad : (D5.crash cs).bad 5 = false := five_ok
  rw [hbad, show (5 : Int).toNat = 5 from rfl, crash_read, HRR.out] at HR
  have HR := Lib.hid HR
  have H3 := Lib.hid (And.intro h3 g13)
  clear hd3 g3 h3 g13 HK hbad H1 H2
  go_wp2_with fail
  refine HR.out.mono ?_
  rintro e w4 ⟨rfl, g4⟩
  have HB := begins_any b f x D5 [97, 98, 0] w4 (H3.out.1.keepF g4)
  rw [show decide ((D5.read 5).take 3 = [97, 98, 0]) = true from rfl] at HB
  have HB := Lib.hid HB
  have G4 := Lib.hid (H3.out.2.trans g4)
  clear g4 HR
  have hls : ((bs r).size : Int) = 64 := by rw [bs_size]; omega
  have hls2 : (bs r).size = 64 := by rw [bs_size]; omega
  go_wp2_with fail
  refine HB.out.mono ?_
  rintro e w5 ⟨rfl, g5⟩
  go_wp2_with fail
  go_ret
  exact ⟨by rw [bs_ext]; rfl, G4.out.trans g5⟩
theorem zs_one (w : World) (q : Int) (t : TypeId) : Zs (w.alloc (.cells #[.int .i64 q] t)) (.slice (some ⟨w.heap.size, 0, none⟩) 1 1) [q] := by
  refine ⟨rfl, _, 1, rfl, Nat.le_refl _, by decide, .inr ⟨_, 0, rfl, by simp, fun j hj => ?_⟩⟩
  obtain rfl : j = 0 := by simp at hj; omega
  exact (Blk.alloc w t #[.int .i64 q]).cell 0 rfl
/-- left of one choice. -/
theorem left_one (q : Int) (r : List UInt8) (hr : (D5.left [q] 5).take 3 = r) (hq : Z64 q) (W : World) :
    Calls Try.prog 23 #[.slice (some ⟨W.heap.size, 0, none⟩) 1 1] (W.alloc (.cells #[.int .i64 q] 3)) fun e w' => e = .returned (.string (bs r)) ∧ Frm (fun _ => False) W w' :=
  (left_any _ [q] _ (zs_one W q 3) (fun z hz => by simp at hz; subst hz; exact hq) (by simp)).mono fun e w' ⟨h1, h2⟩ => ⟨by rw [h1, hr], ((Frm.refl _ W).alloc _).trans h2⟩
theorem left_none (r : List UInt8) (hr : (D5.left [] 5).take 3 = r) (W : World) :
    Calls Try.prog 23 #[.slice none 0 0] W fun e w' => e = .returned (.string (bs r)) ∧ Frm (fun _ => False) W w' :=
  (left_any _ [] _ (Sl.nil_ W 1 none 0 (by decide)) (fun z hz => by cases hz) (by decide)).mono fun e w' ⟨h1, h2⟩ => ⟨by rw [h1, hr], h2⟩
set_option maxRecDepth 100000 in
set_option maxHeartbeats 2000000 in
theorem awake_any (w : World) : Calls Try.prog 11 #[] w fun e w' => e = .returned (.bool true) ∧ Frm (fun _ => False) w w' := by
  have HG := Lib.hid (given_any w)
  have HL1 := Lib.hid (fun W => left_one 1 [97, 0, 0] rfl (by unfold Z64; decide) W)
  have HL0 := Lib.hid (fun W => left_none [0, 0, 0] rfl W)
  go_enter Try.func11, Try.ntmps11
  go_wp2_with fail
  refine HG.out.mono ?_
  rintro e w1 ⟨_, rfl, b, f, x, rfl, hd, hb, hf, hx, g1⟩
  have H1 := Lib.hid (And.intro hd g1)
  have HB := begins_any b f x D5 [97, 98, 0] w1 hd
  rw [show decide ((D5.read 5).take 3 = [97, 98, 0]) = true from rfl] at HB
  have HB := Lib.hid HB
  clear hd g1
  go_wp2_with fail
  refine HB.out.mono ?_
  rintro e w2 ⟨rfl, g2⟩
  have G2 := Lib.hid g2
  clear g2
  go_wp2_with fail
  refine (HL1.out _).mono ?_
  rintro e w3 ⟨rfl, g3⟩
  have G3 := Lib.hid (G2.out.trans g3)
  clear g3
  have hz3 : ((bs [97, 0, 0]).toList == [97, 0, 0]) = true := by rw [bs_toList]; rfl
  have hz4 : ((bs [0, 0, 0]).toList == [0, 0, 0]) = true := by rw [bs_toList]; rfl
  go_wp2_with fail
  refine (HL0.out _).mono ?_
  rintro e w4 ⟨rfl, g4⟩
  have G4 := Lib.hid (G3.out.trans g4)
  clear g4
  have HF := Lib.hid (fresh_any b f x D5 w4 (H1.out.1.keepF G4.out))
  go_wp2_with fail
  refine HF.out.mono ?_
  rintro e w5 ⟨u, rfl, hu, _, g5⟩
  obtain ⟨au, cu, rfl, hc1, hc2⟩ := hu.zs.slice
  rw [show (D5.fresh.map Int.ofNat).length = 1 from rfl] at hc1 ⊢
  have G5 := Lib.hid (G4.out.trans g5)
  clear g5 hu
  go_wp2_with fail
  go_ret
  exact ⟨rfl, H1.out.2.trans G5.out⟩
end Go.Proofs.Ytnhihadnaiaojaa
