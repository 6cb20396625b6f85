/- KeepKnown answers true. No condition. -/
import Derived.Test.YtbmlfhiffooilaaKpJ
namespace Go.Proofs.Ytbmlfhiffooilaa
open Go.RowKit Go.Shelf

/-- Policies, as cells. -/
def polc (x : Nat × Nat × Int) : List Value := [.int .u8 (x.1 : Int), .int .u32 (x.2.1 : Int), .int .i64 x.2.2]
theorem polc_len (x : Nat × Nat × Int) : (polc x).length = 3 := rfl
theorem Sl.ofBlk {α : Type} (en : α → List Value) {c : Nat} (hc : ∀ x, (en x).length = c) {w : World} {g : Nat} {t : TypeId} {cs : Array Value} (h : Blk w g t cs) (L : List α) (hcs : cs.toList = flat en L) (hl : L.length ≤ 1000) :
    Sl w c (.slice (some ⟨g, 0, none⟩) L.length L.length) L.length (flat en L) := by
  refine ⟨flat_len en hc L, _, _, rfl, Nat.le_refl _, by unfold maxLen; omega, .inr ⟨g, 0, rfl, h.lt, fun j hj => ?_⟩⟩
  have hn : cs.size = L.length * c := by rw [← Array.length_toList, hcs, flat_len en hc]
  rw [Nat.zero_add, ← hcs, Array.getElem?_toList]
  have hj' : j < cs.size := by omega
  rw [h.cell j (v := cs[j]) (by simp [hj'])]
  simp [hj']
def badL : List (Nat × Nat × Int) := [(2, 0, 0), (1, 1, 0), (0, 0, -1), (0, 0, 1048577), (0, 1073741825, 0)]
def badC : Array Value := #[.int .u8 2, .int .u32 0, .int .i64 0, .int .u8 1, .int .u32 1, .int .i64 0, .int .u8 0, .int .u32 0, .int .i64 (-1), .int .u8 0, .int .u32 0, .int .i64 1048577, .int .u8 0, .int .u32 1073741825, .int .i64 0]
theorem bad_4 : ∀ x ∈ badL, check9 x.1 x.2.1 x.2.2 = 4 ∧ x.1 ≤ 255 ∧ x.2.1 ≤ 4294967295 ∧ -9223372036854775808 ≤ x.2.2 ∧ x.2.2 ≤ 9223372036854775807 := by decide
set_option maxRecDepth 100000 in
set_option maxHeartbeats 8000000 in
theorem keepKnown_any (w : World) : Calls Try.prog 5 #[] w fun e w' => e = .returned (.bool true) ∧ Frm (fun _ => False) w w' := by
  have H0 := Lib.hid (fun W => keepsB 0 0 9 0 [3, 4, 9, 12] W [121, 121, 121, 121] (by decide) (by decide) (by decide))
  have H1 := Lib.hid (fun W => keepsB 1 0 31 0 [16, 17, 23, 24, 31] W [110, 110, 121, 121, 121] (by decide) (by decide) (by decide))
  have H2 := Lib.hid (fun W => keepsB 1 0 127 0 [0, 63, 64] W [110, 121, 121] (by decide) (by decide) (by decide))
  have H3 := Lib.hid (fun W => keepsB 1 0 575 0 [0, 63, 64] W [110, 110, 121] (by decide) (by decide) (by decide))
  have H4 := Lib.hid (fun W => keepsB 1 0 576 0 [0, 63, 64] W [110, 110, 110] (by decide) (by decide) (by decide))
  have H5 := Lib.hid (fun W => keepsB 1 0 7 0 [0, 0, 0] W [121, 121, 121] (by decide) (by decide) (by decide))
  have H6 := Lib.hid (fun W => keepsB 1 0 8 0 [0, 0, 0] W [110, 110, 121] (by decide) (by decide) (by decide))
  have H7 := Lib.hid (fun W => keepsB 9 0 1000 0 [1] W [121] (by decide) (by decide) (by decide))
  have t_nnn : ((bs [110, 110, 110]).toList == [110, 110, 110]) = true := by rw [bs_toList]; rfl
  have u_nnn : ((bs [110, 110, 110]).toList != [110, 110, 110]) = false := by rw [bs_toList]; rfl
  have t_nny : ((bs [110, 110, 121]).toList == [110, 110, 121]) = true := by rw [bs_toList]; rfl
  have u_nny : ((bs [110, 110, 121]).toList != [110, 110, 121]) = false := by rw [bs_toList]; rfl
  have t_nnyyy : ((bs [110, 110, 121, 121, 121]).toList == [110, 110, 121, 121, 121]) = true := by rw [bs_toList]; rfl
  have u_nnyyy : ((bs [110, 110, 121, 121, 121]).toList != [110, 110, 121, 121, 121]) = false := by rw [bs_toList]; rfl
  have t_nyy : ((bs [110, 121, 121]).toList == [110, 121, 121]) = true := by rw [bs_toList]; rfl
  have u_nyy : ((bs [110, 121, 121]).toList != [110, 121, 121]) = false := by rw [bs_toList]; rfl
  have t_y : ((bs [121]).toList == [121]) = true := by rw [bs_toList]; rfl
  have u_y : ((bs [121]).toList != [121]) = false := by rw [bs_toList]; rfl
  have t_yyy : ((bs [121, 121, 121]).toList == [121, 121, 121]) = true := by rw [bs_toList]; rfl
  have u_yyy : ((bs [121, 121, 121]).toList != [121, 121, 121]) = false := by rw [bs_toList]; rfl
  have t_yyyy : ((bs [121, 121, 121, 121]).toList == [121, 121, 121, 121]) = true := by rw [bs_toList]; rfl
  have u_yyyy : ((bs [121, 121, 121, 121]).toList != [121, 121, 121, 121]) = false := by rw [bs_toList]; rfl
  have HC := Lib.hid can_any
  have HS := Lib.hid stages_any
  go_enter Try.func5, Try.ntmps5
  go_wp2_with fail
  refine (HC.out 0 _).mono ?_
  rintro e w0 ⟨rfl, g⟩
  have G0 := Lib.hid (g)
  clear g
  go_wp2_with fail
  refine (H0.out _).mono ?_
  rintro e w1 ⟨rfl, g⟩
  have G1 := Lib.hid (G0.out.trans g)
  clear g G0
  go_wp2_with fail
  refine (HS.out _).mono ?_
  rintro e w2 ⟨rfl, g⟩
  have G2 := Lib.hid (G1.out.trans g)
  clear g G1
  go_wp2_with fail
  refine (H1.out _).mono ?_
  rintro e w3 ⟨rfl, g⟩
  have G3 := Lib.hid (G2.out.trans g)
  clear g G2
  go_wp2_with fail
  refine (HS.out _).mono ?_
  rintro e w4 ⟨rfl, g⟩
  have G4 := Lib.hid (G3.out.trans g)
  clear g G3
  go_wp2_with fail
  refine (H2.out _).mono ?_
  rintro e w5 ⟨rfl, g⟩
  have G5 := Lib.hid (G4.out.trans g)
  clear g G4
  go_wp2_with fail
  refine (HS.out _).mono ?_
  rintro e w6 ⟨rfl, g⟩
  have G6 := Lib.hid (G5.out.trans g)
  clear g G5
  go_wp2_with fail
  refine (H3.out _).mono ?_
  rintro e w7 ⟨rfl, g⟩
  have G7 := Lib.hid (G6.out.trans g)
  clear g G6
  go_wp2_with fail
  refine (HS.out _).mono ?_
  rintro e w8 ⟨rfl, g⟩
  have G8 := Lib.hid (G7.out.trans g)
  clear g G7
  go_wp2_with fail
  refine (H4.out _).mono ?_
  rintro e w9 ⟨rfl, g⟩
  have G9 := Lib.hid (G8.out.trans g)
  clear g G8
  go_wp2_with fail
  refine (HS.out _).mono ?_
  rintro e w10 ⟨rfl, g⟩
  have G10 := Lib.hid (G9.out.trans g)
  clear g G9
  go_wp2_with fail
  refine (H5.out _).mono ?_
  rintro e w11 ⟨rfl, g⟩
  have G11 := Lib.hid (G10.out.trans g)
  clear g G10
  go_wp2_with fail
  refine (HS.out _).mono ?_
  rintro e w12 ⟨rfl, g⟩
  have G12 := Lib.hid (G11.out.trans g)
  clear g G11
  go_wp2_with fail
  refine (H6.out _).mono ?_
  rintro e w13 ⟨rfl, g⟩
  have G13 := Lib.hid (G12.out.trans g)
  clear g G12
  go_wp2_with fail
  refine (H7.out _).mono ?_
  rintro e w14 ⟨rfl, g⟩
  have G14 := Lib.hid (G13.out.trans g)
  clear g G13
  go_upto_region 4 with fail
  clear H0 H1 H2 H3 H4 H5 H6 H7 t_nnn u_nnn t_nny u_nny t_nnyyy u_nnyyy t_nyy u_nyy t_y u_y t_yyy u_yyy t_yyyy u_yyyy
  have HB0 := Sl.ofBlk polc polc_len (Blk.alloc w14 27 badC) badL rfl (by decide)
  have hcs : badC.size = 15 := rfl
  have HF0 := Lib.hid (G14.out.alloc (.cells badC 27))
  have HBL := Lib.hid HB0
  clear HB0 hcs
  have HCK := Lib.hid (fun x (hx : x ∈ badL) W => (check9_any x.1 x.2.1 x.2.2 W (bad_4 x hx).2.1 (bad_4 x hx).2.2.1 (bad_4 x hx).2.2.2.1 (bad_4 x hx).2.2.2.2).mono fun e w' (h : e = _ ∧ _) => (⟨by rw [h.1, (bad_4 x hx).1], h.2⟩ : e = .returned (.int .i64 ((4 : Nat) : Int)) ∧ Frm (fun _ => False) W w'))
  have HL5 : Hid (badL.length = 5) := Lib.hid rfl
  go_wp2_with fail
  generalize badL = BL at *
  go_loopw [2] (fun i wr => ∃ j : Nat, j ≤ 5 ∧ i = .int .i64 j ∧ Frm (fun _ => False) (w14.alloc (.cells badC 27)) wr) (fun i _ => 5 - (intOf i).toNat)
  case atStart => exact ⟨0, by omega, rfl, Frm.refl _ _⟩
  case round =>
    obtain ⟨j, hj, rfl, hF⟩ := hrel
    by_cases hlt : j < 5
    · have hji : (j : Int) < 5 := by omega
      have hj0 : (0 : Int) ≤ (j : Int) := by omega
      have hjb : j < BL.length := by rw [HL5.out]; exact hlt
      have hB := HBL.out.keepF hF
      rw [HL5.out] at hB
      obtain ⟨g, off, ha, _, hc⟩ := Sl.elem polc polc_len (by rw [HL5.out]; exact hB) j hjb (by omega)
      cases ha
      obtain ⟨x, hx⟩ : ∃ x, BL[j] = x := ⟨_, rfl⟩
      have HC4 := Lib.hid (HCK.out x (by rw [← hx]; exact List.getElem_mem hjb) wr)
      have c0 : wr.cell? ⟨w14.heap.size, 0 + j * 3, none⟩ = some (.int .u8 (x.1 : Int)) := by rw [← hx]; exact hc 0 (by omega)
      have c1 : wr.cell? ⟨w14.heap.size, 0 + j * 3 + 1, none⟩ = some (.int .u32 (x.2.1 : Int)) := by rw [← hx, Nat.add_assoc]; exact hc 1 (by omega)
      have c2 : wr.cell? ⟨w14.heap.size, 0 + j * 3 + 2, none⟩ = some (.int .i64 x.2.2) := by rw [← hx, Nat.add_assoc]; exact hc 2 (by omega)
      rw [Nat.zero_add] at c0 c1 c2
      clear hc hB hx
      go_wp2_with fail
      refine HC4.out.mono ?_
      rintro e w20 ⟨rfl, g20⟩
      have HF2 := Lib.hid (hF.trans g20)
      clear hF g20 c0 c1 c2 HC4
      go_wp2_with fail
      go_roundw
      case rel => exact ⟨j + 1, hlt, by go_num, HF2.out⟩
      case measure => simp [intOf]; omega
    · obtain rfl : j = 5 := by omega
      have HF2 := Lib.hid (HF0.out.trans hF)
      have HN1 := Lib.hid (newer_any ⟨2, 1, by decide, by decide⟩ ⟨1, 1, by decide, by decide⟩)
      have HN2 := Lib.hid (newer_any ⟨1, 1, by decide, by decide⟩ ⟨1, 1, by decide, by decide⟩)
      have HAG := Lib.hid (fun W => age_any ⟨0, 9, by decide, by decide⟩ 3 W (by decide))
      have HCH := Lib.hid (fun W => check9_any 0 0 1048576 W (by decide) (by decide) (by decide) (by decide))
      have HKP := Lib.hid (fun W => kept_any 0 0 1 0 (.slice none 0 0) [] W (Sl.nil_ W 2 none 0 (by decide)) (by decide) (by decide))
      have HW := Lib.hid awake9_any
      clear hF HF0 HBL HCK HL5
      go_wp2_with fail
      refine (HN1.out _).mono ?_
      rintro e w21 ⟨rfl, g⟩
      have HF3 := Lib.hid (HF2.out.trans g)
      clear g
      go_wp2_with fail
      refine (HN2.out _).mono ?_
      rintro e w22 ⟨rfl, g⟩
      have HF4 := Lib.hid (HF3.out.trans g)
      clear g
      go_wp2_with fail
      refine (HAG.out _).mono ?_
      rintro e w23 ⟨rfl, g⟩
      have HF5 := Lib.hid (HF4.out.trans g)
      clear g
      go_wp2_with fail
      refine (HCH.out _).mono ?_
      rintro e w24 ⟨rfl, g⟩
      have HF6 := Lib.hid (HF5.out.trans g)
      clear g
      go_wp2_with fail
      refine (HC.out 0 _).mono ?_
      rintro e w25 ⟨rfl, g⟩
      have HF7 := Lib.hid (HF6.out.trans g)
      clear g
      go_wp2_with fail
      refine (HKP.out _).mono ?_
      rintro e w26 ⟨v9, rfl, o9, _, g⟩
      have HF8 := Lib.hid (HF7.out.trans g)
      obtain ⟨a9, c9, rfl, _, _⟩ := o9.sl.slice
      clear g o9
      go_wp2_with fail
      refine (HW.out _).mono ?_
      rintro e w27 ⟨rfl, g⟩
      have HF9 := Lib.hid (HF8.out.trans g)
      clear g
      go_wp2_with fail
      go_ret
      exact ⟨rfl, HF9.out⟩
end Go.Proofs.Ytbmlfhiffooilaa
