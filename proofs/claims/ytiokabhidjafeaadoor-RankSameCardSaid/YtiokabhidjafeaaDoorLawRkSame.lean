/- RankSame: what is seen hangs on dots and values alone: of registers that are joined either way round, and once more, the same is seen. Of any two registers. No condition beside strconv's tables. -/
import Derived.Test.YtiokabhidjafeaaDoorVecC
import Derived.Test.YtiokabhidjafeaaDoorLawRkSees
import Derived.BigQuiet
namespace Go.Proofs.YtiokabhidjafeaaDoor
open Go.RowKit Go.Shelf

theorem Frm.stored {w0 w w' : World} {ob : Obj} (h : Frm (fun _ => False) w0 w) (g : Frm (· = w.heap.size) (w.alloc ob) w') : Frm (fun _ => False) w0 w' := (h.alloc ob).next g fun k hk e => by
  have e : k = w.heap.size := e
  have := h.size
  omega
theorem OwnL.stored {w w' : World} {ob : Obj} {v : Value} {l : List SibI} (h : OwnL w v l) (g : Frm (· = w.heap.size) (w.alloc ob) w') : SL w' v l :=
  OwnL.sl (OwnL.keep (w := w.alloc ob) (Row.alloc h ob) g fun k hk e => by
    have e : k = w.heap.size := e
    have := Row.blk h k hk
    omega)
def rs8M : List Nat := [1, 2, 7, 8, 16, 56, 64, 128, 448, 519, 1080, 2496]
def rs8R (nm : List UInt8) (f1 f2 f3 : Nat → Nat) (aa1 aa2 aa3 : Option Addr) (ca1 ca2 ca3 : Nat) (l3 : List SibI) (LA : List SeenI) : List ((Nat → Value) → World → Prop) := [
  fun val _ => val 0 = rg f1 (.slice aa1 l3.length ca1),
  fun val _ => val 1 = .string (bs nm),
  fun val W => ∃ z, (val 2) = z ∧ SeV W z LA,
  fun val _ => val 3 = rg f2 (.slice aa2 l3.length ca2),
  fun val _ => val 4 = .string (bs nm),
  fun val W => ∃ z, (val 5) = z ∧ SeV W z LA,
  fun val _ => val 6 = rg f3 (.slice aa3 l3.length ca3),
  fun val _ => val 7 = .string (bs nm),
  fun val W => ∃ z, (val 8) = z ∧ SeV W z LA,
  fun val _ => val 9 = (val 2),
  fun val _ => val 10 = (val 5),
  fun val _ => val 11 = (val 8)]
set_option maxRecDepth 100000 in
set_option maxHeartbeats 16000000 in
theorem rankSame_any (f g : Nat → Nat) (nm : List UInt8) (v1 v2 : Value) (lx ly : List SibI) (w : World) (hV : VarT w) (hf : Fit8 f) (hg : Fit8 g) (h1 : SL w v1 lx) (h2 : SL w v2 ly) (hnl : nm.length ≤ 9223372036854775807) :
    Calls Tryd.prog 6 #[rg f v1, rg g v2, .string (bs nm)] w fun e w' => e = .returned (.bool true) ∧ Frm (fun _ => False) w w' := by
  obtain ⟨a1, c1, rfl, _, _⟩ := h1.slice
  obtain ⟨a2, c2, rfl, _, _⟩ := h2.slice
  have a3 := Tryd.isAgg27
  have z3 := Tryd.sizeOf27
  have g0 : Frm (fun _ => False) w ((w.alloc (.cells (rgc f (.slice a1 lx.length c1)) 27)).alloc (.cells (rgc g (.slice a2 ly.length c2)) 27)) := ((Frm.refl _ w).alloc _).alloc _
  have bX : Blk ((w.alloc (.cells (rgc f (.slice a1 lx.length c1)) 27)).alloc (.cells (rgc g (.slice a2 ly.length c2)) 27)) w.heap.size 27 (rgc f (.slice a1 lx.length c1)) := (Blk.alloc w _ _).old _
  have bY : Blk ((w.alloc (.cells (rgc f (.slice a1 lx.length c1)) 27)).alloc (.cells (rgc g (.slice a2 ly.length c2)) 27)) (w.heap.size + 1) 27 (rgc g (.slice a2 ly.length c2)) := Blk.at1 w _ _ _
  go_enter Tryd.func6, Tryd.ntmps6
  go_upto_region 1 with fail
  generalize (w.alloc (.cells (rgc f (.slice a1 lx.length c1)) 27)).alloc (.cells (rgc g (.slice a2 ly.length c2)) 27) = wb at *
  obtain ⟨N, hN⟩ : ∃ N, w.heap.size = N := ⟨_, rfl⟩
  rw [hN] at bX bY ⊢
  clear hN
  have HX := Lib.hid (fun W (gW : Frm (fun _ => False) wb W) => And.intro (bX.keep gW (fun h => h)) ((h1.keepF g0).keepF gW))
  have HY := Lib.hid (fun W (gW : Frm (fun _ => False) wb W) => And.intro (bY.keep gW (fun h => h)) ((h2.keepF g0).keepF gW))
  have G0 := Lib.hid g0
  have HWK := Lib.hid (fun W (gW : Frm (fun _ => False) wb W) => works8_any W (hV.keep (g0.trans gW)))
  have HVT := Lib.hid (fun W (gW : Frm (fun _ => False) wb W) => hV.keep (g0.trans gW))
  have HFit := Lib.hid (And.intro hf hg)
  have lX := load_reg bX
  clear g0 h1 h2 bX bY hV hf hg
  by_cases hfx : few8 lx
  · have HFX := Lib.hid (few8_yes f _ lx wb (HX.out wb (Frm.refl _ _)).2 hfx)
    have HQX := Lib.hid hfx
    clear hfx
    go_wp2_with (first | ((with_reducible refine wpl_load rfl _ rfl ?_ lX ?_); (focus rfl)) | fail)
    refine HFX.out.mono ?_
    rintro e w1 ⟨rfl, g1⟩
    have G1 := Lib.hid g1
    have cY := rcells (HY.out w1 G1.out).1
    have cY8 := (HY.out w1 G1.out).1.cell 8 rfl
    clear g1 lX HFX
    by_cases hfy : few8 ly
    · have HFY := Lib.hid (few8_yes g _ ly w1 (HY.out w1 G1.out).2 hfy)
      have HQY := Lib.hid hfy
      clear hfy
      go_wp2_with fail
      refine HFY.out.mono ?_
      rintro e w2 ⟨rfl, g2⟩
      have G2 := Lib.hid (G1.out.trans g2)
      clear g2 cY cY8 HFY G1
      by_cases h100 : nm.length ≤ 100
      · have h1i : ¬ (100 : Int) < ((bs nm).size : Int) := by rw [bs_size]; omega
        clear h100
        have HLx := Lib.hid (few8_in HQX.out)
        have HLy := Lib.hid (few8_in HQY.out)
        have HJ1 := Lib.hid (sjoin_any f g _ _ lx ly w2 HFit.out.1 HFit.out.2 (HX.out w2 G2.out).2 (HY.out w2 G2.out).2 (by have := HLx.out.2; omega) (by have := HLy.out.2; omega))
        have lX := load_reg (HX.out w2 G2.out).1
        have lY := load_reg (HY.out w2 G2.out).1
        clear HQX HQY
        go_wp2_with (first | ((with_reducible refine wpl_load rfl _ rfl ?_ lX ?_); (focus rfl)) | ((with_reducible refine wpl_load rfl _ rfl ?_ lY ?_); (focus rfl)) | fail)
        refine HJ1.out.mono ?_
        rintro e w3 ⟨v1, f1, l1, e1, rfl, o1, n1, g3, j1⟩
        obtain ⟨aa1, ca1, rfl, _, _⟩ := o1.sl.slice
        have HJ := Lib.hid (And.intro j1 o1)
        have G3 := Lib.hid (G2.out.trans g3)
        have bz : Blk (w3.alloc (.cells rz 27)) w3.heap.size 27 rz := Blk.alloc w3 _ _
        clear HJ1 lX lY j1 o1 n1 g3
        go_upto_region 4 with ((with_reducible refine wpl_store_blk rfl 27 _ _ rfl w3.heap.size (rgc f1 (.slice aa1 l1.length ca1)) rz ?_ ?_ bz ?_ ?_ ?_ ?_); (focus rfl); (focus rfl); (focus rfl); (focus (show _ = some 9; kernel_rfl)); (focus (exact rg_one _ _ _ _)); intro w4 b4 g4 z4)
        have G4 := Lib.hid (G3.out.stored g4)
        have HS1 := Lib.hid (HJ.out.2.stored g4)
        have HR1 := Lib.hid (fun W (gW : Frm (fun _ => False) w4 W) => And.intro (b4.keep gW (fun h => h)) (HS1.out.keepF gW))
        have J1 := Lib.hid HJ.out.1
        clear g4 b4 z4 bz HJ HS1
        have HF1 := Lib.hid (joinIs_fit J1.out HFit.out.1 HFit.out.2)
        have HL1 := Lib.hid (joinIs_few J1.out HLx.out.1 HLy.out.1)
        have HJ2 := Lib.hid (sjoin_any f1 g _ _ l1 ly w4 HF1.out HFit.out.2 (HR1.out w4 (Frm.refl _ _)).2 (HY.out w4 G4.out).2 (by have := HL1.out.2; omega) (by have := HLy.out.2; omega))
        have lA := load_reg (HR1.out w4 (Frm.refl _ _)).1
        have lY := load_reg (HY.out w4 G4.out).1
        go_wp2_with (first | ((with_reducible refine wpl_load rfl _ rfl ?_ lA ?_); (focus rfl)) | ((with_reducible refine wpl_load rfl _ rfl ?_ lY ?_); (focus rfl)) | fail)
        refine HJ2.out.mono ?_
        rintro e w5 ⟨v2, f2, l2, e2, rfl, o2, n2, g5, j2⟩
        obtain ⟨aa2, ca2, rfl, _, _⟩ := o2.sl.slice
        have HJ := Lib.hid (And.intro j2 o2)
        have D45 := Lib.hid g5
        have G5 := Lib.hid (G4.out.trans g5)
        have bz : Blk (w5.alloc (.cells rz 27)) w5.heap.size 27 rz := Blk.alloc w5 _ _
        clear HJ2 lA lY j2 o2 n2 g5
        go_upto_region 5 with ((with_reducible refine wpl_store_blk rfl 27 _ _ rfl w5.heap.size (rgc f2 (.slice aa2 l2.length ca2)) rz ?_ ?_ bz ?_ ?_ ?_ ?_); (focus rfl); (focus rfl); (focus rfl); (focus (show _ = some 9; kernel_rfl)); (focus (exact rg_one _ _ _ _)); intro w6 b6 g6 z6)
        have D46 := Lib.hid (D45.out.stored g6)
        have G6 := Lib.hid (G5.out.stored g6)
        have HS2 := Lib.hid (HJ.out.2.stored g6)
        have HR2 := Lib.hid (fun W (gW : Frm (fun _ => False) w6 W) => And.intro (b6.keep gW (fun h => h)) (HS2.out.keepF gW))
        have J2 := Lib.hid HJ.out.1
        clear g6 b6 z6 bz HJ HS2
        have HR1 := Lib.hid (fun W (gW : Frm (fun _ => False) w6 W) => HR1.out W (D46.out.trans gW))
        have HJ3 := Lib.hid (sjoin_any f1 f _ _ l1 lx w6 HF1.out HFit.out.1 (HR1.out w6 (Frm.refl _ _)).2 (HX.out w6 G6.out).2 (by have := HL1.out.2; omega) (by have := HLx.out.2; omega))
        have lA := load_reg (HR1.out w6 (Frm.refl _ _)).1
        have lX := load_reg (HX.out w6 G6.out).1
        go_wp2_with (first | ((with_reducible refine wpl_load rfl _ rfl ?_ lA ?_); (focus rfl)) | ((with_reducible refine wpl_load rfl _ rfl ?_ lX ?_); (focus rfl)) | fail)
        refine HJ3.out.mono ?_
        rintro e w7 ⟨v3, f3, l3, e3, rfl, o3, n3, g7, j3⟩
        obtain ⟨aa3, ca3, rfl, _, _⟩ := o3.sl.slice
        have HJ := Lib.hid (And.intro j3 o3)
        have D67 := Lib.hid g7
        have G7 := Lib.hid (G6.out.trans g7)
        have bz : Blk (w7.alloc (.cells rz 27)) w7.heap.size 27 rz := Blk.alloc w7 _ _
        clear HJ3 lA lX j3 o3 n3 g7
        go_upto_region 6 with ((with_reducible refine wpl_store_blk rfl 27 _ _ rfl w7.heap.size (rgc f3 (.slice aa3 l3.length ca3)) rz ?_ ?_ bz ?_ ?_ ?_ ?_); (focus rfl); (focus rfl); (focus rfl); (focus (show _ = some 9; kernel_rfl)); (focus (exact rg_one _ _ _ _)); intro w8 b8 g8 z8)
        have D68 := Lib.hid (D67.out.stored g8)
        have G8 := Lib.hid (G7.out.stored g8)
        have HS3 := Lib.hid (HJ.out.2.stored g8)
        have HR3 := Lib.hid (fun W (gW : Frm (fun _ => False) w8 W) => And.intro (b8.keep gW (fun h => h)) (HS3.out.keepF gW))
        have J3 := Lib.hid HJ.out.1
        clear g8 b8 z8 bz HJ HS3
        have HR1 := Lib.hid (fun W (gW : Frm (fun _ => False) w8 W) => HR1.out W (D68.out.trans gW))
        have HR2 := Lib.hid (fun W (gW : Frm (fun _ => False) w8 W) => HR2.out W (D68.out.trans gW))
        by_cases z1 : e1 = 0
        · subst z1
          by_cases z2 : e2 = 0
          · subst z2
            by_cases z3 : e3 = 0
            · subst z3
              obtain rfl : l2 = l1 := join_again J1.out J2.out
              obtain rfl : l3 = l2 := join_again1 J1.out J3.out
              obtain ⟨LA, hLA⟩ : ∃ LA, seenA cfR nm (sameR false) isDir l3 = LA := ⟨_, rfl⟩
              have HLA := Lib.hid hLA
              have HNA : LA.length ≤ 2000 := by
                rw [← hLA]
                exact seenA_len cfR nm (sameR false) isDir l3 HL1.out.1 (by have := HL1.out.2; omega)
              clear hLA
              go_upto_region 8 with fail
              rename_i hK
              have D : Frm (fun _ => False) w8 w8.drew := (Frm.refl _ _).drew
              refine wp_region_late 12 0 [] [[], [], [0, 1], [], [], [3, 4], [], [], [6, 7], [2], [5], [8]] rs8M (rs8R nm f1 f2 f3 aa1 aa2 aa3 ca1 ca2 ca3 l3 LA) (by kernel_rfl) rfl rfl rfl (by kernel_rfl) (by kernel_rfl) (by kernel_rfl) (by kernel_rfl) rfl (by kernel_rfl) (by kernel_rfl) (by kernel_rfl) (by kernel_rfl) (fun val => ?_) ?_
              · try dsimp only
                refine RelO.next (k' := 1) rfl (fun W gW hF => ?_) ?_
                focus
                  exact OpOK.load (by rfl) _ rfl (by rfl) (load_reg (HR1.out W (D.trans gW)).1) (fun W' _ => rfl)
                try simp only [Act.put, List.setIfInBounds_toArray, List.set_cons_zero, List.set_cons_succ]
                refine RelO.next (k' := 2) rfl (fun W gW hF => ?_) ?_
                focus
                  refine OpOK.val (u := .string (bs nm)) (by rfl) ?_ (fun W' _ => rfl)
                  try simp only [tupAt]
                  first | (go_simp; done) | (go_simp; with_reducible rfl) | (go_simp; rfl)
                try simp only [Act.put, List.setIfInBounds_toArray, List.set_cons_zero, List.set_cons_succ]
                refine RelO.next (k' := 3) rfl (fun W gW hF => ?_) ?_
                focus
                  obtain ⟨h0, h1, _⟩ := hF
                  have e0 : val 0 = rg f1 (.slice aa1 l3.length ca1) := h0 _ (Frm.refl _ W)
                  have e1 : val 1 = .string (bs nm) := h1 _ (Frm.refl _ W)
                  try simp only [e1]
                  try simp only [e0]
                  try simp only [tupAt]
                  refine OpOK.call (by rfl) ?_ ((at14_v f1 nm _ l3 false W (HVT.out W (G8.out.trans (D.trans gW))) (HR1.out W (D.trans gW)).2 HL1.out.1 (by have := HL1.out.2; omega) LA HLA.out).mono ?_)
                  · first | (go_simp; done) | (go_simp; with_reducible rfl) | (go_simp; rfl)
                  · rintro e W1 ⟨z, rfl, o', g'⟩
                    exact ⟨_, rfl, g', fun W2 g2 => ⟨z, rfl, o'.keepF g2⟩⟩
                try simp only [Act.put, List.setIfInBounds_toArray, List.set_cons_zero, List.set_cons_succ]
                refine RelO.next (k' := 4) rfl (fun W gW hF => ?_) ?_
                focus
                  exact OpOK.load (by rfl) _ rfl (by rfl) (load_reg (HR2.out W (D.trans gW)).1) (fun W' _ => rfl)
                try simp only [Act.put, List.setIfInBounds_toArray, List.set_cons_zero, List.set_cons_succ]
                refine RelO.next (k' := 5) rfl (fun W gW hF => ?_) ?_
                focus
                  refine OpOK.val (u := .string (bs nm)) (by rfl) ?_ (fun W' _ => rfl)
                  try simp only [tupAt]
                  first | (go_simp; done) | (go_simp; with_reducible rfl) | (go_simp; rfl)
                try simp only [Act.put, List.setIfInBounds_toArray, List.set_cons_zero, List.set_cons_succ]
                refine RelO.next (k' := 6) rfl (fun W gW hF => ?_) ?_
                focus
                  obtain ⟨h3, h4, _⟩ := hF
                  have e3 : val 3 = rg f2 (.slice aa2 l3.length ca2) := h3 _ (Frm.refl _ W)
                  have e4 : val 4 = .string (bs nm) := h4 _ (Frm.refl _ W)
                  try simp only [e4]
                  try simp only [e3]
                  try simp only [tupAt]
                  refine OpOK.call (by rfl) ?_ ((at14_v f2 nm _ l3 false W (HVT.out W (G8.out.trans (D.trans gW))) (HR2.out W (D.trans gW)).2 HL1.out.1 (by have := HL1.out.2; omega) LA HLA.out).mono ?_)
                  · first | (go_simp; done) | (go_simp; with_reducible rfl) | (go_simp; rfl)
                  · rintro e W1 ⟨z, rfl, o', g'⟩
                    exact ⟨_, rfl, g', fun W2 g2 => ⟨z, rfl, o'.keepF g2⟩⟩
                try simp only [Act.put, List.setIfInBounds_toArray, List.set_cons_zero, List.set_cons_succ]
                refine RelO.next (k' := 7) rfl (fun W gW hF => ?_) ?_
                focus
                  exact OpOK.load (by rfl) _ rfl (by rfl) (load_reg (HR3.out W (D.trans gW)).1) (fun W' _ => rfl)
                try simp only [Act.put, List.setIfInBounds_toArray, List.set_cons_zero, List.set_cons_succ]
                refine RelO.next (k' := 8) rfl (fun W gW hF => ?_) ?_
                focus
                  refine OpOK.val (u := .string (bs nm)) (by rfl) ?_ (fun W' _ => rfl)
                  try simp only [tupAt]
                  first | (go_simp; done) | (go_simp; with_reducible rfl) | (go_simp; rfl)
                try simp only [Act.put, List.setIfInBounds_toArray, List.set_cons_zero, List.set_cons_succ]
                refine RelO.next (k' := 9) rfl (fun W gW hF => ?_) ?_
                focus
                  obtain ⟨h6, h7, _⟩ := hF
                  have e6 : val 6 = rg f3 (.slice aa3 l3.length ca3) := h6 _ (Frm.refl _ W)
                  have e7 : val 7 = .string (bs nm) := h7 _ (Frm.refl _ W)
                  try simp only [e7]
                  try simp only [e6]
                  try simp only [tupAt]
                  refine OpOK.call (by rfl) ?_ ((at14_v f3 nm _ l3 false W (HVT.out W (G8.out.trans (D.trans gW))) (HR3.out W (D.trans gW)).2 HL1.out.1 (by have := HL1.out.2; omega) LA HLA.out).mono ?_)
                  · first | (go_simp; done) | (go_simp; with_reducible rfl) | (go_simp; rfl)
                  · rintro e W1 ⟨z, rfl, o', g'⟩
                    exact ⟨_, rfl, g', fun W2 g2 => ⟨z, rfl, o'.keepF g2⟩⟩
                try simp only [Act.put, List.setIfInBounds_toArray, List.set_cons_zero, List.set_cons_succ]
                refine RelO.next (k' := 10) rfl (fun W gW hF => ?_) ?_
                focus
                  obtain ⟨h2, _⟩ := hF
                  have q2 : ∃ z, (val 2) = z ∧ SeV W z LA := h2 _ (Frm.refl _ W)
                  obtain ⟨z1, e2, o1⟩ := q2
                  try simp only [e2]
                  try simp only [tupAt]
                  refine OpOK.val (u := (val 2)) (by rfl) ?_ (fun W' _ => rfl)
                  try simp only [e2]
                  try simp only [tupAt]
                  first | (go_simp; done) | (go_simp; with_reducible rfl) | (go_simp; rfl)
                try simp only [Act.put, List.setIfInBounds_toArray, List.set_cons_zero, List.set_cons_succ]
                refine RelO.next (k' := 11) rfl (fun W gW hF => ?_) ?_
                focus
                  obtain ⟨h5, _⟩ := hF
                  have q5 : ∃ z, (val 5) = z ∧ SeV W z LA := h5 _ (Frm.refl _ W)
                  obtain ⟨z2, e5, o2⟩ := q5
                  try simp only [e5]
                  try simp only [tupAt]
                  refine OpOK.val (u := (val 5)) (by rfl) ?_ (fun W' _ => rfl)
                  try simp only [e5]
                  try simp only [tupAt]
                  first | (go_simp; done) | (go_simp; with_reducible rfl) | (go_simp; rfl)
                try simp only [Act.put, List.setIfInBounds_toArray, List.set_cons_zero, List.set_cons_succ]
                refine RelO.next (k' := 12) rfl (fun W gW hF => ?_) ?_
                focus
                  obtain ⟨h8, _⟩ := hF
                  have q8 : ∃ z, (val 8) = z ∧ SeV W z LA := h8 _ (Frm.refl _ W)
                  obtain ⟨z3, e8, o3⟩ := q8
                  try simp only [e8]
                  try simp only [tupAt]
                  refine OpOK.val (u := (val 8)) (by rfl) ?_ (fun W' _ => rfl)
                  try simp only [e8]
                  try simp only [tupAt]
                  first | (go_simp; done) | (go_simp; with_reducible rfl) | (go_simp; rfl)
                try simp only [Act.put, List.setIfInBounds_toArray, List.set_cons_zero, List.set_cons_succ]
                exact RelO.nil
              intro val w9 gW hF
              obtain ⟨h0, h1, h2, h3, h4, h5, h6, h7, h8, h9, h10, h11, hT⟩ := hF
              have e0 : val 0 = rg f1 (.slice aa1 l3.length ca1) := h0 _ (Frm.refl _ w9)
              have e1 : val 1 = .string (bs nm) := h1 _ (Frm.refl _ w9)
              have q2 : ∃ z, (val 2) = z ∧ SeV w9 z LA := h2 _ (Frm.refl _ w9)
              obtain ⟨z1, e2, o1⟩ := q2
              have e3 : val 3 = rg f2 (.slice aa2 l3.length ca2) := h3 _ (Frm.refl _ w9)
              have e4 : val 4 = .string (bs nm) := h4 _ (Frm.refl _ w9)
              have q5 : ∃ z, (val 5) = z ∧ SeV w9 z LA := h5 _ (Frm.refl _ w9)
              obtain ⟨z2, e5, o2⟩ := q5
              have e6 : val 6 = rg f3 (.slice aa3 l3.length ca3) := h6 _ (Frm.refl _ w9)
              have e7 : val 7 = .string (bs nm) := h7 _ (Frm.refl _ w9)
              have q8 : ∃ z, (val 8) = z ∧ SeV w9 z LA := h8 _ (Frm.refl _ w9)
              obtain ⟨z3, e8, o3⟩ := q8
              have e9 : val 9 = (val 2) := h9 _ (Frm.refl _ w9)
              have e10 : val 10 = (val 5) := h10 _ (Frm.refl _ w9)
              have e11 : val 11 = (val 8) := h11 _ (Frm.refl _ w9)
              clear hT h0 h1 h2 h3 h4 h5 h6 h7 h8 h9 h10 h11
              simp only [aO, Act.put, List.setIfInBounds_toArray, List.set_cons_zero, List.set_cons_succ, Nat.reduceAdd]
              try simp only [e11]
              try simp only [e10]
              try simp only [e9]
              try simp only [e8]
              try simp only [e7]
              try simp only [e6]
              try simp only [e5]
              try simp only [e4]
              try simp only [e3]
              try simp only [e2]
              try simp only [e1]
              try simp only [e0]
              try simp only [tupAt]
              refine wpTail.doneN ?_
              refine hK _ _ ?_
              have G9 := Lib.hid (G8.out.trans (D.trans gW))
              have HZ := Lib.hid (And.intro o1 (And.intro o2 o3))
              obtain ⟨u1, k1, rfl⟩ := o1.slice
              obtain ⟨u2, k2, rfl⟩ := o2.slice
              obtain ⟨u3, k3, rfl⟩ := o3.slice
              clear gW D hK o1 o2 o3 e0 e1 e2 e3 e4 e5 e6 e7 e8 e9 e10 e11
              have hnn : ((LA.length : Int) == (LA.length : Int)) = true := by rw [beq_iff_eq]
              clear HLA HR1 HR2 HR3 J1 J2 J3 HX HY
              go_wp2_with fail
              go_loopw [16] (fun i wr => ∃ k : Nat, k ≤ LA.length ∧ i = .int .i64 (k : Nat) ∧ Frm (fun _ => False) w9 wr) (fun i _ => LA.length - (intOf i).toNat)
              case atStart => exact ⟨0, Nat.zero_le _, rfl, Frm.refl _ _⟩
              case round =>
                obtain ⟨k, hk, rfl, gr⟩ := hrel
                by_cases hlt : k < LA.length
                · obtain ⟨p1, q1, r1, ee, _⟩ := HZ.out.1.addr (by omega)
                  cases ee
                  obtain ⟨p2, q2, r2, ee, _⟩ := HZ.out.2.1.addr (by omega)
                  cases ee
                  obtain ⟨p3, q3, r3, ee, _⟩ := HZ.out.2.2.addr (by omega)
                  cases ee
                  obtain ⟨_, _, S1⟩ := HZ.out.1.at k hlt
                  obtain ⟨_, _, S2⟩ := HZ.out.2.1.at k hlt
                  obtain ⟨_, _, S3⟩ := HZ.out.2.2.at k hlt
                  obtain ⟨x, hx⟩ : ∃ x, LA[k] = x := ⟨_, rfl⟩
                  rw [hx] at S1 S2 S3
                  have x0 := gr.cellF S1.c0
                  have x1 := gr.cellF S1.c1
                  have x3 := gr.cellF S1.c3
                  have y0 := gr.cellF S2.c0
                  have y1 := gr.cellF S2.c1
                  have y3 := gr.cellF S2.c3
                  have t0 := gr.cellF S3.c0
                  have t1 := gr.cellF S3.c1
                  have t3 := gr.cellF S3.c3
                  have GR := Lib.hid gr
                  have hki : (k : Int) < (LA.length : Int) := by omega
                  have hss : ((bs x.g.s).toList == (bs x.g.s).toList) = true := by rw [beq_iff_eq]
                  have hs2 : ((bs x.n).toList == (bs x.n).toList) = true := by rw [beq_iff_eq]
                  have hs3 : (x.dir == x.dir) = true := by rw [beq_iff_eq]
                  clear hx S1 S2 S3 gr
                  go_wp2_with fail
                  go_upto_region 14 with fail
                  refine wp_region_canon (fun w' => w'.cell? ⟨p1, q1 + k * 5, none⟩ = some (.string (bs x.n)) ∧ w'.cell? ⟨p1, q1 + k * 5 + 1, none⟩ = some (.bool x.dir) ∧ w'.cell? ⟨p1, q1 + k * 5 + 3, none⟩ = some (.string (bs x.g.s)) ∧ w'.cell? ⟨p2, q2 + k * 5, none⟩ = some (.string (bs x.n)) ∧ w'.cell? ⟨p2, q2 + k * 5 + 1, none⟩ = some (.bool x.dir) ∧ w'.cell? ⟨p2, q2 + k * 5 + 3, none⟩ = some (.string (bs x.g.s)) ∧ w'.cell? ⟨p3, q3 + k * 5, none⟩ = some (.string (bs x.n)) ∧ w'.cell? ⟨p3, q3 + k * 5 + 1, none⟩ = some (.bool x.dir) ∧ w'.cell? ⟨p3, q3 + k * 5 + 3, none⟩ = some (.string (bs x.g.s)) ∧ Frm (fun _ => False) wr w') (by kernel_rfl) rfl (by kernel_rfl) (by kernel_rfl) (⟨x0, x1, x3, y0, y1, y3, t0, t1, t3, (Frm.refl _ wr).drew⟩) ?_
                  repeat' first
                    | (refine CanonL.skip (by rfl) ?_; (try simp only [Act.put, List.setIfInBounds_toArray, List.set_cons_zero, List.set_cons_succ]))
                    | (refine CanonL.val (v := ?_) (by rfl) ?_ ?_; rotate_left 1; (focus (intro w hSw; (try dsimp only at hSw); go_simp; (try (with_reducible rfl)); done)); (try simp only [Act.put, List.setIfInBounds_toArray, List.set_cons_zero, List.set_cons_succ]))
                  refine CanonL.done ?_
                  intro w9 hS9
                  have GR := Lib.hid (GR.out.trans hS9.2.2.2.2.2.2.2.2.2)
                  clear hS9
                  go_wp2_with fail
                  go_roundw
                  case rel => exact ⟨k + 1, by omega, by go_num, GR.out⟩
                  case measure => simp [intOf]; omega
                · obtain rfl : k = LA.length := by omega
                  have G10 := Lib.hid (G9.out.trans gr)
                  clear gr
                  go_wp2_with fail
                  refine (HWK.out _ G10.out).mono ?_
                  rintro e w99 ⟨rfl, g99⟩
                  have G99 := Lib.hid (G0.out.trans ((G10.out).trans g99))
                  clear g99
                  go_wp2_with fail
                  go_ret
                  exact ⟨rfl, G99.out⟩
            · have q3 : ¬ (e3 : Int) = 0 := by omega
              have q3b : ((e3 : Int) == 0) = false := by rw [beq_eq_false_iff_ne]; exact q3
              go_wp2_with fail
              refine (HWK.out _ G8.out).mono ?_
              rintro e w99 ⟨rfl, g99⟩
              have G99 := Lib.hid (G0.out.trans ((G8.out).trans g99))
              clear g99
              go_wp2_with fail
              go_ret
              exact ⟨rfl, G99.out⟩
          · have q2 : ¬ (e2 : Int) = 0 := by omega
            have q2b : ((e2 : Int) == 0) = false := by rw [beq_eq_false_iff_ne]; exact q2
            go_wp2_with fail
            refine (HWK.out _ G8.out).mono ?_
            rintro e w99 ⟨rfl, g99⟩
            have G99 := Lib.hid (G0.out.trans ((G8.out).trans g99))
            clear g99
            go_wp2_with fail
            go_ret
            exact ⟨rfl, G99.out⟩
        · have q1 : ¬ (e1 : Int) = 0 := by omega
          have q1b : ((e1 : Int) == 0) = false := by rw [beq_eq_false_iff_ne]; exact q1
          go_wp2_with fail
          refine (HWK.out _ G8.out).mono ?_
          rintro e w99 ⟨rfl, g99⟩
          have G99 := Lib.hid (G0.out.trans ((G8.out).trans g99))
          clear g99
          go_wp2_with fail
          go_ret
          exact ⟨rfl, G99.out⟩
      · have h1i : (100 : Int) < ((bs nm).size : Int) := by rw [bs_size]; omega
        clear h100
        go_wp2_with fail
        refine (HWK.out _ G2.out).mono ?_
        rintro e w99 ⟨rfl, g99⟩
        have G99 := Lib.hid (G0.out.trans ((G2.out).trans g99))
        clear g99
        go_wp2_with fail
        go_ret
        exact ⟨rfl, G99.out⟩
    · have HFY := Lib.hid (few8_no g _ ly w1 (HY.out w1 G1.out).2 hfy)
      clear hfy
      go_wp2_with fail
      refine HFY.out.mono ?_
      rintro e w2 ⟨rfl, g2⟩
      have G2 := Lib.hid (G1.out.trans g2)
      clear g2 cY cY8 HFY G1
      go_wp2_with fail
      refine (HWK.out _ G2.out).mono ?_
      rintro e w99 ⟨rfl, g99⟩
      have G99 := Lib.hid (G0.out.trans ((G2.out).trans g99))
      clear g99
      go_wp2_with fail
      go_ret
      exact ⟨rfl, G99.out⟩
  · have HFX := Lib.hid (few8_no f _ lx wb (HX.out wb (Frm.refl _ _)).2 hfx)
    clear hfx
    go_wp2_with (first | ((with_reducible refine wpl_load rfl _ rfl ?_ lX ?_); (focus rfl)) | fail)
    refine HFX.out.mono ?_
    rintro e w1 ⟨rfl, g1⟩
    have G1 := Lib.hid g1
    clear g1 lX HFX
    go_wp2_with fail
    refine (HWK.out _ G1.out).mono ?_
    rintro e w99 ⟨rfl, g99⟩
    have G99 := Lib.hid (G0.out.trans ((G1.out).trans g99))
    clear g99
    go_wp2_with fail
    go_ret
    exact ⟨rfl, G99.out⟩
end Go.Proofs.YtiokabhidjafeaaDoor

