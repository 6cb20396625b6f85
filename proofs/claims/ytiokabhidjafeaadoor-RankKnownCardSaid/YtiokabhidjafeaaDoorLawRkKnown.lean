/- RankKnown: the chapter's examples hold, and others at the ends. No condition beside strconv's tables. -/
import Derived.Test.YtiokabhidjafeaaDoorLawRkGroups
namespace Go.Proofs.YtiokabhidjafeaaDoor
open Go.RowKit Go.Shelf

def fz : Nat → Nat := fun _ => 0
def gx1 : GrpI := ⟨[97], [⟨2, 2, by decide, by decide⟩, ⟨0, 1, by decide, by decide⟩]⟩
def gx2 : GrpI := ⟨[98], [⟨1, 2, by decide, by decide⟩]⟩
theorem grps8 : grps (sameR false) given8 = [gx1, gx2] := rfl
def lx8 : List SibI := [⟨0, 1, [97], by decide, by decide, by decide⟩, ⟨1, 1, [47], by decide, by decide, by decide⟩, ⟨1, 2, [98], by decide, by decide, by decide⟩, ⟨2, 2, [97], by decide, by decide, by decide⟩, ⟨0, 3, [47], by decide, by decide, by decide⟩]
def ly8 : List SibI := [⟨0, 1, [65], by decide, by decide, by decide⟩, ⟨0, 2, [98], by decide, by decide, by decide⟩, ⟨0, 3, [97], by decide, by decide, by decide⟩]
def m80 : SeenI := ⟨[110], true, false, ⟨[47], [⟨0, 3, by decide, by decide⟩, ⟨1, 1, by decide, by decide⟩]⟩⟩
def m81 : SeenI := ⟨[110, 126, 50, 46, 50], false, true, gx1⟩
def m82 : SeenI := ⟨[110, 126, 49, 46, 50], false, true, gx2⟩
theorem seen_x : seenA cfR [110] (sameR false) isDir lx8 = [m80, m81, m82] := by
  have e : seenA cfR [110] (sameR false) isDir lx8 = [m80, ⟨cfR [110] ⟨2, 2, by decide, by decide⟩, false, true, gx1⟩, ⟨cfR [110] ⟨1, 2, by decide, by decide⟩, false, true, gx2⟩] := rfl
  rw [e, cf_small 2 2 _ _ (by decide) (by decide) (by decide), cf_small 1 2 _ _ (by decide) (by decide) (by decide)]
  rfl
def k80 : SeenI := ⟨[110], false, false, ⟨[97], [⟨0, 3, by decide, by decide⟩, ⟨0, 1, by decide, by decide⟩]⟩⟩
theorem seen_k : ∃ k1, seenA cfR [110] (sameR true) isDir ly8 = [k80, k1] := ⟨_, rfl⟩
theorem seen_j : (seenA cfR [110] (sameR false) isDir ly8).length = 3 := rfl
theorem seen_e (d : DotI) : cfR [] d = [] := by
  unfold cfR conflict
  rw [if_pos (.inl (by decide))]
theorem seen_n : ∃ n0 n1, seenA cfR [] (sameR false) isDir given8 = [n0, n1] ∧ n1.n = [] := by
  exact ⟨_, ⟨cfR [] ⟨1, 2, by decide, by decide⟩, false, true, gx2⟩, rfl, seen_e ⟨1, 2, by decide, by decide⟩⟩
theorem seen_0 : seenA cfR [110] (sameR false) isDir [] = [] := rfl
theorem own_lx8 (w : World) : OwnL (w.alloc (.cells #[.int .u8 0, .int .u32 1, .string (bs [97]), .int .u8 1, .int .u32 1, .string (bs [47]), .int .u8 1, .int .u32 2, .string (bs [98]), .int .u8 2, .int .u32 2, .string (bs [97]), .int .u8 0, .int .u32 3, .string (bs [47])] 63)) (.slice (some ⟨w.heap.size, 0, none⟩) 5 5) lx8 :=
  Row.made w 63 3 5 5 (flat sibc lx8) (flat sibc lx8).toArray rfl (Nat.le_refl _) (by decide) rfl rfl
theorem own_ly8 (w : World) : OwnL (w.alloc (.cells #[.int .u8 0, .int .u32 1, .string (bs [65]), .int .u8 0, .int .u32 2, .string (bs [98]), .int .u8 0, .int .u32 3, .string (bs [97])] 63)) (.slice (some ⟨w.heap.size, 0, none⟩) 3 3) ly8 :=
  Row.made w 63 3 3 3 (flat sibc ly8) (flat sibc ly8).toArray rfl (Nat.le_refl _) (by decide) rfl rfl
theorem mapg_two {P : List (GrpI × Value)} {a b : GrpI} (h : P.map Prod.fst = [a, b]) : ∃ u v, P = [(a, u), (b, v)] := by
  match P, h with
  | [(x, u), (y, v)], h =>
    simp only [List.map_cons, List.map_nil, List.cons.injEq, and_true] at h
    obtain ⟨rfl, rfl⟩ := h
    exact ⟨u, v, rfl⟩
set_option maxRecDepth 100000 in
set_option maxHeartbeats 16000000 in
theorem rankKnown_any (w : World) (hv : VarT w) : Calls Tryd.prog 7 #[] w fun e w' => e = .returned (.bool true) ∧ Frm (fun _ => False) w w' := by
  have HG := Lib.hid (given8_any w)
  have HV := Lib.hid hv
  have HWK := Lib.hid (fun W (g : Frm (fun _ => False) w W) => works8_any W (hv.keep g))
  have HS := Lib.hid (fun r n s W => sib8_any r n s W)
  have HG2 := Lib.hid (fun W => given8_any W)
  have a3 := Tryd.isAgg52
  have z3 := Tryd.sizeOf52
  have a4 := Tryd.isAgg39
  have z4 := Tryd.sizeOf39
  have a5 := Tryd.isAgg61
  have z5 := Tryd.sizeOf61
  have a6 := Tryd.isAgg27
  have z6 := Tryd.sizeOf27
  clear hv
  go_enter Tryd.func7, Tryd.ntmps7
  go_wp2_with fail
  refine HG.out.mono ?_
  rintro e w1 ⟨v', rfl, hO, g1, _⟩
  have HL := listed_any f122 v' given8 false w1 hO.sl (by decide) (by decide)
  rw [grps8] at HL
  have HL := Lib.hid HL
  have G1 := Lib.hid g1
  clear hO g1 HG
  go_wp2_with fail
  refine HL.out.mono ?_
  rintro e w2 ⟨u, P, rfl, hG, hP, g2⟩
  obtain ⟨u0, u1, rfl⟩ := mapg_two hP
  obtain ⟨a, c, e1, _, _⟩ := Row.slice hG.row
  subst e1
  have hG' : GrO w1.heap.size w2 (.slice a 2 c) [(gx1, u0), (gx2, u1)] := hG
  obtain ⟨g, off, ad, cd, ea, hg, c0, c1, hd⟩ := hG'.elem rfl 0 (show 0 < 2 by decide)
  obtain ⟨g', off', ad', cd', ea', hg', y0, y1, hd'⟩ := hG'.elem rfl 1 (show 1 < 2 by decide)
  subst ea
  cases ea'
  obtain ⟨gd, od, rfl, z0, z1⟩ := hd.load 0 (show 0 < 2 by decide)
  obtain ⟨gd', od', ed, z0', z1'⟩ := hd.load 1 (show 1 < 2 by decide)
  cases ed
  have G2 := Lib.hid (G1.out.trans g2)
  have K := Lib.hid (And.intro c0 (And.intro c1 (And.intro y0 (And.intro z0 (And.intro z1 (And.intro z0' z1'))))))
  clear hG hG' hP hd hd' g2 HL c0 c1 y0 y1 z0 z1 z0' z1'
  go_wp2_with fail
  refine (HWK.out _ G2.out).mono ?_
  rintro e w3 ⟨rfl, g3⟩
  have c0 : w3.cell? ⟨g, off, none⟩ = some (.string (bs [97])) := g3.cellF K.out.1
  have c1 : w3.cell? ⟨g, off + 1, none⟩ = some (.slice (some ⟨gd, od, none⟩) 2 cd) := g3.cellF K.out.2.1
  have y0 : w3.cell? ⟨g, off + 2, none⟩ = some (.string (bs [98])) := g3.cellF K.out.2.2.1
  have z0 : w3.cell? ⟨gd, od, none⟩ = some (.int .u8 2) := g3.cellF K.out.2.2.2.1
  have z1 : w3.cell? ⟨gd, od + 1, none⟩ = some (.int .u32 2) := g3.cellF K.out.2.2.2.2.1
  have x0 : w3.cell? ⟨gd, od + 2, none⟩ = some (.int .u8 0) := g3.cellF K.out.2.2.2.2.2.1
  have x1 : w3.cell? ⟨gd, od + 2 + 1, none⟩ = some (.int .u32 1) := g3.cellF K.out.2.2.2.2.2.2
  have hq1 : ∀ W, (Op.equalIn 10000 61 (.agg #[.int .u8 2, .int .u32 2]) (.agg #[.int .u8 2, .int .u32 2])).run Tryd.prog W = .ok true W := fun W => run_eq_dotA 2 2 W
  have hq2 : ∀ W, (Op.equalIn 10000 61 (.agg #[.int .u8 0, .int .u32 1]) (.agg #[.int .u8 0, .int .u32 1])).run Tryd.prog W = .ok true W := fun W => run_eq_dotA 0 1 W
  have G3 := Lib.hid (G2.out.trans g3)
  clear g3 G1 G2 K

  have hb1 : ((bs [97]).toList == [97]) = true := by rw [bs_toList]; rfl
  have hb2 : ((bs [98]).toList == [98]) = true := by rw [bs_toList]; rfl
  have K3 := Lib.hid G3.out
  go_wp2_with fail
  refine (HS.out 0 1 [97] _).mono ?_
  rintro e w4 ⟨rfl, g⟩
  have G4 := Lib.hid (G3.out.trans g)
  clear g G3
  clear c0 c1 y0 z0 z1 x0 x1 hq1 hq2
  go_wp2_with fail
  refine (HS.out 1 1 [47] _).mono ?_
  rintro e w5 ⟨rfl, g⟩
  have G5 := Lib.hid (G4.out.trans g)
  clear g G4
  go_wp2_with fail
  refine (HS.out 1 2 [98] _).mono ?_
  rintro e w6 ⟨rfl, g⟩
  have G6 := Lib.hid (G5.out.trans g)
  clear g G5
  go_wp2_with fail
  refine (HS.out 2 2 [97] _).mono ?_
  rintro e w7 ⟨rfl, g⟩
  have G7 := Lib.hid (G6.out.trans g)
  clear g G6
  go_wp2_with fail
  refine (HS.out 0 3 [47] _).mono ?_
  rintro e w8 ⟨rfl, g⟩
  have G8 := Lib.hid (G7.out.trans g)
  clear g G7
  have hO := own_lx8 w8
  have gO : Frm (fun _ => False) w8 (w8.alloc (.cells #[.int .u8 0, .int .u32 1, .string (bs [97]), .int .u8 1, .int .u32 1, .string (bs [47]), .int .u8 1, .int .u32 2, .string (bs [98]), .int .u8 2, .int .u32 2, .string (bs [97]), .int .u8 0, .int .u32 3, .string (bs [47])] 63)) := (Frm.refl _ _).alloc _
  have bz : Blk ((w8.alloc (.cells #[.int .u8 0, .int .u32 1, .string (bs [97]), .int .u8 1, .int .u32 1, .string (bs [47]), .int .u8 1, .int .u32 2, .string (bs [98]), .int .u8 2, .int .u32 2, .string (bs [97]), .int .u8 0, .int .u32 3, .string (bs [47])] 63)).alloc (.cells rz 27)) (w8.heap.size + 1) 27 rz := by
    have := Blk.alloc (w8.alloc (.cells #[.int .u8 0, .int .u32 1, .string (bs [97]), .int .u8 1, .int .u32 1, .string (bs [47]), .int .u8 1, .int .u32 2, .string (bs [98]), .int .u8 2, .int .u32 2, .string (bs [97]), .int .u8 0, .int .u32 3, .string (bs [47])] 63)) 27 rz
    rw [World.size_alloc] at this
    exact this
  have gz : Frm (fun _ => False) (w8.alloc (.cells #[.int .u8 0, .int .u32 1, .string (bs [97]), .int .u8 1, .int .u32 1, .string (bs [47]), .int .u8 1, .int .u32 2, .string (bs [98]), .int .u8 2, .int .u32 2, .string (bs [97]), .int .u8 0, .int .u32 3, .string (bs [47])] 63)) ((w8.alloc (.cells #[.int .u8 0, .int .u32 1, .string (bs [97]), .int .u8 1, .int .u32 1, .string (bs [47]), .int .u8 1, .int .u32 2, .string (bs [98]), .int .u8 2, .int .u32 2, .string (bs [97]), .int .u8 0, .int .u32 3, .string (bs [47])] 63)).alloc (.cells rz 27)) := (Frm.refl _ _).alloc _
  have HO := Lib.hid (And.intro hO (And.intro gO gz))
  clear hO gO gz
  go_wp2_with (first | ((with_reducible refine wpl_load rfl _ rfl ?_ lR ?_); (focus rfl)) | (with_reducible refine wpl_store_blk rfl 27 _ _ rfl (w8.heap.size + 1) (rgc fz (.slice (some ⟨w8.heap.size, 0, none⟩) 5 5)) rz ?_ ?_ bz ?_ ?_ ?_ ?_); (focus rfl); (focus rfl); (focus rfl); (focus (show _ = some 9; kernel_rfl)); (focus (exact rg_one _ _ _ _)); intro w9 e9 g9 z9; have lR := load_reg e9)
  have G9 := Lib.hid (((G8.out.trans HO.out.2.1).trans HO.out.2.2).next g9 fun k hk e => by have := G8.out.size; omega)
  have hO := ((HO.out.1.keep HO.out.2.2 fun _ _ h => h).keep g9 fun g hg => by cases hg; exact Nat.ne_of_lt (Nat.lt_succ_self _)).sl
  have E := Lib.hid (And.intro hO e9)
  clear hO e9 g9 z9 HO G8 bz lR
  refine (at14_v fz [110] _ lx8 false w9 (HV.out.keep G9.out) E.out.1 (by decide) (by decide) _ seen_x).mono ?_
  rintro e w10 ⟨u, rfl, hV, g⟩
  obtain ⟨gx, ox, cx, eu, hgx⟩ := hV.addr (show 0 < 3 by decide)
  replace eu : u = .slice (some ⟨gx, ox, none⟩) 3 cx := eu
  subst eu
  have G10 := Lib.hid (G9.out.trans g)
  have HX := Lib.hid hV
  clear hV g G9 E
  obtain ⟨a0, d0, S⟩ := HX.out.at 0 (by decide)
  replace S : SeC w10 gx (ox + 0) m80 a0 d0 := S
  have c0 : w10.cell? ⟨gx, ox, none⟩ = some (.string (bs [110])) := S.c0
  have c1 : w10.cell? ⟨gx, ox + 1, none⟩ = some (.bool true) := S.c1
  have c2 : w10.cell? ⟨gx, ox + 2, none⟩ = some (.bool false) := S.c2
  have c3 : w10.cell? ⟨gx, ox + 3, none⟩ = some (.string (bs [47])) := S.c3
  have c4 : w10.cell? ⟨gx, ox + 4, none⟩ = some (.slice a0 2 d0) := S.c4
  have HC := Lib.hid S
  clear S
  go_wp2_with fail
  refine (HC.out.sees ⟨0, 3, by decide, by decide⟩ _ rfl rfl rfl).mono ?_
  rintro e w11 ⟨rfl, g⟩
  clear c0 c1 c2 c3 c4 HC
  have HX := Lib.hid (HX.out.keepF g)
  have G11 := Lib.hid (G10.out.trans g)
  clear g G10
  obtain ⟨a1, d1, S⟩ := HX.out.at 1 (by decide)
  replace S : SeC w11 gx (ox + 5) m81 a1 d1 := S
  have c0 : w11.cell? ⟨gx, ox + 5, none⟩ = some (.string (bs [110, 126, 50, 46, 50])) := S.c0
  have c1 : w11.cell? ⟨gx, ox + 5 + 1, none⟩ = some (.bool false) := S.c1
  have c2 : w11.cell? ⟨gx, ox + 5 + 2, none⟩ = some (.bool true) := S.c2
  have c3 : w11.cell? ⟨gx, ox + 5 + 3, none⟩ = some (.string (bs [97])) := S.c3
  have c4 : w11.cell? ⟨gx, ox + 5 + 4, none⟩ = some (.slice a1 2 d1) := S.c4
  have HC := Lib.hid S
  clear S
  go_wp2_with fail
  refine (HC.out.sees ⟨2, 2, by decide, by decide⟩ _ rfl rfl rfl).mono ?_
  rintro e w12 ⟨rfl, g⟩
  clear c0 c1 c2 c3 c4 HC
  have HX := Lib.hid (HX.out.keepF g)
  have G12 := Lib.hid (G11.out.trans g)
  clear g G11
  obtain ⟨a2, d2, S⟩ := HX.out.at 2 (by decide)
  replace S : SeC w12 gx (ox + 10) m82 a2 d2 := S
  have c0 : w12.cell? ⟨gx, ox + 10, none⟩ = some (.string (bs [110, 126, 49, 46, 50])) := S.c0
  have c1 : w12.cell? ⟨gx, ox + 10 + 1, none⟩ = some (.bool false) := S.c1
  have c2 : w12.cell? ⟨gx, ox + 10 + 2, none⟩ = some (.bool true) := S.c2
  have c3 : w12.cell? ⟨gx, ox + 10 + 3, none⟩ = some (.string (bs [98])) := S.c3
  have c4 : w12.cell? ⟨gx, ox + 10 + 4, none⟩ = some (.slice a2 1 d2) := S.c4
  have HC := Lib.hid S
  clear S
  go_wp2_with fail
  refine (HC.out.sees ⟨1, 2, by decide, by decide⟩ _ rfl rfl rfl).mono ?_
  rintro e w13 ⟨rfl, g⟩
  clear c0 c1 c2 c3 c4 HC
  have HX := Lib.hid (HX.out.keepF g)
  have G13 := Lib.hid (G12.out.trans g)
  clear g G12
  clear HX
  go_wp2_with fail
  refine (HS.out 0 1 [65] _).mono ?_
  rintro e w14 ⟨rfl, g⟩
  have G14 := Lib.hid (G13.out.trans g)
  clear g G13
  go_wp2_with fail
  refine (HS.out 0 2 [98] _).mono ?_
  rintro e w15 ⟨rfl, g⟩
  have G15 := Lib.hid (G14.out.trans g)
  clear g G14
  go_wp2_with fail
  refine (HS.out 0 3 [97] _).mono ?_
  rintro e w16 ⟨rfl, g⟩
  have G16 := Lib.hid (G15.out.trans g)
  clear g G15
  have hO := own_ly8 w16
  have gO : Frm (fun _ => False) w16 (w16.alloc (.cells #[.int .u8 0, .int .u32 1, .string (bs [65]), .int .u8 0, .int .u32 2, .string (bs [98]), .int .u8 0, .int .u32 3, .string (bs [97])] 63)) := (Frm.refl _ _).alloc _
  have bz : Blk ((w16.alloc (.cells #[.int .u8 0, .int .u32 1, .string (bs [65]), .int .u8 0, .int .u32 2, .string (bs [98]), .int .u8 0, .int .u32 3, .string (bs [97])] 63)).alloc (.cells rz 27)) (w16.heap.size + 1) 27 rz := by
    have := Blk.alloc (w16.alloc (.cells #[.int .u8 0, .int .u32 1, .string (bs [65]), .int .u8 0, .int .u32 2, .string (bs [98]), .int .u8 0, .int .u32 3, .string (bs [97])] 63)) 27 rz
    rw [World.size_alloc] at this
    exact this
  have gz : Frm (fun _ => False) (w16.alloc (.cells #[.int .u8 0, .int .u32 1, .string (bs [65]), .int .u8 0, .int .u32 2, .string (bs [98]), .int .u8 0, .int .u32 3, .string (bs [97])] 63)) ((w16.alloc (.cells #[.int .u8 0, .int .u32 1, .string (bs [65]), .int .u8 0, .int .u32 2, .string (bs [98]), .int .u8 0, .int .u32 3, .string (bs [97])] 63)).alloc (.cells rz 27)) := (Frm.refl _ _).alloc _
  have HO := Lib.hid (And.intro hO (And.intro gO gz))
  clear hO gO gz
  go_wp2_with (first | ((with_reducible refine wpl_load rfl _ rfl ?_ lR ?_); (focus rfl)) | (with_reducible refine wpl_store_blk rfl 27 _ _ rfl (w16.heap.size + 1) (rgc fz (.slice (some ⟨w16.heap.size, 0, none⟩) 3 3)) rz ?_ ?_ bz ?_ ?_ ?_ ?_); (focus rfl); (focus rfl); (focus rfl); (focus (show _ = some 9; kernel_rfl)); (focus (exact rg_one _ _ _ _)); intro w17 e17 g17 z17; have lR := load_reg e17)
  have G17 := Lib.hid (((G16.out.trans HO.out.2.1).trans HO.out.2.2).next g17 fun k hk e => by have := G16.out.size; omega)
  have hO := ((HO.out.1.keep HO.out.2.2 fun _ _ h => h).keep g17 fun g hg => by cases hg; exact Nat.ne_of_lt (Nat.lt_succ_self _)).sl
  have E := Lib.hid (And.intro hO e17)
  clear hO e17 g17 z17 HO G16 bz lR
  have HB := Lib.hid E.out.2
  obtain ⟨k1, hk1⟩ := seen_k
  refine (at14_v fz [110] _ ly8 true w17 (HV.out.keep G17.out) E.out.1 (by decide) (by decide) _ hk1).mono ?_
  rintro e w18 ⟨u, rfl, hV, g⟩
  obtain ⟨gk, ok, ck, eu, hgk⟩ := hV.addr (show 0 < 2 by decide)
  replace eu : u = .slice (some ⟨gk, ok, none⟩) 2 ck := eu
  subst eu
  have G18 := Lib.hid (G17.out.trans g)
  have HX := Lib.hid hV
  have HB := Lib.hid (HB.out.keep g id)
  have HY := Lib.hid (E.out.1.keepF g)
  have lR := load_reg HB.out
  clear hV g G17 E
  go_wp2_with ((with_reducible refine wpl_load rfl _ rfl ?_ lR ?_); (focus rfl))
  refine (at14_v fz [110] _ ly8 false w18 (HV.out.keep G18.out) HY.out (by decide) (by decide) _ rfl).mono ?_
  rintro e w19 ⟨u, rfl, hV, g⟩
  obtain ⟨aj, cj, eu⟩ := hV.slice
  rw [seen_j] at eu
  subst eu
  have G19 := Lib.hid (G18.out.trans g)
  have HX := Lib.hid (HX.out.keepF g)
  clear hV g G18 HY HB lR
  go_wp2_with fail
  refine (HG2.out _).mono ?_
  rintro e w20 ⟨vn, rfl, hO, g, _⟩
  have G20 := Lib.hid (G19.out.trans g)
  have HX := Lib.hid (HX.out.keepF g)
  have HO := Lib.hid hO.sl
  clear hO g G19 HG2
  obtain ⟨n0, n1, hn, hn1⟩ := seen_n
  go_wp2_with fail
  refine (at14_v f122 [] vn given8 false w20 (HV.out.keep G20.out) HO.out (by decide) (by decide) _ hn).mono ?_
  rintro e w21 ⟨u, rfl, hV, g⟩
  obtain ⟨gn, on_, cn, eu, hgn⟩ := hV.addr (show 0 < 2 by decide)
  replace eu : u = .slice (some ⟨gn, on_, none⟩) 2 cn := eu
  subst eu
  have HX := Lib.hid (HX.out.keepF g)
  have G21 := Lib.hid (G20.out.trans g)
  obtain ⟨an, dn, S⟩ := hV.at 1 (show 1 < 2 by decide)
  have HN : w21.cell? ⟨gn, on_ + 5, none⟩ = some (.string (bs n1.n)) := S.c0
  rw [hn1] at HN
  have HN := Lib.hid HN
  clear hV S g G20 HO
  go_wp2_with fail
  refine (at14_v fz [110] (.slice none 0 0) [] false w21 (HV.out.keep G21.out) (OwnL.nil_ _).sl (by decide) (by decide) _ seen_0).mono ?_
  rintro e w22 ⟨u, rfl, hV, g⟩
  obtain ⟨az, cz, eu⟩ := hV.slice
  replace eu : u = .slice az 0 cz := eu
  subst eu
  have HX := Lib.hid (HX.out.keepF g)
  have HN := Lib.hid (g.cellF HN.out)
  have G22 := Lib.hid (G21.out.trans g)
  clear hV g G21
  obtain ⟨ak, dk, S⟩ := HX.out.at 0 (show 0 < 2 by decide)
  replace S : SeC w22 gk ok k80 ak dk := S
  have c0 : w22.cell? ⟨gk, ok, none⟩ = some (.string (bs [110])) := S.c0
  have c1 : w22.cell? ⟨gk, ok + 1, none⟩ = some (.bool false) := S.c1
  have c2 : w22.cell? ⟨gk, ok + 2, none⟩ = some (.bool false) := S.c2
  have c3 : w22.cell? ⟨gk, ok + 3, none⟩ = some (.string (bs [97])) := S.c3
  have c4 : w22.cell? ⟨gk, ok + 4, none⟩ = some (.slice ak 2 dk) := S.c4
  have HC := Lib.hid S
  clear S
  go_wp2_with fail
  refine (HC.out.sees ⟨0, 3, by decide, by decide⟩ _ rfl rfl rfl).mono ?_
  rintro e w23 ⟨rfl, g⟩
  clear c0 c1 c2 c3 c4 HC
  have c0 := g.cellF HN.out
  have hb3 : (bs []).toList.isEmpty = true := by rw [bs_toList]; rfl
  have G23 := Lib.hid (G22.out.trans g)
  clear g HN HX G22
  go_wp2_with fail
  refine (HWK.out _ G23.out).mono ?_
  rintro e w24 ⟨rfl, g⟩
  have G := Lib.hid (G23.out.trans g)
  clear g c0
  go_wp2_with fail
  go_ret
  exact ⟨rfl, G.out⟩
end Go.Proofs.YtiokabhidjafeaaDoor
