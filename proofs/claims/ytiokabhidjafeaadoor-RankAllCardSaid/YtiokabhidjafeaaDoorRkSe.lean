/- What sees and works answer: the chapter's register. No condition beside strconv's tables. -/
import Derived.Test.YtiokabhidjafeaaDoorRkAt
import Derived.Test.YtiokabhidjafeaaDoorRkR
namespace Go.Proofs.YtiokabhidjafeaaDoor
open Go.RowKit Go.Shelf

theorem run_eq_dotA (r n : Nat) (w : World) : (Op.equalIn 10000 61 (.agg #[.int .u8 (r : Int), .int .u32 (n : Int)]) (.agg #[.int .u8 (r : Int), .int .u32 (n : Int)])).run Tryd.prog w = .ok true w := by
  have := run_eq_dot r n r n w
  simpa using this
set_option maxRecDepth 100000 in
set_option maxHeartbeats 4000000 in
theorem sees_any (x : SeenI) (g o c : Nat) (d0 : DotI) (dr : List DotI) (hd : x.g.d = d0 :: dr) (hdir : isDir x.g.s = x.dir) (hcon : (x.n != [110]) = x.con) (w : World)
    (z0 : w.cell? ⟨g, o, none⟩ = some (.int .u8 (d0.r : Int))) (z1 : w.cell? ⟨g, o + 1, none⟩ = some (.int .u32 (d0.n : Int))) :
    Calls Tryd.prog 23 #[.agg #[.string (bs x.n), .bool x.dir, .bool x.con, .string (bs x.g.s), .slice (some ⟨g, o, none⟩) x.g.d.length c], .string (bs x.n), .string (bs x.g.s), .agg #[.int .u8 (d0.r : Int), .int .u32 (d0.n : Int)], .int .i64 (x.g.d.length : Nat)] w fun e w' => e = .returned (.bool true) ∧ Frm (fun _ => False) w w' := by
  obtain ⟨n, dir, con, ⟨s, d⟩⟩ := x
  dsimp only at hd hdir hcon ⊢
  have a3 := Tryd.isAgg52
  have z3 := Tryd.sizeOf52
  have a4 := Tryd.isAgg41
  have z4 := Tryd.sizeOf41
  have a5 := Tryd.isAgg61
  have z5 := Tryd.sizeOf61
  have a6 := Tryd.isAgg39
  have z6 := Tryd.sizeOf39
  obtain ⟨N, hN⟩ : ∃ N, d.length = N := ⟨_, rfl⟩
  have hN0 : 0 < N := by rw [← hN, hd]; simp
  rw [hN]
  have hN1 : (0 : Int) < (N : Int) := by omega
  have hb1 : ((bs s).toList == [47]) = dir := by rw [dir_beq]; exact hdir
  have hb2 : ((bs n).toList != [110]) = con := by rw [bs_toList]; exact hcon
  have hb3 : ((bs n).toList == [110]) = !con := by rw [← hb2]; simp [bne]
  have hgl : g < w.heap.size := World.block_lt_of_cell? w ⟨g, _, none⟩ z0
  have hnn : ((N : Int) == (N : Int)) = true := by rw [beq_iff_eq]
  have f0 : Frm (fun _ => False) w ((w.alloc (.cells #[.string (bs n), .bool dir, .bool con, .string (bs s), .slice (some ⟨g, o, none⟩) N c] 52)).alloc (.cells #[.int .u8 (d0.r : Int), .int .u32 (d0.n : Int)] 61)) := ((Frm.refl _ w).alloc _).alloc _
  have F0 := Lib.hid f0
  have hq := fun W => run_eq_dotA d0.r d0.n W
  clear hd hdir hcon hN f0
  cases dir <;> cases con <;> (
    go_enter Tryd.func23, Tryd.ntmps23
    go_wp2_with fail
    go_quiet (fail)
    go_wp2_with fail
    go_ret
    exact ⟨rfl, F0.out.drewN _⟩)
/-- What is seen at number i, in memory. -/
theorem SeO.elem {n1 : Nat} {W : World} {a : Option Addr} {n c : Nat} {P : List (SeenI × Value)} (h : SeO n1 W (.slice a n c) P) (hn : n = P.length) (i : Nat) (hi : i < P.length) :
    ∃ g off ad cd, a = some ⟨g, off, none⟩ ∧ g < W.heap.size ∧ W.cell? ⟨g, off + i * 5, none⟩ = some (.string (bs P[i].1.n)) ∧ W.cell? ⟨g, off + i * 5 + 1, none⟩ = some (.bool P[i].1.dir) ∧ W.cell? ⟨g, off + i * 5 + 2, none⟩ = some (.bool P[i].1.con) ∧
      W.cell? ⟨g, off + i * 5 + 3, none⟩ = some (.string (bs P[i].1.g.s)) ∧ W.cell? ⟨g, off + i * 5 + 4, none⟩ = some (.slice ad P[i].1.g.d.length cd) ∧ DL W (.slice ad P[i].1.g.d.length cd) P[i].1.g.d := by
  subst hn
  obtain ⟨g, off, e, h0, hc⟩ := Sl.elem sec sec_len h.row.sl2 i hi (by omega)
  have hd := (h.dots i hi).dl
  obtain ⟨ad, cd, hv, _, _⟩ := DL.slice hd
  rw [hv] at hd
  have h4 := hc 4 (by omega)
  have e4 : (sec P[i])[4]? = some P[i].2 := rfl
  rw [e4, hv] at h4
  refine ⟨g, off, ad, cd, e, h0, hc 0 (by omega), ?_, ?_, ?_, ?_, hd⟩
  · rw [Nat.add_assoc]; exact hc 1 (by omega)
  · rw [Nat.add_assoc]; exact hc 2 (by omega)
  · rw [Nat.add_assoc]; exact hc 3 (by omega)
  · rw [Nat.add_assoc]; exact h4
theorem cf_small (r n : Nat) (h : r < 256) (h2 : n < 4294967296) (hr : r ≤ 7) (hn : 1 ≤ n) (hn9 : n < 10) : cfR [110] ⟨r, n, h, h2⟩ = [110, 126, dig r, 46, dig n] := by
  have ho : okd [110] r n := ⟨by decide, hr, hn, by omega⟩
  unfold cfR
  dsimp only
  rw [conflict_good ho]
  unfold conf
  rw [digs_small hn9]
  rfl
def x80 : SeenI := ⟨[110], false, false, ⟨[97], [⟨2, 2, by decide, by decide⟩, ⟨0, 1, by decide, by decide⟩]⟩⟩
def x81 : SeenI := ⟨[110, 126, 49, 46, 50], false, true, ⟨[98], [⟨1, 2, by decide, by decide⟩]⟩⟩
theorem seen8 : seenA cfR [110] (sameR false) isDir given8 = [x80, x81] := by
  have e : seenA cfR [110] (sameR false) isDir given8 = [x80, ⟨cfR [110] ⟨1, 2, by decide, by decide⟩, false, true, ⟨[98], [⟨1, 2, by decide, by decide⟩]⟩⟩] := rfl
  rw [e, cf_small 1 2 _ _ (by decide) (by decide) (by decide)]
  rfl
theorem map_two {P : List (SeenI × Value)} {a b : SeenI} (h : P.map Prod.fst = [a, b]) : ∃ u v, P = [(a, u), (b, v)] := by
  match P, h with
  | [(x, u), (y, v)], h =>
    simp only [List.map_cons, List.map_nil, List.cons.injEq, and_true] at h
    obtain ⟨rfl, rfl⟩ := h
    exact ⟨u, v, rfl⟩
set_option maxRecDepth 100000 in
set_option maxHeartbeats 4000000 in
theorem works8_any (w : World) (hv : VarT w) : Calls Tryd.prog 9 #[] w fun e w' => e = .returned (.bool true) ∧ Frm (fun _ => False) w w' := by
  have HG := Lib.hid (given8_any w)
  have HV := Lib.hid hv
  have a3 := Tryd.isAgg52
  have z3 := Tryd.sizeOf52
  clear hv
  go_enter Tryd.func9, Tryd.ntmps9
  go_wp2_with fail
  refine HG.out.mono ?_
  rintro e w1 ⟨v', rfl, hO, g1, _⟩
  have HA := at14_laid f122 [110] v' given8 false w1 (HV.out.keep g1) hO.sl (by decide) (by decide)
  rw [seen8] at HA
  have HA := Lib.hid HA
  have G1 := Lib.hid g1
  clear hO g1 HG
  go_wp2_with fail
  refine HA.out.mono ?_
  rintro e w2 ⟨u, P, rfl, hS, hP, g2⟩
  obtain ⟨u0, u1, rfl⟩ := map_two hP
  obtain ⟨a, c, e1, hc1, hc2⟩ := Row.slice hS.row
  subst e1
  have hS' : SeO w1.heap.size w2 (.slice a 2 c) [(x80, u0), (x81, u1)] := hS
  obtain ⟨g, off, ad, cd, ea, hg, c0, c1, c2, c3, c4, hd⟩ := hS'.elem rfl 0 (show 0 < 2 by decide)
  obtain ⟨g', off', ad', cd', ea', hg', k0, k1, k2, k3, k4, hd'⟩ := hS'.elem rfl 1 (show 1 < 2 by decide)
  subst ea
  cases ea'
  obtain ⟨gd, od, rfl, z0, z1⟩ := hd.load 0 (show 0 < 2 by decide)
  obtain ⟨gd', od', rfl, y0, y1⟩ := hd'.load 0 (show 0 < 1 by decide)
  have H1 := Lib.hid (fun W (gW : Frm (fun _ => False) w2 W) => sees_any x80 gd od cd ⟨2, 2, by decide, by decide⟩ _ rfl rfl rfl W (gW.cellF z0) (gW.cellF z1))
  have H2 := Lib.hid (fun W (gW : Frm (fun _ => False) w2 W) => sees_any x81 gd' od' cd' ⟨1, 2, by decide, by decide⟩ _ rfl rfl rfl W (gW.cellF y0) (gW.cellF y1))
  replace c0 : w2.cell? ⟨g, off, none⟩ = some (.string (bs [110])) := c0
  replace c1 : w2.cell? ⟨g, off + 1, none⟩ = some (.bool false) := c1
  replace c2 : w2.cell? ⟨g, off + 2, none⟩ = some (.bool false) := c2
  replace c3 : w2.cell? ⟨g, off + 3, none⟩ = some (.string (bs [97])) := c3
  replace c4 : w2.cell? ⟨g, off + 4, none⟩ = some (.slice (some ⟨gd, od, none⟩) 2 cd) := c4
  replace k0 : w2.cell? ⟨g, off + 5, none⟩ = some (.string (bs [110, 126, 49, 46, 50])) := k0
  replace k1 : w2.cell? ⟨g, off + 5 + 1, none⟩ = some (.bool false) := k1
  replace k2 : w2.cell? ⟨g, off + 5 + 2, none⟩ = some (.bool true) := k2
  replace k3 : w2.cell? ⟨g, off + 5 + 3, none⟩ = some (.string (bs [98])) := k3
  replace k4 : w2.cell? ⟨g, off + 5 + 4, none⟩ = some (.slice (some ⟨gd', od', none⟩) 1 cd') := k4
  have G2 := Lib.hid (G1.out.trans g2)
  have K := Lib.hid (And.intro k0 (And.intro k1 (And.intro k2 (And.intro k3 k4))))
  clear hS hS' hP hd hd' z0 z1 y0 y1 g2 HA hc1 hc2 k0 k1 k2 k3 k4
  go_wp2_with fail
  refine (H1.out _ (Frm.refl _ _)).mono ?_
  rintro e w3 ⟨rfl, g3⟩
  have k0 := g3.cellF K.out.1
  have k1 := g3.cellF K.out.2.1
  have k2 := g3.cellF K.out.2.2.1
  have k3 := g3.cellF K.out.2.2.2.1
  have k4 := g3.cellF K.out.2.2.2.2
  have G3 := Lib.hid g3
  clear g3 c0 c1 c2 c3 c4 H1
  go_wp2_with fail
  refine (H2.out _ G3.out).mono ?_
  rintro e w4 ⟨rfl, g4⟩
  have G4 := Lib.hid ((G2.out.trans G3.out).trans g4)
  clear g4
  go_wp2_with fail
  go_ret
  exact ⟨rfl, G4.out⟩
end Go.Proofs.YtiokabhidjafeaaDoor

