/- What is seen at a name: At. No condition but those on what is handed in, and path.Conflict's contract. -/
import Derived.Test.YtiokabhidjafeaaDoorRkU
import Derived.Sort.CutIn
namespace Go.Proofs.YtiokabhidjafeaaDoor
open Go.RowKit Go.Shelf
attribute [local go_sem] Oper.semAt_some

section
variable {ops : Array Oper} {Q : Exit → Act → World → Prop} {r m : Nat} {a : Act} {W : World}
theorem wpTail.store_str {o : Oper} (hi : ops[r]? = some o) (hgd : o.guard = none) (hd : o.dst = none) (x y : Operand) (ho : o.op = .store 9 x y)
    (b i : Nat) {T : TypeId} (cs : Array Value) (q : ByteArray) (hx : a.eval x = .pointer (some ⟨b, i, none⟩)) (hy : a.eval y = .string q) (h : Blk W b T cs) (hlt : i < cs.size)
    (hK : ∀ w', Blk w' b T (cs.setIfInBounds i (.string q)) → Frm (· = b) W w' → wpTail Tryd.prog ops Q (r + 1) m a w') : wpTail Tryd.prog ops Q r (m + 1) a W := by
  have c0 := h.cell i (v := cs[i]) (by simp [hlt])
  have f0 := h.free i
  refine wpTail.cons hi hgd fun K hK' => ?_
  unfold Oper.wp execOp
  simp only [ho, hx, hy]
  go_simp
  refine hK' _ _ (hK _ ?_ ?_)
  · exact h.set i _
  · exact (Frm.refl (· = b) W).setCell (p := ⟨b, i, none⟩) (fun _ => rfl) _
end
def av11M : List Nat := [1, 2, 6, 14, 30, 63, 127, 255, 383, 512, 1791]
def av11R (nm cfn : List UInt8) (q1 q3 gd od nd cd : Nat) (x : DotI) : List ((Nat → Value) → World → Prop) := [
  fun val _ => val 0 = .string (bs nm),
  fun val _ => val 1 = .pointer (some ⟨q1, 1, none⟩),
  fun val _ => val 2 = .slice (some ⟨gd, od, none⟩) nd cd,
  fun val _ => val 3 = .pointer (some ⟨gd, od, none⟩),
  fun val _ => val 4 = .agg (dv x.r x.n),
  fun val _ => ∃ er, (val 5) = .tuple #[.string (bs cfn), er],
  fun val _ => val 6 = (val 5),
  fun val _ => val 7 = tupAt (val 6) 0,
  fun val _ => val 8 = tupAt (val 6) 1,
  fun val _ => val 9 = .pointer (some ⟨q3, 0, none⟩)]

/-- At's answer. -/
def AtTo (L : List SeenI) (w : World) (e : Ending) (w' : World) : Prop := ∃ u P, e = .returned u ∧ SeO w.heap.size w' u P ∧ P.map Prod.fst = L ∧ Frm (fun _ => False) w w'
set_option maxRecDepth 100000 in
set_option maxHeartbeats 8000000 in
theorem at_any (f : Nat → Nat) (nm : List UInt8) (cf : List UInt8 → DotI → List UInt8) (p : List UInt8 → Bool) (pq : List UInt8 → List UInt8 → Bool) (v dv sv : Value) (l : List SibI) (w : World) (h : SL w v l) (hp : DirTo w dv p) (hq : SameTo w sv pq) (hs : ∀ x ∈ l, x.s.length ≤ 200) (hb : l.length ≤ 1000)
    (hcf : ∀ (d : DotI) (W : World), Frm (fun _ => False) w W → Calls Tryd.prog 38 #[.string (bs nm), .agg #[.int .u8 (d.r : Int), .int .u32 (d.n : Int)]] W fun e w' => ∃ er, e = .returned (.tuple #[.string (bs (cf nm d)), er]) ∧ Frm (fun _ => False) W w') :
    Calls Tryd.prog 28 #[rg f v, .string (bs nm), dv, sv] w (AtTo (seenA cf nm pq p l) w) := by
  obtain ⟨a0, c0, rfl, _, _⟩ := h.slice
  have hp' := hp
  obtain ⟨gp, capsp, rfl, _, _⟩ := hp'
  have hq' := hq
  obtain ⟨gq, capsq, rfl, _, _⟩ := hq'
  have a3 := Tryd.isAgg27
  have z3 := Tryd.sizeOf27
  have a4 := Tryd.isAgg41
  have z4 := Tryd.sizeOf41
  have a5 := Tryd.isAgg52
  have z5 := Tryd.sizeOf52
  have HSL := Lib.hid h
  have HDP := Lib.hid hp
  have HSQ := Lib.hid hq
  have HCF := Lib.hid hcf
  have f0 : Frm (fun _ => False) w ((w.alloc (.cells (rgc f (.slice a0 l.length c0)) 27)).alloc (.cells #[.string (bs nm)] 9)) := ((Frm.refl _ w).alloc _).alloc _
  have b0 : Blk ((w.alloc (.cells (rgc f (.slice a0 l.length c0)) 27)).alloc (.cells #[.string (bs nm)] 9)) w.heap.size 27 (rgc f (.slice a0 l.length c0)) := (Blk.alloc w _ _).old _
  have b1 : Blk ((w.alloc (.cells (rgc f (.slice a0 l.length c0)) 27)).alloc (.cells #[.string (bs nm)] 9)) (w.heap.size + 1) 9 #[.string (bs nm)] := Blk.at1 w _ _ _
  have lR := load_reg b0
  clear h hp hq hcf
  refine (callsIn_wide (n := 9)).1 ?_
  refine callsIn_of_wp_marks Tryd.func28 rfl trivial ?_ rfl
  simp only [Tryd.ntmps28, List.size_toArray, List.length_cons, List.length_nil, Nat.reduceAdd, Nat.reduceSub, Array.replicate_succ, Array.replicate_zero, List.push_toArray, List.append_toArray, List.nil_append, List.cons_append]
  refine wpIn_wide.2 ?_
  refine Code.wp_mono calmR_le ?_
  go_wp2_with (first | ((with_reducible refine wpl_load rfl _ rfl ?_ lR ?_); (focus rfl)) | fail)
  refine (parted_any f p _ _ l _ (HSL.out.keepF f0) (HDP.out.keep f0) hs hb).mono ?_
  rintro e w2 ⟨U, rfl, hU, g2⟩
  obtain ⟨a1, c1, e1, _, _⟩ := Row.slice (hU true)
  obtain ⟨a2, c2, e2, _, _⟩ := Row.slice (hU false)
  have o1 := hU true
  have o2 := hU false
  have hA : seenA cf nm pq p l = (grps (fun _ _ => true) (l.filter (fun x => p x.s == true))).map (seeD nm) ++ seenG cf nm (grps (fun _ _ => true) (l.filter (fun x => p x.s == true))).length (grps pq (l.filter (fun x => p x.s == false))) := rfl
  have HA := Lib.hid hA
  have hs1 : ∀ x ∈ l.filter (fun x => p x.s == true), x.s.length ≤ 200 := fun x hx => hs x ((List.mem_filter.1 hx).1)
  have hs2 : ∀ x ∈ l.filter (fun x => p x.s == false), x.s.length ≤ 200 := fun x hx => hs x ((List.mem_filter.1 hx).1)
  have hb1 : (l.filter (fun x => p x.s == true)).length ≤ 1000 := Nat.le_trans (List.length_filter_le _ _) hb
  have hb2 : (l.filter (fun x => p x.s == false)).length ≤ 1000 := Nat.le_trans (List.length_filter_le _ _) hb
  clear hA hU
  generalize l.filter (fun x => p x.s == true) = l1 at *
  generalize l.filter (fun x => p x.s == false) = l2 at *
  rw [e1] at o1 ⊢
  rw [e2] at o2 ⊢
  clear e1 e2
  have b1 := b1.keep g2 (fun h => h)
  have f2 := f0.trans g2
  have gB : Frm (fun _ => False) w2 (((w2.alloc (.cells (rgc f (.slice a1 l1.length c1)) 27)).alloc (.cells (rgc f (.slice a2 l2.length c2)) 27)).alloc (.cells #[.slice none 0 0] 47)) := (((Frm.refl _ w2).alloc _).alloc _).alloc _
  have bT : Blk (((w2.alloc (.cells (rgc f (.slice a1 l1.length c1)) 27)).alloc (.cells (rgc f (.slice a2 l2.length c2)) 27)).alloc (.cells #[.slice none 0 0] 47)) w2.heap.size 27 (rgc f (.slice a1 l1.length c1)) := ((Blk.alloc w2 _ _).old _).old _
  have bF : Blk (((w2.alloc (.cells (rgc f (.slice a1 l1.length c1)) 27)).alloc (.cells (rgc f (.slice a2 l2.length c2)) 27)).alloc (.cells #[.slice none 0 0] 47)) (w2.heap.size + 1) 27 (rgc f (.slice a2 l2.length c2)) := (Blk.at1 w2 _ _ _).old _
  have bO : Blk (((w2.alloc (.cells (rgc f (.slice a1 l1.length c1)) 27)).alloc (.cells (rgc f (.slice a2 l2.length c2)) 27)).alloc (.cells #[.slice none 0 0] 47)) (w2.heap.size + 2) 47 #[.slice none 0 0] := by
    have s2 : ((w2.alloc (.cells (rgc f (.slice a1 l1.length c1)) 27)).alloc (.cells (rgc f (.slice a2 l2.length c2)) 27)).heap.size = w2.heap.size + 2 := by simp
    rw [← s2]; exact Blk.alloc _ _ _
  have hzB : (((w2.alloc (.cells (rgc f (.slice a1 l1.length c1)) 27)).alloc (.cells (rgc f (.slice a2 l2.length c2)) 27)).alloc (.cells #[.slice none 0 0] 47)).heap.size = w2.heap.size + 3 := by simp
  have lT := load_reg bT
  clear lR b0 f0
  go_wp2_with (first | ((with_reducible refine wpl_load rfl _ rfl ?_ lT ?_); (focus rfl)) | fail)
  refine (groups_any (fun _ _ => true) f _ _ l1 _ (o1.sl.keepF gB) (same_alls _) hs1 hb1).mono ?_
  rintro e w3 ⟨B, u, P, rfl, hBn, bB, hG, hL, g3⟩
  rw [hzB] at hBn hG
  have b1 := (b1.keep gB (fun h => h)).keep g3 (fun h => h)
  have bF := bF.keep g3 (fun h => h)
  have bO := bO.keep g3 (fun h => h)
  have f3 := (f2.trans gB).trans g3
  have g23 := gB.trans g3
  clear bT lT
  go_wp2_with fail
  refine (wpIn_wide (n := 9)).1 ?_
  have hok := gok_grps (p := fun _ _ => true) l1 hs1
  rw [← hL] at hok
  have hPl : P.length ≤ 1000 := by have := hok.len; rw [List.length_map] at this; omega
  have hPd : ∀ i (h : i < P.length), P[i].1.d.length ≤ 1000 := fun i h => Nat.le_trans (hok.d P[i].1 (List.mem_map.2 ⟨P[i], List.getElem_mem h, rfl⟩)) hb1
  have hKo := grK_lt bB hBn hG
  have hw23 : w2.heap.size + 3 ≤ w3.heap.size := by have := g3.size; omega
  have hww : w.heap.size + 2 ≤ w2.heap.size := by have := g2.size; simp at this; omega
  refine range_gives rfl (by omega) (gf := 48) (lb := #[.pointer (some ⟨B, 0, none⟩)]) rfl trivial (enters_of Tryd.func48 (by kernel_rfl) rfl)
    (groups_gives B u P (grK B u P) w3 bB (Sl.ofRow hG.row) (fun i h => ⟨(hG.dots i h).dl, hPd i h⟩) (fun q hq => (hKo q hq).2) (fun g e => .inr (.inl e)) (fun i h g e => .inr (.inr ⟨i, h, e⟩))) (fun q hq => (hKo q hq).2) (fun _ => rfl)
    (AtI w3 (w2.heap.size + 2) (w2.heap.size + 3) (.slice none 0 0) (seesD nm)) (fun _ _ _ h g => h.tw g) ⟨⟨_, bO, SeO.nil _ _, fun g e => by cases e⟩, Frm.refl _ _⟩ ?round ?done
  case round =>
    rintro l0 pre ⟨⟨s, d⟩, vx⟩ W0 W1 hl hrec hi f01 ⟨hy, hmem⟩ hlen
    obtain ⟨a5, c5, e5, _, _⟩ := Row.slice hy.1
    dsimp only at e5
    subst e5
    have hwr := hi.frm.size
    have hb1' := (b1.keep hi.frm (by rintro (h | h); omega; cases h)).keep f01 (fun h => h)
    gi_wp2
    refine ⟨(KeepsOthers.alloc _ _).from _, fun W3 hT => ?_⟩
    have fx : Frm (fun _ => False) W1 (W1.alloc (.cells #[.string (bs s), .slice a5 d.length c5] 41)) := (Frm.refl _ W1).alloc _
    have h13 : Tw w3.heap.size W1 W3 := (Tw.old fx).trans hT
    obtain ⟨u3, v', W4, x1, x2, x4, x6, ⟨a8, n8, c8, rfl⟩, a9, n9, c9, rfl⟩ := at_step (y := (seeD nm ⟨s, d⟩, .slice a5 d.length c5)) (K := grK B u P) hi (by omega) hw23 f01 hy h13 (KeepsFrom.refl _ _) (Frm.refl _ _) (h13.row hy.1) (fun q hq => ⟨(hKo q hq).2, by have := (hKo q hq).1; omega, fun h => by cases h⟩) rfl rfl (seesD_add _ _ _) (by simp [seesD]; omega)
    have Hrun := Lib.hid x2
    have HE := Lib.hid x6
    have bx := hT.blk (Blk.alloc W1 41 #[.string (bs s), .slice a5 d.length c5])
    have y0 := bx.cell 0 rfl
    have y1 := bx.cell 1 rfl
    have yn := (h13.blk hb1').cell 0 rfl
    have c6 := x1.cell 0 rfl
    have cl2 := x4.cell 0 rfl
    have fl2 := x4.free 0
    clear x1 x2 x4 x6 hi hy hT hrec f01 h13 bx hb1' fx
    gi_wp2_with (refine wplIn_append rfl _ _ _ _ rfl _ _ rfl rfl _ _ Hrun.out ?_)
    exact HE.out
  case done =>
    rintro D xs W hD hS hi hK
    obtain ⟨u0, hu0, hSe, hgw⟩ := hi.res
    obtain ⟨a8, c8, e8, _, _⟩ := Row.slice hSe.row
    have hxl : xs.length = P.length := by have := congrArg List.length hS; simpa using this
    have fw : Frm (fun _ => False) w W := f3.next hi.frm (fun q hq h => by rcases h with h | h; omega; cases h)
    have bFW := bF.keep hi.frm (by rintro (h | h); omega; cases h)
    have b1W := b1.keep hi.frm (by rintro (h | h); omega; cases h)
    have o2W : SL W (.slice a2 l2.length c2) l2 := (o2.keep g23 (fun _ _ h => h) |>.keep hi.frm (fun g e h => by
      have := Row.fresh o2 e
      rcases h with h | h
      · omega
      · cases h)).sl
    have lF := load_reg bFW
    have HS := Lib.hid hS
    have HKD := Lib.hid hK
    have HI := Lib.hid hi
    have HSE := Lib.hid hSe
    have HU0 := Lib.hid hu0
    have HE8 := Lib.hid e8
    have hsw := hi.frm.size
    clear hS hK hi hSe hu0 hgw e8 hxl
    go_wp2_with (first | ((with_reducible refine wpl_load rfl _ rfl ?_ lF ?_); (focus rfl)) | fail)
    refine (groups_any pq f _ _ l2 W o2W (HSQ.out.keep fw) hs2 hb2).mono ?_
    rintro e w4 ⟨B2, u2, P2, rfl, hBn2, bB2, hG2, hL2, g4⟩
    go_wp2_with fail
    refine (wpIn_wide (n := 9)).1 ?_
    have hok2 := gok_grps (p := pq) l2 hs2
    rw [← hL2] at hok2
    have hPl2 : P2.length ≤ 1000 := by have := hok2.len; rw [List.length_map] at this; omega
    have hPd2 : ∀ i (h : i < P2.length), P2[i].1.d.length ≤ 1000 := fun i h => Nat.le_trans (hok2.d P2[i].1 (List.mem_map.2 ⟨P2[i], List.getElem_mem h, rfl⟩)) hb2
    have hKo2 := grK_lt bB2 hBn2 hG2
    have hw4 : W.heap.size ≤ w4.heap.size := g4.size
    have hu0w : ∀ g, u0.ownBlock = some g → w2.heap.size + 3 ≤ g ∧ g < W.heap.size := fun g e => ⟨HSE.out.lo g e, Row.fresh HSE.out.row e⟩
    refine range_gives rfl (by omega) (gf := 48) (lb := #[.pointer (some ⟨B2, 0, none⟩)]) rfl trivial (enters_of Tryd.func48 (by kernel_rfl) rfl)
      (groups_gives B2 u2 P2 (grK B2 u2 P2) w4 bB2 (Sl.ofRow hG2.row) (fun i h => ⟨(hG2.dots i h).dl, hPd2 i h⟩) (fun q hq => (hKo2 q hq).2) (fun g e => .inr (.inl e)) (fun i h g e => .inr (.inr ⟨i, h, e⟩))) (fun q hq => (hKo2 q hq).2) (fun _ => rfl)
      (AtI w4 (w2.heap.size + 2) (w2.heap.size + 3) u0 (fun pre => seesD nm xs ++ seesF cf nm xs.length pre)) (fun _ _ _ h g => h.tw g)
      ⟨⟨u0, HU0.out.keep g4 (fun h => h), by rw [show seesF cf nm xs.length [] = [] from rfl, List.append_nil]; exact HSE.out.keepF g4, fun g e => .inl e⟩, Frm.refl _ _⟩ ?round2 ?done2
    case round2 =>
      rintro l0 pre ⟨⟨s, d⟩, vx⟩ W0 W1 hl hrec hi f01 ⟨hy, hmem⟩ hlen
      obtain ⟨a5, c5, e5, _, _⟩ := Row.slice hy.1
      dsimp only at e5
      subst e5
      have hdn : d ≠ [] := by
        rw [hL2] at hmem
        exact grps_ne l2 _ hmem
      obtain ⟨u9, hu9, hSe9, hgw9⟩ := hi.res
      obtain ⟨n9, hn9⟩ : ∃ n9, (seesD nm xs ++ seesF cf nm xs.length pre).length = n9 := ⟨_, rfl⟩
      have hn9' : xs.length + pre.length = n9 := by rw [← hn9, List.length_append, seesF_len]; simp [seesD]
      obtain ⟨a7, c7, e7, _, _⟩ := Row.slice hSe9.row
      rw [hn9] at e7
      subst e7
      have hb1' : Blk W1 (w.heap.size + 1) 9 #[.string (bs nm)] := ((b1W.keep g4 (fun h => h)).keep hi.frm (by
        rintro (h | h)
        · omega
        · have := (hu0w _ h).1; omega)).keep f01 (fun h => h)
      have hO1 := hu9.keep f01 (fun h => h)
      gi_wp2
      refine ⟨(KeepsOthers.alloc _ _).from _, fun W3 hT => ?_⟩
      have fx : Frm (fun _ => False) W1 (W1.alloc (.cells #[.string (bs s), .slice a5 d.length c5] 41)) := (Frm.refl _ W1).alloc _
      have h13 : Tw w4.heap.size W1 W3 := (Tw.old fx).trans hT
      have bx := hT.blk (Blk.alloc W1 41 #[.string (bs s), .slice a5 d.length c5])
      have bN := h13.blk hb1'
      have bO3 := h13.blk hO1
      have ox := h13.row hy.1
      have hsx : W1.heap.size < W3.heap.size := bx.lt
      have gS : Frm (fun _ => False) W3 (W3.alloc (.cells #[.string (bs nm), .bool false, .bool false, .string (bs s), .slice a5 d.length c5] 52)) := (Frm.refl _ W3).alloc _
      have bS := Blk.alloc W3 52 #[.string (bs nm), .bool false, .bool false, .string (bs s), .slice a5 d.length c5]
      have hwk : w4.heap.size ≤ W1.heap.size := by have := hi.frm.size; have := f01.size; omega
      by_cases hk0 : n9 = 0
      · have hk0i : ¬ ((n9 : Int) > 0) := by omega
        obtain ⟨u3, v', W4, x1, x2, x4, x6, ⟨a8, n8, c8, rfl⟩, a9, n7, c9, rfl⟩ := at_step (W3 := W3) (Wb := W3.alloc (.cells #[.string (bs nm), .bool false, .bool false, .string (bs s), .slice a5 d.length c5] 52)) (y := (seeF cf nm (xs.length + pre.length) ⟨s, d⟩, .slice a5 d.length c5)) (K := grK B2 u2 P2) hi (by omega) (by omega) f01 hy h13 ((gS.others (fun _ _ h => h.elim)).from _) (gS.mono fun _ _ h => h.elim) (ox.keep gS (fun _ _ h => h))
          (fun q hq => ⟨(hKo2 q hq).2, by have := (hKo2 q hq).1; omega, fun h => by have := (hKo2 q hq).1; have := (hu0w q h).2; omega⟩) (by simp only [seeF]; rw [if_pos (by omega)]) rfl (by rw [seesF_add, List.append_assoc]) (by rw [hn9]; omega)
        have hsee : seeF cf nm (xs.length + pre.length) ⟨s, d⟩ = ⟨nm, false, false, ⟨s, d⟩⟩ := by simp only [seeF]; rw [if_pos (by omega)]
        rw [hsee] at x2
        have e9 := (x1.cell 0 rfl).symm.trans ((bO3.keep gS (fun h => h)).cell 0 rfl)
        cases e9
        obtain ⟨q2, hq2⟩ : ∃ q2, w2.heap.size + 2 = q2 := ⟨_, rfl⟩
        obtain ⟨qn, hqn⟩ : ∃ qn, w.heap.size + 1 = qn := ⟨_, rfl⟩
        obtain ⟨q1, hq1⟩ : ∃ q1, W1.heap.size = q1 := ⟨_, rfl⟩
        have HQ := Lib.hid (And.intro hq2 (And.intro hqn hq1))
        rw [hq2] at x1 x4
        rw [hqn] at bN
        rw [hq1] at bx
        rw [show w2.heap.size + 1 + 1 = q2 from hq2, hqn, hq1]
        rw [World.size_alloc] at x2
        have Hrun := Lib.hid x2
        have HE := Lib.hid x6
        clear hq2 hqn hq1
        have c6 := x1.cell 0 rfl
        have y0 := bx.cell 0 rfl
        have y1 := bx.cell 1 rfl
        have yn := bN.cell 0 rfl
        have z0 := bS.cell 0 rfl
        have z1 := bS.cell 1 rfl
        have z2 := bS.cell 2 rfl
        have z3 := bS.cell 3 rfl
        have z4 := bS.cell 4 rfl
        have cl2 := x4.cell 0 rfl
        have fl2 := x4.free 0
        clear x1 x2 x4 x6 hi hy hT hrec f01 h13 bx hb1' fx hO1 bN bO3 ox gS bS hsee hu9 hSe9 hgw9 hsx hwk hk0i
        subst hk0
        gi_wp2_with (refine wplIn_append rfl _ _ _ _ rfl _ _ rfl rfl _ _ Hrun.out ?_)
        obtain ⟨rfl, rfl, rfl⟩ := HQ.out
        exact HE.out
      · have hk0d : decide (0 < (n9 : Int)) = true := decide_eq_true (by omega)
        have hk0i : 0 < (n9 : Int) := by omega
        have bOb := bO3.keep gS (fun h => h)
        obtain ⟨q2, hq2⟩ : ∃ q2, w2.heap.size + 2 = q2 := ⟨_, rfl⟩
        obtain ⟨qn, hqn⟩ : ∃ qn, w.heap.size + 1 = qn := ⟨_, rfl⟩
        obtain ⟨q1, hq1⟩ : ∃ q1, W1.heap.size = q1 := ⟨_, rfl⟩
        have HQ := Lib.hid (And.intro hq2 (And.intro hqn hq1))
        rw [hq2] at bOb
        rw [hqn] at bN
        rw [hq1] at bx
        rw [show w2.heap.size + 1 + 1 = q2 from hq2, hqn, hq1]
        clear hq2 hqn hq1
        have c6 := bOb.cell 0 rfl
        have y0 := bx.cell 0 rfl
        have y1 := bx.cell 1 rfl
        have yn := bN.cell 0 rfl
        obtain ⟨d0, dr, hdd⟩ := List.exists_cons_of_ne_nil hdn
        obtain ⟨gd, od, ha5⟩ : ∃ gd od, a5 = some ⟨gd, od, none⟩ := by
          obtain ⟨gd, od, ha5, _⟩ := DL.load (Sl.ofRow ox) 0 (by rw [hdd]; simp)
          exact ⟨gd, od, ha5⟩
        subst ha5
        have hdl := fun W (gW : Frm (fun _ => False) W3 W) => (DL.keepF (Sl.ofRow ox) gW).load 0 (by rw [hdd]; simp)
        have HND := Lib.hid (show (0 : Int) < (d.length : Int) by rw [hdd]; simp)
        have HDX := Lib.hid fun W (gW : Frm (fun _ => False) (W3.alloc (.cells #[.string (bs nm), .bool false, .bool true, .string (bs s), .slice (some ⟨gd, od, none⟩) d.length c5] 52)) W) => (show W.cell? ⟨gd, od, none⟩ = some (.int .u8 (d0.r : Int)) ∧ W.cell? ⟨gd, od + 1, none⟩ = some (.int .u32 (d0.n : Int)) by
          obtain ⟨g', o', he, h1⟩ := hdl W (((Frm.refl _ W3).alloc _).trans gW)
          cases he
          simpa [hdd] using h1)
        have HDD := Lib.hid hdd
        clear hdl hdd hdn
        have fW0 : Frm (fun _ => False) w W0 := (fw.trans g4).next hi.frm (fun q hq h => by
          rcases h with h | h
          · omega
          · have := (hu0w _ h).1; omega)
        have fW3 : Frm (fun _ => False) w W3 := h13.frm (fW0.trans f01) (by have := fw.size; have := g4.size; omega)
        have HCX := Lib.hid fun W (gW : Frm (fun _ => False) (W3.alloc (.cells #[.string (bs nm), .bool false, .bool true, .string (bs s), .slice (some ⟨gd, od, none⟩) d.length c5] 52)) W) => HCF.out d0 W ((fW3.alloc _).trans gW)
        obtain ⟨cfn, hcfn⟩ : ∃ cfn, cf nm d0 = cfn := ⟨_, rfl⟩
        rw [hcfn] at HCX
        have HCFN := Lib.hid hcfn
        clear hcfn
        have HBN := Lib.hid (bN.keep ((Frm.refl (fun _ => False) W3).alloc (.cells #[.string (bs nm), .bool false, .bool true, .string (bs s), .slice (some ⟨gd, od, none⟩) d.length c5] 52)) (fun h => h))
        have HBX := Lib.hid (bx.keep ((Frm.refl (fun _ => False) W3).alloc (.cells #[.string (bs nm), .bool false, .bool true, .string (bs s), .slice (some ⟨gd, od, none⟩) d.length c5] 52)) (fun h => h))
        have K3 := Lib.hid (And.intro hi (And.intro f01 (And.intro hy (And.intro h13 (And.intro ox (And.intro hsx hwk))))))
        have K4 := Lib.hid (And.intro bN (And.intro bx (And.intro bOb hn9)))
        clear bOb bx bN bO3 hi f01 hy h13 ox hsx hwk hT hrec hb1' fx hO1 gS bS hu9 hSe9 hgw9 hk0 hn9
        gi_upto_region 11 with fail
        have D : Frm (fun _ => False) (W3.alloc (.cells #[.string (bs nm), .bool false, .bool true, .string (bs s), .slice (some ⟨gd, od, none⟩) d.length c5] 52)) (W3.alloc (.cells #[.string (bs nm), .bool false, .bool true, .string (bs s), .slice (some ⟨gd, od, none⟩) d.length c5] 52)).drew := (Frm.refl _ _).drewN 1
        obtain ⟨q3, hq3⟩ : ∃ q3, W3.heap.size = q3 := ⟨_, rfl⟩
        rw [hq3]
        have HQ3 := Lib.hid hq3
        clear hq3
        refine wpIn_region_late 10 1 [8] [[], [], [1], [2], [3], [0, 4], [5], [5, 6], [5, 6], []] av11M (av11R nm cfn q1 q3 gd od d.length c5 d0) (by rintro ⟨_, _, h⟩; exact h) (by kernel_rfl) (by kernel_rfl) rfl rfl rfl (by kernel_rfl) (by kernel_rfl) (by kernel_rfl) (by kernel_rfl) rfl (by kernel_rfl) (by kernel_rfl) (by kernel_rfl) (by kernel_rfl) (fun val => ?_) ?_
        · try simp only [Act.put, List.setIfInBounds_toArray, List.set_cons_zero, List.set_cons_succ]
          refine RelO.next (k' := 1) rfl (fun W gW hF => ?_) ?_
          focus
            have c0 := (HBN.out.keep (D.trans gW) (fun h => h)).cell 0 rfl
            exact OpOK.val (u := .string (bs nm)) (by rfl) (by first | (go_simp; done) | (go_simp; with_reducible rfl) | (go_simp; rfl)) (fun W' _ => rfl)
          try simp only [Act.put, List.setIfInBounds_toArray, List.set_cons_zero, List.set_cons_succ]
          refine RelO.next (k' := 2) rfl (fun W gW hF => ?_) ?_
          focus
            refine OpOK.val (u := .pointer (some ⟨q1, 1, none⟩)) (by rfl) ?_ (fun W' _ => rfl)
            try simp only [tupAt]
            first | (go_simp; done) | (go_simp; with_reducible rfl) | (go_simp; rfl)
          try simp only [Act.put, List.setIfInBounds_toArray, List.set_cons_zero, List.set_cons_succ]
          refine RelO.next (k' := 3) rfl (fun W gW hF => ?_) ?_
          focus
            obtain ⟨h1, _⟩ := hF
            have e1 : val 1 = .pointer (some ⟨q1, 1, none⟩) := h1 _ (Frm.refl _ W)
            try simp only [e1]
            try simp only [tupAt]
            have c0 := (HBX.out.keep (D.trans gW) (fun h => h)).cell 1 rfl
            exact OpOK.val (u := .slice (some ⟨gd, od, none⟩) d.length c5) (by rfl) (by first | (go_simp; done) | (go_simp; with_reducible rfl) | (go_simp; rfl)) (fun W' _ => rfl)
          try simp only [Act.put, List.setIfInBounds_toArray, List.set_cons_zero, List.set_cons_succ]
          refine RelO.next (k' := 4) rfl (fun W gW hF => ?_) ?_
          focus
            obtain ⟨h2, _⟩ := hF
            have e2 : val 2 = .slice (some ⟨gd, od, none⟩) d.length c5 := h2 _ (Frm.refl _ W)
            try simp only [e2]
            try simp only [tupAt]
            have hn0 := HND.out
            have hn1 : ¬ d = [] := by rw [HDD.out]; simp
            exact OpOK.val (u := .pointer (some ⟨gd, od, none⟩)) (by rfl) (by first | (go_simp; done) | (go_simp; with_reducible rfl) | (go_simp; rfl)) (fun W' _ => rfl)
          try simp only [Act.put, List.setIfInBounds_toArray, List.set_cons_zero, List.set_cons_succ]
          refine RelO.next (k' := 5) rfl (fun W gW hF => ?_) ?_
          focus
            obtain ⟨h3, _⟩ := hF
            have e3 : val 3 = .pointer (some ⟨gd, od, none⟩) := h3 _ (Frm.refl _ W)
            try simp only [e3]
            try simp only [tupAt]
            obtain ⟨y0, y1⟩ := HDX.out W (D.trans gW)
            exact OpOK.val (u := .agg (dv d0.r d0.n)) (by rfl) (by first | (go_simp; done) | (go_simp; with_reducible rfl) | (go_simp; rfl)) (fun W' _ => rfl)
          try simp only [Act.put, List.setIfInBounds_toArray, List.set_cons_zero, List.set_cons_succ]
          refine RelO.next (k' := 6) rfl (fun W gW hF => ?_) ?_
          focus
            obtain ⟨h0, h4, _⟩ := hF
            have e0 : val 0 = .string (bs nm) := h0 _ (Frm.refl _ W)
            have e4 : val 4 = .agg (dv d0.r d0.n) := h4 _ (Frm.refl _ W)
            try simp only [e4]
            try simp only [e0]
            try simp only [tupAt]
            refine OpOK.call (by rfl) ?_ ((HCX.out W (D.trans gW)).mono ?_)
            · first | (go_simp; done) | (go_simp; with_reducible rfl) | (go_simp; rfl)
            · rintro e W1 ⟨er, rfl, g1⟩
              exact ⟨_, rfl, g1, fun W2 _ => ⟨er, rfl⟩⟩
          try simp only [Act.put, List.setIfInBounds_toArray, List.set_cons_zero, List.set_cons_succ]
          refine RelO.next (k' := 7) rfl (fun W gW hF => ?_) ?_
          focus
            obtain ⟨h5, _⟩ := hF
            have q5 : ∃ er, (val 5) = .tuple #[.string (bs cfn), er] := h5 _ (Frm.refl _ W)
            obtain ⟨er, e5⟩ := q5
            try simp only [e5]
            try simp only [tupAt]
            refine OpOK.val (u := (val 5)) (by rfl) ?_ (fun W' _ => rfl)
            try simp only [e5]
            try simp only [tupAt]
            first | (go_simp; done) | (go_simp; with_reducible rfl) | (go_simp; rfl)
          try simp only [Act.put, List.setIfInBounds_toArray, List.set_cons_zero, List.set_cons_succ]
          refine RelO.next (k' := 8) rfl (fun W gW hF => ?_) ?_
          focus
            obtain ⟨h5, h6, _⟩ := hF
            have q5 : ∃ er, (val 5) = .tuple #[.string (bs cfn), er] := h5 _ (Frm.refl _ W)
            obtain ⟨er, e5⟩ := q5
            have e6 : val 6 = (val 5) := h6 _ (Frm.refl _ W)
            try simp only [e6]
            try simp only [e5]
            try simp only [tupAt]
            refine OpOK.val (u := tupAt (val 6) 0) (by rfl) ?_ (fun W' _ => rfl)
            try simp only [e6]
            try simp only [e5]
            try simp only [tupAt]
            first | (go_simp; done) | (go_simp; with_reducible rfl) | (go_simp; rfl)
          try simp only [Act.put, List.setIfInBounds_toArray, List.set_cons_zero, List.set_cons_succ]
          refine RelO.next (k' := 9) rfl (fun W gW hF => ?_) ?_
          focus
            obtain ⟨h5, h6, _⟩ := hF
            have q5 : ∃ er, (val 5) = .tuple #[.string (bs cfn), er] := h5 _ (Frm.refl _ W)
            obtain ⟨er, e5⟩ := q5
            have e6 : val 6 = (val 5) := h6 _ (Frm.refl _ W)
            try simp only [e6]
            try simp only [e5]
            try simp only [tupAt]
            refine OpOK.val (u := tupAt (val 6) 1) (by rfl) ?_ (fun W' _ => rfl)
            try simp only [e6]
            try simp only [e5]
            try simp only [tupAt]
            first | (go_simp; done) | (go_simp; with_reducible rfl) | (go_simp; rfl)
          try simp only [Act.put, List.setIfInBounds_toArray, List.set_cons_zero, List.set_cons_succ]
          refine RelO.next (k' := 10) rfl (fun W gW hF => ?_) ?_
          focus
            refine OpOK.val (u := .pointer (some ⟨q3, 0, none⟩)) (by rfl) ?_ (fun W' _ => rfl)
            try simp only [tupAt]
            first | (go_simp; done) | (go_simp; with_reducible rfl) | (go_simp; rfl)
          try simp only [Act.put, List.setIfInBounds_toArray, List.set_cons_zero, List.set_cons_succ]
          exact RelO.nil
        intro val w5 gW hF
        obtain ⟨h0, h1, h2, h3, h4, h5, h6, h7, h8, h9, hT⟩ := hF
        have e0 : val 0 = .string (bs nm) := h0 _ (Frm.refl _ w5)
        have e1 : val 1 = .pointer (some ⟨q1, 1, none⟩) := h1 _ (Frm.refl _ w5)
        have e2 : val 2 = .slice (some ⟨gd, od, none⟩) d.length c5 := h2 _ (Frm.refl _ w5)
        have e3 : val 3 = .pointer (some ⟨gd, od, none⟩) := h3 _ (Frm.refl _ w5)
        have e4 : val 4 = .agg (dv d0.r d0.n) := h4 _ (Frm.refl _ w5)
        have q5 : ∃ er, (val 5) = .tuple #[.string (bs cfn), er] := h5 _ (Frm.refl _ w5)
        obtain ⟨er, e5⟩ := q5
        have e6 : val 6 = (val 5) := h6 _ (Frm.refl _ w5)
        have e7 : val 7 = tupAt (val 6) 0 := h7 _ (Frm.refl _ w5)
        have e8 : val 8 = tupAt (val 6) 1 := h8 _ (Frm.refl _ w5)
        have e9 : val 9 = .pointer (some ⟨q3, 0, none⟩) := h9 _ (Frm.refl _ w5)
        clear hT h0 h1 h2 h3 h4 h5 h6 h7 h8 h9
        simp only [aO, Act.put, List.setIfInBounds_toArray, List.set_cons_zero, List.set_cons_succ, Nat.reduceAdd]
        try simp only [e9]
        try simp only [e8]
        try simp only [e7]
        try simp only [e6]
        try simp only [e5]
        try simp only [e4]
        try simp only [e3]
        try simp only [e2]
        try simp only [e1]
        try simp only [e0]
        try simp only [tupAt]
        have hbs : Blk w5 q3 52 #[.string (bs nm), .bool false, .bool true, .string (bs s), .slice (some ⟨gd, od, none⟩) d.length c5] := by
          have := (Blk.alloc W3 52 #[.string (bs nm), .bool false, .bool true, .string (bs s), .slice (some ⟨gd, od, none⟩) d.length c5]).keep (D.trans gW) (fun h => h)
          rw [HQ3.out] at this
          exact this
        refine wpTail.store_str rfl rfl rfl _ _ rfl q3 0 _ (bs cfn) (by rfl) (by rfl) hbs (by simp) (fun w6 hb6 g6 => ?_)
        have F6 := Lib.hid (And.intro hb6 (And.intro g6 (D.trans gW)))
        clear hbs hb6 g6 gW D
        refine wpTail.doneN ?_
        obtain ⟨hi, f01, hy, h13, ox, hsx, hwk⟩ := K3.out
        obtain ⟨bN, bx, bOb, hn9⟩ := K4.out
        have hn9' : xs.length + pre.length = n9 := by rw [← hn9, List.length_append, seesF_len]; simp [seesD]
        have gF : Frm (fun _ => False) W3 w6 := (((Frm.refl (fun _ => False) W3).alloc _).trans F6.out.2.2).next F6.out.2.1 (fun j hj e => by have := HQ3.out; omega)
        have hkk : KeepsFrom w4.heap.size W3 w6 := (gF.others (fun q o h => h.elim)).from _
        have hs6 : Blk w6 q3 52 #[.string (bs cfn), .bool false, .bool true, .string (bs s), .slice (some ⟨gd, od, none⟩) d.length c5] := F6.out.1
        have hsee : seeF cf nm (xs.length + pre.length) ⟨s, d⟩ = ⟨cfn, false, true, ⟨s, d⟩⟩ := by
          simp only [seeF]
          rw [if_neg (by omega), HDD.out]
          simp only [HCFN.out]
        obtain ⟨u3, v', W4, x1, x2, x4, x6, ⟨a8, n8, c8, rfl⟩, a9, n7, c9, rfl⟩ := at_step (W3 := W3) (Wb := w6) (y := (seeF cf nm (xs.length + pre.length) ⟨s, d⟩, .slice (some ⟨gd, od, none⟩) d.length c5)) (K := grK B2 u2 P2) hi (by omega) (by omega) f01 hy h13 hkk (gF.mono fun _ _ h => h.elim) (ox.keep gF (fun _ _ h => h))
          (fun q hq => ⟨(hKo2 q hq).2, by have := (hKo2 q hq).1; omega, fun h => by have := (hKo2 q hq).1; have := (hu0w q h).2; omega⟩) (by rw [hsee]) rfl (by rw [seesF_add, List.append_assoc]) (by rw [hn9]; have := congrArg List.length HS.out; rw [List.length_map, List.length_map] at this; omega)
        rw [hsee] at x2
        have hq2 := HQ.out.1
        rw [hq2] at x1 x4
        have Hrun := Lib.hid x2
        have HE := Lib.hid x6
        have c6 := x1.cell 0 rfl
        have z0 := hs6.cell 0 rfl
        have z1 := hs6.cell 1 rfl
        have z2 := hs6.cell 2 rfl
        have z3 := hs6.cell 3 rfl
        have z4 := hs6.cell 4 rfl
        have cl2 := x4.cell 0 rfl
        have fl2 := x4.free 0
        clear x1 x2 x4 x6 hi f01 hy h13 ox hsx hwk bN bx bOb hn9 hn9' gF hkk hs6 hsee hq2 y0 y1 yn e0 e1 e2 e3 e4 e5 e6 e7 e8 e9
        gi_wp2_with (refine wplIn_append rfl _ _ _ _ rfl _ _ rfl rfl _ _ Hrun.out ?_)
        obtain ⟨rfl, rfl, rfl⟩ := HQ.out
        exact HE.out
    case done2 =>
      rintro D2 ys W2 hD2 hS2 hi2 hK2
      obtain ⟨u', hb', hSe', _⟩ := hi2.res
      obtain ⟨P9, hP9⟩ : ∃ P9, seesD nm xs ++ seesF cf nm xs.length ys = P9 := ⟨_, rfl⟩
      rw [hP9] at hSe'
      have HP9 := Lib.hid hP9
      clear hP9
      obtain ⟨a9, c9, rfl, _, _⟩ := Row.slice hSe'.row
      have hdk := (HKD.out)
      have f24 : Frm (fun q => q = w2.heap.size + 2 ∨ u0.ownBlock = some q) W W2 := (g4.mono fun _ _ h => h.elim).trans hi2.frm
      have hKD2 : W2.heap[D]? = some (.deferred (some [])) := f24.obj HKD.out (fun h => by
        rcases h with rfl | h
        · have := HU0.out.isCells _ _ rfl HKD.out; cases this
        · have := Row.isCellsR HSE.out.row _ _ h HKD.out; cases this)
      have c5 := hb'.cell 0 rfl
      have hne : D2 ≠ D := by
        have := heap_lt HKD.out
        omega
      have hT1 : Tw w4.heap.size W2 (W2.putObj D2 (.deferred none)) := Tw.put _ hD2 hK2 rfl
      have hKD3 : (W2.putObj D2 (.deferred none)).heap[D]? = some (.deferred (some [])) := (World.putObj_heap_other (Ne.symm hne)).trans hKD2
      have hT2 : Tw w3.heap.size (W2.putObj D2 (.deferred none)) ((W2.putObj D2 (.deferred none)).putObj D (.deferred none)) := Tw.put _ hD hKD3 rfl
      have hSe3 := (hSe'.tw hT1).tw hT2
      have hsz3 : w.heap.size ≤ w3.heap.size := f3.size
      have ff : Frm (fun _ => False) w ((W2.putObj D2 (.deferred none)).putObj D (.deferred none)) :=
        ((fw.next f24 (fun q hq h => by
          rcases h with h | h
          · omega
          · have := (hu0w q h).1; omega)).next hT1 (fun q hq h => by have := h.1; omega)).next hT2 (fun q hq h => by have := h.1; omega)
      have HS2 := Lib.hid hS2
      have HSE3 := Lib.hid hSe3
      clear hSe' hT1 hT2 hSe3 hi2 hS2 f24
      go_wp2_with fail
      refine calmR_ret ?_
      refine ⟨by simp, .inl ⟨_, _, rfl, run_takeDeferred hK2, ?_⟩⟩
      refine ⟨by simp, .inl ⟨_, _, rfl, run_takeDeferred hKD3, ?_⟩⟩
      refine ⟨_, results_tmp rfl _ _ _, ?_⟩
      refine ⟨_, _, rfl, ⟨HSE3.out.row, HSE3.out.dots, HSE3.out.apart, HSE3.out.apu, fun g e => by have := HSE3.out.lo g e; omega, fun i hi g e => by have := HSE3.out.lod i hi g e; omega⟩, ?_, ff⟩
      have h1 : (seesD nm xs).map Prod.fst = (xs.map Prod.fst).map (seeD nm) := by simp [seesD]
      have hl3 := congrArg List.length (HS.out.trans hL)
      rw [List.length_map] at hl3
      rw [HA.out, ← HP9.out, List.map_append, seesF_fst, h1, HS.out, hL, HS2.out, hL2, hl3]
end Go.Proofs.YtiokabhidjafeaaDoor

