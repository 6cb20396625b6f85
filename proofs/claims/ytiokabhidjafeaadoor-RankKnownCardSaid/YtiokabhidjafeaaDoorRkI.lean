/- The groups of a register, as the statements list them. No condition but that texts and registers aren't too long. -/
import Derived.Test.YtiokabhidjafeaaDoorRkH
namespace Go.Proofs.YtiokabhidjafeaaDoor
open Go.RowKit Go.Shelf
attribute [local go_sem] Oper.semAt_some

theorem Row.blkOf {w : World} {size n : Nat} {v : Value} {xs : List Value} (h : Row w size v n xs) : ∀ g, Go.Proofs.YtiokabhidjafeaaDoor.blkOf v = some g → v.ownBlock = some g := fun g hg => by
  rcases h.2 with ⟨e, _⟩ | ⟨g', c', e, _⟩
  · subst e; cases hg
  · subst e; cases hg; rfl
theorem seq_eql (w : World) (f : Fn) (a c : Array Value) : (binOp .eql 74 (.func f a c) .nilFunc).run Tryd.prog w = .ok (.bool false) w := by
  have h : ∀ d : Nat, (Op.equalIn (d + 1) 74 (.func f a c) .nilFunc).run Tryd.prog w = .ok false w := fun d => by
    simp [Op.equalIn, run_underlying Tryd.underlying74]
  simp only [binOp]
  simp [Op.equal, Op.maxDepth, h 9999]
/-- What lies between two rounds: the groups that came, in memory of the call's own. -/
structure LsI (w1 : World) (Bo : Nat) (pre : List (GrpI × Value)) (W : World) : Prop where
  res : ∃ u, Blk W Bo 30 #[u] ∧ GrO w1.heap.size W u pre
  frm : Frm (fun q => q = Bo) w1 W
theorem LsI.tw {w1 W W' : World} {Bo : Nat} {pre : List (GrpI × Value)} (h : LsI w1 Bo pre W) (g : Tw w1.heap.size W W') : LsI w1 Bo pre W' := by
  obtain ⟨u, h1, h2⟩ := h.res
  exact ⟨⟨u, g.blk h1, h2.tw g⟩, g.frm h.frm (Nat.le_refl _)⟩
theorem Row.fresh {w : World} {size n : Nat} {v : Value} {xs : List Value} (h : Row w size v n xs) {g : Nat} (e : v.ownBlock = some g) : g < w.heap.size := Row.blk h g e
theorem ls_step {w1 W0 W1 W3 : World} {Bo : Nat} {K : Nat → Prop} {pre : List (GrpI × Value)} {x : GrpI × Value} (hi : LsI w1 Bo pre W0) (hBo : Bo < w1.heap.size) (f01 : Frm (fun _ => False) W0 W1) (hy : GY x W0 W1)
    (hT : Tw w1.heap.size (W1.alloc (.cells #[.string (bs x.1.s), x.2] 41)) W3) (hK : ∀ q, K q → q < w1.heap.size ∧ q ≠ Bo) (hl : pre.length ≤ 100000) :
    ∃ u v' W4, Blk W3 Bo 30 #[u] ∧ (Builtin.append_ #[30, 30] 30 #[u, .slice (some ⟨W3.heap.size, 0, none⟩) 1 1]).run Tryd.prog (W3.alloc (.cells #[.string (bs x.1.s), x.2] 41)) = .ok v' W4 ∧ Blk W3 W1.heap.size 41 #[.string (bs x.1.s), x.2] ∧ Blk W4 Bo 30 #[u] ∧
      (KeepsFrom w1.heap.size W3 (W4.setCell ⟨Bo, 0, none⟩ v') ∧ keptS K W1 (W4.setCell ⟨Bo, 0, none⟩ v') ∧ LsI w1 Bo (pre ++ [x]) (W4.setCell ⟨Bo, 0, none⟩ v')) ∧ (∃ a n c, u = .slice a n c) ∧ ∃ a n c, v' = .slice a n c := by
  obtain ⟨ho, hn⟩ := hy
  have f12 : Frm (fun _ => False) W1 (W1.alloc (.cells #[.string (bs x.1.s), x.2] 41)) := (Frm.refl _ W1).alloc _
  have bx : Blk W3 W1.heap.size 41 #[.string (bs x.1.s), x.2] := hT.blk (Blk.alloc W1 _ _)
  obtain ⟨u, hu0, hg0⟩ := hi.res
  have hu3 : Blk W3 Bo 30 #[u] := hT.blk ((hu0.keep f01 (fun h => h)).keep f12 (fun h => h))
  have hg3 : GrO w1.heap.size W3 u pre := ((hg0.keepF f01).keepF f12).tw hT
  have ox : OwnE W3 x.2 x.1.d := hT.row (ho.keep f12 (fun _ _ h => h))
  have hs0 : w1.heap.size ≤ W0.heap.size := hi.frm.size
  have hs3 : W1.heap.size < W3.heap.size := bx.lt
  have fA : Frm (fun _ => False) W3 (W3.alloc (.cells #[.string (bs x.1.s), x.2] 41)) := (Frm.refl _ W3).alloc _
  obtain ⟨v', W4, hrun, hrow, hgr, hnew⟩ := append_grps (W3.alloc (.cells #[.string (bs x.1.s), x.2] 41)) u (.slice (some ⟨W3.heap.size, 0, none⟩) 1 1) pre [x] (Row.keep hg3.row fA (fun _ _ h => h)) (Sl.built grc grc_len W3 41 x #[.string (bs x.1.s), x.2] rfl)
    (fun q hq => by
      simp [flat, grc] at hq
      rcases hq with rfl | rfl
      · rfl
      · obtain ⟨a, c, e, _, _⟩ := Row.slice ho
        rw [e]; rfl) (by simp; omega)
  have hub : ∀ g, u.ownBlock = some g → w1.heap.size ≤ g ∧ g < W0.heap.size := fun g e => ⟨hg0.lo g e, Row.fresh hg0.row e⟩
  have f4 : Frm (fun q => u.ownBlock = some q) W3 W4 := (fA.mono fun _ _ h => h.elim).grown hgr (fun q _ e => e)
  have b4 : Blk W4 Bo 30 #[u] := hu3.keep f4 (fun e => by have := (hub _ e).1; omega)
  have hadd := GrO.add (hg3.keepF fA) x (ox.keep fA (fun _ _ h => h)) (fun g e => ⟨by have := hn g e; omega, fun e2 => by have := hn g e; have := (hub g e2).2; omega, fun i h e2 => by have := hn g e; have := Row.fresh (hg0.dots i h) e2; omega⟩) hrow hgr hnew (by have := fA.size; have := f01.size; omega)
  have f5 : Frm (fun q => q = Bo ∨ u.ownBlock = some q) W3 (W4.setCell ⟨Bo, 0, none⟩ v') := (f4.mono fun _ _ h => .inr h).setCell (p := ⟨Bo, 0, none⟩) (fun _ => .inl rfl) _
  have fs : Frm (fun q => q = Bo) W4 (W4.setCell ⟨Bo, 0, none⟩ v') := (Frm.refl (fun q => q = Bo) W4).setCell (p := ⟨Bo, 0, none⟩) (fun _ => rfl) _
  have fw3 : Frm (fun q => q = Bo) w1 W3 := hT.frm (((hi.frm.trans (f01.mono fun _ _ h => h.elim)).trans (f12.mono fun _ _ h => h.elim))) (Nat.le_refl _)
  refine ⟨u, v', W4, hu3, hrun, bx, b4, ⟨(f5.others fun q o hq ho2 => ?_).from _, fun q hq => ?_, ⟨⟨v', b4.set 0 v', hadd.keep fs (fun q e e2 => by have := hadd.lo q e; omega) (fun i h q e e2 => by have := hadd.lod i h q e; omega)⟩, fw3.next f5 (fun q hq e => ?_)⟩⟩, ?_, ?_⟩
  · rcases hq with rfl | hq
    · exact hu3.isCells _ o rfl ho2
    · exact Row.isCellsR hg3.row q o hq ho2
  · have h1 := (hK q hq).1
    have h2 : q < W1.heap.size := by have := f01.size; omega
    have e2 := f12.block q h2 (fun h => h)
    have e3 := hT.block q (by have := f12.size; omega) (fun e => by have := e.1; omega)
    have e4 := f5.block q (by omega) (fun e => by
      rcases e with e | e
      · exact (hK q hq).2 e
      · have := (hub q e).1; omega)
    exact (e4.trans e3).trans e2
  · rcases e with e | e
    · exact e
    · have := (hub q e).1; omega
  · obtain ⟨a, c, e, _, _⟩ := Row.slice hg3.row
    exact ⟨a, _, c, e⟩
  · obtain ⟨a, c, e, _, _⟩ := Row.slice hrow
    exact ⟨a, _, c, e⟩
/-- listed's answer. -/
def LsTo (L : List GrpI) (w : World) (e : Ending) (w' : World) : Prop := ∃ u P, e = .returned (.tuple #[u, .bool true]) ∧ GrO w.heap.size w' u P ∧ P.map Prod.fst = L ∧ Frm (fun _ => False) w w'
/-- What must be kept while groups are gone through. -/
def grK (B : Nat) (u : Value) (P : List (GrpI × Value)) (q : Nat) : Prop := q = B ∨ Go.Proofs.YtiokabhidjafeaaDoor.blkOf u = some q ∨ ∃ i, ∃ h : i < P.length, Go.Proofs.YtiokabhidjafeaaDoor.blkOf P[i].2 = some q
theorem grK_lt {B n1 : Nat} {u : Value} {P : List (GrpI × Value)} {W : World} {t : TypeId} {cs : Array Value} (hB : Blk W B t cs) (hn : n1 ≤ B) (h : GrO n1 W u P) : ∀ q, grK B u P q → n1 ≤ q ∧ q < W.heap.size := fun q hq => by
  rcases hq with rfl | hq | ⟨i, hi, hq⟩
  · exact ⟨hn, hB.lt⟩
  · have e := Row.blkOf h.row q hq
    exact ⟨h.lo q e, Row.blk h.row q e⟩
  · have e := Row.blkOf (h.dots i hi) q hq
    exact ⟨h.lod i hi q e, Row.blk (h.dots i hi) q e⟩
set_option maxRecDepth 100000 in
set_option maxHeartbeats 8000000 in
theorem listed_any (f : Nat → Nat) (v : Value) (l : List SibI) (q : Bool) (w : World) (h : SL w v l) (hs : ∀ x ∈ l, x.s.length ≤ 200) (hb : l.length ≤ 1000) : Calls Tryd.prog 10 #[rg f v, .bool q] w (LsTo (grps (sameR q) l) w) := by
  obtain ⟨a0, c0, rfl, _, _⟩ := h.slice
  have hfe := seq_eql
  have a3 := Tryd.isAgg41
  have z3 := Tryd.sizeOf41
  have HSL : Hid (∀ W, Frm (fun _ => False) w W → SL W (.slice a0 l.length c0) l) := Lib.hid fun W g => h.keepF g
  have f0 : Frm (fun _ => False) w ((w.alloc (.cells (rgc f (.slice a0 l.length c0)) 27)).alloc (.cells #[.slice none 0 0] 30)) := ((Frm.refl _ w).alloc _).alloc _
  have d1 : Blk ((w.alloc (.cells (rgc f (.slice a0 l.length c0)) 27)).alloc (.cells #[.slice none 0 0] 30)) (w.heap.size + 1) 30 #[.slice none 0 0] := Blk.at1 w _ _ _
  have hz : ((w.alloc (.cells (rgc f (.slice a0 l.length c0)) 27)).alloc (.cells #[.slice none 0 0] 30)).heap.size = w.heap.size + 2 := by simp
  have dR : Blk ((w.alloc (.cells (rgc f (.slice a0 l.length c0)) 27)).alloc (.cells #[.slice none 0 0] 30)) w.heap.size 27 (rgc f (.slice a0 l.length c0)) := (Blk.alloc w _ _).old _
  have lR := load_reg dR
  clear h
  refine (callsIn_wide (n := 9)).1 ?_
  refine callsIn_of_wp_marks Tryd.func10 rfl trivial ?_ rfl
  simp only [Tryd.ntmps10, List.size_toArray, List.length_cons, List.length_nil, Nat.reduceAdd, Nat.reduceSub, Array.replicate_succ, Array.replicate_zero, List.push_toArray, List.append_toArray, List.nil_append, List.cons_append]
  refine wpIn_wide.2 ?_
  refine Code.wp_mono calmR_le ?_
  cases q with
  | false =>
    go_wp2_with (first | ((with_reducible refine wpl_load rfl _ rfl ?_ lR ?_); (focus rfl)) | fail)
    refine (groups_any (sameR false) f _ _ l _ (HSL.out _ f0) (same_just _) hs hb).mono ?_
    rintro e w1 ⟨B, u, P, rfl, hBn, bB, hG, hL, g1⟩
    rw [hz] at hBn hG
    have d1 := d1.keep g1 (fun h => h)
    have g1 := f0.trans g1
    clear lR dR
    go_wp2_with fail
    refine (wpIn_wide (n := 9)).1 ?_
    have hok := gok_grps (p := sameR false) l hs
    rw [← hL] at hok
    have hPl : P.length ≤ 1000 := by have := hok.len; rw [List.length_map] at this; omega
    have hPd : ∀ i (h : i < P.length), P[i].1.d.length ≤ 1000 := fun i h => Nat.le_trans (hok.d P[i].1 (List.mem_map.2 ⟨P[i], List.getElem_mem h, rfl⟩)) hb
    have hKo := grK_lt bB hBn hG
    refine range_gives rfl (by omega) (gf := 48) (lb := #[.pointer (some ⟨B, 0, none⟩)]) rfl trivial (enters_of Tryd.func48 (by kernel_rfl) rfl)
      (groups_gives B u P (grK B u P) w1 bB (Sl.ofRow hG.row) (fun i h => ⟨(hG.dots i h).dl, hPd i h⟩) (fun q hq => (hKo q hq).2) (fun g e => .inr (.inl e)) (fun i h g e => .inr (.inr ⟨i, h, e⟩))) (fun q hq => (hKo q hq).2) (fun _ => rfl)
      (LsI w1 (w.heap.size + 1)) (fun _ _ _ h g => h.tw g) ⟨⟨_, d1, GrO.nil _ _⟩, Frm.refl _ _⟩ ?round ?done
    case round =>
      rintro l1 pre ⟨⟨s, d⟩, vx⟩ W0 W1 hl hrec hi f01 ⟨hy, _⟩ hlen
      obtain ⟨a5, c5, e5, _, _⟩ := Row.slice hy.1
      dsimp only at e5
      subst e5
      gi_wp2
      refine ⟨(KeepsOthers.alloc _ _).from _, fun W3 hT => ?_⟩
      obtain ⟨u3, v', W4, e1, e2, e3, e4, e6, ⟨a8, n8, c8, rfl⟩, a9, n9, c9, rfl⟩ := ls_step hi d1.lt f01 hy hT (fun q hq => ⟨(hKo q hq).2, by have := (hKo q hq).1; omega⟩) (by omega)
      have Hrun := Lib.hid e2
      have HE := Lib.hid e6
      have c6 := e1.cell 0 rfl
      have x0 := e3.cell 0 rfl
      have x1 := e3.cell 1 rfl
      have cl2 := e4.cell 0 rfl
      have fl2 := e4.free 0
      clear e1 e2 e3 e4 e6 hi hy hT hrec f01
      gi_wp2_with (refine wplIn_append rfl _ _ _ _ rfl _ _ rfl rfl _ _ Hrun.out ?_)
      exact HE.out
    case done =>
      rintro D xs W hD hS hi hK
      obtain ⟨u', hb', ho⟩ := hi.res
      obtain ⟨a8, c8, rfl, _, _⟩ := Row.slice ho.row
      have c5 := hb'.cell 0 rfl
      have hgp := grownBy_putObj' W D (.deferred none)
      have hT : Tw w1.heap.size W (W.putObj D (.deferred none)) := Tw.put _ hD hK rfl
      have ho2 := ho.tw hT
      have hsz1 : w.heap.size ≤ w1.heap.size := g1.size
      have hf2 : Frm (fun _ => False) w (W.putObj D (.deferred none)) := (g1.next hi.frm (fun q hq e => by omega)).next hT (fun q hq e => by have := e.1; omega)
      clear ho hgp
      go_wp2_with fail
      refine calmR_ret ?_
      refine ⟨by simp, .inl ⟨_, _, rfl, run_takeDeferred hK, ?_⟩⟩
      refine ⟨_, results_tmp2 rfl _ _ _, ?_⟩
      exact ⟨_, xs, rfl, ⟨ho2.row, ho2.dots, ho2.apart, ho2.apu, fun g e => Nat.le_trans hsz1 (ho2.lo g e), fun i hi g e => Nat.le_trans hsz1 (ho2.lod i hi g e)⟩, hS.trans hL, hf2⟩
  | true =>
    go_wp2_with (first | ((with_reducible refine wpl_load rfl _ rfl ?_ lR ?_); (focus rfl)) | fail)
    refine (groups_any (sameR false) f _ _ l _ (HSL.out _ f0) (same_just _) hs hb).mono ?_
    rintro e w0 ⟨B0, u0, P0, rfl, _, _, _, _, g0⟩
    have dR := dR.keep g0 (fun h => h)
    have lR := load_reg dR
    have d1 := d1.keep g0 (fun h => h)
    have hs0 := g0.size
    rw [hz] at hs0
    have g0 := f0.trans g0
    clear f0
    go_wp2_with (first | ((with_reducible refine wpl_load rfl _ rfl ?_ lR ?_); (focus rfl)) | fail)
    refine (groups_any (sameR true) f _ _ l _ (HSL.out _ g0) (same_loose _) hs hb).mono ?_
    rintro e w1 ⟨B, u, P, rfl, hBn, bB, hG0, hL, g1⟩
    have hG : GrO (w.heap.size + 2) w1 u P := ⟨hG0.row, hG0.dots, hG0.apart, hG0.apu, fun g e => Nat.le_trans hs0 (hG0.lo g e), fun i h g e => Nat.le_trans hs0 (hG0.lod i h g e)⟩
    have hBn := Nat.le_trans hs0 hBn
    have d1 := d1.keep g1 (fun h => h)
    have g1 := g0.trans g1
    clear hG0
    clear lR dR
    go_wp2_with fail
    refine (wpIn_wide (n := 9)).1 ?_
    have hok := gok_grps (p := sameR true) l hs
    rw [← hL] at hok
    have hPl : P.length ≤ 1000 := by have := hok.len; rw [List.length_map] at this; omega
    have hPd : ∀ i (h : i < P.length), P[i].1.d.length ≤ 1000 := fun i h => Nat.le_trans (hok.d P[i].1 (List.mem_map.2 ⟨P[i], List.getElem_mem h, rfl⟩)) hb
    have hKo := grK_lt bB hBn hG
    refine range_gives rfl (by omega) (gf := 48) (lb := #[.pointer (some ⟨B, 0, none⟩)]) rfl trivial (enters_of Tryd.func48 (by kernel_rfl) rfl)
      (groups_gives B u P (grK B u P) w1 bB (Sl.ofRow hG.row) (fun i h => ⟨(hG.dots i h).dl, hPd i h⟩) (fun q hq => (hKo q hq).2) (fun g e => .inr (.inl e)) (fun i h g e => .inr (.inr ⟨i, h, e⟩))) (fun q hq => (hKo q hq).2) (fun _ => rfl)
      (LsI w1 (w.heap.size + 1)) (fun _ _ _ h g => h.tw g) ⟨⟨_, d1, GrO.nil _ _⟩, Frm.refl _ _⟩ ?round ?done
    case round =>
      rintro l1 pre ⟨⟨s, d⟩, vx⟩ W0 W1 hl hrec hi f01 ⟨hy, _⟩ hlen
      obtain ⟨a5, c5, e5, _, _⟩ := Row.slice hy.1
      dsimp only at e5
      subst e5
      gi_wp2
      refine ⟨(KeepsOthers.alloc _ _).from _, fun W3 hT => ?_⟩
      obtain ⟨u3, v', W4, e1, e2, e3, e4, e6, ⟨a8, n8, c8, rfl⟩, a9, n9, c9, rfl⟩ := ls_step hi d1.lt f01 hy hT (fun q hq => ⟨(hKo q hq).2, by have := (hKo q hq).1; omega⟩) (by omega)
      have Hrun := Lib.hid e2
      have HE := Lib.hid e6
      have c6 := e1.cell 0 rfl
      have x0 := e3.cell 0 rfl
      have x1 := e3.cell 1 rfl
      have cl2 := e4.cell 0 rfl
      have fl2 := e4.free 0
      clear e1 e2 e3 e4 e6 hi hy hT hrec f01
      gi_wp2_with (refine wplIn_append rfl _ _ _ _ rfl _ _ rfl rfl _ _ Hrun.out ?_)
      exact HE.out
    case done =>
      rintro D xs W hD hS hi hK
      obtain ⟨u', hb', ho⟩ := hi.res
      obtain ⟨a8, c8, rfl, _, _⟩ := Row.slice ho.row
      have c5 := hb'.cell 0 rfl
      have hgp := grownBy_putObj' W D (.deferred none)
      have hT : Tw w1.heap.size W (W.putObj D (.deferred none)) := Tw.put _ hD hK rfl
      have ho2 := ho.tw hT
      have hsz1 : w.heap.size ≤ w1.heap.size := g1.size
      have hf2 : Frm (fun _ => False) w (W.putObj D (.deferred none)) := (g1.next hi.frm (fun q hq e => by omega)).next hT (fun q hq e => by have := e.1; omega)
      clear ho hgp
      go_wp2_with fail
      refine calmR_ret ?_
      refine ⟨by simp, .inl ⟨_, _, rfl, run_takeDeferred hK, ?_⟩⟩
      refine ⟨_, results_tmp2 rfl _ _ _, ?_⟩
      exact ⟨_, xs, rfl, ⟨ho2.row, ho2.dots, ho2.apart, ho2.apu, fun g e => Nat.le_trans hsz1 (ho2.lo g e), fun i hi g e => Nat.le_trans hsz1 (ho2.lod i hi g e)⟩, hS.trans hL, hf2⟩
end Go.Proofs.YtiokabhidjafeaaDoor

