/- What Copy and All make; what All hands out; what Count and Take answer. No condition. -/
import Derived.Test.YtdhnidmeeocajaaSpC
import Derived.Test.YtdhnidmeeocajaaTurn
import Derived.Test.YtdhnidmeeocajaaInR
import Derived.RangeFuncNested
import Derived.RangeFuncBound
import Derived.RangeFuncCalls
import Derived.RangeFuncLeaves
import Derived.Shelf.Abstract
import Derived.Shelf.RegionOpen
import Derived.OwnWalkIn
import Derived.TacticsInMore
import Derived.LoopNIn
import Derived.LoopIn
import Derived.Lib.AppendZeros
namespace Go.Proofs.Ytdhnidmeeocajaa
open Go.RowKit Go.Shelf
attribute [local go_sem] Oper.semAt_some

/-- Words, as cells. -/
def pgs (x : Nat → Nat) (m : Nat) : List Value := (List.range m).map fun j => Value.int .u64 (x j : Nat)
theorem pgs_len (x : Nat → Nat) (m : Nat) : (pgs x m).length = m := by simp [pgs]
theorem pgs_get (x : Nat → Nat) (m j : Nat) (h : j < m) : (pgs x m)[j]? = some (.int .u64 (x j : Nat)) := by simp [pgs, h]
theorem pgs_one (x : Nat → Nat) (m : Nat) : ∀ u ∈ pgs x m, u.oneCell' = true := fun u hu => by
  obtain ⟨_, _, rfl⟩ := List.mem_map.1 hu
  rfl
theorem nilPg (w : World) (a : Option Addr) (n c n' c' : Nat) : (binOp .eql 53 (.slice a n c) (.slice none n' c')).run Try.prog w = .ok (.bool a.isNone) w := Lib.run_eql_slice_nil w _ _ a n c n' c' Try.underlying53
theorem OwnPg.empty (w : World) : Row (w.alloc (.cells #[] 64)) 4 (.slice (some ⟨w.heap.size, 0, none⟩) 0 0) 0 [] :=
  Row.made w 64 4 0 0 [] #[] rfl (Nat.le_refl _) (by decide) rfl rfl
set_option maxRecDepth 100000 in
set_option maxHeartbeats 1000000 in
theorem pgclone_any (g n cap : Nat) (x : Nat → Nat) (w : World) (hn : 0 < n) (hn8 : n ≤ 1000) (hc1 : n ≤ cap) (hc2 : cap ≤ maxLen) (hg : g < w.heap.size) (h : ∀ j, j < n * 4 → w.cell? ⟨g, j, none⟩ = some (.int .u64 (x j : Nat))) :
    Calls Try.prog 27 #[.slice (some ⟨g, 0, none⟩) n cap] w fun e w' => ∃ g' cap', e = .returned (.slice (some ⟨g', 0, none⟩) n cap') ∧ (n ≤ cap' ∧ cap' ≤ maxLen) ∧ (w.heap.size ≤ g' ∧ g' < w'.heap.size) ∧
      (∀ W, Frm (fun _ => False) w' W → ∀ j, j < n * 4 → W.cell? ⟨g', j, none⟩ = some (.int .u64 (x j : Nat)) ∧ W.frozen? ⟨g', j, none⟩ = false) ∧ Frm (fun _ => False) w w' := by
  have hs : Sl w 4 (.slice (some ⟨g, 0, none⟩) n cap) n (pgs x (n * 4)) := ⟨pgs_len _ _, _, _, rfl, hc1, hc2, .inr ⟨g, 0, rfl, hg, fun j hj => by rw [Nat.zero_add, h j hj, pgs_get x _ j hj]⟩⟩
  obtain ⟨i0, hi, hz0, hz1, hz2⟩ := sinfo_parts infoPg
  have h1 := hs.keepF ((Frm.refl _ w).alloc (.cells #[] 64))
  obtain ⟨v', w', hrun, hrow, hgr, ho⟩ := run_append_row (w.alloc (.cells #[] 64)) 53 53 53 64 i0 pz 4 32 Try.underlying53 hi hz0 hz1 hz2 (by rw [pz_cells]; rfl) (OwnPg.empty w) _ n (pgs x (n * 4))
    (Sl.src h1 Try.underlying53 (pgs_one x _)) (by unfold maxLen; omega) (by omega)
  have hq := nilPg
  have Hrun := Lib.hid hrun
  have HR := Lib.hid (And.intro hrow (And.intro hgr ho))
  unfold maxLen at hc2
  clear hrun hrow hgr ho h1 hs h hi hz0 hz1 hz2
  go_enter Try.func27, Try.ntmps27
  go_wp2_with (at_builtin; refine Lib.wpList_append_run _ rfl _ _ _ _ rfl _ _ rfl rfl _ _ Hrun.out ?_)
  go_ret
  obtain ⟨hrow, hgr, ho⟩ := HR.out
  rw [Nat.zero_add, List.nil_append] at hrow
  rcases hrow.2 with ⟨_, h0⟩ | ⟨g', cap', rfl, k1, k2, ⟨o, hoo, hoc⟩, k4, k5⟩
  · omega
  · have hlt : g' < w'.heap.size := (Array.getElem?_eq_some_iff.1 hoo).1
    refine ⟨g', cap', rfl, ⟨k1, k2⟩, ⟨?_, hlt⟩, fun W gW j hj => ?_, ((Frm.refl _ w).alloc _).grown hgr (fun k hk e => by have e2 : w.heap.size = k := Option.some.inj e; omega)⟩
    · rcases ho g' rfl with e | e
      · cases e; exact Nat.le_refl _
      · simp at e; omega
    · have e := gW.block g' hlt (fun h => h)
      rw [World.cell?_of_block (a := ⟨g', j, none⟩) e, World.frozen?_of_block (a := ⟨g', j, none⟩) e, k4 j hj, pgs_get x _ j hj]
      exact ⟨rfl, (k5 j (by have := Nat.mul_le_mul_right 4 k1; omega)).2⟩
set_option maxRecDepth 100000 in
set_option maxHeartbeats 4000000 in
theorem spcopy_any (s g : Nat) (S : SpV) (w : World) (h : SpM w s g S) :
    Calls Try.prog 11 #[.pointer (some ⟨s, 0, none⟩)] w fun e w' => ∃ v, e = .returned v ∧ NewSp S w v w' := by
  obtain ⟨cap, c1, c2, hb⟩ := h.blk
  obtain ⟨x, hx, hpg⟩ := h.pg
  have e1 := hb.cell 1 rfl
  have e2 := hb.cell 2 rfl
  have e3 := hb.cell 3 rfl
  have hok := h.ok
  have HM := Lib.hid (spmade_any s g S w h)
  have np0 : 0 < S.np := by have := hok.lo; unfold SpV.np; omega
  have np8 : S.np ≤ 1000 := by have := hok.hi; unfold SpV.np; omega
  have hglt := h.lt
  have HC : ∀ W, Frm (fun _ => False) w W → Calls Try.prog 27 #[.slice (some ⟨g, 0, none⟩) S.np cap] W fun e w' => ∃ g' cap', e = .returned (.slice (some ⟨g', 0, none⟩) S.np cap') ∧ (S.np ≤ cap' ∧ cap' ≤ maxLen) ∧ (W.heap.size ≤ g' ∧ g' < w'.heap.size) ∧
      (∀ W', Frm (fun _ => False) w' W' → ∀ j, j < S.np * 4 → W'.cell? ⟨g', j, none⟩ = some (.int .u64 (x j : Nat)) ∧ W'.frozen? ⟨g', j, none⟩ = false) ∧ Frm (fun _ => False) W w' := fun W gW =>
    pgclone_any g S.np cap x W np0 np8 c1 c2 (Nat.lt_of_lt_of_le hglt gW.size) (fun j hj => gW.cellF (hpg j hj).1)
  have HB : ∀ W g' cap', Calls Try.prog 24 #[.int .i64 (S.a : Nat), .int .i64 (S.n : Nat), .slice (some ⟨g', 0, none⟩) S.np cap'] W fun e w' => e = .returned (.pointer (some ⟨W.heap.size, 0, none⟩)) ∧ Blk w' W.heap.size 55 #[.pointer (some ⟨W.heap.size, 0, none⟩), .int .i64 (S.a : Nat), .int .i64 (S.n : Nat), .slice (some ⟨g', 0, none⟩) S.np cap'] ∧ Frm (fun _ => False) W w' := fun W g' cap' => spbuild_any _ _ _ _ _ W
  have Hc := Lib.hid HC
  have Hb := Lib.hid HB
  have HK := Lib.hid (And.intro hok hx)
  obtain ⟨N, hN⟩ : ∃ N, S.np = N := ⟨_, rfl⟩
  have HN := Lib.hid hN
  rw [hN] at e3 Hc Hb
  clear hN h HC HB hb hpg hok hx c1 c2 np0 np8 hglt
  go_enter Try.func11, Try.ntmps11
  go_wp2_with fail
  refine HM.out.mono ?_
  rintro e w1 ⟨rfl, rfl⟩
  go_wp2_with fail
  have f0 := Frm.refl (fun _ => False) w
  go_region_held3 (fun w' => w'.cell? ⟨s, 1, none⟩ = some (.int .i64 (S.a : Nat)) ∧ w'.cell? ⟨s, 2, none⟩ = some (.int .i64 (S.n : Nat)) ∧ w'.cell? ⟨s, 3, none⟩ = some (.slice (some ⟨g, 0, none⟩) N cap) ∧ Frm (fun _ => False) w w')
    (((try dsimp only); (try go_split_ands); (repeat' apply And.intro) <;> (first
      | assumption
      | exact Frm.drew (by assumption)
      | exact Frm.cellF gg (by assumption)
      | (refine Frm.trans ?_ gg; assumption)
      | go_keep)))
    (first
      | (go_at_call 27; (with_reducible refine (Hc.out _ (And.right (And.right (And.right (by assumption))))).mono ?_); rintro e ww ⟨g', cap', rfl, lc, lg, Mg, gg⟩)
      | (go_at_call 24; (with_reducible refine (Hb.out _ g' cap').mono ?_); rintro e ww ⟨rfl, HD, gg⟩))
  all_goals
    rename_i W2 g2 hh
    clear hh
    go_wp2_with fail
    go_ret
    have e0 : w.drew.heap.size = w.heap.size := rfl
    have s2 := g2.size
    have s3 := gg.size
    exact ⟨_, rfl, W2.heap.size, g', rfl, ⟨HK.out.1, ⟨cap', by rw [HN.out]; exact lc.1, lc.2, by rw [HN.out]; exact HD⟩, by omega, ⟨x, HK.out.2, fun j hj => Mg ww gg j (by rw [← HN.out]; exact hj)⟩, by omega⟩, by omega, by omega, (f0.drew.trans g2).trans gg⟩
theorem spcopy_no (p : Value) (w : World) (h : NoSp p w) :
    Calls Try.prog 11 #[p] w fun e w' => e = .returned (.pointer none) ∧ w = w' := by
  have HM := Lib.hid (spmade_no p w h)
  clear h
  go_enter Try.func11, Try.ntmps11
  go_wp2_with fail
  refine HM.out.mono ?_
  rintro e w1 ⟨rfl, rfl⟩
  go_wp2_with fail
  go_ret
  exact ⟨rfl, rfl⟩
set_option maxHeartbeats 400000 in
theorem spall_any (p : Option Addr) (w : World) :
    Calls Try.prog 18 #[.pointer p] w fun r w' => r = .returned (.func (.func 33) #[] #[.pointer (some ⟨w.heap.size, 0, none⟩)]) ∧ w.alloc (.cells #[.pointer p] 26) = w' := by
  go_enter Try.func18, Try.ntmps18
  go_wp2
  go_ret
  exact ⟨rfl, rfl⟩
theorem spyield_eql (w : World) (f : Fn) (a c : Array Value) : (binOp .eql 42 (.func f a c) .nilFunc).run Try.prog w = .ok (.bool false) w := by
  have h : ∀ d : Nat, (Op.equalIn (d + 1) 42 (.func f a c) .nilFunc).run Try.prog w = .ok false w := fun d => by
    simp [Op.equalIn, run_underlying Try.underlying42]
  simp only [binOp]
  simp [Op.equal, Op.maxDepth, h 9999]
/-- A block that is ruled. -/
abbrev SE (S : SpV) : Type := { k : Nat // S.a ≤ k ∧ k < S.n }
abbrev nEnc (S : SpV) (k : SE S) : Array Value := #[.int .i64 (k.1 : Nat)]
/-- Blocks as numbers. -/
def ns {S : SpV} (l : List (SE S)) : List Nat := l.map fun x => x.1
theorem ns_append {S : SpV} (l m : List (SE S)) : ns (l ++ m) = ns l ++ ns m := List.map_append
theorem ns_length {S : SpV} (l : List (SE S)) : (ns l).length = l.length := List.length_map _
/-- What a round must leave as it lay. -/
def keptX (X : Nat → Prop) (W W' : World) : Prop := ∀ k, X k → W'.heap[k]? = W.heap[k]?
theorem keptX.trans {X : Nat → Prop} {A B C : World} (h : keptX X A B) (k : keptX X B C) : keptX X A C := fun q hq => (k q hq).trans (h q hq)
theorem keptX.put {X : Nat → Prop} {w : World} (hX : ∀ k, X k → k < w.heap.size) (W : World) (l : Nat) (o o' : Obj) (hl : w.heap.size ≤ l) (_ : W.heap[l]? = some o) (_ : o.isCells = false) (_ : o.isWalk = false) : keptX X W (W.putObj l o') :=
  fun q hq => World.putObj_heap_other (by have := hX q hq; omega)
theorem frm_of_belowS {w w' : World} (h : Below w.heap.size w w') : Frm (fun _ => False) w w' := ⟨h.os, h.tape, h.output, h.size, fun k hk _ => h.block k hk⟩
/-- The blocks that a space's ranges look at. -/
def spX (Bn s g : Nat) : Nat → Prop := fun k => k = Bn ∨ k = s ∨ k = g
set_option maxRecDepth 100000 in
set_option maxHeartbeats 4000000 in
theorem spall_stops (Bn s g : Nat) (S : SpV) (w : World) (hB : Blk w Bn 26 #[.pointer (some ⟨s, 0, none⟩)]) (h : SpM w s g S) :
    SeqStopsK Fence.wide 8 Try.prog 33 #[.pointer (some ⟨Bn, 0, none⟩)] (nEnc S) (keptX (spX Bn s g)) (fun xs => ns xs = S.all) (fun pre => ns pre <+: S.all ∧ pre ≠ []) S.all.length w := fun l0 J Jx W hW hJ hJx hY h0 => by
  have hBW : Blk W Bn 26 #[.pointer (some ⟨s, 0, none⟩)] := (hW.block Bn hB.lt).trans hB
  have hM := h.keepF (frm_of_belowS hW)
  have hok := hM.ok
  have HM := Lib.hid (spmade_any s g S W hM)
  have c0 := hBW.cell 0 rfl
  obtain ⟨cap, _, _, hb⟩ := hM.blk
  have e1 := hb.cell 1 rfl
  have H := Lib.hid (And.intro hBW hM)
  have hfe := spyield_eql
  clear hB h hBW hM hb hW
  refine callsIn_of_wp Try.func33 rfl trivial ?_ rfl
  simp only [Try.ntmps33, List.size_toArray, List.length_cons, List.length_nil, Nat.reduceAdd, Nat.reduceSub, Array.replicate_succ, Array.replicate_zero, List.push_toArray, List.append_toArray, List.nil_append, List.cons_append]
  gi_wp2_with fail
  refine ⟨trivial, (callsIn_wide.2 HM.out).mono ?_⟩
  rintro e w1 ⟨rfl, rfl⟩
  have hlo := hok.lo
  have hhi := hok.hi
  gi_wp2_with fail
  gi_loopw [3] (fun i wr => ∃ (k : Nat) (l : List (SE S)), i = .int .i64 (k : Nat) ∧ S.a ≤ k ∧ k ≤ S.n ∧ ns l = S.done k ∧ J l wr ∧ keptX (spX Bn s g) W wr) (fun i _ => S.n - (intOf i).toNat)
  case atStart => exact ⟨S.a, [], rfl, Nat.le_refl _, by omega, by rw [SpV.done_low hok _ (Nat.le_refl _)]; rfl, h0, fun _ _ => rfl⟩
  case round =>
    obtain ⟨k, l, rfl, hk1, hk2, hnl, hJs, hkp⟩ := hrel
    have hBr : Blk wr Bn 26 #[.pointer (some ⟨s, 0, none⟩)] := (hkp Bn (.inl rfl)).trans H.out.1
    have hMr := H.out.2.keepB (hkp s (.inr (.inl rfl))) (hkp g (.inr (.inr rfl)))
    have d0 := hBr.cell 0 rfl
    obtain ⟨cap', _, _, hb'⟩ := hMr.blk
    have d2 := hb'.cell 2 rfl
    by_cases hlt : k < S.n
    · have hki : (k : Int) < (S.n : Int) := by omega
      have hfr := spfree_any s g S (k : Int) wr hMr
      have hinn := SpV.inn_of hk1 hlt
      unfold SpV.isF at hfr
      rw [hinn, Int.toNat_natCast, Bool.true_and] at hfr
      have hds := S.done_succ k
      have hpr := SpV.done_pre S (k + 1) S.n (by omega)
      cases hf : S.F k with
      | false =>
        rw [hf] at hfr hds
        have HF := Lib.hid hfr
        have HD := Lib.hid (show ns l = S.done (k + 1) by rw [hds, if_neg (by decide), List.append_nil]; exact hnl)
        have HK := Lib.hid (And.intro hJs hkp)
        clear hfr hds hpr hinn hf hJs hkp hBr hMr hb' hnl
        gi_wp2_with fail
        refine ⟨trivial, (callsIn_wide.2 HF.out).mono ?_⟩
        rintro e w2 ⟨rfl, rfl⟩
        gi_wp2_with fail
        refine ⟨fun _ h => (by cases h), ?_⟩
        gi_wp2_with fail
        go_roundw
        case rel => exact ⟨k + 1, l, by go_num, by omega, by omega, HD.out, HK.out.1, HK.out.2⟩
        case measure => simp [intOf]; omega
      | true =>
        rw [hf] at hfr hds
        rw [if_pos rfl] at hds
        have hlen : l.length < S.all.length := by
          have := hpr.length_le
          rw [hds, List.length_append, List.length_singleton, ← hnl, ns_length] at this
          unfold SpV.all
          omega
        obtain ⟨fn, tmps, assign, body, hy, hR⟩ := hY l ⟨k, hk1, hlt⟩ _ hJs hlen
        dsimp only [nEnc] at hy
        have HF := Lib.hid hfr
        have HD := Lib.hid (show ns (l ++ [(⟨k, hk1, hlt⟩ : SE S)]) = S.done (k + 1) by rw [hds, ns_append, hnl]; rfl)
        have HP := Lib.hid hpr
        have HK := Lib.hid hkp
        clear hfr hds hpr hinn hf hJs hkp hBr hMr hb' hnl hlen
        gi_wp2_with fail
        refine ⟨trivial, (callsIn_wide.2 HF.out).mono ?_⟩
        rintro e w2 ⟨rfl, rfl⟩
        gi_wp2_with fail
        refine hR.mono ?_
        rintro e W3 (⟨rfl, hJ3, hk3⟩ | ⟨rfl, hJx3⟩)
        · gi_wp2_with fail
          go_roundw
          case rel => exact ⟨k + 1, _, by go_num, by omega, by omega, HD.out, hJ3, HK.out.trans hk3⟩
          case measure => simp [intOf]; omega
        · gi_wp2_with fail
          refine bodyPost_ret (results_none rfl _ _ _) rfl ?_
          exact ⟨⟨_, rfl⟩, .inr ⟨l ++ [⟨k, hk1, hlt⟩], ⟨by rw [HD.out]; exact HP.out, by simp⟩, hJx3⟩⟩
    · obtain rfl : k = S.n := by omega
      have HJ := Lib.hid (And.intro hnl hJs)
      clear hJs hkp hBr hMr hb' hnl
      gi_wp2_with fail
      go_end0
      exact ⟨⟨_, rfl⟩, .inl ⟨l, HJ.out.1, HJ.out.2⟩⟩
end Go.Proofs.Ytdhnidmeeocajaa
