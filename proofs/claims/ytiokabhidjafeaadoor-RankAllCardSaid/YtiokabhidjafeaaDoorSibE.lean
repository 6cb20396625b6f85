/- What Check answers. Of any register. No condition but that it isn't too long to be a slice. -/
import Derived.Test.YtiokabhidjafeaaDoorSibD
import Derived.Test.YtiokabhidjafeaaDoorVecG
namespace Go.Proofs.YtiokabhidjafeaaDoor
open Go.RowKit Go.Shelf
attribute [local go_sem] Oper.semAt_some

/-- Do the dots rise, from (r, n) on, and does f have them? -/
def goodC (f : Nat → Nat) : Nat → Nat → List SibI → Bool
  | _, _, [] => true
  | r, n, x :: xs => decide (cmpD r n x.r x.n < 0) && has8 f x.r x.n && goodC f x.r x.n xs
/-- The last dot, or (r, n). -/
def lastD : Nat → Nat → List SibI → Nat × Nat
  | r, n, [] => (r, n)
  | _, _, x :: xs => lastD x.r x.n xs
theorem lastD_snoc (x : SibI) : ∀ (l : List SibI) (r n : Nat), lastD r n (l ++ [x]) = (x.r, x.n) := by
  intro l
  induction l with
  | nil => intro r n; rfl
  | cons y l ih => intro r n; exact ih _ _
theorem goodC_snoc (f : Nat → Nat) (x : SibI) : ∀ (l : List SibI) (r n : Nat), goodC f r n (l ++ [x]) = (goodC f r n l && (decide (cmpD (lastD r n l).1 (lastD r n l).2 x.r x.n < 0) && has8 f x.r x.n)) := by
  intro l
  induction l with
  | nil => intro r n; simp [goodC, lastD] <;> rfl
  | cons y l ih =>
    intro r n
    have := ih y.r y.n
    simp only [List.cons_append, goodC, this, lastD]
    rw [Bool.and_assoc, Bool.and_assoc, Bool.and_assoc]
    rfl
theorem goodC_pre (f : Nat → Nat) : ∀ (l m : List SibI) (r n : Nat), l <+: m → goodC f r n m = true → goodC f r n l = true := by
  intro l
  induction l with
  | nil => intro m r n _ _; rfl
  | cons x l ih =>
    intro m r n h hm
    obtain ⟨t, rfl⟩ := h
    simp only [List.cons_append, goodC, Bool.and_eq_true] at hm ⊢
    exact ⟨hm.1, ih _ _ _ (List.prefix_append _ _) hm.2⟩
/-- Is a register valid? -/
def okR (f : Nat → Nat) (l : List SibI) : Bool := decide (mx f 8 ≤ 65535) && decide (l.length ≤ 8) && goodC f 0 0 l
def chkS (f : Nat → Nat) (l : List SibI) : Nat := if okR f l then 0 else 4

structure ChI (w : World) (n1 b5 : Nat) (f : Nat → Nat) (v : Value) (pre : List SibI) (W : World) : Prop where
  reg : Blk W w.heap.size 27 (rgc f v)
  res : Blk W (w.heap.size + 1) 56 #[.int .i64 0]
  last : Blk W b5 61 (dv (lastD 0 0 pre).1 (lastD 0 0 pre).2)
  good : goodC f 0 0 pre = true
  frm : Frm (fun _ => False) w W
  size : n1 ≤ W.heap.size
structure ChX (w : World) (f : Nat → Nat) (pre : List SibI) (W : World) : Prop where
  res : Blk W (w.heap.size + 1) 56 #[.int .i64 4]
  bad : goodC f 0 0 pre = false
  frm : Frm (fun _ => False) w W
theorem ChI.own (w : World) (n1 b5 : Nat) (f : Nat → Nat) (v : Value) (B : Nat) (hB : w.heap.size ≤ B) : OwnFrom B (ChI w n1 b5 f v) := fun _ _ _ _ h hg hr => by
  have hr2 := fun r e => (hr r e).2
  exact ⟨h.reg.turned hg hr2, h.res.turned hg hr2, h.last.turned hg hr2, h.good, h.frm.turned hB hg hr, Nat.le_trans h.size hg.size⟩
theorem ChX.own (w : World) (f : Nat → Nat) (B : Nat) (hB : w.heap.size ≤ B) : OwnFrom B (ChX w f) := fun _ _ _ _ h hg hr => by
  have hr2 := fun r e => (hr r e).2
  exact ⟨h.res.turned hg hr2, h.bad, h.frm.turned hB hg hr⟩

set_option maxRecDepth 100000 in
set_option maxHeartbeats 8000000 in
theorem check_any (f : Nat → Nat) (v : Value) (l : List SibI) (w : World) (hf : Fit8 f) (h : SL w v l) (hb : l.length ≤ 1000000) :
    Calls Tryd.prog 16 #[rg f v] w fun e w' => e = .returned (.int .i64 (chkS f l)) ∧ Frm (fun _ => False) w w' := by
  have HP := Lib.hid (fun W => put_any8 f W hf)
  unfold PutVTo at HP
  obtain ⟨a, cap, rfl, hc1, hc2⟩ := h.slice
  unfold maxLen at hc2
  have HOK := Lib.hid (show okR f l = (decide (mx f 8 ≤ 65535) && decide (l.length ≤ 8) && goodC f 0 0 l) from rfl)
  have HCK := Lib.hid (show chkS f l = if okR f l then 0 else 4 from rfl)
  generalize okR f l = ok at *
  generalize chkS f l = c at *
  refine (callsIn_wide (n := 9)).1 ?_
  refine callsIn_of_wp_marks Tryd.func16 rfl trivial ?_ rfl
  simp only [Tryd.ntmps16, List.size_toArray, List.length_cons, List.length_nil, Nat.reduceAdd, Nat.reduceSub, Array.replicate_succ, Array.replicate_zero, List.push_toArray, List.append_toArray, List.nil_append, List.cons_append]
  have g0 : Frm (fun _ => False) w ((w.alloc (.cells (rgc f (.slice a l.length cap)) 27)).alloc (.cells #[.int .i64 0] 56)) := ((Frm.refl _ w).alloc _).alloc _
  have d0 : Blk ((w.alloc (.cells (rgc f (.slice a l.length cap)) 27)).alloc (.cells #[.int .i64 0] 56)) w.heap.size 27 (rgc f (.slice a l.length cap)) := (Blk.alloc w _ _).old _
  have d1 : Blk ((w.alloc (.cells (rgc f (.slice a l.length cap)) 27)).alloc (.cells #[.int .i64 0] 56)) (w.heap.size + 1) 56 #[.int .i64 0] := Blk.at1 w _ _ _
  gi_wp2_with fail
  refine ⟨trivial, (callsIn_wide.2 (HP.out _)).mono ?_⟩
  rintro e w1 ⟨rfl, g1⟩
  have k1 := g0.trans g1
  have d0 := d0.keep g1 (fun h => h)
  have d1 := d1.keep g1 (fun h => h)
  have h1 := h.keepF k1
  have r1 := d1.cell 0 rfl
  have s1 := d1.free 0
  clear g0 g1
  by_cases hm : mx f 8 ≤ 65535
  · have hp : putS f = (encV f, 0) := by unfold putS; rw [if_pos hm]
    rw [hp]
    clear hp
    have HF := Lib.hid hf
    clear hf
    generalize bs (encV f) = E at *
    by_cases h8 : l.length ≤ 8
    · have h8i : (l.length : Int) ≤ 8 := by omega
      have HM := Lib.hid hm
      clear hm
      have w1' := d0.cell 8 rfl
      have d5 := Blk.alloc w1 61 dz
      have k2 := k1.alloc (.cells dz 61)
      have lR := load_reg (d0.old (.cells dz 61))
      gi_wp2_with (refine wplIn_load rfl 27 (.tmp 1) rfl _ _ rfl lR ?_)
      refine ⟨trivial, (callsIn_wide.2 (sall_any f _ l _ (h.keepF k2) hb)).mono ?_⟩
      rintro e w2 ⟨B, u, rfl, hB0, hB1, hu, hub, g2⟩
      have k3 := k2.trans g2
      have e0 := (d0.old (.cells dz 61)).keep g2 (fun h => h)
      have e1 := (d1.old (.cells dz 61)).keep g2 (fun h => h)
      have e5 := d5.keep g2 (fun h => h)
      have hz1 : (w1.alloc (.cells dz 61)).heap.size = w1.heap.size + 1 := by simp
      rw [hz1] at hB0 hub
      have hw1 := d1.lt
      have hsz := k3.size
      clear lR d0 d1 d5 k1 k2 g2 hz1 r1 s1 w1'
      obtain ⟨b5, hb5⟩ : ∃ b5, w1.heap.size = b5 := ⟨_, rfl⟩
      rw [hb5] at e5 hB0 hub hw1 ⊢
      clear hb5
      have hKlt : ∀ q, blkOf u = some q → q < w2.heap.size := fun q e => (hub q e).2.2
      have hK3 : ∀ q, blkOf u = some q → b5 + 1 ≤ q := fun q e => (hub q e).1
      gi_wp2_with fail
      refine wpIn_rangeFunc_ownH rfl (by omega) (gf := 60) (lb := #[.pointer (some ⟨B, 0, none⟩)]) rfl trivial (enters_of Tryd.func60 (by kernel_rfl) rfl)
        (sall_stops B u l (fun q => blkOf u = some q) w2 hB1 hu hKlt (fun g hg => hg)) keptS.trans (keptS.put hKlt) (Below.refl _ _) (fun _ => rfl)
        (ChI w w2.heap.size b5 f (.slice a l.length cap)) (fun c pre W => c = .ret ∧ ChX w f pre W) (ChI.own w _ _ _ _ _ hsz) (fun c => OwnFrom.and (fun _ _ _ _ e _ _ => e) (ChX.own w f _ hsz)) ⟨e0, e1, e5, rfl, k3, Nat.le_refl _⟩
        (fun x a' W => ∃ Bx, w2.heap.size ≤ Bx ∧ Blk W Bx 61 (dv x.r x.n) ∧ a' = { tmps := #[rg f (.slice a l.length cap), .pointer (some ⟨w.heap.size, 0, none⟩), .pointer (some ⟨w.heap.size + 1, 0, none⟩), .string E, .int .i64 0, .pointer (some ⟨b5, 0, none⟩), .pointer (some ⟨Bx, 0, none⟩), .tuple #[.string E, .int .i64 0], .pointer (some ⟨w.heap.size, 0, none⟩), .agg (vv f), .tuple #[.string E, .int .i64 0], .string E, .int .i64 0, .int .i64 0, .bool false, .bool false, .pointer (some ⟨w.heap.size, 8, none⟩), .slice a l.length cap, .int .i64 l.length, .bool (decide ((8 : Int) < l.length)), .bool (decide ((8 : Int) < l.length)), rg f (.slice a l.length cap), .func (.func 60) #[] #[.pointer (some ⟨B, 0, none⟩)], .agg (dv x.r x.n), .string (bs x.s), undef, undef, undef, undef, undef, undef, undef, undef, undef, undef, undef, undef], defers := [] })
        (fun x a' _ X Y row hs hg hr => by obtain ⟨Bx, h1, h2, h3⟩ := hs; exact ⟨Bx, h1, h2.turned hg (fun r e => (hr r e).2), h3⟩) ?assign ?body ?done ?stop
      case assign =>
        rintro l0 pre x W K hi hK
        gi_wp2
        have hs := hi.size
        exact hK _ _ ((KeepsOthers.alloc _ _).from _) (fun q hq => Below.heap_alloc _ _ _ (by have := hKlt q hq; omega)) ((ChI.own w _ _ _ _ _ hsz).alloc _ hi) ⟨W.heap.size, hs, Blk.alloc W _ _, rfl⟩
      case body =>
        rintro l0 pre x a' W hl hrec hi ⟨Bx, hBx, bX, rfl⟩ hlt
        clear hrec
        have hsW := hi.size
        obtain ⟨r0, n0, hL⟩ : ∃ r0 n0, lastD 0 0 pre = (r0, n0) := ⟨_, _, rfl⟩
        have hb5 : Blk W b5 61 (dv r0 n0) := by have := hi.last; rw [hL] at this; exact this
        have hgs := goodC_snoc f x pre 0 0
        rw [hi.good, hL, Bool.true_and] at hgs
        have hls := lastD_snoc x pre 0 0
        have CM := Lib.hid (fun W => compare_any r0 n0 x.r x.n W)
        obtain ⟨c1, hc1⟩ : ∃ c1, cmpD r0 n0 x.r x.n = c1 := ⟨_, rfl⟩
        simp only [hc1] at CM hgs
        clear hc1 hL
        obtain ⟨q, hq⟩ : ∃ q, has8 f x.r x.n = q := ⟨_, rfl⟩
        have HH := Lib.hid (fun W => has_any f x.r x.n W x.hr x.hn)
        simp only [hq] at HH hgs
        clear hq
        have HGS := Lib.hid hgs
        have HLS := Lib.hid hls
        have hir := hi.reg
        have his := hi.res
        have hif := hi.frm
        clear hgs hls hi
        have p0 := hb5.cell 0 rfl
        have p1 := hb5.cell 1 rfl
        have x0 := bX.cell 0 rfl
        have x1 := bX.cell 1 rfl
        gi_wp2_with fail
        refine ⟨trivial, (CallsIn.inRound l0 (callsIn_wide.2 (CM.out W))).mono ?_⟩
        rintro e W1 ⟨rfl, f1⟩
        clear p0 p1 x0 x1
        have hir := hir.keep f1 (fun h => h)
        have his := his.keep f1 (fun h => h)
        have hb5 := hb5.keep f1 (fun h => h)
        have bX := bX.keep f1 (fun h => h)
        have kf1 := hif.trans f1
        have HKP := Lib.hid (fun (q : Nat) (hq : blkOf u = some q) => f1.block q (by have := hKlt q hq; omega) (fun h => h))
        have HOT := Lib.hid (f1.others (fun _ _ h => h.elim))
        have hz := f1.size
        clear hif f1
        have s1 := his.cell 0 rfl
        have s2 := his.free 0
        by_cases hc0 : c1 < 0
        · have hc0' : ¬ (0 ≤ c1) := by omega
          have C0 := hir.cell 0 rfl
          have C1 := hir.cell 1 rfl
          have C2 := hir.cell 2 rfl
          have C3 := hir.cell 3 rfl
          have C4 := hir.cell 4 rfl
          have C5 := hir.cell 5 rfl
          have C6 := hir.cell 6 rfl
          have C7 := hir.cell 7 rfl
          have x0 := bX.cell 0 rfl
          have x1 := bX.cell 1 rfl
          gi_wp2_with fail
          refine ⟨trivial, (CallsIn.inRound l0 (callsIn_wide.2 (HH.out W1))).mono ?_⟩
          rintro e W2 ⟨rfl, f2⟩
          have hir := hir.keep f2 (fun h => h)
          have his := his.keep f2 (fun h => h)
          have hb5 := hb5.keep f2 (fun h => h)
          have bX := bX.keep f2 (fun h => h)
          have kf2 := kf1.trans f2
          have HKP2 := Lib.hid (fun (q : Nat) (hq : blkOf u = some q) => f2.block q (by have := hKlt q hq; omega) (fun h => h))
          have HOT2 := Lib.hid (f2.others (fun _ _ h => h.elim))
          have hz2 := f2.size
          have s1 := his.cell 0 rfl
          have s2 := his.free 0
          clear f2 C0 C1 C2 C3 C4 C5 C6 C7 x0 x1 kf1
          cases q with
          | true =>
            have x0 := bX.cell 0 rfl
            have x1 := bX.cell 1 rfl
            have p0 := hb5.cell 0 rfl
            have p1 := hb5.cell 1 rfl
            have q0 := hb5.free 0
            have q1 := hb5.free 1
            have hg2 : goodC f 0 0 (pre ++ [x]) = true := by rw [HGS.out, decide_eq_true hc0]; rfl
            gi_wp2_with fail
            have hb5n : w.heap.size + 1 < b5 := by omega
            refine ⟨((((HOT.out.trans HOT2.out).trans (KeepsOthers.setCell _ _ _))).trans (KeepsOthers.setCell _ _ _)).from _, fun q hq => ?_, ?_, ?_, ?_, hg2, ?_, ?_⟩
            · have hne : q ≠ b5 := by have := hK3 q hq; omega
              exact (Below.heap_setCell _ _ _ _ hne).trans ((Below.heap_setCell _ _ _ _ hne).trans ((HKP2.out q hq).trans (HKP.out q hq)))
            · exact (hir.other (p := ⟨b5, 0, none⟩) (by simp; omega) _).other (p := ⟨b5, 1, none⟩) (by simp; omega) _
            · exact (his.other (p := ⟨b5, 0, none⟩) (by simp; omega) _).other (p := ⟨b5, 1, none⟩) (by simp; omega) _
            · rw [HLS.out]; exact (hb5.set 0 _).set 1 _
            · exact (kf2.setCell (p := ⟨b5, 0, none⟩) (fun h => absurd h (by simp; omega)) _).setCell (p := ⟨b5, 1, none⟩) (fun h => absurd h (by simp; omega)) _
            · simp [World.setCell]; omega
          | false =>
            have hg2 : goodC f 0 0 (pre ++ [x]) = false := by rw [HGS.out]; simp
            gi_wp2_with fail
            exact ⟨((HOT.out.trans HOT2.out).trans (KeepsOthers.setCell _ _ _)).from _, rfl, his.set 0 _, hg2, kf2.setCell (p := ⟨w.heap.size + 1, 0, none⟩) (fun h => absurd h (by simp)) _⟩
        · have hc0' : 0 ≤ c1 := by omega
          have hg2 : goodC f 0 0 (pre ++ [x]) = false := by rw [HGS.out, decide_eq_false hc0]; rfl
          clear hc0
          gi_wp2_with fail
          refine ⟨trivial, ?_⟩
          gi_wp2_with fail
          exact ⟨(HOT.out.trans (KeepsOthers.setCell _ _ _)).from _, rfl, his.set 0 _, hg2, kf1.setCell (p := ⟨w.heap.size + 1, 0, none⟩) (fun h => absurd h (by simp)) _⟩
      case done =>
        rintro D xs W hD rfl hi hK
        have hir := hi.reg
        have his := hi.res
        have hif := hi.frm
        have HG := Lib.hid hi.good
        have s1 := his.cell 0 rfl
        have s2 := his.free 0
        clear hi
        gi_wp2_with fail
        have hK' := (KeepsOthers.setCell W ⟨w.heap.size + 1, 0, none⟩ (.int .i64 0)).same D _ hK rfl
        have hgp := grownBy_putObj' (W.setCell ⟨w.heap.size + 1, 0, none⟩ (.int .i64 0)) D (.deferred none)
        have hrow : ∀ q, some D = some q → ∃ o : Obj, (W.setCell ⟨w.heap.size + 1, 0, none⟩ (.int .i64 0)).heap[q]? = some o ∧ o.isCells = false := fun q e => by cases e; exact ⟨_, hK', rfl⟩
        have c0 := ((his.set 0 (.int .i64 0)).turned hgp hrow).cell 0 rfl
        refine ⟨by simp, .inl ⟨_, _, rfl, run_takeDeferred hK', ?_⟩⟩
        refine ⟨.int .i64 0, by simp [results, Tryd.results16, go_sem, c0], ?_, (hif.setCell (p := ⟨w.heap.size + 1, 0, none⟩) (fun h => absurd h (by simp)) _).grown hgp (fun k hk e => by cases e; omega)⟩
        rw [HCK.out, HOK.out, decide_eq_true HM.out, decide_eq_true h8, HG.out]; rfl
      case stop =>
        rintro D c0 pre W hD hS ⟨rfl, hx⟩ hK
        have hgp := grownBy_putObj' W D (.deferred none)
        have hrow : ∀ q, some D = some q → ∃ o : Obj, W.heap[q]? = some o ∧ o.isCells = false := fun q e => by cases e; exact ⟨_, hK, rfl⟩
        have c0 := (hx.res.turned hgp hrow).cell 0 rfl
        have hbad : goodC f 0 0 l = false := by
          cases hg : goodC f 0 0 l with
          | false => rfl
          | true => have := goodC_pre f pre l 0 0 hS.1 hg; rw [hx.bad] at this; cases this
        gi_wp2_with fail
        refine ⟨by simp, .inl ⟨_, _, rfl, run_takeDeferred hK, ?_⟩⟩
        refine ⟨.int .i64 4, by simp [results, Tryd.results16, go_sem, c0], ?_, hx.frm.grown hgp (fun k hk e => by cases e; omega)⟩
        rw [HCK.out, HOK.out, hbad, Bool.and_false]; rfl
    · have h8i : (8 : Int) < (l.length : Int) := by omega
      have HM := Lib.hid hm
      clear hm
      have w1' := d0.cell 8 rfl
      gi_wp2_with fail
      have hc9 := (d1.set 0 (.int .i64 4)).cell 0 rfl
      refine ⟨.int .i64 4, by simp [results, Tryd.results16, go_sem, hc9], ?_, k1.setCell (p := ⟨w.heap.size + 1, 0, none⟩) (fun h => absurd h (by simp)) _⟩
      rw [HCK.out, HOK.out, decide_eq_false h8, Bool.and_false, Bool.false_and]; rfl
  · have hp : putS f = ([], 4) := by unfold putS; rw [if_neg hm]
    rw [hp]
    clear hp
    gi_wp2_with fail
    have hc9 := (d1.set 0 (.int .i64 4)).cell 0 rfl
    refine ⟨.int .i64 4, by simp [results, Tryd.results16, go_sem, hc9], ?_, k1.setCell (p := ⟨w.heap.size + 1, 0, none⟩) (fun h => absurd h (by simp)) _⟩
    rw [HCK.out, HOK.out, decide_eq_false hm, Bool.false_and, Bool.false_and]; rfl
end Go.Proofs.YtiokabhidjafeaaDoor

