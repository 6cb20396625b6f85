/- What those gives: the siblings that are wanted, in order, in memory of the call's own. Of whatever wants a dot or does not, and leaves all as it lay. -/
import Derived.Test.YtiokabhidjafeaaDoorSibB
namespace Go.Proofs.YtiokabhidjafeaaDoor
open Go.RowKit Go.Shelf
attribute [local go_sem] Oper.semAt_some

/-- What lies between two rounds. -/
structure ThI (w : World) (n1 : Nat) (c : Value) (p : SibI → Bool) (pre : List SibI) (W : World) : Prop where
  res : ∃ u, Blk W (w.heap.size + 1 + 1) 25 #[u] ∧ OwnL W u (pre.filter p) ∧ ∀ g, u.ownBlock = some g → n1 ≤ g
  fn : Blk W (w.heap.size + 1) 102 #[c]
  frm : Frm (fun _ => False) w W
  size : n1 ≤ W.heap.size
theorem ThI.own (w : World) (n1 : Nat) (c : Value) (p : SibI → Bool) (B : Nat) (hB : w.heap.size ≤ B) : OwnFrom B (ThI w n1 c p) := fun _ _ _ _ h hg hr => by
  have hr2 := fun r e => (hr r e).2
  obtain ⟨u, h1, h2, h3⟩ := h.res
  exact ⟨⟨u, h1.turned hg hr2, Row.turned h2 hg hr2, h3⟩, h.fn.turned hg hr2, h.frm.turned hB hg hr, Nat.le_trans h.size hg.size⟩

set_option maxRecDepth 100000 in
set_option maxHeartbeats 4000000 in
theorem those_any (f : Nat → Nat) (v : Value) (l : List SibI) (gf : FuncId) (caps : Array Value) (p : SibI → Bool) (w : World) (h : SL w v l) (hb : l.length ≤ 1000000) (hen : ∀ args W, (callFunc gf args).run Tryd.prog W = .ok (.enter gf args) W)
    (hg : ∀ (x : SibI) (W : World), Frm (fun _ => False) w W → Calls Tryd.prog gf (#[.agg (dv x.r x.n)] ++ caps) W fun e w' => e = .returned (.bool (p x)) ∧ Frm (fun _ => False) W w') :
    Calls Tryd.prog 40 #[rg f v, .func (.func gf) #[] caps] w (NewL (l.filter p) w) := by
  have HG := Lib.hid hg
  clear hg
  refine (callsIn_wide (n := 9)).1 ?_
  refine callsIn_of_wp_marks Tryd.func40 rfl trivial ?_ rfl
  simp only [Tryd.ntmps40, List.size_toArray, List.length_cons, List.length_nil, Nat.reduceAdd, Nat.reduceSub, Array.replicate_succ, Array.replicate_zero, List.push_toArray, List.append_toArray, List.nil_append, List.cons_append]
  have g0 : Frm (fun _ => False) w (((w.alloc (.cells (rgc f v) 27)).alloc (.cells #[.func (.func gf) #[] caps] 102)).alloc (.cells #[.slice none 0 0] 25)) := (((Frm.refl _ w).alloc _).alloc _).alloc _
  have d1 : Blk (((w.alloc (.cells (rgc f v) 27)).alloc (.cells #[.func (.func gf) #[] caps] 102)).alloc (.cells #[.slice none 0 0] 25)) (w.heap.size + 1) 102 #[.func (.func gf) #[] caps] := (Blk.at1 w _ _ _).old _
  have d2 : Blk (((w.alloc (.cells (rgc f v) 27)).alloc (.cells #[.func (.func gf) #[] caps] 102)).alloc (.cells #[.slice none 0 0] 25)) (w.heap.size + 1 + 1) 25 #[.slice none 0 0] := Blk.at2 w _ _ _ _
  have hz : (((w.alloc (.cells (rgc f v) 27)).alloc (.cells #[.func (.func gf) #[] caps] 102)).alloc (.cells #[.slice none 0 0] 25)).heap.size = w.heap.size + 3 := by simp
  gi_wp2_with (refine ⟨trivial, ?_⟩; gi_at_call 32; refine (callsIn_wide.2 (sall_any f v l _ (h.keepF g0) hb)).mono ?_; rintro e w1 ⟨B, u, rfl, hB0, hB1, hu, hub, g1⟩)
  rw [hz] at hB0 hub
  have d1 := d1.keep g1 (fun h => h)
  have d2 := d2.keep g1 (fun h => h)
  have k1 := g0.trans g1
  have hsz := k1.size
  have hlt2 := d2.lt
  clear g0 g1 hz
  have hKlt : ∀ q, blkOf u = some q → q < w1.heap.size := fun q e => (hub q e).2.2
  have hK3 : ∀ q, blkOf u = some q → w.heap.size + 3 ≤ q := fun q e => (hub q e).1
  refine wpIn_rangeFunc_ownH rfl (by omega) (gf := 60) (lb := #[.pointer (some ⟨B, 0, none⟩)]) rfl trivial (enters_of Tryd.func60 (by kernel_rfl) rfl)
    (sall_stops B u l (fun q => blkOf u = some q) w1 hB1 hu hKlt (fun g hg => hg)) keptS.trans (keptS.put hKlt) (Below.refl _ _) (fun _ => rfl)
    (ThI w w1.heap.size (.func (.func gf) #[] caps) p) (fun _ _ _ => False) (ThI.own w _ _ p _ hsz) (fun _ _ _ _ _ h _ _ => h) ⟨⟨_, d2, OwnL.nil_ _, fun g hg => by cases hg⟩, d1, k1, Nat.le_refl _⟩
    (fun x a' W => ∃ Bx, w1.heap.size ≤ Bx ∧ Blk W Bx 61 (dv x.r x.n) ∧ a' = { tmps := #[rg f v, .func (.func gf) #[] caps, .pointer (some ⟨w.heap.size, 0, none⟩), .pointer (some ⟨w.heap.size + 1, 0, none⟩), .slice none 0 0, .pointer (some ⟨w.heap.size + 1 + 1, 0, none⟩), .pointer (some ⟨Bx, 0, none⟩), .string (bs x.s), rg f v, .func (.func 60) #[] #[.pointer (some ⟨B, 0, none⟩)], .agg (dv x.r x.n), .string (bs x.s), undef, undef, undef, undef, undef, undef, undef, undef, undef, undef], defers := [] })
    (fun x a' _ X Y row hs hg hr => by obtain ⟨Bx, h1, h2, h3⟩ := hs; exact ⟨Bx, h1, h2.turned hg (fun r e => (hr r e).2), h3⟩) ?assign ?body ?done ?stop
  case assign =>
    rintro l0 pre x W K hi hK
    gi_wp2
    have hs := hi.size
    exact hK _ _ ((KeepsOthers.alloc _ _).from _) (fun q hq => Below.heap_alloc _ _ _ (by have := hKlt q hq; omega)) ((ThI.own w _ _ p _ hsz).alloc _ hi) ⟨W.heap.size, hs, Blk.alloc W _ _, rfl⟩
  case body =>
    rintro l0 pre x a' W hl hrec hi ⟨Bx, hBx, bX, rfl⟩ hlt
    obtain ⟨u', hb', ho, hn⟩ := hi.res
    obtain ⟨a, cap, rfl, hc1, hc2⟩ := Row.slice ho
    have cf := hi.fn.cell 0 rfl
    have cx0 := bX.cell 0 rfl
    have cx1 := bX.cell 1 rfl
    have hfl : (pre.filter p).length ≤ pre.length := List.length_filter_le _ _
    clear hrec
    gi_wp2_with fail
    refine ⟨trivial, (CallsIn.inRound l0 (callsIn_wide.2 (HG.out x W hi.frm))).mono ?_⟩
    rintro e W1 ⟨rfl, f1⟩
    have hsW := hi.size
    have hb1 := hb'.keep f1 (fun h => h)
    have ho1 := ho.keep f1 (fun _ _ h => h)
    have bX1 := bX.keep f1 (fun h => h)
    have fn1 := hi.fn.keep f1 (fun h => h)
    have k2 := hi.frm.trans f1
    have hkept : ∀ q, blkOf u = some q → W1.heap[q]? = W.heap[q]? := fun q hq => f1.block q (by have := hKlt q hq; omega) (fun h => h)
    have hother : KeepsOthers W W1 := f1.others (fun _ _ h => h.elim)
    have HKP := Lib.hid hkept
    have HOL := Lib.hid (And.intro (hb'.isCells _ · rfl) ho.isCells)
    clear hb' ho bX hi cf cx0 cx1 hkept
    cases hp : p x with
    | false =>
      gi_wp2
      exact ⟨hother.from _, HKP.out, ⟨_, hb1, by rw [List.filter_append, show [x].filter p = [] from by simp [hp], List.append_nil]; exact ho1, hn⟩, fn1, k2, Nat.le_trans hsW f1.size⟩
    | true =>
      have c5 := hb1.cell 0 rfl
      have cx0 := bX1.cell 0 rfl
      have cx1 := bX1.cell 1 rfl
      have f2 := f1.alloc (.cells #[.int .u8 x.r, .int .u32 x.n, .string (bs x.s)] 63)
      have hone := Sl.built sibc sibc_len W1 63 x #[.int .u8 x.r, .int .u32 x.n, .string (bs x.s)] rfl
      obtain ⟨v', W2, hrun, hown, hgr, hnew⟩ := append_sibs _ _ _ _ [x] (ho1.keep ((Frm.refl _ W1).alloc (.cells #[.int .u8 x.r, .int .u32 x.n, .string (bs x.s)] 63)) (fun _ _ h => h)) hone (by simp; omega)
      rw [show pre.filter p ++ [x] = (pre ++ [x]).filter p from by rw [List.filter_append, show [x].filter p = [x] from by simp [hp]]] at hown
      obtain ⟨a2, cap2, rfl, _, _⟩ := Row.slice hown
      have el : ((pre ++ [x]).filter p).length = (pre.filter p).length + 1 := by rw [List.filter_append, List.length_append, show [x].filter p = [x] from by simp [hp]]; rfl
      rw [el] at hrun hown hnew
      have HRUN := Lib.hid hrun
      have hb2 := ((hb1.old (.cells #[.int .u8 x.r, .int .u32 x.n, .string (bs x.s)] 63)).keep ((Frm.refl (fun k => Value.ownBlock (.slice a (pre.filter p).length cap) = some k) _).grown hgr (fun k _ e => e)) (fun e => by have := hn _ e; omega))
      have cl2 := hb2.cell 0 rfl
      have fl2 := hb2.free 0
      clear hrun
      gi_wp2_with (refine wplIn_append rfl _ _ _ _ rfl _ _ rfl rfl _ _ HRUN.out ?_)
      have hX : Frm (fun k => Value.ownBlock (.slice a (pre.filter p).length cap) = some k) W W2 := (f2.mono (fun _ _ h => h.elim)).grown hgr (fun k _ e => e)
      have hX2 : Frm (fun k => k = w.heap.size + 1 + 1 ∨ Value.ownBlock (.slice a (pre.filter p).length cap) = some k) W (W2.setCell ⟨w.heap.size + 1 + 1, 0, none⟩ (.slice a2 ((pre.filter p).length + 1) cap2)) := (hX.mono (fun _ _ h => .inr h)).setCell (p := ⟨w.heap.size + 1 + 1, 0, none⟩) (fun _ => .inl rfl) _
      have hn2 : ∀ g, (Value.slice a2 ((pre.filter p).length + 1) cap2).ownBlock = some g → w1.heap.size ≤ g := fun g e => (hnew g e).elim (hn g) (fun e => by have := f2.size; omega)
      have hlt1 := hb1.lt
      have hol := HOL.out
      refine ⟨(hX2.others fun k o hk ho2 => ?_).from _, fun q hq => hX2.block q (by have := hKlt q hq; omega) (fun e => ?_), ⟨_, ?_, Row.setOther (p := ⟨w.heap.size + 1 + 1, 0, none⟩) hown (fun e => by have := hn2 _ e; simp at this; omega) _, hn2⟩, ?_, ?_, ?_⟩
      · rcases hk with rfl | hk
        · exact hol.1 o ho2
        · exact hol.2 k o hk ho2
      · rcases e with rfl | e
        · have := hK3 _ hq; omega
        · have h1 := hn _ e; have h2 := hKlt q hq; omega
      · exact hb2.set 0 _
      · exact (((fn1.old _).keep ((Frm.refl (fun k => Value.ownBlock (.slice a (pre.filter p).length cap) = some k) _).grown hgr (fun k _ e => e)) (fun e => by have := hn _ e; omega))).other (p := ⟨w.heap.size + 1 + 1, 0, none⟩) (by simp) _
      · exact (((k2.alloc _).grown hgr (fun k hk e => by have := hn k e; omega)).setCell (p := ⟨w.heap.size + 1 + 1, 0, none⟩) (fun h => absurd h (by simp; omega)) _)
      · have := hX2.size; omega
  case done =>
    rintro D xs W hD rfl hi hK
    obtain ⟨u', hb', ho, hn⟩ := hi.res
    obtain ⟨a, cap, rfl, hc1, hc2⟩ := Row.slice ho
    have c5 := hb'.cell 0 rfl
    have hgp := grownBy_putObj' W D (.deferred none)
    have hrow : ∀ q, some D = some q → ∃ o : Obj, W.heap[q]? = some o ∧ o.isCells = false := fun q e => by cases e; exact ⟨_, hK, rfl⟩
    have ho2 : OwnL (W.putObj D (.deferred none)) (.slice a (xs.filter p).length cap) (xs.filter p) := Row.turned ho hgp hrow
    gi_wp2
    refine ⟨by simp, .inl ⟨_, _, rfl, run_takeDeferred hK, ?_⟩⟩
    refine ⟨_, results_tmp rfl _ _ _, ?_⟩
    exact ⟨_, rfl, ho2, hi.frm.grown hgp (fun k hk e => by cases e; omega), fun g e => by have := hn g e; omega⟩
  case stop =>
    rintro D c pre W _ _ h _
    exact h.elim
end Go.Proofs.YtiokabhidjafeaaDoor

