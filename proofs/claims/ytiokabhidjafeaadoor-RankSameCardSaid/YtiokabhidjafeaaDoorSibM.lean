/- A set of dots that a call has made: what is in it; the siblings' dots. No condition. -/
import Derived.Test.YtiokabhidjafeaaDoorSibE
import Derived.Maps.Keyed
import Derived.Maps.Own
import Derived.Maps.OwnSet
import Derived.Maps.OwnIn
import Derived.Maps.Views
import Derived.DeepKeys4
namespace Go.Proofs.YtiokabhidjafeaaDoor
open Go.RowKit Go.Shelf
attribute [local go_sem] Oper.semAt_some

theorem dotLaid : laidOutB Tryd.prog = true := by kernel_rfl
theorem dotKeyed : Go.Maps.Keyed Tryd.prog 61 := Go.Maps.Keyed.of_law (deep_law_laid dotLaid (m := 4) (by decide) (of_decide_eq_true (by kernel_rfl)) (by kernel_rfl) (by rw [Tryd.underlying61]))
theorem dot_lits (m : Nat) (d : DotI) : ∃ ls, Tryd.prog.keyLits (m + 1 + 1) 61 [.int .u8 d.r, .int .u32 d.n] = some ls := by
  have w1 : (Lit.int .u8 (d.r : Int)).wf = true := by
    have := d.hr
    have h1 : IntKind.u8.min = 0 := by decide
    have h2 : IntKind.u8.max = 255 := by decide
    simp [Lit.wf, h1, h2]; omega
  have w2 : (Lit.int .u32 (d.n : Int)).wf = true := by
    have := d.hn
    have h1 : IntKind.u32.min = 0 := by decide
    have h2 : IntKind.u32.max = 4294967295 := by decide
    simp [Lit.wf, h1, h2]; omega
  have c1 : Tryd.prog.cellsOf 5 = 1 := by kernel_rfl
  have c2 : Tryd.prog.cellsOf 22 = 1 := by kernel_rfl
  have c3 : Tryd.prog.cellsOf 61 = 2 := by kernel_rfl
  simp [Program.keyLits, Tryd.underlying61, Tryd.underlying5, Tryd.underlying22, c1, c2, c3, w1, w2]
theorem dot_key (d : DotI) : ∃ kl, keyOf Tryd.prog 61 (.agg (dv d.r d.n)) = some kl := by
  obtain ⟨m, hm⟩ : ∃ m, Tryd.prog.types.size = m + 1 := ⟨Tryd.prog.types.size - 1, by kernel_rfl⟩
  have hk : Tryd.prog.keyType 61 = true := by kernel_rfl
  have hf : (Value.agg (dv d.r d.n)).formed Tryd.prog 61 = true := by
    have c3 : Tryd.prog.cellsOf 61 = 2 := by kernel_rfl
    simp [Value.formed, Tryd.underlying61, c3]
  obtain ⟨ls, hl⟩ := dot_lits m d
  unfold keyOf
  rw [Tryd.underlying61]
  simp only [hk, hf, Bool.and_self, if_true, hm]
  exact ⟨_, by rw [show (Value.agg (dv d.r d.n)).cells.toList = [.int .u8 d.r, .int .u32 d.n] from rfl, hl]; rfl⟩
/-- A dot as a map's key. -/
noncomputable def keyL (d : DotI) : Lit := (dot_key d).choose
theorem keyL_eq (d : DotI) : keyOf Tryd.prog 61 (.agg (dv d.r d.n)) = some (keyL d) := (dot_key d).choose_spec
theorem keyL_inj {d d' : DotI} (h : keyL d = keyL d') : d = d' := by
  have h1 := keyL_eq d
  rw [h] at h1
  have h2 := dotKeyed.inj h1 (keyL_eq d')
  simp only [Value.agg.injEq, Array.mk.injEq, List.cons.injEq, Value.int.injEq, true_and, and_true] at h2
  exact DotI.ext' (by omega) (by omega)
/-- Block b is a set of the dots of some siblings. -/
def DM (w : World) (b : Nat) (l : List SibI) : Prop :=
  ∃ (n : Nat) (D : DataW Unit), w.ownsMap Tryd.prog 61 unitElem b n D ∧ n ≤ l.length ∧ Go.Maps.IsMap D ∧ ∀ d, Go.Maps.has D (keyL d) = decide (d ∈ l.map SibI.d)
theorem DM.start (w : World) : DM (w.alloc (.map #[] 0)) w.heap.size [] :=
  ⟨0, .map [], World.ownsMap_made w _ _ _, Nat.le_refl _, Go.Maps.isMap_empty, fun d => by simp [Go.Maps.has]⟩
theorem DM.keepB {w w' : World} {b : Nat} {l : List SibI} (h : DM w b l) (e : w'.heap[b]? = w.heap[b]?) : DM w' b l := by
  obtain ⟨n, D, ⟨es, clock, h1, h2, h3, h4⟩, h5⟩ := h
  exact ⟨n, D, ⟨es, clock, e.trans h1, h2, h3, h4⟩, h5⟩
theorem DM.lt {w : World} {b : Nat} {l : List SibI} (h : DM w b l) : b < w.heap.size := by
  obtain ⟨n, D, h1, _⟩ := h
  exact h1.lt
theorem DM.keep {X : Nat → Prop} {w w' : World} {b : Nat} {l : List SibI} (h : DM w b l) (hf : Frm X w w') (hn : ¬ X b) : DM w' b l := h.keepB (hf.block b h.lt hn)
theorem DM.put {l : List SibI} {D : DataW Unit} (x : SibI) (hm : Go.Maps.IsMap D) (h : ∀ d, Go.Maps.has D (keyL d) = decide (d ∈ l.map SibI.d)) :
    ∀ d, Go.Maps.has (D.put (keyL x.d) (.agg [])) (keyL d) = decide (d ∈ (l ++ [x]).map SibI.d) := fun d => by
  by_cases e : d = x.d
  · subst e
    rw [Go.Maps.has_put_same hm (dotKeyed.key (keyL_eq _))]
    simp
  · rw [Go.Maps.has_put_other (fun h => e (keyL_inj h)), h d]
    simp [e]

theorem run_makeSet (n : Int) (w : World) : (Instr.makeMap 97 (some (.int .i64 n))).run Tryd.prog w = .ok (.map (some w.heap.size)) (w.alloc (.map #[] 0)) := by
  simp [Instr.makeMap, Sem.run_bind, run_underlying Tryd.underlying97, asInt, go_sem]

/-- What lies between two rounds of dots. -/
structure DtI (w : World) (n1 : Nat) (pre : List SibI) (W : World) : Prop where
  mv : Blk W (w.heap.size + 1 + 1) 97 #[.map (some (w.heap.size + 1))]
  set : DM W (w.heap.size + 1) pre
  frm : Frm (fun _ => False) w W
  size : n1 ≤ W.heap.size
theorem DtI.own (w : World) (n1 : Nat) (B : Nat) (hB : w.heap.size + 3 ≤ B) : OwnFrom B (DtI w n1) := fun _ _ _ _ h hg hr => by
  have hr2 := fun r e => (hr r e).2
  exact ⟨h.mv.turned hg hr2, h.set.keepB (hg.block _ h.set.lt (fun e => by have := (hr _ e.symm).1; omega)), h.frm.turned (by omega) hg hr, Nat.le_trans h.size hg.size⟩

set_option maxRecDepth 100000 in
set_option maxHeartbeats 4000000 in
theorem dots_any (f : Nat → Nat) (v : Value) (l : List SibI) (w : World) (h : SL w v l) (hb : l.length ≤ 1000000) :
    Calls Tryd.prog 39 #[rg f v] w fun e w' => ∃ b, e = .returned (.map (some b)) ∧ w.heap.size ≤ b ∧ DM w' b l ∧ Frm (fun _ => False) w w' := by
  obtain ⟨a, cap, rfl, hc1, hc2⟩ := h.slice
  unfold maxLen at hc2
  refine (callsIn_wide (n := 9)).1 ?_
  refine callsIn_of_wp_marks Tryd.func39 rfl trivial ?_ rfl
  simp only [Tryd.ntmps39, List.size_toArray, List.length_cons, List.length_nil, Nat.reduceAdd, Nat.reduceSub, Array.replicate_succ, Array.replicate_zero, List.push_toArray, List.append_toArray, List.nil_append, List.cons_append]
  have hmm := run_makeSet
  have g0 : Frm (fun _ => False) w (((w.alloc (.cells (rgc f (.slice a l.length cap)) 27)).alloc (.map #[] 0)).alloc (.cells #[.map (some (w.heap.size + 1))] 97)) := (((Frm.refl _ w).alloc _).alloc _).alloc _
  have d1 : DM (((w.alloc (.cells (rgc f (.slice a l.length cap)) 27)).alloc (.map #[] 0)).alloc (.cells #[.map (some (w.heap.size + 1))] 97)) (w.heap.size + 1) [] := by
    have h1 := DM.start (w.alloc (.cells (rgc f (.slice a l.length cap)) 27))
    rw [show (w.alloc (.cells (rgc f (.slice a l.length cap)) 27)).heap.size = w.heap.size + 1 by simp] at h1
    exact h1.keepB (Below.heap_alloc _ _ _ h1.lt)
  have d2 : Blk (((w.alloc (.cells (rgc f (.slice a l.length cap)) 27)).alloc (.map #[] 0)).alloc (.cells #[.map (some (w.heap.size + 1))] 97)) (w.heap.size + 1 + 1) 97 #[.map (some (w.heap.size + 1))] := Blk.at2 w _ _ _ _
  have hz : (((w.alloc (.cells (rgc f (.slice a l.length cap)) 27)).alloc (.map #[] 0)).alloc (.cells #[.map (some (w.heap.size + 1))] 97)).heap.size = w.heap.size + 3 := by simp
  gi_wp2_with fail
  refine ⟨trivial, (callsIn_wide.2 (sall_any f _ l _ (h.keepF g0) hb)).mono ?_⟩
  rintro e w1 ⟨B, u, rfl, hB0, hB1, hu, hub, g1⟩
  rw [hz] at hB0 hub
  have d1 := d1.keep g1 (fun h => h)
  have d2 := d2.keep g1 (fun h => h)
  have k1 := g0.trans g1
  have hsz := k1.size
  have hsz2 := g1.size
  rw [hz] at hsz2
  clear g0 g1 hz hmm
  have hKlt : ∀ q, blkOf u = some q → q < w1.heap.size := fun q e => (hub q e).2.2
  have hK3 : ∀ q, blkOf u = some q → w.heap.size + 3 ≤ q := fun q e => (hub q e).1
  gi_wp2_with fail
  refine wpIn_rangeFunc_ownH rfl (by omega) (gf := 60) (lb := #[.pointer (some ⟨B, 0, none⟩)]) rfl trivial (enters_of Tryd.func60 (by kernel_rfl) rfl)
    (sall_stops B u l (fun q => blkOf u = some q) w1 hB1 hu hKlt (fun g hg => hg)) keptS.trans (keptS.put hKlt) (Below.refl _ _) (fun _ => rfl)
    (DtI w w1.heap.size) (fun _ _ _ => False) (DtI.own w _ _ hsz2) (fun _ _ _ _ _ h _ _ => h) ⟨d2, d1, k1, Nat.le_refl _⟩
    (fun x a' W => ∃ Bx, w1.heap.size ≤ Bx ∧ Blk W Bx 61 (dv x.r x.n) ∧ a' = { tmps := #[rg f (.slice a l.length cap), .pointer (some ⟨w.heap.size, 0, none⟩), .map none, .pointer (some ⟨w.heap.size + 1 + 1, 0, none⟩), .pointer (some ⟨Bx, 0, none⟩), .pointer (some ⟨w.heap.size, 8, none⟩), .slice a l.length cap, .int .i64 l.length, .map (some (w.heap.size + 1)), rg f (.slice a l.length cap), .func (.func 60) #[] #[.pointer (some ⟨B, 0, none⟩)], .agg (dv x.r x.n), .string (bs x.s), undef, undef, undef, undef], defers := [] })
    (fun x a' _ X Y row hs hg hr => by obtain ⟨Bx, h1, h2, h3⟩ := hs; exact ⟨Bx, h1, h2.turned hg (fun r e => (hr r e).2), h3⟩) ?assign ?body ?done ?stop
  case assign =>
    rintro l0 pre x W K hi hK
    gi_wp2
    have hs := hi.size
    exact hK _ _ ((KeepsOthers.alloc _ _).from _) (fun q hq => Below.heap_alloc _ _ _ (by have := hKlt q hq; omega)) ((DtI.own w _ _ hsz2).alloc _ hi) ⟨W.heap.size, hs, Blk.alloc W _ _, rfl⟩
  case body =>
    rintro l0 pre x a' W hl hrec hi ⟨Bx, hBx, bX, rfl⟩ hlt
    have hm0 := hi.mv.cell 0 rfl
    have x0 := bX.cell 0 rfl
    have x1 := bX.cell 1 rfl
    obtain ⟨n, D, hown, hn, hmap, hhas⟩ := hi.set
    have hkey := keyL_eq x.d
    have hkey : keyOf Tryd.prog 61 (.agg (dv x.r x.n)) = some (keyL x.d) := hkey
    have hput := DM.put x hmap hhas
    have HI := Lib.hid hi
    clear hrec hi hhas
    gi_wp2_with ((gi_at_mapUpdate; refine wpListIn_mapUpdate_own _ rfl _ _ _ 97 rfl 61 100 dotKeyed Tryd.underlying97 unitElem (w.heap.size + 1) n _ rfl hown (by unfold maxLen; omega) _ _ _ rfl rfl hkey _ [] unitElem_mk ?_; intro w2 hown2 hgrow2))
    have hi := HI.out
    have hX : Frm (· = w.heap.size + 1) W w2 := (Frm.refl _ W).grown hgrow2 (fun k _ e => by cases e; rfl)
    refine ⟨KeepsFrom.of_grownBy hgrow2 (fun j e => by cases e; omega), fun q hq => hX.block q (by have := hKlt q hq; have := hi.size; omega) (by have := hK3 q hq; omega), ?_, ⟨_, _, hown2, by simp; omega, hmap.put _ _, hput⟩, hi.frm.next hX (fun k hk e => by omega), Nat.le_trans hi.size hX.size⟩
    exact hi.mv.keep hX (by omega)
  case done =>
    rintro D xs W hD rfl hi hK
    have hm0 := hi.mv.cell 0 rfl
    have hgp := grownBy_putObj' W D (.deferred none)
    have hset := hi.set
    have hfr := hi.frm
    clear hi
    gi_wp2_with fail
    refine ⟨by simp, .inl ⟨_, _, rfl, run_takeDeferred hK, ?_⟩⟩
    refine ⟨_, results_tmp rfl _ _ _, ?_⟩
    exact ⟨_, rfl, by omega, hset.keepB (hgp.block _ hset.lt (fun e => by cases e; omega)), hfr.grown hgp (fun k hk e => by cases e; omega)⟩
  case stop =>
    rintro D c pre W _ _ h _
    exact h.elim
end Go.Proofs.YtiokabhidjafeaaDoor

