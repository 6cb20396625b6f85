/- Prune. Of fewer than forty items, whatever the quota. -/
import Derived.Test.YtpabblkdepefcaaQD
import Derived.Test.YtpabblkdepefcaaInR
import Derived.Test.YtpabblkdepefcaaRowT
import Derived.Lib.AppendZeros
namespace Go.Proofs.Ytpabblkdepefcaa
open Go.RowKit Go.Shelf
attribute [local go_sem] Oper.semAt_some

theorem Blk.turnedQ {W W' : World} {b : Nat} {t : TypeId} {cs : Array Value} {row : Option Nat} (h : Blk W b t cs) (hg : W.grownBy W' row) (hr : ∀ r, row = some r → ∃ o : Obj, W.heap[r]? = some o ∧ o.isCells = false) : Blk W' b t cs := by
  refine (hg.block b h.lt fun e => ?_).trans h
  obtain ⟨o, ho, hc⟩ := hr b e.symm
  rw [h] at ho
  cases ho
  cases hc
theorem Frm.turnedQ {X : Nat → Prop} {w W W' : World} {B : Nat} {row : Option Nat} (h : Frm X w W) (hB : w.heap.size ≤ B) (hg : W.grownBy W' row) (hr : ∀ r, row = some r → B ≤ r ∧ ∃ o : Obj, W.heap[r]? = some o ∧ o.isCells = false) : Frm X w W' :=
  h.grown hg fun k hk e => by have := (hr k e).1; omega
theorem Frm.othersQ {X : Nat → Prop} {w w' : World} (h : Frm X w w') (hx : ∀ k o, X k → w.heap[k]? = some o → o.isCells = true) : KeepsOthers w w' :=
  ⟨h.size, fun k o hk ho => by
    refine (h.block k (Array.getElem?_eq_some_iff.1 hk).1 fun hX => ?_).trans hk
    rw [hx k o hX hk] at ho; cases ho⟩
theorem Blk.isCellsQ {w : World} {b : Nat} {t : TypeId} {cs : Array Value} (h : Blk w b t cs) : ∀ k o, k = b → w.heap[k]? = some o → o.isCells = true := by
  rintro k o rfl ho
  rw [h] at ho
  cases ho
  rfl
set_option maxHeartbeats 1000000 in
theorem spare_any (v : Value) (w : World) (hv : ∃ a n c, v = .slice a n c) : Calls Try.prog 21 #[v] w fun e w' => e = .returned (.func (.func 25) #[] #[.pointer (some ⟨w.heap.size, 0, none⟩)]) ∧ Blk w' w.heap.size 22 #[v] ∧ Frm (fun _ => False) w w' := by
  obtain ⟨a, n, c, rfl⟩ := hv
  have hb := Blk.alloc w 22 #[.slice a n c]
  have hg := (Frm.refl (fun _ => False) w).alloc (.cells #[.slice a n c] 22)
  have hmf : ∀ (fn : Fn) (first cap : Array Value) (w : World), (Instr.makeFunc fn first cap).run Try.prog w = .ok (.func fn first cap) w := fun _ _ _ _ => rfl
  go_enter Try.func21, Try.ntmps21
  go_wp2_with fail
  go_ret
  exact ⟨rfl, hb, hg⟩
/-- Of a path's numbers. -/
theorem infoU : (Try.prog.info? 34).map (fun i => (i.zero, i.size, i.bytes)) = some (some (.int .u32 0), 1, 4) := by kernel_rfl
theorem append_us (w : World) (v x : Value) (l m : List Nat) (h : Own w v l) (hs : Ids w x m) (hb : l.length + m.length ≤ 1000000) :
    ∃ v' w', (Builtin.append_ #[25, 25] 25 #[v, x]).run Try.prog w = .ok v' w' ∧ Own w' v' (l ++ m) ∧ w.grownBy w' v.ownBlock ∧ (∀ g, v'.ownBlock = some g → v.ownBlock = some g ∨ (w.heap.size ≤ g ∧ ∃ cs fr, w'.heap[g]? = some (.cells cs 34 fr))) ∧ Tags w w' := by
  obtain ⟨i0, hi, hz0, hz1, hz2⟩ := qinfo_parts infoU
  obtain ⟨v', w', h1, h2, h3, h4, h5⟩ := run_append_rowT w 25 25 25 34 i0 (.int .u32 0) 1 4 Try.underlying25 hi hz0 hz1 hz2 rfl h x m.length (u32s m)
    (Sl.src hs Try.underlying25 (u32s_one m)) (by unfold maxLen; omega) (by omega)
  exact ⟨v', w', h1, by unfold Own; rw [List.length_append, u32s_append]; exact h2, h3, h4, h5⟩
/-- The block of a slice bears numbers. -/
def UTag (w : World) (v : Value) : Prop := ∀ g, v.ownBlock = some g → ∃ cs fr, w.heap[g]? = some (.cells cs 34 fr)
theorem Own.sliceQ {w : World} {v : Value} {l : List Nat} (h : Own w v l) : ∃ a cap, v = .slice a l.length cap ∧ l.length ≤ cap ∧ cap ≤ maxLen := Row.slice h
theorem Own.keepQ {w w' : World} {v : Value} {l : List Nat} (h : Own w v l) (hf : Frm (fun _ => False) w w') : Own w' v l := Row.keep h hf (fun _ _ h => h)
theorem UTag.keep {X : Nat → Prop} {w w' : World} {v : Value} (h : UTag w v) (hf : Frm X w w') (hn : ∀ g, v.ownBlock = some g → ¬ X g) : UTag w' v := fun g hg => by
  obtain ⟨cs, fr, e⟩ := h g hg
  exact ⟨cs, fr, (hf.block g (Array.getElem?_eq_some_iff.1 e).1 (hn g hg)).trans e⟩
theorem us_one (w : World) (x : Nat) : Ids (w.alloc (.cells #[.int .u32 x] 34)) (.slice (some ⟨w.heap.size, 0, none⟩) 1 1) [x] := by
  refine ⟨rfl, _, 1, rfl, Nat.le_refl _, by decide, .inr ⟨_, 0, rfl, by simp, fun j hj => ?_⟩⟩
  obtain rfl : j = 0 := by simp at hj; omega
  exact (Blk.alloc w 34 #[.int .u32 x]).cell 0 rfl
theorem PrI_own {u : Value} {W W' : World} {l : List Nat} {row : Option Nat} (h : Own W u l) (hg : W.grownBy W' row) (hr : ∀ r, row = some r → ∃ o : Obj, W.heap[r]? = some o ∧ o.isCells = false) : Own W' u l := Row.turned h hg hr
/-- An append whose run is known. -/
theorem wplIn_appendQ {F : Fence} {n : Nat} {P : Program} {w : World} {ops : Array Oper} {rest : List Oper} {o : Oper} {a : Act} {Q : Exit → Act → World → Prop} (hg : o.guard = none) (s x : Operand) (t tn : TypeId)
    (ho : o.op = .call { callee := .builtin .append, args := #[s, x], argTypes := #[t, tn] }) (vs vx : Value) (hs : a.eval s = vs) (hx : a.eval x = vx) (v' : Value) (w' : World) (hr : (Builtin.append_ #[t, tn] o.type #[vs, vx]).run P w = .ok v' w')
    (h : wpListIn F n P ops Q rest (a.put o.dst v') w') : wpListIn F n P ops Q (o :: rest) a w := by
  refine wpListIn_plain hg fun K' hK' => ?_
  unfold Oper.wpIn
  refine ⟨by simp [Oper.about, ho, resolve, Target.leads, Sem.run_pure], ?_⟩
  rw [Oper.semAt_plain F _ _ (by rw [ho]; intro c hc'; cases hc')]
  simp [execOp, ho, resolve, invoke, builtin, hs, hx, hr, Result.andThen]
  exact hK' _ _ h

/-- What Prune answers. -/
def PruneTo (l : List QI) (most : Int) (w : World) (e : Ending) (w' : World) : Prop :=
  ∃ u, e = .returned (.tuple #[u, .bool (pruneQ l most).2]) ∧ Own w' u (pruneQ l most).1 ∧ Frm (fun _ => False) w w' ∧ ∀ g, u.ownBlock = some g → w.heap.size ≤ g
/-- What lies between two rounds of Prune. -/
structure PrI (w : World) (n1 A L : Nat) (most : Int) (left : Nat) (pre : List QI) (W : World) : Prop where
  quo : Blk W A 3 #[.int .i64 most]
  gone : ∃ u, Blk W (A + 1) 25 #[u] ∧ Own W u (pre.map QI.id) ∧ UTag W u ∧ ∀ g, u.ownBlock = some g → n1 ≤ g
  left_ : Blk W L 3 #[.int .i64 ((left : Int) - (sumQ pre : Int))]
  frm : Frm (fun _ => False) w W
  size : n1 ≤ W.heap.size
  cond : ∀ i, i < pre.length → most < (left : Int) - (sumQ (pre.take i) : Int)
theorem PrI.own (w : World) (n1 A L : Nat) (most : Int) (left : Nat) (B : Nat) (hB : w.heap.size ≤ B) : OwnFrom B (PrI w n1 A L most left) := fun pre W W' row h hg hr => by
  have hr2 := fun r e => (hr r e).2
  obtain ⟨u, h1, h2, h2t, h3⟩ := h.gone
  exact ⟨h.quo.turnedQ hg hr2, ⟨u, h1.turnedQ hg hr2, Row.turned h2 hg hr2, (fun g e => by
    obtain ⟨cs, fr, he⟩ := h2t g e
    refine ⟨cs, fr, (hg.block g (Array.getElem?_eq_some_iff.1 he).1 fun e2 => ?_).trans he⟩
    obtain ⟨o, ho, hc⟩ := hr2 g e2.symm
    rw [he] at ho; cases ho; cases hc), h3⟩, h.left_.turnedQ hg hr2, h.frm.turnedQ (by omega) hg hr, Nat.le_trans h.size hg.size, h.cond⟩
def qp6M : List Nat := [1, 2, 6, 15, 23]
def qp6R (n : Int) (x : QI) : List ((Nat → Value) → World → Prop) := [
  fun val _ => val 0 = .int .i64 n,
  fun val _ => val 1 = .agg (qiv x),
  fun val _ => val 2 = .int .i64 (szQ x : Int)]

set_option maxRecDepth 100000 in
set_option maxHeartbeats 8000000 in
theorem prune_any (v : Value) (l : List QI) (most : Int) (w : World) (h : QL w v l) (h40 : l.length < 40) (hm : -9223372036854775808 ≤ most ∧ most ≤ 9223372036854775807) :
    Calls Try.prog 9 #[v, .int .i64 most] w (PruneTo l most w) := by
  obtain ⟨a, cap, rfl, hc1, hc2⟩ := h.slice
  unfold maxLen at hc2
  refine (callsIn_wide (n := 9)).1 ?_
  refine callsIn_of_wp_marks Try.func9 rfl trivial ?_ rfl
  simp only [Try.ntmps9, List.size_toArray, List.length_cons, List.length_nil, Nat.reduceAdd, Nat.reduceSub, Array.replicate_succ, Array.replicate_zero, List.push_toArray, List.append_toArray, List.nil_append, List.cons_append]
  have g0 : Frm (fun _ => False) w ((w.alloc (.cells #[.int .i64 most] 3)).alloc (.cells #[.slice none 0 0] 25)) := ((Frm.refl _ w).alloc _).alloc _
  have d0 : Blk ((w.alloc (.cells #[.int .i64 most] 3)).alloc (.cells #[.slice none 0 0] 25)) w.heap.size 3 #[.int .i64 most] := (Blk.alloc w _ _).old _
  have d1 : Blk ((w.alloc (.cells #[.int .i64 most] 3)).alloc (.cells #[.slice none 0 0] 25)) (w.heap.size + 1) 25 #[.slice none 0 0] := Blk.atQ1 w _ _ _
  gi_wp2_with fail
  refine ⟨trivial, (callsIn_wide.2 (sum_any _ l _ (h.keepF g0) (by omega))).mono ?_⟩
  rintro e w1 ⟨rfl, g1⟩
  have k1 := g0.trans g1
  have HSZ := Lib.hid g1.size
  have d0 := d0.keep g1 (fun h => h)
  have d1 := d1.keep g1 (fun h => h)
  obtain ⟨left, hl⟩ : ∃ left, sumQ l = left := ⟨_, rfl⟩
  rw [hl]
  have HLF := Lib.hid hl
  have d2 := Blk.alloc w1 3 #[.int .i64 (left : Int)]
  have g2 := (Frm.refl (fun _ => False) w1).alloc (.cells #[.int .i64 (left : Int)] 3)
  clear g0 g1 hl
  gi_wp2_with fail
  refine ⟨trivial, (callsIn_wide.2 (spare_any _ _ ⟨_, _, _, rfl⟩)).mono ?_⟩
  rintro e w3 ⟨rfl, b3, g3⟩
  have d0 := (d0.keep g2 (fun h => h)).keep g3 (fun h => h)
  have d1 := (d1.keep g2 (fun h => h)).keep g3 (fun h => h)
  have d2 := d2.keep g3 (fun h => h)
  have k3 := (k1.trans g2).trans g3
  have h3 := h.keepF k3
  obtain ⟨A, hA⟩ : ∃ A, w.heap.size = A := ⟨_, rfl⟩
  have HA := Lib.hid hA
  obtain ⟨L, hL⟩ : ∃ L, w1.heap.size = L := ⟨_, rfl⟩
  have hAL : A + 2 ≤ L := by have := d1.lt; have := k1.size; have e := (d1.lt); rw [← hA, ← hL]; exact Nat.le_trans (by simp) HSZ.out
  have hLB : (w1.alloc (.cells #[.int .i64 (left : Int)] 3)).heap.size = L + 1 := by simp [hL]
  rw [hLB] at b3 ⊢
  rw [hL] at d2 ⊢
  rw [hA] at d0 d1 ⊢
  have hn1 : L + 2 ≤ w3.heap.size := by have := b3.lt; omega
  have HQ := Lib.hid h
  clear g2 g3 k1 hLB hA hL h
  gi_wp2_with fail
  rename_i K hK
  have hend : ∀ (D lf : Nat) (ids : List Nat) (u : Value) (W : World), w3.heap.size ≤ D → W.heap[D]? = some (.deferred (some [])) → Blk W A 3 #[.int .i64 most] → Blk W (A + 1) 25 #[u] → Own W u ids → (∀ g, u.ownBlock = some g → w3.heap.size ≤ g) → Blk W L 3 #[.int .i64 (lf : Int)] → Frm (fun _ => False) w W →
      pruneQ l most = (if most < (lf : Int) then ([], false) else (ids, true)) → K { tmps := #[.slice a l.length cap, .int .i64 most, undef, .pointer (some ⟨A, 0, none⟩), .pointer (some ⟨A + 1, 0, none⟩), .bool false, .pointer (some ⟨L, 0, none⟩), undef, .slice a l.length cap, .int .i64 (left : Int), .slice a l.length cap, .func (.func 25) #[] #[.pointer (some ⟨L + 1, 0, none⟩)], undef, undef, undef, undef, undef, undef, undef, undef, undef, undef, undef, undef, undef, undef, undef, undef, undef], defers := { target := .collected D, args := #[] } :: [] } W := by
    intro D lf ids u W hD hDf hq hg ho hn hl6 hF hp
    refine hK _ _ ?_
    obtain ⟨au, cu, rfl, _, _⟩ := Own.sliceQ ho
    have cq := hq.cell 0 rfl
    have cl := hl6.cell 0 rfl
    have cg := hg.cell 0 rfl
    have fg := hg.free 0
    have HP := Lib.hid hp
    have hDA : A + 1 < D := by omega
    have KK := Lib.hid (And.intro hg (And.intro ho (And.intro hn hF)))
    clear hp hq hl6 hF ho hn
    by_cases hlt : most < (lf : Int)
    · gi_wp2_with fail
      have hD2 : (W.setCell ⟨A + 1, 0, none⟩ (.slice none 0 0)).heap[D]? = some (.deferred (some [])) := (Below.heap_setCell _ _ _ _ (by show D ≠ A + 1; omega)).trans hDf
      obtain ⟨kg, ko, kn, kf⟩ := KK.out
      have hgp := grownBy_putObj' (W.setCell ⟨A + 1, 0, none⟩ (.slice none 0 0)) D (.deferred none)
      have bb : Blk (W.setCell ⟨A + 1, 0, none⟩ (.slice none 0 0)) (A + 1) 25 #[(.slice none 0 0)] := kg.set 0 _
      have bc := (bb.keep ((Frm.refl (fun k => D = k) _).grown hgp (fun k _ e => Option.some.inj e)) (by omega)).cell 0 rfl
      have hFF : Frm (fun _ => False) w ((W.setCell ⟨A + 1, 0, none⟩ (.slice none 0 0)).putObj D (.deferred none)) := (kf.setCell (p := ⟨A + 1, 0, none⟩) (fun h => by have hwA := HA.out; simp at h; omega) _).grown hgp (fun k hk e => by have e := Option.some.inj e; have := k3.size; omega)
      refine ⟨by simp, .inl ⟨_, _, rfl, run_takeDeferred hD2, ?_⟩⟩
      have hpp := HP.out
      rw [if_pos hlt] at hpp
      refine ⟨.tuple #[.slice none 0 0, .bool false], (by simp [results, Try.results9, go_sem, bc]), ?_⟩
      exact ⟨.slice none 0 0, by rw [hpp], by rw [hpp]; exact Row.nil_ _ _, hFF, fun g hg => by cases hg⟩
    · gi_wp2_with fail
      have hD2 : (W.setCell ⟨A + 1, 0, none⟩ (.slice au ids.length cu)).heap[D]? = some (.deferred (some [])) := (Below.heap_setCell _ _ _ _ (by show D ≠ A + 1; omega)).trans hDf
      obtain ⟨kg, ko, kn, kf⟩ := KK.out
      have hgp := grownBy_putObj' (W.setCell ⟨A + 1, 0, none⟩ (.slice au ids.length cu)) D (.deferred none)
      have bb : Blk (W.setCell ⟨A + 1, 0, none⟩ (.slice au ids.length cu)) (A + 1) 25 #[(.slice au ids.length cu)] := kg.set 0 _
      have bc := (bb.keep ((Frm.refl (fun k => D = k) _).grown hgp (fun k _ e => Option.some.inj e)) (by omega)).cell 0 rfl
      have hFF : Frm (fun _ => False) w ((W.setCell ⟨A + 1, 0, none⟩ (.slice au ids.length cu)).putObj D (.deferred none)) := (kf.setCell (p := ⟨A + 1, 0, none⟩) (fun h => by have hwA := HA.out; simp at h; omega) _).grown hgp (fun k hk e => by have e := Option.some.inj e; have := k3.size; omega)
      refine ⟨by simp, .inl ⟨_, _, rfl, run_takeDeferred hD2, ?_⟩⟩
      have hpp := HP.out
      rw [if_neg (by omega)] at hpp
      refine ⟨.tuple #[.slice au ids.length cu, .bool true], (by simp [results, Try.results9, go_sem, bc]), ?_⟩
      refine ⟨.slice au ids.length cu, by rw [hpp], ?_, hFF, fun g hg => by have := kn g hg; have := k3.size; omega⟩
      rw [hpp]
      exact Row.keep (Row.setOther (p := ⟨A + 1, 0, none⟩) ko (fun e => by have := kn _ e; simp at this; omega) _) ((Frm.refl (fun k => D = k) _).grown hgp (fun k _ e => Option.some.inj e)) (fun g e e2 => by
        obtain ⟨o, ho, hc⟩ := Row.isC ko g e
        rw [← e2, hDf] at ho; cases ho; cases hc)
  clear hK
  refine wpIn_rangeFunc_ownH rfl (by omega) (gf := 25) (lb := #[.pointer (some ⟨L + 1, 0, none⟩)]) rfl trivial (enters_of Try.func25 (by kernel_rfl) rfl)
    (spare1_stops (L + 1) _ l w3 b3 h3 h40) keptQ.trans keptQ.put (Below.refl _ _) (fun _ => rfl)
    (PrI w w3.heap.size A L most left) (fun c pre W => c = .exit 0 ∧ ∃ pre' x, pre = pre' ++ [x] ∧ PrI w w3.heap.size A L most left pre' W ∧ (left : Int) - (sumQ pre' : Int) ≤ most) (PrI.own w _ _ _ _ _ _ k3.size)
    (fun c pre W W' row hs hg hr => by obtain ⟨h1, p', x, h2, h3, h4⟩ := hs; exact ⟨h1, p', x, h2, PrI.own w _ _ _ _ _ _ k3.size p' W W' row h3 hg hr, h4⟩)
    ⟨d0, ⟨_, d1, Row.nil_ _ _, (fun g hg => by cases hg), (fun g hg => by cases hg)⟩, by simpa [sumQ] using d2, k3, Nat.le_refl _, fun i hi => by simp at hi⟩
    (fun x a' W => ∃ Bx, w3.heap.size ≤ Bx ∧ Blk W Bx 36 (qiv x) ∧ a' = { tmps := #[.slice a l.length cap, .int .i64 most, undef, .pointer (some ⟨A, 0, none⟩), .pointer (some ⟨A + 1, 0, none⟩), .bool false, .pointer (some ⟨L, 0, none⟩), .pointer (some ⟨Bx, 0, none⟩), .slice a l.length cap, .int .i64 (left : Int), .slice a l.length cap, .func (.func 25) #[] #[.pointer (some ⟨L + 1, 0, none⟩)], .agg (qiv x), undef, undef, undef, undef, undef, undef, undef, undef, undef, undef, undef, undef, undef, undef, undef, undef], defers := [] })
    (fun x a' _ X Y row hs hg hr => by obtain ⟨Bx, h1, h2, h3⟩ := hs; exact ⟨Bx, h1, h2.turnedQ hg (fun r e => (hr r e).2), h3⟩) ?assign ?body ?done ?stop
  case assign =>
    rintro l0 pre x W K2 hi hK2
    gi_wp2
    have hs := hi.size
    exact hK2 _ _ ((KeepsOthers.alloc _ _).from _) (keptQ.ofFrm ((Frm.refl (fun _ => False) W).alloc _) (fun _ _ h _ => h.elim)) ((PrI.own w _ _ _ _ _ _ k3.size).alloc _ hi) ⟨W.heap.size, hs, Blk.alloc W _ _, rfl⟩
  case body =>
    rintro l0 pre x a' W hl hrec hi ⟨Bx, hBx, bX, rfl⟩ hlt
    obtain ⟨u, hb1, ho, htg, hn⟩ := hi.gone
    have hsz := hi.size
    have cq := hi.quo.cell 0 rfl
    have cl := hi.left_.cell 0 rfl
    clear hrec
    have HI := Lib.hid hi
    have HLT := Lib.hid hlt
    by_cases hle : (left : Int) - (sumQ pre : Int) ≤ most
    · clear hi hlt hb1 ho htg hn
      gi_wp2
      exact ⟨KeepsFrom.refl _ _, rfl, pre, x, rfl, HI.out, hle⟩
    · obtain ⟨n, hnn⟩ : ∃ n, (left : Int) - (sumQ pre : Int) = n := ⟨_, rfl⟩
      rw [hnn] at cl hle
      have HNN := Lib.hid hnn
      obtain ⟨I, hI⟩ : ∃ I, pre.map QI.id = I := ⟨_, rfl⟩
      have hpl : I.length ≤ 1000 := by
        have h1 := sprI_len (srtI l)
        rw [srtI_len] at h1
        rw [← hI, List.length_map]
        omega
      rw [hI] at ho
      have HII := Lib.hid hI
      clear hI
      obtain ⟨au, cu, rfl, hcu1, hcu2⟩ := Own.sliceQ ho
      have c1 := hb1.cell 0 rfl
      have x0 := bX.cell 1 rfl
      have f2 := (Frm.refl (fun _ => False) W).alloc (.cells #[.int .u32 (x.id : Int)] 34)
      have hone := us_one W x.id
      obtain ⟨v', W2, hrun, hown, hgr, hnew, htgs⟩ := append_us _ _ _ _ [x.id] (Own.keepQ ho f2) hone (by simp only [List.length_singleton]; omega)
      obtain ⟨a2, cap2, rfl, _, _⟩ := Own.sliceQ hown
      have el : (I ++ [x.id]).length = I.length + 1 := by simp
      rw [el] at hrun hown hnew
      have HRUN := Lib.hid hrun
      have hX : Frm (fun k => Value.ownBlock (.slice au I.length cu) = some k) W W2 := (f2.mono (fun _ _ h => h.elim)).grown hgr (fun k _ e => e)
      have hnA : ∀ g, Value.ownBlock (.slice au I.length cu) = some g → A + 1 < g ∧ L < g := fun g e => by have := hn g e; omega
      have b2 := hb1.keep hX (fun e => by have := hnA _ e; omega)
      have q2 := hi.quo.keep hX (fun e => by have := hnA _ e; omega)
      have l2 := hi.left_.keep hX (fun e => by have := hnA _ e; omega)
      rw [hnn] at l2
      have cl2 := b2.cell 0 rfl
      have fl2 := b2.free 0
      have b3' := b2.set 0 (.slice a2 (I.length + 1) cap2)
      have hX3 : Frm (fun k => k = A + 1 ∨ Value.ownBlock (.slice au I.length cu) = some k) W (W2.setCell ⟨A + 1, 0, none⟩ (.slice a2 (I.length + 1) cap2)) := (hX.mono (fun _ _ h => .inr h)).setCell (p := ⟨A + 1, 0, none⟩) (fun _ => .inl rfl) _
      have hn2 : ∀ g, (Value.slice a2 (I.length + 1) cap2).ownBlock = some g → w3.heap.size ≤ g := fun g e => (hnew g e).elim (hn g) (fun e => by have := f2.size; have := e.1; omega)
      have o3 : Own (W2.setCell ⟨A + 1, 0, none⟩ (.slice a2 (I.length + 1) cap2)) (.slice a2 (I.length + 1) cap2) (I ++ [x.id]) := Row.setOther (p := ⟨A + 1, 0, none⟩) hown (fun e => by have := hn2 _ e; simp at this; omega) _
      have q3 := q2.other (p := ⟨A + 1, 0, none⟩) (by simp) (.slice a2 (I.length + 1) cap2)
      have l3 := l2.other (p := ⟨A + 1, 0, none⟩) (by simp; omega) (.slice a2 (I.length + 1) cap2)
      have hBg : ∀ g, Value.ownBlock (.slice au I.length cu) = some g → g ≠ Bx := fun g e e2 => by
        obtain ⟨cs, fr, h⟩ := htg g e
        rw [e2, show W.heap[Bx]? = some _ from bX] at h
        cases h
      have x2 : Blk W2 Bx 36 (qiv x) := bX.keep hX (fun e => hBg _ e rfl)
      have x3 := x2.other (p := ⟨A + 1, 0, none⟩) (by simp; omega) (.slice a2 (I.length + 1) cap2)
      have t2 : UTag W2 (.slice a2 (I.length + 1) cap2) := fun g e => by
        rcases hnew g e with e1 | e1
        · obtain ⟨cs, fr, h⟩ := htg g e1
          obtain ⟨cs', h'⟩ := htgs g cs _ fr ((f2.block g (Array.getElem?_eq_some_iff.1 h).1 (fun h => h)).trans h)
          exact ⟨cs', fr, h'⟩
        · exact e1.2
      have t3 : UTag (W2.setCell ⟨A + 1, 0, none⟩ (.slice a2 (I.length + 1) cap2)) (.slice a2 (I.length + 1) cap2) := fun g e => by
        obtain ⟨cs, fr, h⟩ := t2 g e
        obtain ⟨cs', h'⟩ := Tags.setCell W2 ⟨A + 1, 0, none⟩ (.slice a2 (I.length + 1) cap2) g cs _ fr h
        exact ⟨cs', fr, h'⟩
      have KK := Lib.hid (And.intro hX3 (And.intro b3' (And.intro o3 (And.intro t3 (And.intro q3 (And.intro hn2 (And.intro hnA hBg)))))))
      have HOC := Lib.hid (And.intro hb1 (And.intro ho.isCellsR htg))
      clear hX3 b3' o3 t3 q3 hn2 hnA hBg hX hb1 ho htg t2 x2 b2 q2 l2 hown hgr hnew htgs hi hlt hrun hone f2 hnn
      gi_wp2_with (refine wplIn_appendQ rfl _ _ _ _ rfl _ _ rfl rfl _ _ HRUN.out ?_)
      generalize hW6 : W2.setCell ⟨A + 1, 0, none⟩ (.slice a2 (I.length + 1) cap2) = W6 at *
      clear hW6
      have HL6 := Lib.hid l3
      have HX6 := Lib.hid x3
      clear l3 x3 cq cl c1 x0 cl2 fl2
      have hbn : -10000000 ≤ n ∧ n ≤ 10000000 := by
        have h1 := sumQ_le pre
        have h2 := sprI_len (srtI l)
        rw [srtI_len] at h2
        have h3 := HLT.out
        have h4 := sumQ_le l
        have h5 := HLF.out
        have h6 := HNN.out
        omega
      have D : Frm (fun _ => False) W6 W6.drew := (Frm.refl _ _).drew
      refine wpIn_region_late 3 2 [] [[], [], [1]] qp6M (qp6R n x) (by rintro ⟨_, _, h⟩; exact h) (by kernel_rfl) (by kernel_rfl) rfl rfl rfl (by kernel_rfl) (by kernel_rfl) (by kernel_rfl) (by kernel_rfl) rfl (by kernel_rfl) (by kernel_rfl) (by kernel_rfl) (by kernel_rfl) (fun val => ?_) ?_
      · try simp only [Act.put, List.setIfInBounds_toArray, List.set_cons_zero, List.set_cons_succ]
        refine RelO.next (k' := 1) rfl (fun W gW hF => ?_) ?_
        focus
          have c0 := (HL6.out.keep (D.trans gW) (fun h => h)).cell 0 rfl
          exact OpOK.val (u := .int .i64 n) (by rfl) (by first | (go_simp; done) | (go_simp; with_reducible rfl) | (go_simp; rfl)) (fun W' _ => rfl)
        try simp only [Act.put, List.setIfInBounds_toArray, List.set_cons_zero, List.set_cons_succ]
        refine RelO.next (k' := 2) rfl (fun W gW hF => ?_) ?_
        focus
          have x1 := HX6.out.keep (D.trans gW) (fun h => h)
          have y0 := x1.cell 0 rfl
          have y1 := x1.cell 1 rfl
          have y2 := x1.cell 2 rfl
          have y3 := x1.cell 3 rfl
          exact OpOK.val (u := .agg (qiv x)) (by rfl) (by first | (go_simp; done) | (go_simp; with_reducible rfl) | (go_simp; rfl)) (fun W' _ => rfl)
        try simp only [Act.put, List.setIfInBounds_toArray, List.set_cons_zero, List.set_cons_succ]
        refine RelO.next (k' := 3) rfl (fun W gW hF => ?_) ?_
        focus
          obtain ⟨h1, _⟩ := hF
          have e1 : val 1 = .agg (qiv x) := h1 _ (Frm.refl _ W)
          try simp only [e1]
          try simp only [tupAt]
          refine OpOK.call (by rfl) ?_ ((size_any x W).mono ?_)
          · first | (go_simp; done) | (go_simp; with_reducible rfl) | (go_simp; rfl)
          · rintro e W1 ⟨rfl, g1⟩
            exact ⟨_, rfl, g1, fun W2 _ => rfl⟩
        try simp only [Act.put, List.setIfInBounds_toArray, List.set_cons_zero, List.set_cons_succ]
        exact RelO.nil
      intro val w5 gW hF
      obtain ⟨h0, h1, h2, hT⟩ := hF
      have e0 : val 0 = .int .i64 n := h0 _ (Frm.refl _ w5)
      have e1 : val 1 = .agg (qiv x) := h1 _ (Frm.refl _ w5)
      have e2 : val 2 = .int .i64 (szQ x : Int) := h2 _ (Frm.refl _ w5)
      clear hT h0 h1 h2
      simp only [aO, Act.put, List.setIfInBounds_toArray, List.set_cons_zero, List.set_cons_succ, Nat.reduceAdd]
      try simp only [e2]
      try simp only [e1]
      try simp only [e0]
      try simp only [tupAt]
      have gD := D.trans gW
      clear gW D
      have l5 := HL6.out.keep gD (fun h => h)
      have lc := l5.cell 0 rfl
      have lf := l5.free 0
      have hsx := szQ_le x
      have hwrap : IntKind.i64.wrap (n - (szQ x : Int)) = n - (szQ x : Int) := by rw [IntKind.wrap_i64]; omega
      refine wpTail.cons rfl rfl (fun K hK => ?_)
      unfold Oper.wp execOp
      go_simp
      refine hK _ _ ?_
      clear hK K
      try simp only [Act.put, List.setIfInBounds_toArray, List.set_cons_zero, List.set_cons_succ]
      refine wpTail.cons rfl rfl (fun K hK => ?_)
      unfold Oper.wp execOp
      go_simp
      refine hK _ _ ?_
      clear hK K
      refine wpTail.done ?_
      have hF : Frm (fun k => k = A + 1 ∨ Value.ownBlock (.slice au I.length cu) = some k ∨ k = L) W (w5.setCell ⟨L, 0, none⟩ (.int .i64 (n - (szQ x : Int)))) :=
        ((KK.out.1.mono (fun k _ h => h.elim .inl (fun h => .inr (.inl h)))).trans (gD.mono (fun _ _ h => h.elim))).setCell (p := ⟨L, 0, none⟩) (fun _ => .inr (.inr rfl)) _
      have hAL' : A + 1 ≠ L ∧ A ≠ L := by omega
      obtain ⟨kX, kb, ko, kt, kq, kn, kA, kB⟩ := KK.out
      obtain ⟨hb1, hoc, htg⟩ := HOC.out
      have hi := HI.out
      have e1 : (pre ++ [x]).map QI.id = I ++ [x.id] := by rw [List.map_append, HII.out]; rfl
      have e2 : sumQ (pre ++ [x]) = sumQ pre + szQ x := by rw [sumQ_append]; simp [sumQ]
      have hgL : ∀ (y : Value) g, (Value.slice a2 (I.length + 1) cap2).ownBlock = some g → g ≠ L := fun y g e => by have := kn g e; omega
      refine ⟨(hF.othersQ fun k o hk ho2 => ?_).from _, keptQ.ofFrm hF (fun k o hk ho2 => ?_), ⟨?_, ⟨.slice a2 (I.length + 1) cap2, ?_, ?_, ?_, kn⟩, ?_, ?_, ?_, ?_⟩⟩
      · rcases hk with rfl | hk | rfl
        · exact hb1.isCellsQ _ o rfl ho2
        · exact hoc k o hk ho2
        · exact hi.left_.isCellsQ _ o rfl ho2
      · rcases hk with rfl | hk | rfl
        · rw [show W.heap[A + 1]? = some _ from hb1] at ho2
          cases ho2; rfl
        · obtain ⟨cs, fr, h⟩ := htg k hk
          rw [h] at ho2
          cases ho2; rfl
        · rw [show W.heap[k]? = some _ from hi.left_] at ho2
          cases ho2; rfl
      · exact (kq.keep gD (fun h => h)).other (p := ⟨L, 0, none⟩) (by simp; omega) _
      · exact (kb.keep gD (fun h => h)).other (p := ⟨L, 0, none⟩) (by simp; omega) _
      · rw [e1]; exact Row.setOther (p := ⟨L, 0, none⟩) (Own.keepQ ko gD) (fun e => hgL undef _ e rfl) _
      · exact fun g e => by
          obtain ⟨cs, fr, h⟩ := (UTag.keep kt gD (fun _ _ h => h)) g e
          obtain ⟨cs', h'⟩ := Tags.setCell w5 ⟨L, 0, none⟩ (.int .i64 (n - (szQ x : Int))) g cs _ fr h
          exact ⟨cs', fr, h'⟩
      · have := l5.set 0 (.int .i64 (n - (szQ x : Int)))
        rw [e2, show (left : Int) - ((sumQ pre + szQ x : Nat) : Int) = n - (szQ x : Int) from by rw [← HNN.out]; omega]
        exact this
      · exact hi.frm.next hF (fun k hk e => by
          have hwA := HA.out
          have := k3.size
          rcases e with rfl | e | rfl
          · omega
          · have := kA _ e; omega
          · omega)
      · exact Nat.le_trans hi.size hF.size
      · intro i hi2
        rw [List.length_append, List.length_singleton] at hi2
        by_cases h : i < pre.length
        · rw [List.take_append_of_le_length (by omega)]
          exact hi.cond i h
        · obtain rfl : i = pre.length := by omega
          rw [List.take_left, HNN.out]
          omega
  case done =>
    rintro D xs W hD rfl hi hK2
    obtain ⟨u, hb, ho, _, hn⟩ := hi.gone
    have hle : sumQ (sprI (srtI l)) ≤ left := by
      have h1 := sumQ_sub (sprI_sub (srtI l))
      have h2 := sumQ_srt l
      have h3 := HLF.out
      unfold srtI at h1 ⊢
      omega
    have hg := goI_step most (sprI (srtI l)) [] left hi.cond hle
    simp only [goI, List.append_nil] at hg
    have hpq := pruneQ_eq l most ((sprI (srtI l)).map QI.id, left - sumQ (sprI (srtI l))) (by rw [HLF.out]; exact hg)
    exact hend D _ _ u W hD hK2 hi.quo hb ho hn (by have := hi.left_; rw [show (left : Int) - (sumQ (sprI (srtI l)) : Int) = ((left - sumQ (sprI (srtI l)) : Nat) : Int) from by omega] at this; exact this) hi.frm hpq
  case stop =>
    rintro D c pre W hD ⟨hp1, hp2⟩ ⟨rfl, pre', x, rfl, hi, hle⟩ hK2
    obtain ⟨u, hb, ho, _, hn⟩ := hi.gone
    obtain ⟨rest, hrest⟩ := hp1
    have hle2 : sumQ pre' ≤ left := by
      have h1 := sumQ_sub (sprI_sub (srtI l))
      rw [← hrest, sumQ_append, sumQ_append] at h1
      have h2 := sumQ_srt l
      have h3 := HLF.out
      unfold srtI at h1
      omega
    have hg := goI_step most pre' (x :: rest) left hi.cond hle2
    rw [show pre' ++ x :: rest = sprI (srtI l) from by rw [← hrest]; simp] at hg
    have hgo : goI most (left - sumQ pre') (x :: rest) = ([], left - sumQ pre') := by
      rw [goI, if_pos (by omega)]
    rw [hgo] at hg
    simp only [List.append_nil] at hg
    have hpq := pruneQ_eq l most (pre'.map QI.id, left - sumQ pre') (by rw [HLF.out]; exact hg)
    gi_wp2_with fail
    exact hend D _ _ u W hD hK2 hi.quo hb ho hn (by have := hi.left_; rw [show (left : Int) - (sumQ pre' : Int) = ((left - sumQ pre' : Nat) : Int) from by omega] at this; exact this) hi.frm hpq
end Go.Proofs.Ytpabblkdepefcaa
