/- Four registers side by side; an act on them. No condition but that they lie there, and hold no more than they may. -/
import Derived.Test.YtojbgckabifnjaaSmA
import Derived.Test.YtojbgckabifnjaaSibY
import Derived.Test.YtojbgckabifnjaaHist
namespace Go.Proofs.Ytojbgckabifnjaa
open Go.RowKit

/-- Four registers, side by side in a block. -/
structure AllB (W : World) (A : Nat) (F : Nat → Nat → Nat) (V : Nat → Value) : Prop where
  lt : A < W.heap.size
  c : ∀ k, k < 4 → ∀ j, j < 9 → W.cell? ⟨A, k * 9 + j, none⟩ = (rgc (F k) (V k))[j]?
  f : ∀ j, j < 36 → W.frozen? ⟨A, j, none⟩ = false
section
variable {X : Nat → Prop} {W W' : World} {A : Nat} {F : Nat → Nat → Nat} {V : Nat → Value}
theorem AllB.keep (h : AllB W A F V) (g : Frm X W W') (hn : ¬ X A) : AllB W' A F V := by
  have e := g.block A h.lt hn
  exact ⟨Nat.lt_of_lt_of_le h.lt g.size, fun k hk j hj => (World.cell?_of_block (a := ⟨A, k * 9 + j, none⟩) e).trans (h.c k hk j hj), fun j hj => (World.frozen?_of_block (a := ⟨A, j, none⟩) e).trans (h.f j hj)⟩
theorem rgc_get {f : Nat → Nat} {v : Value} {j : Nat} {u : Value} (hu : (rgc f v).toList[j]? = some u) : j < 9 := by
  rcases Nat.lt_or_ge j 9 with h | h
  · exact h
  · rw [List.getElem?_eq_none (by simp; omega)] at hu; cases hu
theorem AllB.load (h : AllB W A F V) {k : Nat} (hk : k < 4) : (Instr.loadAt 39 (.pointer (some ⟨A, k * 9, none⟩))).run Try.prog W = .ok (rg (F k) (V k)) W :=
  run_loadAt_mid W A (k * 9) 39 (rgc (F k) (V k)).toList _ (fun j u hu => by rw [h.c k hk j (rgc_get hu), ← Array.getElem?_toList]; exact hu) Try.underlying39 rfl (by show _ = some 9; kernel_rfl)
theorem AllB.there (h : AllB W A F V) {k : Nat} (hk : k < 4) : W.there A (k * 9) 9 := fun j hj => ⟨by
  rw [h.c k hk j hj, Array.getElem?_eq_getElem (show j < (rgc (F k) (V k)).size from hj)]; rfl, h.f _ (by omega)⟩
/-- One of them is another one now. -/
theorem AllB.set (h : AllB W A F V) {k : Nat} (hk : k < 4) (f : Nat → Nat) (v : Value) : AllB (W.setCells A (k * 9) (rgc f v).toList) A (setF F k f) (setF V k v) := by
  have hsz := (Frm.setCells (X := fun q => q = A) A (fun _ => rfl) (rgc f v).toList (k * 9) W (Frm.refl _ W)).size
  refine ⟨Nat.lt_of_lt_of_le h.lt hsz, fun q hq j hj => ?_, fun j hj => by rw [World.frozen?_setCells]; exact h.f j hj⟩
  by_cases e : q = k
  · subst e
    rw [setF_at, setF_at, World.cell?_setCells_in A (rgc f v).toList (q * 9) W (fun i hi => (h.there hk i hi).1) j hj, ← Array.getElem?_toList, List.getElem?_eq_getElem hj]
  · rw [setF_ne e, setF_ne e, World.cell?_setCells_out A (rgc f v).toList (k * 9) W ⟨A, q * 9 + j, none⟩ (fun _ _ => by
      show q * 9 + j < k * 9 ∨ k * 9 + 9 ≤ q * 9 + j
      omega)]
    exact h.c q hq j hj
end
/-- At most eight dots of siblings. -/
def Dots8 (l : List SibI) (D : List DotI) : Prop := D.length ≤ 8 ∧ DotsOf l D
/-- What an act on these registers answers. -/
def OneIs (F : Nat → Nat → Nat) (L : Nat → List SibI) (x : SActI) (f' : Nat → Nat) (l' : List SibI) (p q : Nat) (Dv : List DotI) (e0 : Nat) : Prop :=
  (x.k % 5 < 2 ∧ Dots8 (L (x.r % 4)) Dv ∧ writeS (F (x.r % 4)) (L (x.r % 4)) (x.r % 4) Dv x.s = (f', l', (p, q), e0)) ∨
  (x.k % 5 = 2 ∧ Dots8 (L (x.r % 4)) Dv ∧ dropS (F (x.r % 4)) (L (x.r % 4)) (x.r % 4) Dv = (f', l', (p, q), e0)) ∨
  (3 ≤ x.k % 5 ∧ Dv = [] ∧ p = 0 ∧ q = 0 ∧ rjoinS (F (x.r % 4)) (F (x.m % 4)) (L (x.r % 4)) (L (x.m % 4)) = (f', l', e0))
theorem sjoinR {f g f' : Nat → Nat} {l m l' : List SibI} {e' : Nat} (hf : Fit8 f) (hg : Fit8 g) (hl : l.length ≤ 1000) (hm : m.length ≤ 1000) (hr : rjoinS f g l m = (f', l', e')) (W : World) (x y : Value) (hx : SL W x l) (hy : SL W y m) :
    Calls Try.prog 28 #[rg f x, rg g y] W fun e w' => ∃ v', e = .returned (.tuple #[rg f' v', .int .i64 e']) ∧ OwnL w' v' l' ∧ (∀ g, v'.ownBlock = some g → W.heap.size ≤ g) ∧ Frm (fun _ => False) W w' := by
  refine (sjoin_any f g x y l m W hf hg hx hy (by omega) (by omega)).mono ?_
  rintro e w' ⟨v', f2, l2, e2, rfl, o, n, fr, hj⟩
  have h2 := (joinIs_eq hj).symm.trans hr
  obtain ⟨rfl, h3⟩ := Prod.mk.inj h2
  obtain ⟨rfl, rfl⟩ := Prod.mk.inj h3
  exact ⟨v', rfl, o, n, fr⟩
section
variable {ops : Array Oper} {Q : Exit → Act → World → Prop} {r : Nat} {a : Act} {w W : World}
theorem wpOp_assign {K : Act → World → Prop} {i : Nat} {o : Oper} {x : Operand} {d : Tmp} {v : Value} (hi : ops[i]? = some o) (hg : o.guard = none) (hd : o.dst = some d) (ho : o.op = .assign x) (hx : a.eval x = v) (h : K (a.put (some d) v) w) : wpOp Try.prog ops Q i K a w := by
  refine wpOp_plain0 hi hg fun K' hK' => ?_
  unfold Oper.wp execOp
  simp only [ho, hx]
  refine hK' _ _ ?_
  rw [hd]
  exact h
theorem yieldsIf_move {S : World → Prop} {o : Oper} {v : Value} (hw : Region.wanted o (yielded ops a.tmps) = true) (x : Operand) (ho : o.op = .move x) (hx : a.eval x = v) : YieldsIf Try.prog ops S o v a :=
  .inl ⟨hw, fun w _ => by
    unfold execOp
    simp only [ho, hx, Sem.run_pure]⟩
/-- A register and a dot are stored where results lie, then two values are kept: the end of such a region. -/
theorem seq_ret {S : World → Prop} {listed : Array Bool} {i j k m : Nat} {oi oj ok om : Oper} {d3 d4 : Tmp}
    (hi : ops[i]? = some oi) (gi : oi.guard = none) (di : oi.dst = none) (hj : ops[j]? = some oj) (gj : oj.guard = none) (dj : oj.dst = none) (hk : ops[k]? = some ok) (gk : ok.guard = none) (dk : ok.dst = some d3) (hm : ops[m]? = some om) (gm : om.guard = none) (dm : om.dst = some d4)
    (r0 : Region.ready .any ops listed = [i]) (r1 : Region.ready .any ops (listed.setIfInBounds i true) = [j])
    (r3 : Region.ready .any ops ((listed.setIfInBounds i true).setIfInBounds j true) = [k])
    (r4 : Region.ready .any ops (((listed.setIfInBounds i true).setIfInBounds j true).setIfInBounds k true) = [m])
    (r5 : Region.ready .any ops ((((listed.setIfInBounds i true).setIfInBounds j true).setIfInBounds k true).setIfInBounds m true) = [])
    (ti : TypeId) (xi yi : Operand) (hoi : oi.op = .store ti xi yi) (bi : Nat) (ci oldi : Array Value) (hxi : a.eval xi = .pointer (some ⟨bi, 0, none⟩)) (hyi : a.eval yi = .agg ci)
    (tj : TypeId) (xj yj : Operand) (hoj : oj.op = .store tj xj yj) (bj : Nat) (cj oldj : Array Value) (hxj : a.eval xj = .pointer (some ⟨bj, 0, none⟩)) (hyj : a.eval yj = .agg cj)
    (x3 x4 : Operand) (u3 u4 : Value) (hok : ok.op = .assign x3) (hom : om.op = .assign x4) (hx3 : a.eval x3 = u3) (hx4 : (a.put (some d3) u3).eval x4 = u4)
    (Bi : Blk w bi ti oldi) (si : oldi.size = ci.size) (ii : (Try.prog.info? ti).map (·.size) = some ci.size) (oi1 : ci.all (·.oneCell') = true)
    (Bj : Blk w bj tj oldj) (sj : oldj.size = cj.size) (ij : (Try.prog.info? tj).map (·.size) = some cj.size) (oj1 : cj.all (·.oneCell') = true) (hne : bi ≠ bj)
    (hS : ∀ w', Frm (fun q => q = bi ∨ q = bj) w w' → S w')
    (hK : ∀ w', Blk w' bi ti ci → Blk w' bj tj cj → Frm (fun q => q = bi ∨ q = bj) w w' → Q .normal ((a.put (some d3) u3).put (some d4) u4) w') :
    wpAnyH Try.prog .any ops Q S 4 listed a w := by
  refine wpAnyH_all r0 (by simp) ?_
  intro n hn
  obtain rfl : n = i := by simpa using hn
  refine row_step hi gi di ti xi yi hoi bi ci oldi hxi hyi Bi si ii oi1 ?_
  intro w1 e1 f1 z1
  have g1 : Frm (fun q => q = bi ∨ q = bj) w w1 := f1.mono fun _ _ h => .inl h
  refine ⟨hS _ g1, wpAnyH_all r1 (by simp) ?_⟩
  intro n hn
  obtain rfl : n = j := by simpa using hn
  refine row_step hj gj dj tj xj yj hoj bj cj oldj hxj hyj (Bj.keep f1 (fun e => hne e.symm)) sj ij oj1 ?_
  intro w2 e2 f2 z2
  have g2 : Frm (fun q => q = bi ∨ q = bj) w w2 := g1.trans (f2.mono fun _ _ h => .inr h)
  refine ⟨hS _ g2, wpAnyH_all r3 (by simp) ?_⟩
  intro n hn
  obtain rfl : n = k := by simpa using hn
  refine wpOp_assign hk gk dk hok hx3 ⟨hS _ g2, wpAnyH_all r4 (by simp) ?_⟩
  intro n hn
  obtain rfl : n = m := by simpa using hn
  refine wpOp_assign hm gm dm hom hx4 ⟨hS _ g2, ?_⟩
  exact wpAnyH_done r5 (hK w2 (e1.keep f2 hne) e2 g2) _
end
def on2M : List Nat := [1, 2, 5, 15, 31, 32, 96, 255, 511]
def on2R (A : Nat) (N : Nat) (r : Nat) (F : Nat → Nat → Nat) (V : Nat → Value) (L : Nat → List SibI) (x : SActI) : List ((Nat → Value) → World → Prop) := [
  fun val _ => val 0 = .pointer (some ⟨A, 0, none⟩),
  fun val _ => val 1 = .int .u8 (r : Int),
  fun val _ => val 2 = .pointer (some ⟨A, 0, none⟩),
  fun val _ => val 3 = .pointer (some ⟨A, r * 9, none⟩),
  fun val _ => val 4 = rg (F r) (V r),
  fun val _ => val 5 = .pointer (some ⟨N, 3, none⟩),
  fun val _ => val 6 = .int .u8 (x.o : Int),
  fun val W => ∃ u D', (val 7) = u ∧ OwnD W u D' ∧ Dots8 (L r) D' ∧ ∀ g, u.ownBlock = some g → N + 3 ≤ g,
  fun val _ => val 8 = (val 7)]
def on6M : List Nat := [1, 2, 5, 15, 31, 32, 64, 128, 384, 1023, 2047, 4095, 6143, 10239, 16384, 32768, 118783, 184319, 315391]
def on6R (A : Nat) (N : Nat) (r : Nat) (K : Nat) (F : Nat → Nat → Nat) (V : Nat → Value) (x : SActI) (vo : Value) (f1 : Nat → Nat) (l1 : List SibI) (p1 : Nat) (q1 : Nat) (er : Nat) : List ((Nat → Value) → World → Prop) := [
  fun val _ => val 0 = .pointer (some ⟨A, 0, none⟩),
  fun val _ => val 1 = .int .u8 (r : Int),
  fun val _ => val 2 = .pointer (some ⟨A, 0, none⟩),
  fun val _ => val 3 = .pointer (some ⟨A, r * 9, none⟩),
  fun val _ => val 4 = rg (F r) (V r),
  fun val _ => val 5 = .int .u8 (r : Int),
  fun val _ => val 6 = vo,
  fun val _ => val 7 = .pointer (some ⟨N, 4, none⟩),
  fun val _ => val 8 = .string (bs x.s),
  fun val W => ∃ v', (val 9) = .tuple #[rg f1 v', .agg (dv p1 q1), .int .i64 (er : Nat)] ∧ OwnL W v' l1 ∧ ∀ g, v'.ownBlock = some g → K ≤ g,
  fun val _ => val 10 = (val 9),
  fun val _ => val 11 = tupAt (val 10) 0,
  fun val _ => val 12 = tupAt (val 10) 1,
  fun val _ => val 13 = tupAt (val 10) 2,
  fun val W => ∃ b, (val 14) = .pointer (some ⟨b, 0, none⟩) ∧ K ≤ b ∧ Blk W b 39 rz,
  fun val W => ∃ b, (val 15) = .pointer (some ⟨b, 0, none⟩) ∧ K ≤ b ∧ Blk W b 27 dz]
def on9M : List Nat := [1, 2, 5, 15, 31, 32, 64, 255, 511, 1023, 1535, 2559, 4096, 8192, 32767, 49151, 81919]
def on9R (A : Nat) (r : Nat) (K : Nat) (F : Nat → Nat → Nat) (V : Nat → Value) (vo : Value) (f1 : Nat → Nat) (l1 : List SibI) (p1 : Nat) (q1 : Nat) (er : Nat) : List ((Nat → Value) → World → Prop) := [
  fun val _ => val 0 = .pointer (some ⟨A, 0, none⟩),
  fun val _ => val 1 = .int .u8 (r : Int),
  fun val _ => val 2 = .pointer (some ⟨A, 0, none⟩),
  fun val _ => val 3 = .pointer (some ⟨A, r * 9, none⟩),
  fun val _ => val 4 = rg (F r) (V r),
  fun val _ => val 5 = .int .u8 (r : Int),
  fun val _ => val 6 = vo,
  fun val W => ∃ v', (val 7) = .tuple #[rg f1 v', .agg (dv p1 q1), .int .i64 (er : Nat)] ∧ OwnL W v' l1 ∧ ∀ g, v'.ownBlock = some g → K ≤ g,
  fun val _ => val 8 = (val 7),
  fun val _ => val 9 = tupAt (val 8) 0,
  fun val _ => val 10 = tupAt (val 8) 1,
  fun val _ => val 11 = tupAt (val 8) 2,
  fun val W => ∃ b, (val 12) = .pointer (some ⟨b, 0, none⟩) ∧ K ≤ b ∧ Blk W b 39 rz,
  fun val W => ∃ b, (val 13) = .pointer (some ⟨b, 0, none⟩) ∧ K ≤ b ∧ Blk W b 27 dz]
def on11M : List Nat := [1, 2, 5, 15, 31, 32, 64, 192, 448, 544, 2016, 4064, 8191, 16383, 32767, 49151, 65536, 229375, 360447]
def on11R (A : Nat) (N : Nat) (r : Nat) (j : Nat) (K : Nat) (F : Nat → Nat → Nat) (V : Nat → Value) (x : SActI) (f1 : Nat → Nat) (l1 : List SibI) (er : Nat) : List ((Nat → Value) → World → Prop) := [
  fun val _ => val 0 = .pointer (some ⟨A, 0, none⟩),
  fun val _ => val 1 = .int .u8 (r : Int),
  fun val _ => val 2 = .pointer (some ⟨A, 0, none⟩),
  fun val _ => val 3 = .pointer (some ⟨A, r * 9, none⟩),
  fun val _ => val 4 = rg (F r) (V r),
  fun val _ => val 5 = .pointer (some ⟨A, 0, none⟩),
  fun val _ => val 6 = .pointer (some ⟨N, 2, none⟩),
  fun val _ => val 7 = .int .u8 (x.m : Int),
  fun val _ => val 8 = .int .u8 (j : Int),
  fun val _ => val 9 = .pointer (some ⟨A, 0, none⟩),
  fun val _ => val 10 = .pointer (some ⟨A, j * 9, none⟩),
  fun val _ => val 11 = rg (F j) (V j),
  fun val W => ∃ v', (val 12) = .tuple #[rg f1 v', .int .i64 (er : Nat)] ∧ OwnL W v' l1 ∧ ∀ g, v'.ownBlock = some g → K ≤ g,
  fun val _ => val 13 = (val 12),
  fun val _ => val 14 = tupAt (val 13) 0,
  fun val _ => val 15 = tupAt (val 13) 1,
  fun val W => ∃ b, (val 16) = .pointer (some ⟨b, 0, none⟩) ∧ K ≤ b ∧ Blk W b 39 rz]

set_option maxRecDepth 100000 in
set_option maxHeartbeats 8000000 in
theorem one_any (A : Nat) (F : Nat → Nat → Nat) (V : Nat → Value) (L : Nat → List SibI) (x : SActI) (w : World) (hA : AllB w A F V) (hS : ∀ k, k < 4 → SL w (V k) (L k)) (hF : ∀ k, k < 4 → Fit8 (F k)) (hL : ∀ k, k < 4 → (L k).length ≤ 8) :
    Calls Try.prog 38 #[.pointer (some ⟨A, 0, none⟩), .agg #[.int .u8 x.k, .int .u8 x.r, .int .u8 x.m, .int .u8 x.o, .string (bs x.s)]] w fun e w' =>
      ∃ f' v' l' p q vo Dv e0, e = .returned (.tuple #[rg f' v', .agg (dv p q), vo, .int .i64 (e0 : Nat)]) ∧ SL w' v' l' ∧ (∀ g, blkOf v' = some g → w.heap.size ≤ g) ∧ DL w' vo Dv ∧ (∀ g, blkOf vo = some g → w.heap.size ≤ g) ∧ Frm (fun _ => False) w w' ∧ OneIs F L x f' l' p q Dv e0 := by
  have HL := Lib.hid hL
  have HF := Lib.hid hF
  have g0 : Frm (fun _ => False) w (((w.alloc (.cells #[.int .u8 x.k, .int .u8 x.r, .int .u8 x.m, .int .u8 x.o, .string (bs x.s)] 85)).alloc (.cells rz 39)).alloc (.cells dz 27)) := (((Frm.refl _ w).alloc _).alloc _).alloc _
  have b0 : Blk (((w.alloc (.cells #[.int .u8 x.k, .int .u8 x.r, .int .u8 x.m, .int .u8 x.o, .string (bs x.s)] 85)).alloc (.cells rz 39)).alloc (.cells dz 27)) w.heap.size 85 #[.int .u8 x.k, .int .u8 x.r, .int .u8 x.m, .int .u8 x.o, .string (bs x.s)] := ((Blk.alloc w _ _).old _).old _
  have b1 : Blk (((w.alloc (.cells #[.int .u8 x.k, .int .u8 x.r, .int .u8 x.m, .int .u8 x.o, .string (bs x.s)] 85)).alloc (.cells rz 39)).alloc (.cells dz 27)) (w.heap.size + 1) 39 rz := (Blk.at1 w _ _ _).old _
  have b2 : Blk (((w.alloc (.cells #[.int .u8 x.k, .int .u8 x.r, .int .u8 x.m, .int .u8 x.o, .string (bs x.s)] 85)).alloc (.cells rz 39)).alloc (.cells dz 27)) (w.heap.size + 1 + 1) 27 dz := Blk.at2 w _ _ _ _
  go_enter Try.func38, Try.ntmps38
  go_upto_region 1 with fail
  generalize ((w.alloc (.cells #[.int .u8 x.k, .int .u8 x.r, .int .u8 x.m, .int .u8 x.o, .string (bs x.s)] 85)).alloc (.cells rz 39)).alloc (.cells dz 27) = w1 at *
  have HA : Hid (∀ W, Frm (fun _ => False) w1 W → AllB W A F V) := Lib.hid fun W g => hA.keep (g0.trans g) (fun h => h)
  have HS : Hid (∀ W, Frm (fun _ => False) w1 W → ∀ k, k < 4 → SL W (V k) (L k)) := Lib.hid fun W g k hk => (hS k hk).keepF (g0.trans g)
  obtain ⟨N, hN⟩ : ∃ N, w.heap.size = N := ⟨_, rfl⟩
  have HN := Lib.hid hN
  rw [hN] at b0 b1 b2 ⊢
  clear hA hS hF hL hN
  have HB : Hid (∀ W, Frm (fun _ => False) w1 W → Blk W N 85 #[.int .u8 x.k, .int .u8 x.r, .int .u8 x.m, .int .u8 x.o, .string (bs x.s)]) := Lib.hid fun W g => b0.keep g (fun h => h)
  have HB1 : Hid (∀ W, Frm (fun _ => False) w1 W → Blk W (N + 1) 39 rz ∧ Blk W (N + 1 + 1) 27 dz) := Lib.hid fun W g => ⟨b1.keep g (fun h => h), b2.keep g (fun h => h)⟩
  obtain ⟨r, hr0⟩ : ∃ r, x.r % 4 = r := ⟨_, rfl⟩
  have hr : r < 4 := by omega
  have hri : (r : Int) < 4 := by omega
  have hri0 : (0 : Int) ≤ (r : Int) := by omega
  have HR := Lib.hid hr0
  have c1 := b0.cell 1 rfl
  go_upto_region 2 with fail
  rename_i hK
  rw [show ((x.r : Int) % 4) = (r : Int) by omega]
  have D : Frm (fun _ => False) w1 w1.drew := (Frm.refl _ _).drew
  have HK : Hid (∀ W, Frm (fun _ => False) w1 W → N + 3 ≤ W.heap.size) := Lib.hid fun W g => by have := b2.lt; have := g.size; omega
  clear c1
  refine wp_region_late 9 0 [] [[], [], [0], [1, 2], [3], [], [5], [4, 6], [7]] on2M (on2R A N r F V L x) (by kernel_rfl) rfl rfl rfl (by kernel_rfl) (by kernel_rfl) (by kernel_rfl) (by kernel_rfl) rfl (by kernel_rfl) (by kernel_rfl) (by kernel_rfl) (by kernel_rfl) (fun val => ?_) ?_
  · try dsimp only
    refine RelO.next (k' := 1) rfl (fun W gW hF => ?_) ?_
    focus
      refine OpOK.val (u := .pointer (some ⟨A, 0, none⟩)) (by rfl) ?_ (fun W' _ => rfl)
      try simp only [tupAt]
      first | (go_simp; done) | (go_simp; with_reducible rfl) | (go_simp; rfl)
    try simp only [Act.put, List.setIfInBounds_toArray, List.set_cons_zero, List.set_cons_succ]
    refine RelO.next (k' := 2) rfl (fun W gW hF => ?_) ?_
    focus
      refine OpOK.val (u := .int .u8 (r : Int)) (by rfl) ?_ (fun W' _ => rfl)
      try simp only [tupAt]
      first | (go_simp; done) | (go_simp; with_reducible rfl) | (go_simp; rfl)
    try simp only [Act.put, List.setIfInBounds_toArray, List.set_cons_zero, List.set_cons_succ]
    refine RelO.next (k' := 3) rfl (fun W gW hF => ?_) ?_
    focus
      obtain ⟨h0, _⟩ := hF
      have e0 : val 0 = .pointer (some ⟨A, 0, none⟩) := h0 _ (Frm.refl _ W)
      try simp only [e0]
      try simp only [tupAt]
      refine OpOK.val (u := .pointer (some ⟨A, 0, none⟩)) (by rfl) ?_ (fun W' _ => rfl)
      try simp only [e0]
      try simp only [tupAt]
      first | (go_simp; done) | (go_simp; with_reducible rfl) | (go_simp; rfl)
    try simp only [Act.put, List.setIfInBounds_toArray, List.set_cons_zero, List.set_cons_succ]
    refine RelO.next (k' := 4) rfl (fun W gW hF => ?_) ?_
    focus
      obtain ⟨h1, h2, _⟩ := hF
      have e1 : val 1 = .int .u8 (r : Int) := h1 _ (Frm.refl _ W)
      have e2 : val 2 = .pointer (some ⟨A, 0, none⟩) := h2 _ (Frm.refl _ W)
      try simp only [e2]
      try simp only [e1]
      try simp only [tupAt]
      refine OpOK.val (u := .pointer (some ⟨A, r * 9, none⟩)) (by rfl) ?_ (fun W' _ => rfl)
      try simp only [e2]
      try simp only [e1]
      try simp only [tupAt]
      first | (go_simp; done) | (go_simp; with_reducible rfl) | (go_simp; rfl)
    try simp only [Act.put, List.setIfInBounds_toArray, List.set_cons_zero, List.set_cons_succ]
    refine RelO.next (k' := 5) rfl (fun W gW hF => ?_) ?_
    focus
      obtain ⟨h3, _⟩ := hF
      have e3 : val 3 = .pointer (some ⟨A, r * 9, none⟩) := h3 _ (Frm.refl _ W)
      try simp only [e3]
      try simp only [tupAt]
      exact OpOK.load (by rfl) _ rfl (by rfl) ((HA.out W (D.trans gW)).load hr) (fun W' _ => rfl)
    try simp only [Act.put, List.setIfInBounds_toArray, List.set_cons_zero, List.set_cons_succ]
    refine RelO.next (k' := 6) rfl (fun W gW hF => ?_) ?_
    focus
      refine OpOK.val (u := .pointer (some ⟨N, 3, none⟩)) (by rfl) ?_ (fun W' _ => rfl)
      try simp only [tupAt]
      first | (go_simp; done) | (go_simp; with_reducible rfl) | (go_simp; rfl)
    try simp only [Act.put, List.setIfInBounds_toArray, List.set_cons_zero, List.set_cons_succ]
    refine RelO.next (k' := 7) rfl (fun W gW hF => ?_) ?_
    focus
      obtain ⟨h5, _⟩ := hF
      have e5 : val 5 = .pointer (some ⟨N, 3, none⟩) := h5 _ (Frm.refl _ W)
      try simp only [e5]
      try simp only [tupAt]
      have c0 := (HB.out W (D.trans gW)).cell 3 rfl
      have a3 := Try.isAgg5
      have z3 := Try.sizeOf5
      exact OpOK.val (u := .int .u8 (x.o : Int)) (by rfl) (by first | (go_simp; done) | (go_simp; with_reducible rfl) | (go_simp; rfl)) (fun W' _ => rfl)
    try simp only [Act.put, List.setIfInBounds_toArray, List.set_cons_zero, List.set_cons_succ]
    refine RelO.next (k' := 8) rfl (fun W gW hF => ?_) ?_
    focus
      obtain ⟨h4, h6, _⟩ := hF
      have e4 : val 4 = rg (F r) (V r) := h4 _ (Frm.refl _ W)
      have e6 : val 6 = .int .u8 (x.o : Int) := h6 _ (Frm.refl _ W)
      try simp only [e6]
      try simp only [e4]
      try simp only [tupAt]
      refine OpOK.call (by rfl) ?_ ((named_any (F r) (V r) (L r) x.o W (HS.out W (D.trans gW) r hr) (by have := HL.out r hr; omega)).mono ?_)
      · first | (go_simp; done) | (go_simp; with_reducible rfl) | (go_simp; rfl)
      · rintro e W1 ⟨v', D', rfl, o', hl', hd', g', n'⟩
        exact ⟨_, rfl, g', fun W2 g2 => ⟨v', D', rfl, o'.keep g2 (fun _ _ h => h), ⟨hl', hd'⟩, fun g e => by have := n' g e; have := HK.out W (D.trans gW); omega⟩⟩
    try simp only [Act.put, List.setIfInBounds_toArray, List.set_cons_zero, List.set_cons_succ]
    refine RelO.next (k' := 9) rfl (fun W gW hF => ?_) ?_
    focus
      obtain ⟨h7, _⟩ := hF
      have q7 : ∃ u D', (val 7) = u ∧ OwnD W u D' ∧ Dots8 (L r) D' ∧ ∀ g, u.ownBlock = some g → N + 3 ≤ g := h7 _ (Frm.refl _ W)
      obtain ⟨vo, Dv, e7, oD, hDs, hDn⟩ := q7
      try simp only [e7]
      try simp only [tupAt]
      refine OpOK.val (u := (val 7)) (by rfl) ?_ (fun W' _ => rfl)
      try simp only [e7]
      try simp only [tupAt]
      first | (go_simp; done) | (go_simp; with_reducible rfl) | (go_simp; rfl)
    try simp only [Act.put, List.setIfInBounds_toArray, List.set_cons_zero, List.set_cons_succ]
    exact RelO.nil
  intro val w2 gW hF
  obtain ⟨h0, h1, h2, h3, h4, h5, h6, h7, h8, hT⟩ := hF
  have e0 : val 0 = .pointer (some ⟨A, 0, none⟩) := h0 _ (Frm.refl _ w2)
  have e1 : val 1 = .int .u8 (r : Int) := h1 _ (Frm.refl _ w2)
  have e2 : val 2 = .pointer (some ⟨A, 0, none⟩) := h2 _ (Frm.refl _ w2)
  have e3 : val 3 = .pointer (some ⟨A, r * 9, none⟩) := h3 _ (Frm.refl _ w2)
  have e4 : val 4 = rg (F r) (V r) := h4 _ (Frm.refl _ w2)
  have e5 : val 5 = .pointer (some ⟨N, 3, none⟩) := h5 _ (Frm.refl _ w2)
  have e6 : val 6 = .int .u8 (x.o : Int) := h6 _ (Frm.refl _ w2)
  have q7 : ∃ u D', (val 7) = u ∧ OwnD w2 u D' ∧ Dots8 (L r) D' ∧ ∀ g, u.ownBlock = some g → N + 3 ≤ g := h7 _ (Frm.refl _ w2)
  obtain ⟨vo, Dv, e7, oD, hDs, hDn⟩ := q7
  have e8 : val 8 = (val 7) := h8 _ (Frm.refl _ w2)
  clear hT h0 h1 h2 h3 h4 h5 h6 h7 h8
  simp only [aO, Act.put, List.setIfInBounds_toArray, List.set_cons_zero, List.set_cons_succ, Nat.reduceAdd]
  try simp only [e8]
  try simp only [e7]
  try simp only [e6]
  try simp only [e5]
  try simp only [e4]
  try simp only [e3]
  try simp only [e2]
  try simp only [e1]
  try simp only [e0]
  try simp only [tupAt]
  refine wpTail.doneN ?_
  refine hK _ _ ?_
  have g2 := D.trans gW
  clear gW D hK e0 e1 e2 e3 e4 e5 e6 e7 e8
  replace HA := Hid.grow HA g2
  replace HS := Hid.grow HS g2
  replace HB := Hid.grow HB g2
  replace HB1 := Hid.grow HB1 g2
  have GG := Lib.hid (g0.trans g2)
  have HDL : Hid (∀ W, Frm (fun _ => False) w2 W → DL W vo Dv) := Lib.hid fun W g => oD.sl.keepF g
  have HDS := Lib.hid hDs
  have HOD : Hid (OwnD w2 vo Dv ∧ ∀ g, vo.ownBlock = some g → N + 3 ≤ g) := Lib.hid ⟨oD, hDn⟩
  have HKK : Hid (N + 3 ≤ w2.heap.size) := Lib.hid (by have := b2.lt; have := g2.size; omega)
  have hq0 := (HB.out w2 (Frm.refl _ _)).cell 0 rfl
  clear g0 g2 oD hDs hDn HK b0 b1 b2 hr0
  obtain ⟨m5, hm5⟩ : ∃ m5, x.k % 5 = m5 := ⟨_, rfl⟩
  have hm5i : ((x.k : Int) % 5) = (m5 : Int) := by omega
  have HM := Lib.hid hm5
  have hlt5 : m5 < 5 := by omega
  clear hm5
  go_upto_region 4 with fail
  rw [hm5i]
  clear hq0 hm5i
  rcases (show m5 = 0 ∨ m5 = 1 ∨ m5 = 2 ∨ 3 ≤ m5 by omega) with rfl | rfl | rfl | h3
  · have HM5 := Lib.hid (show x.k % 5 < 2 by have := HM.out; omega)
    obtain ⟨⟨f1, l1, ⟨p1, q1⟩, er⟩, hT⟩ : ∃ T, writeS (F r) (L r) r Dv x.s = T := ⟨_, rfl⟩
    have HT := Lib.hid hT
    have HC : Hid (∀ W, Frm (fun _ => False) w2 W → Calls Try.prog 18 #[rg (F r) (V r), .int .u8 r, vo, .string (bs x.s)] W fun e w' => ∃ v', e = .returned (.tuple #[rg f1 v', .agg (dv p1 q1), .int .i64 (er : Nat)]) ∧ OwnL w' v' l1 ∧ (∀ g, v'.ownBlock = some g → W.heap.size ≤ g) ∧ Frm (fun _ => False) W w') := Lib.hid fun W g => by
      have h := swrite_any (F r) (V r) (L r) r vo Dv x.s W (HF.out r hr) (HS.out W g r hr) (by have := HL.out r hr; omega) (by omega) (HDL.out W g) x.hs
      rw [hT] at h
      exact h
    clear hT
    obtain ⟨K, hK0⟩ : ∃ K, w2.heap.size = K := ⟨_, rfl⟩
    have HK : Hid (∀ W, Frm (fun _ => False) w2 W → K ≤ W.heap.size) := Lib.hid fun W g => hK0 ▸ g.size
    have HE : Hid (w2.heap.size ≤ K) := Lib.hid (Nat.le_of_eq hK0)
    have HNK : Hid (N + 3 ≤ K) := Lib.hid (by have := HKK.out; omega)
    clear hK0
    go_upto_region 6 with fail
    rename_i hK
    have D : Frm (fun _ => False) w2 w2.drew := (Frm.refl _ _).drew
    refine wp_region_late 16 3 [12, 13] [[], [], [0], [1, 2], [3], [], [], [], [7], [4, 5, 6, 8], [9], [9, 10], [9, 10], [9, 10], [], []] on6M (on6R A N r K F V x vo f1 l1 p1 q1 er) (by kernel_rfl) rfl rfl rfl (by kernel_rfl) (by kernel_rfl) (by kernel_rfl) (by kernel_rfl) rfl (by kernel_rfl) (by kernel_rfl) (by kernel_rfl) (by kernel_rfl) (fun val => ?_) ?_
    · try simp only [Act.put, List.setIfInBounds_toArray, List.set_cons_zero, List.set_cons_succ]
      refine RelO.next (k' := 1) rfl (fun W gW hF => ?_) ?_
      focus
        refine OpOK.val (u := .pointer (some ⟨A, 0, none⟩)) (by rfl) ?_ (fun W' _ => rfl)
        try simp only [tupAt]
        first | (go_simp; done) | (go_simp; with_reducible rfl) | (go_simp; rfl)
      try simp only [Act.put, List.setIfInBounds_toArray, List.set_cons_zero, List.set_cons_succ]
      refine RelO.next (k' := 2) rfl (fun W gW hF => ?_) ?_
      focus
        refine OpOK.val (u := .int .u8 (r : Int)) (by rfl) ?_ (fun W' _ => rfl)
        try simp only [tupAt]
        first | (go_simp; done) | (go_simp; with_reducible rfl) | (go_simp; rfl)
      try simp only [Act.put, List.setIfInBounds_toArray, List.set_cons_zero, List.set_cons_succ]
      refine RelO.next (k' := 3) rfl (fun W gW hF => ?_) ?_
      focus
        obtain ⟨h0, _⟩ := hF
        have e0 : val 0 = .pointer (some ⟨A, 0, none⟩) := h0 _ (Frm.refl _ W)
        try simp only [e0]
        try simp only [tupAt]
        refine OpOK.val (u := .pointer (some ⟨A, 0, none⟩)) (by rfl) ?_ (fun W' _ => rfl)
        try simp only [e0]
        try simp only [tupAt]
        first | (go_simp; done) | (go_simp; with_reducible rfl) | (go_simp; rfl)
      try simp only [Act.put, List.setIfInBounds_toArray, List.set_cons_zero, List.set_cons_succ]
      refine RelO.next (k' := 4) rfl (fun W gW hF => ?_) ?_
      focus
        obtain ⟨h1, h2, _⟩ := hF
        have e1 : val 1 = .int .u8 (r : Int) := h1 _ (Frm.refl _ W)
        have e2 : val 2 = .pointer (some ⟨A, 0, none⟩) := h2 _ (Frm.refl _ W)
        try simp only [e2]
        try simp only [e1]
        try simp only [tupAt]
        refine OpOK.val (u := .pointer (some ⟨A, r * 9, none⟩)) (by rfl) ?_ (fun W' _ => rfl)
        try simp only [e2]
        try simp only [e1]
        try simp only [tupAt]
        first | (go_simp; done) | (go_simp; with_reducible rfl) | (go_simp; rfl)
      try simp only [Act.put, List.setIfInBounds_toArray, List.set_cons_zero, List.set_cons_succ]
      refine RelO.next (k' := 5) rfl (fun W gW hF => ?_) ?_
      focus
        obtain ⟨h3, _⟩ := hF
        have e3 : val 3 = .pointer (some ⟨A, r * 9, none⟩) := h3 _ (Frm.refl _ W)
        try simp only [e3]
        try simp only [tupAt]
        exact OpOK.load (by rfl) _ rfl (by rfl) ((HA.out W (D.trans gW)).load hr) (fun W' _ => rfl)
      try simp only [Act.put, List.setIfInBounds_toArray, List.set_cons_zero, List.set_cons_succ]
      refine RelO.next (k' := 6) rfl (fun W gW hF => ?_) ?_
      focus
        refine OpOK.val (u := .int .u8 (r : Int)) (by rfl) ?_ (fun W' _ => rfl)
        try simp only [tupAt]
        first | (go_simp; done) | (go_simp; with_reducible rfl) | (go_simp; rfl)
      try simp only [Act.put, List.setIfInBounds_toArray, List.set_cons_zero, List.set_cons_succ]
      refine RelO.next (k' := 7) rfl (fun W gW hF => ?_) ?_
      focus
        refine OpOK.val (u := vo) (by rfl) ?_ (fun W' _ => rfl)
        try simp only [tupAt]
        first | (go_simp; done) | (go_simp; with_reducible rfl) | (go_simp; rfl)
      try simp only [Act.put, List.setIfInBounds_toArray, List.set_cons_zero, List.set_cons_succ]
      refine RelO.next (k' := 8) rfl (fun W gW hF => ?_) ?_
      focus
        refine OpOK.val (u := .pointer (some ⟨N, 4, none⟩)) (by rfl) ?_ (fun W' _ => rfl)
        try simp only [tupAt]
        first | (go_simp; done) | (go_simp; with_reducible rfl) | (go_simp; rfl)
      try simp only [Act.put, List.setIfInBounds_toArray, List.set_cons_zero, List.set_cons_succ]
      refine RelO.next (k' := 9) rfl (fun W gW hF => ?_) ?_
      focus
        obtain ⟨h7, _⟩ := hF
        have e7 : val 7 = .pointer (some ⟨N, 4, none⟩) := h7 _ (Frm.refl _ W)
        try simp only [e7]
        try simp only [tupAt]
        have c0 := (HB.out W (D.trans gW)).cell 4 rfl
        have a3 := Try.isAgg9
        have z3 := Try.sizeOf9
        exact OpOK.val (u := .string (bs x.s)) (by rfl) (by first | (go_simp; done) | (go_simp; with_reducible rfl) | (go_simp; rfl)) (fun W' _ => rfl)
      try simp only [Act.put, List.setIfInBounds_toArray, List.set_cons_zero, List.set_cons_succ]
      refine RelO.next (k' := 10) rfl (fun W gW hF => ?_) ?_
      focus
        obtain ⟨h4, h5, h6, h8, _⟩ := hF
        have e4 : val 4 = rg (F r) (V r) := h4 _ (Frm.refl _ W)
        have e5 : val 5 = .int .u8 (r : Int) := h5 _ (Frm.refl _ W)
        have e6 : val 6 = vo := h6 _ (Frm.refl _ W)
        have e8 : val 8 = .string (bs x.s) := h8 _ (Frm.refl _ W)
        try simp only [e8]
        try simp only [e6]
        try simp only [e5]
        try simp only [e4]
        try simp only [tupAt]
        refine OpOK.call (by rfl) ?_ ((HC.out W (D.trans gW)).mono ?_)
        · first | (go_simp; done) | (go_simp; with_reducible rfl) | (go_simp; rfl)
        · rintro e W1 ⟨v', rfl, o', n', g'⟩
          exact ⟨_, rfl, g', fun W2 g2 => ⟨v', rfl, o'.keep g2 (fun _ _ h => h), fun g e => Nat.le_trans (HK.out W (D.trans gW)) (n' g e)⟩⟩
      try simp only [Act.put, List.setIfInBounds_toArray, List.set_cons_zero, List.set_cons_succ]
      refine RelO.next (k' := 11) rfl (fun W gW hF => ?_) ?_
      focus
        obtain ⟨h9, _⟩ := hF
        have q9 : ∃ v', (val 9) = .tuple #[rg f1 v', .agg (dv p1 q1), .int .i64 (er : Nat)] ∧ OwnL W v' l1 ∧ ∀ g, v'.ownBlock = some g → K ≤ g := h9 _ (Frm.refl _ W)
        obtain ⟨v1, e9, o1, n1⟩ := q9
        try simp only [e9]
        try simp only [tupAt]
        refine OpOK.val (u := (val 9)) (by rfl) ?_ (fun W' _ => rfl)
        try simp only [e9]
        try simp only [tupAt]
        first | (go_simp; done) | (go_simp; with_reducible rfl) | (go_simp; rfl)
      try simp only [Act.put, List.setIfInBounds_toArray, List.set_cons_zero, List.set_cons_succ]
      refine RelO.next (k' := 12) rfl (fun W gW hF => ?_) ?_
      focus
        obtain ⟨h9, h10, _⟩ := hF
        have q9 : ∃ v', (val 9) = .tuple #[rg f1 v', .agg (dv p1 q1), .int .i64 (er : Nat)] ∧ OwnL W v' l1 ∧ ∀ g, v'.ownBlock = some g → K ≤ g := h9 _ (Frm.refl _ W)
        obtain ⟨v1, e9, o1, n1⟩ := q9
        have e10 : val 10 = (val 9) := h10 _ (Frm.refl _ W)
        try simp only [e10]
        try simp only [e9]
        try simp only [tupAt]
        refine OpOK.val (u := tupAt (val 10) 0) (by rfl) ?_ (fun W' _ => rfl)
        try simp only [e10]
        try simp only [e9]
        try simp only [tupAt]
        first | (go_simp; done) | (go_simp; with_reducible rfl) | (go_simp; rfl)
      try simp only [Act.put, List.setIfInBounds_toArray, List.set_cons_zero, List.set_cons_succ]
      refine RelO.next (k' := 13) rfl (fun W gW hF => ?_) ?_
      focus
        obtain ⟨h9, h10, _⟩ := hF
        have q9 : ∃ v', (val 9) = .tuple #[rg f1 v', .agg (dv p1 q1), .int .i64 (er : Nat)] ∧ OwnL W v' l1 ∧ ∀ g, v'.ownBlock = some g → K ≤ g := h9 _ (Frm.refl _ W)
        obtain ⟨v1, e9, o1, n1⟩ := q9
        have e10 : val 10 = (val 9) := h10 _ (Frm.refl _ W)
        try simp only [e10]
        try simp only [e9]
        try simp only [tupAt]
        refine OpOK.val (u := tupAt (val 10) 1) (by rfl) ?_ (fun W' _ => rfl)
        try simp only [e10]
        try simp only [e9]
        try simp only [tupAt]
        first | (go_simp; done) | (go_simp; with_reducible rfl) | (go_simp; rfl)
      try simp only [Act.put, List.setIfInBounds_toArray, List.set_cons_zero, List.set_cons_succ]
      refine RelO.next (k' := 14) rfl (fun W gW hF => ?_) ?_
      focus
        obtain ⟨h9, h10, _⟩ := hF
        have q9 : ∃ v', (val 9) = .tuple #[rg f1 v', .agg (dv p1 q1), .int .i64 (er : Nat)] ∧ OwnL W v' l1 ∧ ∀ g, v'.ownBlock = some g → K ≤ g := h9 _ (Frm.refl _ W)
        obtain ⟨v1, e9, o1, n1⟩ := q9
        have e10 : val 10 = (val 9) := h10 _ (Frm.refl _ W)
        try simp only [e10]
        try simp only [e9]
        try simp only [tupAt]
        refine OpOK.val (u := tupAt (val 10) 2) (by rfl) ?_ (fun W' _ => rfl)
        try simp only [e10]
        try simp only [e9]
        try simp only [tupAt]
        first | (go_simp; done) | (go_simp; with_reducible rfl) | (go_simp; rfl)
      try simp only [Act.put, List.setIfInBounds_toArray, List.set_cons_zero, List.set_cons_succ]
      refine RelO.next (k' := 15) rfl (fun W gW hF => ?_) ?_
      focus
        have hlt := HK.out W (D.trans gW)
        refine OpOK.made (W' := W.alloc (.cells rz 39)) (u := .pointer (some ⟨W.heap.size, 0, none⟩)) (by rfl) ?_ ((Frm.refl _ W).alloc _) (fun W2 g2 => ⟨W.heap.size, rfl, hlt, (Blk.alloc W _ _).keep g2 (fun h => h)⟩)
        first | (go_simp; done) | (go_simp; with_reducible rfl) | (go_simp; rfl)
      try simp only [Act.put, List.setIfInBounds_toArray, List.set_cons_zero, List.set_cons_succ]
      refine RelO.next (k' := 16) rfl (fun W gW hF => ?_) ?_
      focus
        have hlt := HK.out W (D.trans gW)
        refine OpOK.made (W' := W.alloc (.cells dz 27)) (u := .pointer (some ⟨W.heap.size, 0, none⟩)) (by rfl) ?_ ((Frm.refl _ W).alloc _) (fun W2 g2 => ⟨W.heap.size, rfl, hlt, (Blk.alloc W _ _).keep g2 (fun h => h)⟩)
        first | (go_simp; done) | (go_simp; with_reducible rfl) | (go_simp; rfl)
      try simp only [Act.put, List.setIfInBounds_toArray, List.set_cons_zero, List.set_cons_succ]
      exact RelO.nil
    intro val w3 gW hF
    obtain ⟨h0, h1, h2, h3, h4, h5, h6, h7, h8, h9, h10, h11, h12, h13, h14, h15, hT⟩ := hF
    have e0 : val 0 = .pointer (some ⟨A, 0, none⟩) := h0 _ (Frm.refl _ w3)
    have e1 : val 1 = .int .u8 (r : Int) := h1 _ (Frm.refl _ w3)
    have e2 : val 2 = .pointer (some ⟨A, 0, none⟩) := h2 _ (Frm.refl _ w3)
    have e3 : val 3 = .pointer (some ⟨A, r * 9, none⟩) := h3 _ (Frm.refl _ w3)
    have e4 : val 4 = rg (F r) (V r) := h4 _ (Frm.refl _ w3)
    have e5 : val 5 = .int .u8 (r : Int) := h5 _ (Frm.refl _ w3)
    have e6 : val 6 = vo := h6 _ (Frm.refl _ w3)
    have e7 : val 7 = .pointer (some ⟨N, 4, none⟩) := h7 _ (Frm.refl _ w3)
    have e8 : val 8 = .string (bs x.s) := h8 _ (Frm.refl _ w3)
    have q9 : ∃ v', (val 9) = .tuple #[rg f1 v', .agg (dv p1 q1), .int .i64 (er : Nat)] ∧ OwnL w3 v' l1 ∧ ∀ g, v'.ownBlock = some g → K ≤ g := h9 _ (Frm.refl _ w3)
    obtain ⟨v1, e9, o1, n1⟩ := q9
    have e10 : val 10 = (val 9) := h10 _ (Frm.refl _ w3)
    have e11 : val 11 = tupAt (val 10) 0 := h11 _ (Frm.refl _ w3)
    have e12 : val 12 = tupAt (val 10) 1 := h12 _ (Frm.refl _ w3)
    have e13 : val 13 = tupAt (val 10) 2 := h13 _ (Frm.refl _ w3)
    have q14 : ∃ b, (val 14) = .pointer (some ⟨b, 0, none⟩) ∧ K ≤ b ∧ Blk w3 b 39 rz := h14 _ (Frm.refl _ w3)
    obtain ⟨B10, e14, hB10, bB10⟩ := q14
    have q15 : ∃ b, (val 15) = .pointer (some ⟨b, 0, none⟩) ∧ K ≤ b ∧ Blk w3 b 27 dz := h15 _ (Frm.refl _ w3)
    obtain ⟨B11, e15, hB11, bB11⟩ := q15
    clear hT h0 h1 h2 h3 h4 h5 h6 h7 h8 h9 h10 h11 h12 h13 h14 h15
    simp only [aO, Act.put, List.setIfInBounds_toArray, List.set_cons_zero, List.set_cons_succ, Nat.reduceAdd]
    try simp only [e15]
    try simp only [e14]
    try simp only [e13]
    try simp only [e12]
    try simp only [e11]
    try simp only [e10]
    try simp only [e9]
    try simp only [e8]
    try simp only [e7]
    try simp only [e6]
    try simp only [e5]
    try simp only [e4]
    try simp only [e3]
    try simp only [e2]
    try simp only [e1]
    try simp only [e0]
    try simp only [tupAt]
    have HV1 : Hid (∀ g, blkOf v1 = some g → K ≤ g) := Lib.hid fun g e => n1 g (o1.blkOf g e)
    have HQ : Hid (K ≤ B10 ∧ K ≤ B11) := Lib.hid ⟨hB10, hB11⟩
    refine tail_reg3 (w := w2) f1 v1 l1 B10 B11 p1 q1 (er : Int) rfl rfl rfl rfl rfl rfl rfl rfl rfl rfl rfl rfl rfl rfl rfl rfl rfl (D.trans gW) (Nat.le_trans HE.out hB10) (Nat.le_trans HE.out hB11) o1 bB10 bB11 ?_
    intro w4 g4 H1 H2
    try simp only [Act.put, List.setIfInBounds_toArray, List.set_cons_zero, List.set_cons_succ]
    refine hK _ _ ?_
    clear gW D hK HC e0 e1 e2 e3 e4 e5 e6 e7 e8 e9 e10 e11 e12 e13 e14 e15 o1 n1 hB10 bB10 hB11 bB11
    go_upto_region 7 with fail
    obtain ⟨r1, r2⟩ := HB1.out w4 g4
    have b1 := (H1.out w4 (Frm.refl _ w4)).1
    have b2 := H2.out w4 (Frm.refl _ w4)
    have hn1 := HQ.out.1
    have hn2 := HQ.out.2
    have hnk := HNK.out
    obtain ⟨av, cv, ev, _, _⟩ := (H1.out w4 (Frm.refl _ w4)).2.slice
    have HEV := Lib.hid ev
    clear ev
    refine wp_region_held_drew (S := fun w' : World => (Instr.loadAt 39 (.pointer (some ⟨B10, 0, none⟩))).run Try.prog w' = .ok (rg f1 v1) w' ∧ (Instr.loadAt 27 (.pointer (some ⟨B11, 0, none⟩))).run Try.prog w' = .ok (.agg (dv p1 q1)) w' ∧ Frm (fun k => k = N + 1 ∨ k = N + 1 + 1) w4 w') (by kernel_rfl) ⟨load_reg b1.drew, load_dotB b2.drew, (Frm.refl _ w4).drew⟩ (fun hHeld => ?_)
    refine wpAnyH_take (i := 0) (v := rg f1 v1) rfl (by kernel_rfl) (by kernel_rfl) (by kernel_rfl) (fun _ _ _ h => h) ?z0 (by assumption) ?_
    case z0 => (refine yieldsIf_load (by rfl) _ (by rfl) ?_ (fun w hs => hs.1); rfl)
    try simp only [Act.put, List.getElem_toArray, List.getElem_cons_zero, List.setIfInBounds_toArray, List.set_cons_zero, List.set_cons_succ]
    refine wpAnyH_take (i := 1) (v := .agg (dv p1 q1)) rfl (by kernel_rfl) (by kernel_rfl) (by kernel_rfl) (fun _ _ _ h => h) ?z1 (by assumption) ?_
    case z1 => (refine yieldsIf_load (by rfl) _ (by rfl) ?_ (fun w hs => hs.2.1); rfl)
    try simp only [Act.put, List.getElem_toArray, List.getElem_cons_zero, List.getElem_cons_succ, List.setIfInBounds_toArray, List.set_cons_zero, List.set_cons_succ]
    refine wpAnyH_take (i := 2) (v := vo) rfl (by kernel_rfl) (by kernel_rfl) (by kernel_rfl) (fun _ _ _ h => h) ?z2 (by assumption) ?_
    case z2 => exact yieldsIf_move (by rfl) _ (by rfl) rfl
    try simp only [Act.put, List.getElem_toArray, List.getElem_cons_zero, List.getElem_cons_succ, List.setIfInBounds_toArray, List.set_cons_zero, List.set_cons_succ]
    refine wpAnyH_take (i := 3) (v := .int .i64 (er : Int)) rfl (by kernel_rfl) (by kernel_rfl) (by kernel_rfl) (fun _ _ _ h => h) ?z3 (by assumption) ?_
    case z3 => exact yieldsIf_move (by rfl) _ (by rfl) rfl
    try simp only [Act.put, List.getElem_toArray, List.getElem_cons_zero, List.getElem_cons_succ, List.setIfInBounds_toArray, List.set_cons_zero, List.set_cons_succ]
    clear hHeld
    refine seq_ret (i := 4) (j := 5) (k := 6) (m := 7) rfl rfl rfl rfl rfl rfl rfl rfl rfl rfl rfl rfl (by kernel_rfl) (by kernel_rfl) (by kernel_rfl) (by kernel_rfl) (by kernel_rfl)
      39 _ _ rfl (N + 1) (rgc f1 v1) rz rfl rfl 27 _ _ rfl (N + 1 + 1) (dv p1 q1) dz rfl rfl _ _ vo (.int .i64 (er : Int)) rfl rfl rfl rfl
      r1.drew rfl (by show _ = some 9; kernel_rfl) (by rw [HEV.out]; exact rg_one _ _ _ _) r2.drew rfl (by show _ = some 2; kernel_rfl) (by simp [Value.oneCell']) (by omega) ?hS ?hK
    case hS =>
      intro w8 f8
      exact ⟨load_reg (b1.drew.keep f8 (by omega)), load_dotB (b2.drew.keep f8 (by omega)), (Frm.refl _ w4).drew.trans f8⟩
    case hK =>
      intro w8 c2' c3' f8
      try simp only [Act.put, List.setIfInBounds_toArray, List.set_cons_zero, List.set_cons_succ]
      have k8 : Frm (fun k => k = N + 1 ∨ k = N + 1 + 1) w4 w8 := (Frm.refl _ w4).drew.trans f8
      have HS8 := Lib.hid ((H1.out w4 (Frm.refl _ w4)).2.keep k8 (fun g e => by have := HV1.out g e; omega))
      have c8 := c2'.cell 8 rfl
      have h2 := rcells c2'
      have d0 := c3'.cell 0 rfl
      have d1 := c3'.cell 1 rfl
      have HK8 := Lib.hid k8
      clear k8 f8 b1 b2 r1 r2
      go_wp2_with fail
      refine bodyPost_ret (v := .tuple #[rg f1 v1, .agg (dv p1 q1), vo, .int .i64 (er : Int)]) (by simp [results, Try.results38, go_sem, h2, c8, d0, d1]) rfl ?_
      exact ⟨f1, v1, l1, p1, q1, vo, Dv, er, rfl, HS8.out, fun g e => by have := HV1.out g e; have := HN.out; omega, (HOD.out.1.keep ((g4.mono (fun _ _ h => h.elim)).trans HK8.out) (fun g e => by have := HOD.out.2 g e; omega)).sl, fun g e => by have := HOD.out.2 g (HOD.out.1.blkOf g e); have := HN.out; omega, (GG.out.trans g4).next HK8.out (fun k hk h => by have := HN.out; omega), .inl ⟨HM5.out, by rw [HR.out]; exact HDS.out, by rw [HR.out]; exact HT.out⟩⟩
  · have HM5 := Lib.hid (show x.k % 5 < 2 by have := HM.out; omega)
    obtain ⟨⟨f1, l1, ⟨p1, q1⟩, er⟩, hT⟩ : ∃ T, writeS (F r) (L r) r Dv x.s = T := ⟨_, rfl⟩
    have HT := Lib.hid hT
    have HC : Hid (∀ W, Frm (fun _ => False) w2 W → Calls Try.prog 18 #[rg (F r) (V r), .int .u8 r, vo, .string (bs x.s)] W fun e w' => ∃ v', e = .returned (.tuple #[rg f1 v', .agg (dv p1 q1), .int .i64 (er : Nat)]) ∧ OwnL w' v' l1 ∧ (∀ g, v'.ownBlock = some g → W.heap.size ≤ g) ∧ Frm (fun _ => False) W w') := Lib.hid fun W g => by
      have h := swrite_any (F r) (V r) (L r) r vo Dv x.s W (HF.out r hr) (HS.out W g r hr) (by have := HL.out r hr; omega) (by omega) (HDL.out W g) x.hs
      rw [hT] at h
      exact h
    clear hT
    obtain ⟨K, hK0⟩ : ∃ K, w2.heap.size = K := ⟨_, rfl⟩
    have HK : Hid (∀ W, Frm (fun _ => False) w2 W → K ≤ W.heap.size) := Lib.hid fun W g => hK0 ▸ g.size
    have HE : Hid (w2.heap.size ≤ K) := Lib.hid (Nat.le_of_eq hK0)
    have HNK : Hid (N + 3 ≤ K) := Lib.hid (by have := HKK.out; omega)
    clear hK0
    go_upto_region 6 with fail
    rename_i hK
    have D : Frm (fun _ => False) w2 w2.drew := (Frm.refl _ _).drew
    refine wp_region_late 16 3 [12, 13] [[], [], [0], [1, 2], [3], [], [], [], [7], [4, 5, 6, 8], [9], [9, 10], [9, 10], [9, 10], [], []] on6M (on6R A N r K F V x vo f1 l1 p1 q1 er) (by kernel_rfl) rfl rfl rfl (by kernel_rfl) (by kernel_rfl) (by kernel_rfl) (by kernel_rfl) rfl (by kernel_rfl) (by kernel_rfl) (by kernel_rfl) (by kernel_rfl) (fun val => ?_) ?_
    · try simp only [Act.put, List.setIfInBounds_toArray, List.set_cons_zero, List.set_cons_succ]
      refine RelO.next (k' := 1) rfl (fun W gW hF => ?_) ?_
      focus
        refine OpOK.val (u := .pointer (some ⟨A, 0, none⟩)) (by rfl) ?_ (fun W' _ => rfl)
        try simp only [tupAt]
        first | (go_simp; done) | (go_simp; with_reducible rfl) | (go_simp; rfl)
      try simp only [Act.put, List.setIfInBounds_toArray, List.set_cons_zero, List.set_cons_succ]
      refine RelO.next (k' := 2) rfl (fun W gW hF => ?_) ?_
      focus
        refine OpOK.val (u := .int .u8 (r : Int)) (by rfl) ?_ (fun W' _ => rfl)
        try simp only [tupAt]
        first | (go_simp; done) | (go_simp; with_reducible rfl) | (go_simp; rfl)
      try simp only [Act.put, List.setIfInBounds_toArray, List.set_cons_zero, List.set_cons_succ]
      refine RelO.next (k' := 3) rfl (fun W gW hF => ?_) ?_
      focus
        obtain ⟨h0, _⟩ := hF
        have e0 : val 0 = .pointer (some ⟨A, 0, none⟩) := h0 _ (Frm.refl _ W)
        try simp only [e0]
        try simp only [tupAt]
        refine OpOK.val (u := .pointer (some ⟨A, 0, none⟩)) (by rfl) ?_ (fun W' _ => rfl)
        try simp only [e0]
        try simp only [tupAt]
        first | (go_simp; done) | (go_simp; with_reducible rfl) | (go_simp; rfl)
      try simp only [Act.put, List.setIfInBounds_toArray, List.set_cons_zero, List.set_cons_succ]
      refine RelO.next (k' := 4) rfl (fun W gW hF => ?_) ?_
      focus
        obtain ⟨h1, h2, _⟩ := hF
        have e1 : val 1 = .int .u8 (r : Int) := h1 _ (Frm.refl _ W)
        have e2 : val 2 = .pointer (some ⟨A, 0, none⟩) := h2 _ (Frm.refl _ W)
        try simp only [e2]
        try simp only [e1]
        try simp only [tupAt]
        refine OpOK.val (u := .pointer (some ⟨A, r * 9, none⟩)) (by rfl) ?_ (fun W' _ => rfl)
        try simp only [e2]
        try simp only [e1]
        try simp only [tupAt]
        first | (go_simp; done) | (go_simp; with_reducible rfl) | (go_simp; rfl)
      try simp only [Act.put, List.setIfInBounds_toArray, List.set_cons_zero, List.set_cons_succ]
      refine RelO.next (k' := 5) rfl (fun W gW hF => ?_) ?_
      focus
        obtain ⟨h3, _⟩ := hF
        have e3 : val 3 = .pointer (some ⟨A, r * 9, none⟩) := h3 _ (Frm.refl _ W)
        try simp only [e3]
        try simp only [tupAt]
        exact OpOK.load (by rfl) _ rfl (by rfl) ((HA.out W (D.trans gW)).load hr) (fun W' _ => rfl)
      try simp only [Act.put, List.setIfInBounds_toArray, List.set_cons_zero, List.set_cons_succ]
      refine RelO.next (k' := 6) rfl (fun W gW hF => ?_) ?_
      focus
        refine OpOK.val (u := .int .u8 (r : Int)) (by rfl) ?_ (fun W' _ => rfl)
        try simp only [tupAt]
        first | (go_simp; done) | (go_simp; with_reducible rfl) | (go_simp; rfl)
      try simp only [Act.put, List.setIfInBounds_toArray, List.set_cons_zero, List.set_cons_succ]
      refine RelO.next (k' := 7) rfl (fun W gW hF => ?_) ?_
      focus
        refine OpOK.val (u := vo) (by rfl) ?_ (fun W' _ => rfl)
        try simp only [tupAt]
        first | (go_simp; done) | (go_simp; with_reducible rfl) | (go_simp; rfl)
      try simp only [Act.put, List.setIfInBounds_toArray, List.set_cons_zero, List.set_cons_succ]
      refine RelO.next (k' := 8) rfl (fun W gW hF => ?_) ?_
      focus
        refine OpOK.val (u := .pointer (some ⟨N, 4, none⟩)) (by rfl) ?_ (fun W' _ => rfl)
        try simp only [tupAt]
        first | (go_simp; done) | (go_simp; with_reducible rfl) | (go_simp; rfl)
      try simp only [Act.put, List.setIfInBounds_toArray, List.set_cons_zero, List.set_cons_succ]
      refine RelO.next (k' := 9) rfl (fun W gW hF => ?_) ?_
      focus
        obtain ⟨h7, _⟩ := hF
        have e7 : val 7 = .pointer (some ⟨N, 4, none⟩) := h7 _ (Frm.refl _ W)
        try simp only [e7]
        try simp only [tupAt]
        have c0 := (HB.out W (D.trans gW)).cell 4 rfl
        have a3 := Try.isAgg9
        have z3 := Try.sizeOf9
        exact OpOK.val (u := .string (bs x.s)) (by rfl) (by first | (go_simp; done) | (go_simp; with_reducible rfl) | (go_simp; rfl)) (fun W' _ => rfl)
      try simp only [Act.put, List.setIfInBounds_toArray, List.set_cons_zero, List.set_cons_succ]
      refine RelO.next (k' := 10) rfl (fun W gW hF => ?_) ?_
      focus
        obtain ⟨h4, h5, h6, h8, _⟩ := hF
        have e4 : val 4 = rg (F r) (V r) := h4 _ (Frm.refl _ W)
        have e5 : val 5 = .int .u8 (r : Int) := h5 _ (Frm.refl _ W)
        have e6 : val 6 = vo := h6 _ (Frm.refl _ W)
        have e8 : val 8 = .string (bs x.s) := h8 _ (Frm.refl _ W)
        try simp only [e8]
        try simp only [e6]
        try simp only [e5]
        try simp only [e4]
        try simp only [tupAt]
        refine OpOK.call (by rfl) ?_ ((HC.out W (D.trans gW)).mono ?_)
        · first | (go_simp; done) | (go_simp; with_reducible rfl) | (go_simp; rfl)
        · rintro e W1 ⟨v', rfl, o', n', g'⟩
          exact ⟨_, rfl, g', fun W2 g2 => ⟨v', rfl, o'.keep g2 (fun _ _ h => h), fun g e => Nat.le_trans (HK.out W (D.trans gW)) (n' g e)⟩⟩
      try simp only [Act.put, List.setIfInBounds_toArray, List.set_cons_zero, List.set_cons_succ]
      refine RelO.next (k' := 11) rfl (fun W gW hF => ?_) ?_
      focus
        obtain ⟨h9, _⟩ := hF
        have q9 : ∃ v', (val 9) = .tuple #[rg f1 v', .agg (dv p1 q1), .int .i64 (er : Nat)] ∧ OwnL W v' l1 ∧ ∀ g, v'.ownBlock = some g → K ≤ g := h9 _ (Frm.refl _ W)
        obtain ⟨v1, e9, o1, n1⟩ := q9
        try simp only [e9]
        try simp only [tupAt]
        refine OpOK.val (u := (val 9)) (by rfl) ?_ (fun W' _ => rfl)
        try simp only [e9]
        try simp only [tupAt]
        first | (go_simp; done) | (go_simp; with_reducible rfl) | (go_simp; rfl)
      try simp only [Act.put, List.setIfInBounds_toArray, List.set_cons_zero, List.set_cons_succ]
      refine RelO.next (k' := 12) rfl (fun W gW hF => ?_) ?_
      focus
        obtain ⟨h9, h10, _⟩ := hF
        have q9 : ∃ v', (val 9) = .tuple #[rg f1 v', .agg (dv p1 q1), .int .i64 (er : Nat)] ∧ OwnL W v' l1 ∧ ∀ g, v'.ownBlock = some g → K ≤ g := h9 _ (Frm.refl _ W)
        obtain ⟨v1, e9, o1, n1⟩ := q9
        have e10 : val 10 = (val 9) := h10 _ (Frm.refl _ W)
        try simp only [e10]
        try simp only [e9]
        try simp only [tupAt]
        refine OpOK.val (u := tupAt (val 10) 0) (by rfl) ?_ (fun W' _ => rfl)
        try simp only [e10]
        try simp only [e9]
        try simp only [tupAt]
        first | (go_simp; done) | (go_simp; with_reducible rfl) | (go_simp; rfl)
      try simp only [Act.put, List.setIfInBounds_toArray, List.set_cons_zero, List.set_cons_succ]
      refine RelO.next (k' := 13) rfl (fun W gW hF => ?_) ?_
      focus
        obtain ⟨h9, h10, _⟩ := hF
        have q9 : ∃ v', (val 9) = .tuple #[rg f1 v', .agg (dv p1 q1), .int .i64 (er : Nat)] ∧ OwnL W v' l1 ∧ ∀ g, v'.ownBlock = some g → K ≤ g := h9 _ (Frm.refl _ W)
        obtain ⟨v1, e9, o1, n1⟩ := q9
        have e10 : val 10 = (val 9) := h10 _ (Frm.refl _ W)
        try simp only [e10]
        try simp only [e9]
        try simp only [tupAt]
        refine OpOK.val (u := tupAt (val 10) 1) (by rfl) ?_ (fun W' _ => rfl)
        try simp only [e10]
        try simp only [e9]
        try simp only [tupAt]
        first | (go_simp; done) | (go_simp; with_reducible rfl) | (go_simp; rfl)
      try simp only [Act.put, List.setIfInBounds_toArray, List.set_cons_zero, List.set_cons_succ]
      refine RelO.next (k' := 14) rfl (fun W gW hF => ?_) ?_
      focus
        obtain ⟨h9, h10, _⟩ := hF
        have q9 : ∃ v', (val 9) = .tuple #[rg f1 v', .agg (dv p1 q1), .int .i64 (er : Nat)] ∧ OwnL W v' l1 ∧ ∀ g, v'.ownBlock = some g → K ≤ g := h9 _ (Frm.refl _ W)
        obtain ⟨v1, e9, o1, n1⟩ := q9
        have e10 : val 10 = (val 9) := h10 _ (Frm.refl _ W)
        try simp only [e10]
        try simp only [e9]
        try simp only [tupAt]
        refine OpOK.val (u := tupAt (val 10) 2) (by rfl) ?_ (fun W' _ => rfl)
        try simp only [e10]
        try simp only [e9]
        try simp only [tupAt]
        first | (go_simp; done) | (go_simp; with_reducible rfl) | (go_simp; rfl)
      try simp only [Act.put, List.setIfInBounds_toArray, List.set_cons_zero, List.set_cons_succ]
      refine RelO.next (k' := 15) rfl (fun W gW hF => ?_) ?_
      focus
        have hlt := HK.out W (D.trans gW)
        refine OpOK.made (W' := W.alloc (.cells rz 39)) (u := .pointer (some ⟨W.heap.size, 0, none⟩)) (by rfl) ?_ ((Frm.refl _ W).alloc _) (fun W2 g2 => ⟨W.heap.size, rfl, hlt, (Blk.alloc W _ _).keep g2 (fun h => h)⟩)
        first | (go_simp; done) | (go_simp; with_reducible rfl) | (go_simp; rfl)
      try simp only [Act.put, List.setIfInBounds_toArray, List.set_cons_zero, List.set_cons_succ]
      refine RelO.next (k' := 16) rfl (fun W gW hF => ?_) ?_
      focus
        have hlt := HK.out W (D.trans gW)
        refine OpOK.made (W' := W.alloc (.cells dz 27)) (u := .pointer (some ⟨W.heap.size, 0, none⟩)) (by rfl) ?_ ((Frm.refl _ W).alloc _) (fun W2 g2 => ⟨W.heap.size, rfl, hlt, (Blk.alloc W _ _).keep g2 (fun h => h)⟩)
        first | (go_simp; done) | (go_simp; with_reducible rfl) | (go_simp; rfl)
      try simp only [Act.put, List.setIfInBounds_toArray, List.set_cons_zero, List.set_cons_succ]
      exact RelO.nil
    intro val w3 gW hF
    obtain ⟨h0, h1, h2, h3, h4, h5, h6, h7, h8, h9, h10, h11, h12, h13, h14, h15, hT⟩ := hF
    have e0 : val 0 = .pointer (some ⟨A, 0, none⟩) := h0 _ (Frm.refl _ w3)
    have e1 : val 1 = .int .u8 (r : Int) := h1 _ (Frm.refl _ w3)
    have e2 : val 2 = .pointer (some ⟨A, 0, none⟩) := h2 _ (Frm.refl _ w3)
    have e3 : val 3 = .pointer (some ⟨A, r * 9, none⟩) := h3 _ (Frm.refl _ w3)
    have e4 : val 4 = rg (F r) (V r) := h4 _ (Frm.refl _ w3)
    have e5 : val 5 = .int .u8 (r : Int) := h5 _ (Frm.refl _ w3)
    have e6 : val 6 = vo := h6 _ (Frm.refl _ w3)
    have e7 : val 7 = .pointer (some ⟨N, 4, none⟩) := h7 _ (Frm.refl _ w3)
    have e8 : val 8 = .string (bs x.s) := h8 _ (Frm.refl _ w3)
    have q9 : ∃ v', (val 9) = .tuple #[rg f1 v', .agg (dv p1 q1), .int .i64 (er : Nat)] ∧ OwnL w3 v' l1 ∧ ∀ g, v'.ownBlock = some g → K ≤ g := h9 _ (Frm.refl _ w3)
    obtain ⟨v1, e9, o1, n1⟩ := q9
    have e10 : val 10 = (val 9) := h10 _ (Frm.refl _ w3)
    have e11 : val 11 = tupAt (val 10) 0 := h11 _ (Frm.refl _ w3)
    have e12 : val 12 = tupAt (val 10) 1 := h12 _ (Frm.refl _ w3)
    have e13 : val 13 = tupAt (val 10) 2 := h13 _ (Frm.refl _ w3)
    have q14 : ∃ b, (val 14) = .pointer (some ⟨b, 0, none⟩) ∧ K ≤ b ∧ Blk w3 b 39 rz := h14 _ (Frm.refl _ w3)
    obtain ⟨B10, e14, hB10, bB10⟩ := q14
    have q15 : ∃ b, (val 15) = .pointer (some ⟨b, 0, none⟩) ∧ K ≤ b ∧ Blk w3 b 27 dz := h15 _ (Frm.refl _ w3)
    obtain ⟨B11, e15, hB11, bB11⟩ := q15
    clear hT h0 h1 h2 h3 h4 h5 h6 h7 h8 h9 h10 h11 h12 h13 h14 h15
    simp only [aO, Act.put, List.setIfInBounds_toArray, List.set_cons_zero, List.set_cons_succ, Nat.reduceAdd]
    try simp only [e15]
    try simp only [e14]
    try simp only [e13]
    try simp only [e12]
    try simp only [e11]
    try simp only [e10]
    try simp only [e9]
    try simp only [e8]
    try simp only [e7]
    try simp only [e6]
    try simp only [e5]
    try simp only [e4]
    try simp only [e3]
    try simp only [e2]
    try simp only [e1]
    try simp only [e0]
    try simp only [tupAt]
    have HV1 : Hid (∀ g, blkOf v1 = some g → K ≤ g) := Lib.hid fun g e => n1 g (o1.blkOf g e)
    have HQ : Hid (K ≤ B10 ∧ K ≤ B11) := Lib.hid ⟨hB10, hB11⟩
    refine tail_reg3 (w := w2) f1 v1 l1 B10 B11 p1 q1 (er : Int) rfl rfl rfl rfl rfl rfl rfl rfl rfl rfl rfl rfl rfl rfl rfl rfl rfl (D.trans gW) (Nat.le_trans HE.out hB10) (Nat.le_trans HE.out hB11) o1 bB10 bB11 ?_
    intro w4 g4 H1 H2
    try simp only [Act.put, List.setIfInBounds_toArray, List.set_cons_zero, List.set_cons_succ]
    refine hK _ _ ?_
    clear gW D hK HC e0 e1 e2 e3 e4 e5 e6 e7 e8 e9 e10 e11 e12 e13 e14 e15 o1 n1 hB10 bB10 hB11 bB11
    go_upto_region 7 with fail
    obtain ⟨r1, r2⟩ := HB1.out w4 g4
    have b1 := (H1.out w4 (Frm.refl _ w4)).1
    have b2 := H2.out w4 (Frm.refl _ w4)
    have hn1 := HQ.out.1
    have hn2 := HQ.out.2
    have hnk := HNK.out
    obtain ⟨av, cv, ev, _, _⟩ := (H1.out w4 (Frm.refl _ w4)).2.slice
    have HEV := Lib.hid ev
    clear ev
    refine wp_region_held_drew (S := fun w' : World => (Instr.loadAt 39 (.pointer (some ⟨B10, 0, none⟩))).run Try.prog w' = .ok (rg f1 v1) w' ∧ (Instr.loadAt 27 (.pointer (some ⟨B11, 0, none⟩))).run Try.prog w' = .ok (.agg (dv p1 q1)) w' ∧ Frm (fun k => k = N + 1 ∨ k = N + 1 + 1) w4 w') (by kernel_rfl) ⟨load_reg b1.drew, load_dotB b2.drew, (Frm.refl _ w4).drew⟩ (fun hHeld => ?_)
    refine wpAnyH_take (i := 0) (v := rg f1 v1) rfl (by kernel_rfl) (by kernel_rfl) (by kernel_rfl) (fun _ _ _ h => h) ?z0 (by assumption) ?_
    case z0 => (refine yieldsIf_load (by rfl) _ (by rfl) ?_ (fun w hs => hs.1); rfl)
    try simp only [Act.put, List.getElem_toArray, List.getElem_cons_zero, List.setIfInBounds_toArray, List.set_cons_zero, List.set_cons_succ]
    refine wpAnyH_take (i := 1) (v := .agg (dv p1 q1)) rfl (by kernel_rfl) (by kernel_rfl) (by kernel_rfl) (fun _ _ _ h => h) ?z1 (by assumption) ?_
    case z1 => (refine yieldsIf_load (by rfl) _ (by rfl) ?_ (fun w hs => hs.2.1); rfl)
    try simp only [Act.put, List.getElem_toArray, List.getElem_cons_zero, List.getElem_cons_succ, List.setIfInBounds_toArray, List.set_cons_zero, List.set_cons_succ]
    refine wpAnyH_take (i := 2) (v := vo) rfl (by kernel_rfl) (by kernel_rfl) (by kernel_rfl) (fun _ _ _ h => h) ?z2 (by assumption) ?_
    case z2 => exact yieldsIf_move (by rfl) _ (by rfl) rfl
    try simp only [Act.put, List.getElem_toArray, List.getElem_cons_zero, List.getElem_cons_succ, List.setIfInBounds_toArray, List.set_cons_zero, List.set_cons_succ]
    refine wpAnyH_take (i := 3) (v := .int .i64 (er : Int)) rfl (by kernel_rfl) (by kernel_rfl) (by kernel_rfl) (fun _ _ _ h => h) ?z3 (by assumption) ?_
    case z3 => exact yieldsIf_move (by rfl) _ (by rfl) rfl
    try simp only [Act.put, List.getElem_toArray, List.getElem_cons_zero, List.getElem_cons_succ, List.setIfInBounds_toArray, List.set_cons_zero, List.set_cons_succ]
    clear hHeld
    refine seq_ret (i := 4) (j := 5) (k := 6) (m := 7) rfl rfl rfl rfl rfl rfl rfl rfl rfl rfl rfl rfl (by kernel_rfl) (by kernel_rfl) (by kernel_rfl) (by kernel_rfl) (by kernel_rfl)
      39 _ _ rfl (N + 1) (rgc f1 v1) rz rfl rfl 27 _ _ rfl (N + 1 + 1) (dv p1 q1) dz rfl rfl _ _ vo (.int .i64 (er : Int)) rfl rfl rfl rfl
      r1.drew rfl (by show _ = some 9; kernel_rfl) (by rw [HEV.out]; exact rg_one _ _ _ _) r2.drew rfl (by show _ = some 2; kernel_rfl) (by simp [Value.oneCell']) (by omega) ?hS ?hK
    case hS =>
      intro w8 f8
      exact ⟨load_reg (b1.drew.keep f8 (by omega)), load_dotB (b2.drew.keep f8 (by omega)), (Frm.refl _ w4).drew.trans f8⟩
    case hK =>
      intro w8 c2' c3' f8
      try simp only [Act.put, List.setIfInBounds_toArray, List.set_cons_zero, List.set_cons_succ]
      have k8 : Frm (fun k => k = N + 1 ∨ k = N + 1 + 1) w4 w8 := (Frm.refl _ w4).drew.trans f8
      have HS8 := Lib.hid ((H1.out w4 (Frm.refl _ w4)).2.keep k8 (fun g e => by have := HV1.out g e; omega))
      have c8 := c2'.cell 8 rfl
      have h2 := rcells c2'
      have d0 := c3'.cell 0 rfl
      have d1 := c3'.cell 1 rfl
      have HK8 := Lib.hid k8
      clear k8 f8 b1 b2 r1 r2
      go_wp2_with fail
      refine bodyPost_ret (v := .tuple #[rg f1 v1, .agg (dv p1 q1), vo, .int .i64 (er : Int)]) (by simp [results, Try.results38, go_sem, h2, c8, d0, d1]) rfl ?_
      exact ⟨f1, v1, l1, p1, q1, vo, Dv, er, rfl, HS8.out, fun g e => by have := HV1.out g e; have := HN.out; omega, (HOD.out.1.keep ((g4.mono (fun _ _ h => h.elim)).trans HK8.out) (fun g e => by have := HOD.out.2 g e; omega)).sl, fun g e => by have := HOD.out.2 g (HOD.out.1.blkOf g e); have := HN.out; omega, (GG.out.trans g4).next HK8.out (fun k hk h => by have := HN.out; omega), .inl ⟨HM5.out, by rw [HR.out]; exact HDS.out, by rw [HR.out]; exact HT.out⟩⟩
  · have HM5 := Lib.hid (show x.k % 5 = 2 by have := HM.out; omega)
    obtain ⟨⟨f1, l1, ⟨p1, q1⟩, er⟩, hT⟩ : ∃ T, dropS (F r) (L r) r Dv = T := ⟨_, rfl⟩
    have HT := Lib.hid hT
    have HC : Hid (∀ W, Frm (fun _ => False) w2 W → Calls Try.prog 26 #[rg (F r) (V r), .int .u8 r, vo] W fun e w' => ∃ v', e = .returned (.tuple #[rg f1 v', .agg (dv p1 q1), .int .i64 (er : Nat)]) ∧ OwnL w' v' l1 ∧ (∀ g, v'.ownBlock = some g → W.heap.size ≤ g) ∧ Frm (fun _ => False) W w') := Lib.hid fun W g => by
      have h := drop_any (F r) (V r) (L r) r vo Dv W (HF.out r hr) (HS.out W g r hr) (by have := HL.out r hr; omega) (by omega) (HDL.out W g)
      rw [hT] at h
      exact h
    clear hT
    obtain ⟨K, hK0⟩ : ∃ K, w2.heap.size = K := ⟨_, rfl⟩
    have HK : Hid (∀ W, Frm (fun _ => False) w2 W → K ≤ W.heap.size) := Lib.hid fun W g => hK0 ▸ g.size
    have HE : Hid (w2.heap.size ≤ K) := Lib.hid (Nat.le_of_eq hK0)
    have HNK : Hid (N + 3 ≤ K) := Lib.hid (by have := HKK.out; omega)
    clear hK0
    go_upto_region 9 with fail
    rename_i hK
    have D : Frm (fun _ => False) w2 w2 := Frm.refl _ _
    refine wp_region_textR 14 3 [[], [], [0], [1, 2], [3], [], [], [4, 5, 6], [7], [7, 8], [7, 8], [7, 8], [], []] on9M (on9R A r K F V vo f1 l1 p1 q1 er) rfl rfl rfl rfl (by kernel_rfl) (by kernel_rfl) (fun val => ?_) ?_
    · try simp only [Act.put, List.setIfInBounds_toArray, List.set_cons_zero, List.set_cons_succ]
      refine RelO.next (k' := 1) rfl (fun W gW hF => ?_) ?_
      focus
        refine OpOK.val (u := .pointer (some ⟨A, 0, none⟩)) (by rfl) ?_ (fun W' _ => rfl)
        try simp only [tupAt]
        first | (go_simp; done) | (go_simp; with_reducible rfl) | (go_simp; rfl)
      try simp only [Act.put, List.setIfInBounds_toArray, List.set_cons_zero, List.set_cons_succ]
      refine RelO.next (k' := 2) rfl (fun W gW hF => ?_) ?_
      focus
        refine OpOK.val (u := .int .u8 (r : Int)) (by rfl) ?_ (fun W' _ => rfl)
        try simp only [tupAt]
        first | (go_simp; done) | (go_simp; with_reducible rfl) | (go_simp; rfl)
      try simp only [Act.put, List.setIfInBounds_toArray, List.set_cons_zero, List.set_cons_succ]
      refine RelO.next (k' := 3) rfl (fun W gW hF => ?_) ?_
      focus
        obtain ⟨h0, _⟩ := hF
        have e0 : val 0 = .pointer (some ⟨A, 0, none⟩) := h0 _ (Frm.refl _ W)
        try simp only [e0]
        try simp only [tupAt]
        refine OpOK.val (u := .pointer (some ⟨A, 0, none⟩)) (by rfl) ?_ (fun W' _ => rfl)
        try simp only [e0]
        try simp only [tupAt]
        first | (go_simp; done) | (go_simp; with_reducible rfl) | (go_simp; rfl)
      try simp only [Act.put, List.setIfInBounds_toArray, List.set_cons_zero, List.set_cons_succ]
      refine RelO.next (k' := 4) rfl (fun W gW hF => ?_) ?_
      focus
        obtain ⟨h1, h2, _⟩ := hF
        have e1 : val 1 = .int .u8 (r : Int) := h1 _ (Frm.refl _ W)
        have e2 : val 2 = .pointer (some ⟨A, 0, none⟩) := h2 _ (Frm.refl _ W)
        try simp only [e2]
        try simp only [e1]
        try simp only [tupAt]
        refine OpOK.val (u := .pointer (some ⟨A, r * 9, none⟩)) (by rfl) ?_ (fun W' _ => rfl)
        try simp only [e2]
        try simp only [e1]
        try simp only [tupAt]
        first | (go_simp; done) | (go_simp; with_reducible rfl) | (go_simp; rfl)
      try simp only [Act.put, List.setIfInBounds_toArray, List.set_cons_zero, List.set_cons_succ]
      refine RelO.next (k' := 5) rfl (fun W gW hF => ?_) ?_
      focus
        obtain ⟨h3, _⟩ := hF
        have e3 : val 3 = .pointer (some ⟨A, r * 9, none⟩) := h3 _ (Frm.refl _ W)
        try simp only [e3]
        try simp only [tupAt]
        exact OpOK.load (by rfl) _ rfl (by rfl) ((HA.out W (D.trans gW)).load hr) (fun W' _ => rfl)
      try simp only [Act.put, List.setIfInBounds_toArray, List.set_cons_zero, List.set_cons_succ]
      refine RelO.next (k' := 6) rfl (fun W gW hF => ?_) ?_
      focus
        refine OpOK.val (u := .int .u8 (r : Int)) (by rfl) ?_ (fun W' _ => rfl)
        try simp only [tupAt]
        first | (go_simp; done) | (go_simp; with_reducible rfl) | (go_simp; rfl)
      try simp only [Act.put, List.setIfInBounds_toArray, List.set_cons_zero, List.set_cons_succ]
      refine RelO.next (k' := 7) rfl (fun W gW hF => ?_) ?_
      focus
        refine OpOK.val (u := vo) (by rfl) ?_ (fun W' _ => rfl)
        try simp only [tupAt]
        first | (go_simp; done) | (go_simp; with_reducible rfl) | (go_simp; rfl)
      try simp only [Act.put, List.setIfInBounds_toArray, List.set_cons_zero, List.set_cons_succ]
      refine RelO.next (k' := 8) rfl (fun W gW hF => ?_) ?_
      focus
        obtain ⟨h4, h5, h6, _⟩ := hF
        have e4 : val 4 = rg (F r) (V r) := h4 _ (Frm.refl _ W)
        have e5 : val 5 = .int .u8 (r : Int) := h5 _ (Frm.refl _ W)
        have e6 : val 6 = vo := h6 _ (Frm.refl _ W)
        try simp only [e6]
        try simp only [e5]
        try simp only [e4]
        try simp only [tupAt]
        refine OpOK.call (by rfl) ?_ ((HC.out W (D.trans gW)).mono ?_)
        · first | (go_simp; done) | (go_simp; with_reducible rfl) | (go_simp; rfl)
        · rintro e W1 ⟨v', rfl, o', n', g'⟩
          exact ⟨_, rfl, g', fun W2 g2 => ⟨v', rfl, o'.keep g2 (fun _ _ h => h), fun g e => Nat.le_trans (HK.out W (D.trans gW)) (n' g e)⟩⟩
      try simp only [Act.put, List.setIfInBounds_toArray, List.set_cons_zero, List.set_cons_succ]
      refine RelO.next (k' := 9) rfl (fun W gW hF => ?_) ?_
      focus
        obtain ⟨h7, _⟩ := hF
        have q7 : ∃ v', (val 7) = .tuple #[rg f1 v', .agg (dv p1 q1), .int .i64 (er : Nat)] ∧ OwnL W v' l1 ∧ ∀ g, v'.ownBlock = some g → K ≤ g := h7 _ (Frm.refl _ W)
        obtain ⟨v1, e7, o1, n1⟩ := q7
        try simp only [e7]
        try simp only [tupAt]
        refine OpOK.val (u := (val 7)) (by rfl) ?_ (fun W' _ => rfl)
        try simp only [e7]
        try simp only [tupAt]
        first | (go_simp; done) | (go_simp; with_reducible rfl) | (go_simp; rfl)
      try simp only [Act.put, List.setIfInBounds_toArray, List.set_cons_zero, List.set_cons_succ]
      refine RelO.next (k' := 10) rfl (fun W gW hF => ?_) ?_
      focus
        obtain ⟨h7, h8, _⟩ := hF
        have q7 : ∃ v', (val 7) = .tuple #[rg f1 v', .agg (dv p1 q1), .int .i64 (er : Nat)] ∧ OwnL W v' l1 ∧ ∀ g, v'.ownBlock = some g → K ≤ g := h7 _ (Frm.refl _ W)
        obtain ⟨v1, e7, o1, n1⟩ := q7
        have e8 : val 8 = (val 7) := h8 _ (Frm.refl _ W)
        try simp only [e8]
        try simp only [e7]
        try simp only [tupAt]
        refine OpOK.val (u := tupAt (val 8) 0) (by rfl) ?_ (fun W' _ => rfl)
        try simp only [e8]
        try simp only [e7]
        try simp only [tupAt]
        first | (go_simp; done) | (go_simp; with_reducible rfl) | (go_simp; rfl)
      try simp only [Act.put, List.setIfInBounds_toArray, List.set_cons_zero, List.set_cons_succ]
      refine RelO.next (k' := 11) rfl (fun W gW hF => ?_) ?_
      focus
        obtain ⟨h7, h8, _⟩ := hF
        have q7 : ∃ v', (val 7) = .tuple #[rg f1 v', .agg (dv p1 q1), .int .i64 (er : Nat)] ∧ OwnL W v' l1 ∧ ∀ g, v'.ownBlock = some g → K ≤ g := h7 _ (Frm.refl _ W)
        obtain ⟨v1, e7, o1, n1⟩ := q7
        have e8 : val 8 = (val 7) := h8 _ (Frm.refl _ W)
        try simp only [e8]
        try simp only [e7]
        try simp only [tupAt]
        refine OpOK.val (u := tupAt (val 8) 1) (by rfl) ?_ (fun W' _ => rfl)
        try simp only [e8]
        try simp only [e7]
        try simp only [tupAt]
        first | (go_simp; done) | (go_simp; with_reducible rfl) | (go_simp; rfl)
      try simp only [Act.put, List.setIfInBounds_toArray, List.set_cons_zero, List.set_cons_succ]
      refine RelO.next (k' := 12) rfl (fun W gW hF => ?_) ?_
      focus
        obtain ⟨h7, h8, _⟩ := hF
        have q7 : ∃ v', (val 7) = .tuple #[rg f1 v', .agg (dv p1 q1), .int .i64 (er : Nat)] ∧ OwnL W v' l1 ∧ ∀ g, v'.ownBlock = some g → K ≤ g := h7 _ (Frm.refl _ W)
        obtain ⟨v1, e7, o1, n1⟩ := q7
        have e8 : val 8 = (val 7) := h8 _ (Frm.refl _ W)
        try simp only [e8]
        try simp only [e7]
        try simp only [tupAt]
        refine OpOK.val (u := tupAt (val 8) 2) (by rfl) ?_ (fun W' _ => rfl)
        try simp only [e8]
        try simp only [e7]
        try simp only [tupAt]
        first | (go_simp; done) | (go_simp; with_reducible rfl) | (go_simp; rfl)
      try simp only [Act.put, List.setIfInBounds_toArray, List.set_cons_zero, List.set_cons_succ]
      refine RelO.next (k' := 13) rfl (fun W gW hF => ?_) ?_
      focus
        have hlt := HK.out W (D.trans gW)
        refine OpOK.made (W' := W.alloc (.cells rz 39)) (u := .pointer (some ⟨W.heap.size, 0, none⟩)) (by rfl) ?_ ((Frm.refl _ W).alloc _) (fun W2 g2 => ⟨W.heap.size, rfl, hlt, (Blk.alloc W _ _).keep g2 (fun h => h)⟩)
        first | (go_simp; done) | (go_simp; with_reducible rfl) | (go_simp; rfl)
      try simp only [Act.put, List.setIfInBounds_toArray, List.set_cons_zero, List.set_cons_succ]
      refine RelO.next (k' := 14) rfl (fun W gW hF => ?_) ?_
      focus
        have hlt := HK.out W (D.trans gW)
        refine OpOK.made (W' := W.alloc (.cells dz 27)) (u := .pointer (some ⟨W.heap.size, 0, none⟩)) (by rfl) ?_ ((Frm.refl _ W).alloc _) (fun W2 g2 => ⟨W.heap.size, rfl, hlt, (Blk.alloc W _ _).keep g2 (fun h => h)⟩)
        first | (go_simp; done) | (go_simp; with_reducible rfl) | (go_simp; rfl)
      try simp only [Act.put, List.setIfInBounds_toArray, List.set_cons_zero, List.set_cons_succ]
      exact RelO.nil
    intro val w3 gW hF
    obtain ⟨h0, h1, h2, h3, h4, h5, h6, h7, h8, h9, h10, h11, h12, h13, hT⟩ := hF
    have e0 : val 0 = .pointer (some ⟨A, 0, none⟩) := h0 _ (Frm.refl _ w3)
    have e1 : val 1 = .int .u8 (r : Int) := h1 _ (Frm.refl _ w3)
    have e2 : val 2 = .pointer (some ⟨A, 0, none⟩) := h2 _ (Frm.refl _ w3)
    have e3 : val 3 = .pointer (some ⟨A, r * 9, none⟩) := h3 _ (Frm.refl _ w3)
    have e4 : val 4 = rg (F r) (V r) := h4 _ (Frm.refl _ w3)
    have e5 : val 5 = .int .u8 (r : Int) := h5 _ (Frm.refl _ w3)
    have e6 : val 6 = vo := h6 _ (Frm.refl _ w3)
    have q7 : ∃ v', (val 7) = .tuple #[rg f1 v', .agg (dv p1 q1), .int .i64 (er : Nat)] ∧ OwnL w3 v' l1 ∧ ∀ g, v'.ownBlock = some g → K ≤ g := h7 _ (Frm.refl _ w3)
    obtain ⟨v1, e7, o1, n1⟩ := q7
    have e8 : val 8 = (val 7) := h8 _ (Frm.refl _ w3)
    have e9 : val 9 = tupAt (val 8) 0 := h9 _ (Frm.refl _ w3)
    have e10 : val 10 = tupAt (val 8) 1 := h10 _ (Frm.refl _ w3)
    have e11 : val 11 = tupAt (val 8) 2 := h11 _ (Frm.refl _ w3)
    have q12 : ∃ b, (val 12) = .pointer (some ⟨b, 0, none⟩) ∧ K ≤ b ∧ Blk w3 b 39 rz := h12 _ (Frm.refl _ w3)
    obtain ⟨B13, e12, hB13, bB13⟩ := q12
    have q13 : ∃ b, (val 13) = .pointer (some ⟨b, 0, none⟩) ∧ K ≤ b ∧ Blk w3 b 27 dz := h13 _ (Frm.refl _ w3)
    obtain ⟨B14, e13, hB14, bB14⟩ := q13
    clear hT h0 h1 h2 h3 h4 h5 h6 h7 h8 h9 h10 h11 h12 h13
    simp only [aO, Act.put, List.setIfInBounds_toArray, List.set_cons_zero, List.set_cons_succ, Nat.reduceAdd]
    try simp only [e13]
    try simp only [e12]
    try simp only [e11]
    try simp only [e10]
    try simp only [e9]
    try simp only [e8]
    try simp only [e7]
    try simp only [e6]
    try simp only [e5]
    try simp only [e4]
    try simp only [e3]
    try simp only [e2]
    try simp only [e1]
    try simp only [e0]
    try simp only [tupAt]
    have HV1 : Hid (∀ g, blkOf v1 = some g → K ≤ g) := Lib.hid fun g e => n1 g (o1.blkOf g e)
    have HQ : Hid (K ≤ B13 ∧ K ≤ B14) := Lib.hid ⟨hB13, hB14⟩
    refine tail_reg3 (w := w2) f1 v1 l1 B13 B14 p1 q1 (er : Int) rfl rfl rfl rfl rfl rfl rfl rfl rfl rfl rfl rfl rfl rfl rfl rfl rfl (D.trans gW) (Nat.le_trans HE.out hB13) (Nat.le_trans HE.out hB14) o1 bB13 bB14 ?_
    intro w4 g4 H1 H2
    try simp only [Act.put, List.setIfInBounds_toArray, List.set_cons_zero, List.set_cons_succ]
    refine hK _ _ ?_
    clear gW D hK HC e0 e1 e2 e3 e4 e5 e6 e7 e8 e9 e10 e11 e12 e13 o1 n1 hB13 bB13 hB14 bB14
    go_upto_region 10 with fail
    obtain ⟨r1, r2⟩ := HB1.out w4 g4
    have b1 := (H1.out w4 (Frm.refl _ w4)).1
    have b2 := H2.out w4 (Frm.refl _ w4)
    have hn1 := HQ.out.1
    have hn2 := HQ.out.2
    have hnk := HNK.out
    obtain ⟨av, cv, ev, _, _⟩ := (H1.out w4 (Frm.refl _ w4)).2.slice
    have HEV := Lib.hid ev
    clear ev
    refine wp_region_held_drew (S := fun w' : World => (Instr.loadAt 39 (.pointer (some ⟨B13, 0, none⟩))).run Try.prog w' = .ok (rg f1 v1) w' ∧ (Instr.loadAt 27 (.pointer (some ⟨B14, 0, none⟩))).run Try.prog w' = .ok (.agg (dv p1 q1)) w' ∧ Frm (fun k => k = N + 1 ∨ k = N + 1 + 1) w4 w') (by kernel_rfl) ⟨load_reg b1.drew, load_dotB b2.drew, (Frm.refl _ w4).drew⟩ (fun hHeld => ?_)
    refine wpAnyH_take (i := 0) (v := rg f1 v1) rfl (by kernel_rfl) (by kernel_rfl) (by kernel_rfl) (fun _ _ _ h => h) ?z0 (by assumption) ?_
    case z0 => (refine yieldsIf_load (by rfl) _ (by rfl) ?_ (fun w hs => hs.1); rfl)
    try simp only [Act.put, List.getElem_toArray, List.getElem_cons_zero, List.setIfInBounds_toArray, List.set_cons_zero, List.set_cons_succ]
    refine wpAnyH_take (i := 1) (v := .agg (dv p1 q1)) rfl (by kernel_rfl) (by kernel_rfl) (by kernel_rfl) (fun _ _ _ h => h) ?z1 (by assumption) ?_
    case z1 => (refine yieldsIf_load (by rfl) _ (by rfl) ?_ (fun w hs => hs.2.1); rfl)
    try simp only [Act.put, List.getElem_toArray, List.getElem_cons_zero, List.getElem_cons_succ, List.setIfInBounds_toArray, List.set_cons_zero, List.set_cons_succ]
    refine wpAnyH_take (i := 2) (v := vo) rfl (by kernel_rfl) (by kernel_rfl) (by kernel_rfl) (fun _ _ _ h => h) ?z2 (by assumption) ?_
    case z2 => exact yieldsIf_move (by rfl) _ (by rfl) rfl
    try simp only [Act.put, List.getElem_toArray, List.getElem_cons_zero, List.getElem_cons_succ, List.setIfInBounds_toArray, List.set_cons_zero, List.set_cons_succ]
    refine wpAnyH_take (i := 3) (v := .int .i64 (er : Int)) rfl (by kernel_rfl) (by kernel_rfl) (by kernel_rfl) (fun _ _ _ h => h) ?z3 (by assumption) ?_
    case z3 => exact yieldsIf_move (by rfl) _ (by rfl) rfl
    try simp only [Act.put, List.getElem_toArray, List.getElem_cons_zero, List.getElem_cons_succ, List.setIfInBounds_toArray, List.set_cons_zero, List.set_cons_succ]
    clear hHeld
    refine seq_ret (i := 4) (j := 5) (k := 6) (m := 7) rfl rfl rfl rfl rfl rfl rfl rfl rfl rfl rfl rfl (by kernel_rfl) (by kernel_rfl) (by kernel_rfl) (by kernel_rfl) (by kernel_rfl)
      39 _ _ rfl (N + 1) (rgc f1 v1) rz rfl rfl 27 _ _ rfl (N + 1 + 1) (dv p1 q1) dz rfl rfl _ _ vo (.int .i64 (er : Int)) rfl rfl rfl rfl
      r1.drew rfl (by show _ = some 9; kernel_rfl) (by rw [HEV.out]; exact rg_one _ _ _ _) r2.drew rfl (by show _ = some 2; kernel_rfl) (by simp [Value.oneCell']) (by omega) ?hS ?hK
    case hS =>
      intro w8 f8
      exact ⟨load_reg (b1.drew.keep f8 (by omega)), load_dotB (b2.drew.keep f8 (by omega)), (Frm.refl _ w4).drew.trans f8⟩
    case hK =>
      intro w8 c2' c3' f8
      try simp only [Act.put, List.setIfInBounds_toArray, List.set_cons_zero, List.set_cons_succ]
      have k8 : Frm (fun k => k = N + 1 ∨ k = N + 1 + 1) w4 w8 := (Frm.refl _ w4).drew.trans f8
      have HS8 := Lib.hid ((H1.out w4 (Frm.refl _ w4)).2.keep k8 (fun g e => by have := HV1.out g e; omega))
      have c8 := c2'.cell 8 rfl
      have h2 := rcells c2'
      have d0 := c3'.cell 0 rfl
      have d1 := c3'.cell 1 rfl
      have HK8 := Lib.hid k8
      clear k8 f8 b1 b2 r1 r2
      go_wp2_with fail
      refine bodyPost_ret (v := .tuple #[rg f1 v1, .agg (dv p1 q1), vo, .int .i64 (er : Int)]) (by simp [results, Try.results38, go_sem, h2, c8, d0, d1]) rfl ?_
      exact ⟨f1, v1, l1, p1, q1, vo, Dv, er, rfl, HS8.out, fun g e => by have := HV1.out g e; have := HN.out; omega, (HOD.out.1.keep ((g4.mono (fun _ _ h => h.elim)).trans HK8.out) (fun g e => by have := HOD.out.2 g e; omega)).sl, fun g e => by have := HOD.out.2 g (HOD.out.1.blkOf g e); have := HN.out; omega, (GG.out.trans g4).next HK8.out (fun k hk h => by have := HN.out; omega), .inr (.inl ⟨HM5.out, by rw [HR.out]; exact HDS.out, by rw [HR.out]; exact HT.out⟩)⟩
  · have HM5 := Lib.hid (show 3 ≤ x.k % 5 by have := HM.out; omega)
    obtain ⟨j, hj0⟩ : ∃ j, x.m % 4 = j := ⟨_, rfl⟩
    have hj : j < 4 := by omega
    have hji : (j : Int) < 4 := by omega
    have hji0 : (0 : Int) ≤ (j : Int) := by omega
    have HJ : Hid (Int.tmod (x.m : Int) 4 = (j : Int)) := Lib.hid (by rw [show Int.tmod (x.m : Int) 4 = ((x.m % 4 : Nat) : Int) from rfl]; omega)
    have HJ0 := Lib.hid hj0
    have n0 : ((m5 : Int) == 0) = false := by simp; omega
    have n1' : ((m5 : Int) == 1) = false := by simp; omega
    have n2 : ((m5 : Int) == 2) = false := by simp; omega
    obtain ⟨⟨f1, l1, er⟩, hT⟩ : ∃ T, rjoinS (F r) (F j) (L r) (L j) = T := ⟨_, rfl⟩
    have HT := Lib.hid hT
    have HC : Hid (∀ W, Frm (fun _ => False) w2 W → Calls Try.prog 28 #[rg (F r) (V r), rg (F j) (V j)] W fun e w' => ∃ v', e = .returned (.tuple #[rg f1 v', .int .i64 (er : Nat)]) ∧ OwnL w' v' l1 ∧ (∀ g, v'.ownBlock = some g → W.heap.size ≤ g) ∧ Frm (fun _ => False) W w') := Lib.hid fun W g =>
      sjoinR (HF.out r hr) (HF.out j hj) (by have := HL.out r hr; omega) (by have := HL.out j hj; omega) hT W (V r) (V j) (HS.out W g r hr) (HS.out W g j hj)
    clear hT hj0
    obtain ⟨K, hK0⟩ : ∃ K, w2.heap.size = K := ⟨_, rfl⟩
    have HK : Hid (∀ W, Frm (fun _ => False) w2 W → K ≤ W.heap.size) := Lib.hid fun W g => hK0 ▸ g.size
    have HE : Hid (w2.heap.size ≤ K) := Lib.hid (Nat.le_of_eq hK0)
    have HNK : Hid (N + 3 ≤ K) := Lib.hid (by have := HKK.out; omega)
    clear hK0
    go_upto_region 11 with fail
    rename_i hK
    have D : Frm (fun _ => False) w2 w2.drew := (Frm.refl _ _).drew
    refine wp_region_late 17 2 [15] [[], [], [0], [1, 2], [3], [], [], [6], [7], [5], [8, 9], [10], [4, 11], [12], [12, 13], [12, 13], []] on11M (on11R A N r j K F V x f1 l1 er) (by kernel_rfl) rfl rfl rfl (by kernel_rfl) (by kernel_rfl) (by kernel_rfl) (by kernel_rfl) rfl (by kernel_rfl) (by kernel_rfl) (by kernel_rfl) (by kernel_rfl) (fun val => ?_) ?_
    · try simp only [Act.put, List.setIfInBounds_toArray, List.set_cons_zero, List.set_cons_succ]
      refine RelO.next (k' := 1) rfl (fun W gW hF => ?_) ?_
      focus
        refine OpOK.val (u := .pointer (some ⟨A, 0, none⟩)) (by rfl) ?_ (fun W' _ => rfl)
        try simp only [tupAt]
        first | (go_simp; done) | (go_simp; with_reducible rfl) | (go_simp; rfl)
      try simp only [Act.put, List.setIfInBounds_toArray, List.set_cons_zero, List.set_cons_succ]
      refine RelO.next (k' := 2) rfl (fun W gW hF => ?_) ?_
      focus
        refine OpOK.val (u := .int .u8 (r : Int)) (by rfl) ?_ (fun W' _ => rfl)
        try simp only [tupAt]
        first | (go_simp; done) | (go_simp; with_reducible rfl) | (go_simp; rfl)
      try simp only [Act.put, List.setIfInBounds_toArray, List.set_cons_zero, List.set_cons_succ]
      refine RelO.next (k' := 3) rfl (fun W gW hF => ?_) ?_
      focus
        obtain ⟨h0, _⟩ := hF
        have e0 : val 0 = .pointer (some ⟨A, 0, none⟩) := h0 _ (Frm.refl _ W)
        try simp only [e0]
        try simp only [tupAt]
        refine OpOK.val (u := .pointer (some ⟨A, 0, none⟩)) (by rfl) ?_ (fun W' _ => rfl)
        try simp only [e0]
        try simp only [tupAt]
        first | (go_simp; done) | (go_simp; with_reducible rfl) | (go_simp; rfl)
      try simp only [Act.put, List.setIfInBounds_toArray, List.set_cons_zero, List.set_cons_succ]
      refine RelO.next (k' := 4) rfl (fun W gW hF => ?_) ?_
      focus
        obtain ⟨h1, h2, _⟩ := hF
        have e1 : val 1 = .int .u8 (r : Int) := h1 _ (Frm.refl _ W)
        have e2 : val 2 = .pointer (some ⟨A, 0, none⟩) := h2 _ (Frm.refl _ W)
        try simp only [e2]
        try simp only [e1]
        try simp only [tupAt]
        refine OpOK.val (u := .pointer (some ⟨A, r * 9, none⟩)) (by rfl) ?_ (fun W' _ => rfl)
        try simp only [e2]
        try simp only [e1]
        try simp only [tupAt]
        first | (go_simp; done) | (go_simp; with_reducible rfl) | (go_simp; rfl)
      try simp only [Act.put, List.setIfInBounds_toArray, List.set_cons_zero, List.set_cons_succ]
      refine RelO.next (k' := 5) rfl (fun W gW hF => ?_) ?_
      focus
        obtain ⟨h3, _⟩ := hF
        have e3 : val 3 = .pointer (some ⟨A, r * 9, none⟩) := h3 _ (Frm.refl _ W)
        try simp only [e3]
        try simp only [tupAt]
        exact OpOK.load (by rfl) _ rfl (by rfl) ((HA.out W (D.trans gW)).load hr) (fun W' _ => rfl)
      try simp only [Act.put, List.setIfInBounds_toArray, List.set_cons_zero, List.set_cons_succ]
      refine RelO.next (k' := 6) rfl (fun W gW hF => ?_) ?_
      focus
        refine OpOK.val (u := .pointer (some ⟨A, 0, none⟩)) (by rfl) ?_ (fun W' _ => rfl)
        try simp only [tupAt]
        first | (go_simp; done) | (go_simp; with_reducible rfl) | (go_simp; rfl)
      try simp only [Act.put, List.setIfInBounds_toArray, List.set_cons_zero, List.set_cons_succ]
      refine RelO.next (k' := 7) rfl (fun W gW hF => ?_) ?_
      focus
        refine OpOK.val (u := .pointer (some ⟨N, 2, none⟩)) (by rfl) ?_ (fun W' _ => rfl)
        try simp only [tupAt]
        first | (go_simp; done) | (go_simp; with_reducible rfl) | (go_simp; rfl)
      try simp only [Act.put, List.setIfInBounds_toArray, List.set_cons_zero, List.set_cons_succ]
      refine RelO.next (k' := 8) rfl (fun W gW hF => ?_) ?_
      focus
        obtain ⟨h6, _⟩ := hF
        have e6 : val 6 = .pointer (some ⟨N, 2, none⟩) := h6 _ (Frm.refl _ W)
        try simp only [e6]
        try simp only [tupAt]
        have c0 := (HB.out W (D.trans gW)).cell 2 rfl
        have a3 := Try.isAgg5
        have z3 := Try.sizeOf5
        exact OpOK.val (u := .int .u8 (x.m : Int)) (by rfl) (by first | (go_simp; done) | (go_simp; with_reducible rfl) | (go_simp; rfl)) (fun W' _ => rfl)
      try simp only [Act.put, List.setIfInBounds_toArray, List.set_cons_zero, List.set_cons_succ]
      refine RelO.next (k' := 9) rfl (fun W gW hF => ?_) ?_
      focus
        obtain ⟨h7, _⟩ := hF
        have e7 : val 7 = .int .u8 (x.m : Int) := h7 _ (Frm.refl _ W)
        try simp only [e7]
        try simp only [tupAt]
        have hj4 := HJ.out
        exact OpOK.val (u := .int .u8 (j : Int)) (by rfl) (by first | (go_simp; done) | (go_simp; with_reducible rfl) | (go_simp; rfl)) (fun W' _ => rfl)
      try simp only [Act.put, List.setIfInBounds_toArray, List.set_cons_zero, List.set_cons_succ]
      refine RelO.next (k' := 10) rfl (fun W gW hF => ?_) ?_
      focus
        obtain ⟨h5, _⟩ := hF
        have e5 : val 5 = .pointer (some ⟨A, 0, none⟩) := h5 _ (Frm.refl _ W)
        try simp only [e5]
        try simp only [tupAt]
        refine OpOK.val (u := .pointer (some ⟨A, 0, none⟩)) (by rfl) ?_ (fun W' _ => rfl)
        try simp only [e5]
        try simp only [tupAt]
        first | (go_simp; done) | (go_simp; with_reducible rfl) | (go_simp; rfl)
      try simp only [Act.put, List.setIfInBounds_toArray, List.set_cons_zero, List.set_cons_succ]
      refine RelO.next (k' := 11) rfl (fun W gW hF => ?_) ?_
      focus
        obtain ⟨h8, h9, _⟩ := hF
        have e8 : val 8 = .int .u8 (j : Int) := h8 _ (Frm.refl _ W)
        have e9 : val 9 = .pointer (some ⟨A, 0, none⟩) := h9 _ (Frm.refl _ W)
        try simp only [e9]
        try simp only [e8]
        try simp only [tupAt]
        refine OpOK.val (u := .pointer (some ⟨A, j * 9, none⟩)) (by rfl) ?_ (fun W' _ => rfl)
        try simp only [e9]
        try simp only [e8]
        try simp only [tupAt]
        first | (go_simp; done) | (go_simp; with_reducible rfl) | (go_simp; rfl)
      try simp only [Act.put, List.setIfInBounds_toArray, List.set_cons_zero, List.set_cons_succ]
      refine RelO.next (k' := 12) rfl (fun W gW hF => ?_) ?_
      focus
        obtain ⟨h10, _⟩ := hF
        have e10 : val 10 = .pointer (some ⟨A, j * 9, none⟩) := h10 _ (Frm.refl _ W)
        try simp only [e10]
        try simp only [tupAt]
        exact OpOK.load (by rfl) _ rfl (by rfl) ((HA.out W (D.trans gW)).load hj) (fun W' _ => rfl)
      try simp only [Act.put, List.setIfInBounds_toArray, List.set_cons_zero, List.set_cons_succ]
      refine RelO.next (k' := 13) rfl (fun W gW hF => ?_) ?_
      focus
        obtain ⟨h4, h11, _⟩ := hF
        have e4 : val 4 = rg (F r) (V r) := h4 _ (Frm.refl _ W)
        have e11 : val 11 = rg (F j) (V j) := h11 _ (Frm.refl _ W)
        try simp only [e11]
        try simp only [e4]
        try simp only [tupAt]
        refine OpOK.call (by rfl) ?_ ((HC.out W (D.trans gW)).mono ?_)
        · first | (go_simp; done) | (go_simp; with_reducible rfl) | (go_simp; rfl)
        · rintro e W1 ⟨v', rfl, o', n', g'⟩
          exact ⟨_, rfl, g', fun W2 g2 => ⟨v', rfl, o'.keep g2 (fun _ _ h => h), fun g e => Nat.le_trans (HK.out W (D.trans gW)) (n' g e)⟩⟩
      try simp only [Act.put, List.setIfInBounds_toArray, List.set_cons_zero, List.set_cons_succ]
      refine RelO.next (k' := 14) rfl (fun W gW hF => ?_) ?_
      focus
        obtain ⟨h12, _⟩ := hF
        have q12 : ∃ v', (val 12) = .tuple #[rg f1 v', .int .i64 (er : Nat)] ∧ OwnL W v' l1 ∧ ∀ g, v'.ownBlock = some g → K ≤ g := h12 _ (Frm.refl _ W)
        obtain ⟨v1, e12, o1, n1⟩ := q12
        try simp only [e12]
        try simp only [tupAt]
        refine OpOK.val (u := (val 12)) (by rfl) ?_ (fun W' _ => rfl)
        try simp only [e12]
        try simp only [tupAt]
        first | (go_simp; done) | (go_simp; with_reducible rfl) | (go_simp; rfl)
      try simp only [Act.put, List.setIfInBounds_toArray, List.set_cons_zero, List.set_cons_succ]
      refine RelO.next (k' := 15) rfl (fun W gW hF => ?_) ?_
      focus
        obtain ⟨h12, h13, _⟩ := hF
        have q12 : ∃ v', (val 12) = .tuple #[rg f1 v', .int .i64 (er : Nat)] ∧ OwnL W v' l1 ∧ ∀ g, v'.ownBlock = some g → K ≤ g := h12 _ (Frm.refl _ W)
        obtain ⟨v1, e12, o1, n1⟩ := q12
        have e13 : val 13 = (val 12) := h13 _ (Frm.refl _ W)
        try simp only [e13]
        try simp only [e12]
        try simp only [tupAt]
        refine OpOK.val (u := tupAt (val 13) 0) (by rfl) ?_ (fun W' _ => rfl)
        try simp only [e13]
        try simp only [e12]
        try simp only [tupAt]
        first | (go_simp; done) | (go_simp; with_reducible rfl) | (go_simp; rfl)
      try simp only [Act.put, List.setIfInBounds_toArray, List.set_cons_zero, List.set_cons_succ]
      refine RelO.next (k' := 16) rfl (fun W gW hF => ?_) ?_
      focus
        obtain ⟨h12, h13, _⟩ := hF
        have q12 : ∃ v', (val 12) = .tuple #[rg f1 v', .int .i64 (er : Nat)] ∧ OwnL W v' l1 ∧ ∀ g, v'.ownBlock = some g → K ≤ g := h12 _ (Frm.refl _ W)
        obtain ⟨v1, e12, o1, n1⟩ := q12
        have e13 : val 13 = (val 12) := h13 _ (Frm.refl _ W)
        try simp only [e13]
        try simp only [e12]
        try simp only [tupAt]
        refine OpOK.val (u := tupAt (val 13) 1) (by rfl) ?_ (fun W' _ => rfl)
        try simp only [e13]
        try simp only [e12]
        try simp only [tupAt]
        first | (go_simp; done) | (go_simp; with_reducible rfl) | (go_simp; rfl)
      try simp only [Act.put, List.setIfInBounds_toArray, List.set_cons_zero, List.set_cons_succ]
      refine RelO.next (k' := 17) rfl (fun W gW hF => ?_) ?_
      focus
        have hlt := HK.out W (D.trans gW)
        refine OpOK.made (W' := W.alloc (.cells rz 39)) (u := .pointer (some ⟨W.heap.size, 0, none⟩)) (by rfl) ?_ ((Frm.refl _ W).alloc _) (fun W2 g2 => ⟨W.heap.size, rfl, hlt, (Blk.alloc W _ _).keep g2 (fun h => h)⟩)
        first | (go_simp; done) | (go_simp; with_reducible rfl) | (go_simp; rfl)
      try simp only [Act.put, List.setIfInBounds_toArray, List.set_cons_zero, List.set_cons_succ]
      exact RelO.nil
    intro val w3 gW hF
    obtain ⟨h0, h1, h2, h3, h4, h5, h6, h7, h8, h9, h10, h11, h12, h13, h14, h15, h16, hT⟩ := hF
    have e0 : val 0 = .pointer (some ⟨A, 0, none⟩) := h0 _ (Frm.refl _ w3)
    have e1 : val 1 = .int .u8 (r : Int) := h1 _ (Frm.refl _ w3)
    have e2 : val 2 = .pointer (some ⟨A, 0, none⟩) := h2 _ (Frm.refl _ w3)
    have e3 : val 3 = .pointer (some ⟨A, r * 9, none⟩) := h3 _ (Frm.refl _ w3)
    have e4 : val 4 = rg (F r) (V r) := h4 _ (Frm.refl _ w3)
    have e5 : val 5 = .pointer (some ⟨A, 0, none⟩) := h5 _ (Frm.refl _ w3)
    have e6 : val 6 = .pointer (some ⟨N, 2, none⟩) := h6 _ (Frm.refl _ w3)
    have e7 : val 7 = .int .u8 (x.m : Int) := h7 _ (Frm.refl _ w3)
    have e8 : val 8 = .int .u8 (j : Int) := h8 _ (Frm.refl _ w3)
    have e9 : val 9 = .pointer (some ⟨A, 0, none⟩) := h9 _ (Frm.refl _ w3)
    have e10 : val 10 = .pointer (some ⟨A, j * 9, none⟩) := h10 _ (Frm.refl _ w3)
    have e11 : val 11 = rg (F j) (V j) := h11 _ (Frm.refl _ w3)
    have q12 : ∃ v', (val 12) = .tuple #[rg f1 v', .int .i64 (er : Nat)] ∧ OwnL w3 v' l1 ∧ ∀ g, v'.ownBlock = some g → K ≤ g := h12 _ (Frm.refl _ w3)
    obtain ⟨v1, e12, o1, n1⟩ := q12
    have e13 : val 13 = (val 12) := h13 _ (Frm.refl _ w3)
    have e14 : val 14 = tupAt (val 13) 0 := h14 _ (Frm.refl _ w3)
    have e15 : val 15 = tupAt (val 13) 1 := h15 _ (Frm.refl _ w3)
    have q16 : ∃ b, (val 16) = .pointer (some ⟨b, 0, none⟩) ∧ K ≤ b ∧ Blk w3 b 39 rz := h16 _ (Frm.refl _ w3)
    obtain ⟨B16, e16, hB16, bB16⟩ := q16
    clear hT h0 h1 h2 h3 h4 h5 h6 h7 h8 h9 h10 h11 h12 h13 h14 h15 h16
    simp only [aO, Act.put, List.setIfInBounds_toArray, List.set_cons_zero, List.set_cons_succ, Nat.reduceAdd]
    try simp only [e16]
    try simp only [e15]
    try simp only [e14]
    try simp only [e13]
    try simp only [e12]
    try simp only [e11]
    try simp only [e10]
    try simp only [e9]
    try simp only [e8]
    try simp only [e7]
    try simp only [e6]
    try simp only [e5]
    try simp only [e4]
    try simp only [e3]
    try simp only [e2]
    try simp only [e1]
    try simp only [e0]
    try simp only [tupAt]
    have HV1 : Hid (∀ g, blkOf v1 = some g → K ≤ g) := Lib.hid fun g e => n1 g (o1.blkOf g e)
    refine tail_reg1 (w := w2) f1 v1 l1 B16 (er : Int) rfl rfl rfl rfl rfl rfl rfl rfl rfl rfl rfl (D.trans gW) (Nat.le_trans HE.out hB16) o1 bB16 ?_
    intro w4 g4 H1
    try simp only [Act.put, List.setIfInBounds_toArray, List.set_cons_zero, List.set_cons_succ]
    refine hK _ _ ?_
    clear gW D hK HC e0 e1 e2 e3 e4 e5 e6 e7 e8 e9 e10 e11 e12 e13 e14 e15 e16 o1 n1 hB16 bB16
    obtain ⟨r1, r2⟩ := HB1.out w4 g4
    have lR := load_reg (H1.out w4 (Frm.refl _ w4)).1
    have hnk := HNK.out
    obtain ⟨av, cv, ev, _, _⟩ := (H1.out w4 (Frm.refl _ w4)).2.slice
    have HEV := Lib.hid ev
    clear ev
    go_wp2_with (first
      | ((with_reducible refine wpl_load rfl _ rfl ?_ lR ?_); (focus rfl))
      | ((with_reducible refine wpl_store_blk rfl 39 _ _ rfl (N + 1) (rgc f1 v1) rz ?_ ?_ r1 rfl ?_ ?_ ?_); (focus rfl); (focus rfl); (focus (show _ = some 9; kernel_rfl)); (focus (rw [HEV.out]; exact rg_one _ _ _ _)); intro w5 e2 g5 z5; have d3 := r2.keep g5 (by omega))
      | ((with_reducible refine wpl_store_dot rfl _ _ rfl (N + 1 + 1) 0 0 dz ?_ ?_ d3 rfl ?_); (focus rfl); (focus rfl); intro w6 e3 g6 z6; have h2 := e2.keep g6 (by omega); have c8 := h2.cell 8 rfl; have h2 := rcells h2; have d0 := e3.cell 0 rfl; have d1 := e3.cell 1 rfl))
    refine bodyPost_ret (v := .tuple #[rg f1 v1, .agg (dv 0 0), .slice none 0 0, .int .i64 (er : Int)]) (by simp [results, Try.results38, go_sem, h2, c8, d0, d1]) rfl ?_
    refine ⟨f1, v1, l1, 0, 0, .slice none 0 0, [], er, rfl, ((H1.out w4 (Frm.refl _ w4)).2.keep g5 (fun g e => by have := HV1.out g e; omega)).keep g6 (fun g e => by have := HV1.out g e; omega), fun g e => by have := HV1.out g e; have := HN.out; omega, (OwnD.nil_ _).sl, fun g e => (by cases e), ((GG.out.trans g4).next g5 (fun k hk h => by have := HN.out; omega)).next g6 (fun k hk h => by have := HN.out; omega), .inr (.inr ⟨HM5.out, rfl, rfl, rfl, by rw [HR.out, HJ0.out]; exact HT.out⟩)⟩
end Go.Proofs.Ytojbgckabifnjaa

