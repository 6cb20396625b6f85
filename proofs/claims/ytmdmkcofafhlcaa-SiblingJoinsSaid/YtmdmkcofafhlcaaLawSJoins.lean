/- The statement SiblingJoins, called. Of any two registers. No condition. -/
import Derived.Test.YtmdmkcofafhlcaaSwC
import Derived.Test.YtmdmkcofafhlcaaSwK
import Derived.Test.YtmdmkcofafhlcaaSwN
namespace Go.Proofs.Ytmdmkcofafhlcaa
open Go.RowKit

theorem eq_selfJ {f : Nat → Nat} {l : List SibI} : (eq8 f f && decide (l = l)) = true := by simp [eq8]
theorem OwnL.notRgc {T : TypeId} {W : World} {v : Value} {x : SibI} {l : List SibI} {V : Nat} {f : Nat → Nat} {u : Value} (h : OwnL W v (x :: l)) (hb : Blk W V T (rgc f u)) : ∀ g, v.ownBlock = some g → ¬ g = V := by
  intro g hg e
  subst e
  rcases h.2 with ⟨rfl, _⟩ | ⟨g', cap, rfl, _, _, _, h4, _⟩
  · cases hg
  · cases hg
    have c1 := h4 0 (by simp)
    rw [hb.cell 0 rfl] at c1
    simp [flat, sibc] at c1
theorem OwnL.past {T : TypeId} {W W' : World} {v : Value} {l : List SibI} {V : Nat} (o : OwnL W v l) (b : Blk W V T rz) (f : Frm (fun q => q = V) W W') : SL W' v l := by
  cases l with
  | nil => exact o.sl.nil_of
  | cons x l => exact o.sl.keep f fun g hg => o.notRgc (f := fun _ => 0) (u := .slice none 0 0) b g (o.blkOf g hg)
theorem Wrow.ne {v : Value} {T : TypeId} {W : World} {l : List SibI} {V : Nat} (o : OwnL W v l) (h : SL W v l) (b : Blk W V T rz) {W' : World} (f : Frm (fun q => q = V) W W') : SL W' v l := by
  have _ := h
  exact o.past b f
section
variable {ops : Array Oper} {Q : Exit → Act → World → Prop} {r : Nat} {a : Act} {w W : World}
/-- Two registers are stored in new blocks: the end of such a region. -/
theorem tail_two {o1 o2 : Oper} {x1 y1 x2 y2 : Operand} (f g : Nat → Nat) (v v' : Value) (l m : List SibI) (V V2 : Nat)
    (i1 : ops[r]? = some o1) (i2 : ops[r + 1]? = some o2) (g1 : o1.guard = none) (g2 : o2.guard = none) (n1 : o1.dst = none) (n2 : o2.dst = none)
    (p1 : o1.op = .store 39 x1 y1) (p2 : o2.op = .store 39 x2 y2)
    (hx1 : a.eval x1 = .pointer (some ⟨V, 0, none⟩)) (hy1 : a.eval y1 = rg f v) (hx2 : a.eval x2 = .pointer (some ⟨V2, 0, none⟩)) (hy2 : a.eval y2 = rg g v') (hne : V ≠ V2)
    (hF : Frm (fun _ => False) w W) (hV : w.heap.size ≤ V) (hV2 : w.heap.size ≤ V2) (o : OwnL W v l) (o' : OwnL W v' m) (b1 : Blk W V 39 rz) (b2 : Blk W V2 39 rz)
    (h : ∀ w2, Frm (fun _ => False) w w2 → Blk w2 V 39 (rgc f v) → SL w2 v l → Blk w2 V2 39 (rgc g v') → SL w2 v' m → Q .normal a w2) : wpTail Try.prog ops Q r 2 a W := by
  obtain ⟨av, cv, ev, _, _⟩ := o.sl.slice
  obtain ⟨av', cv', ev', _, _⟩ := o'.sl.slice
  refine row_step i1 g1 n1 39 _ _ p1 V (rgc f v) rz hx1 hy1 b1 rfl (show _ = some 9 by kernel_rfl) (by simp [Value.oneCell', ev]) fun w1 c1 f1 z1 => ?_
  refine row_step i2 g2 n2 39 _ _ p2 V2 (rgc g v') rz hx2 hy2 (b2.keep f1 (Ne.symm hne)) rfl (show _ = some 9 by kernel_rfl) (by simp [Value.oneCell', ev']) fun w2 c2 f2 z2 => ?_
  have s2 : SL w2 v l := by
    cases l with
    | nil => exact o.sl.nil_of
    | cons x l => exact (o.past b1 f1).keep f2 fun g hg => o.notRgc (f := fun _ => 0) (u := .slice none 0 0) b2 g (o.blkOf g hg)
  have t2 : SL w2 v' m := by
    cases m with
    | nil => exact o'.sl.nil_of
    | cons x m => exact (o'.past b1 f1).keep f2 fun g hg => o'.notRgc (f := fun _ => 0) (u := .slice none 0 0) b2 g (o'.blkOf g hg)
  refine h w2 ?_ (c1.keep f2 hne) s2 c2 t2
  exact (hF.next f1 fun k hk h => by
    have h : k = V := h
    omega).next f2 fun k hk h => by
    have h : k = V2 := h
    omega
/-- A register of the document's is stored in a new block, an error is kept. -/
theorem tail_reg1R {o1 o3 : Oper} {x1 y1 x3 : Operand} {d : Tmp} (f : Nat → Nat) (v : Value) (l : List SibI) (V : Nat) (E : Int)
    (i1 : ops[r]? = some o1) (i3 : ops[r + 1]? = some o3) (g1 : o1.guard = none) (g3 : o3.guard = none) (n1 : o1.dst = none) (n3 : o3.dst = some d)
    (p1 : o1.op = .store 47 x1 y1) (p3 : o3.op = .assign x3)
    (hx1 : a.eval x1 = .pointer (some ⟨V, 0, none⟩)) (hy1 : a.eval y1 = rg f v) (hx3 : a.eval x3 = .int .i64 E)
    (hF : Frm (fun _ => False) w W) (hV : w.heap.size ≤ V) (o : OwnL W v l) (b1 : Blk W V 47 rz)
    (h : ∀ w2, Frm (fun _ => False) w w2 → Blk w2 V 47 (rgc f v) → SL w2 v l → Q .normal (a.put (some d) (.int .i64 E)) w2) : wpTail Try.prog ops Q r 2 a W := by
  obtain ⟨av, cv, ev, _, _⟩ := o.sl.slice
  refine row_step i1 g1 n1 47 _ _ p1 V (rgc f v) rz hx1 hy1 b1 rfl (show _ = some 9 by kernel_rfl) (by simp [Value.oneCell', ev]) fun w1 c1 f1 z1 => ?_
  refine wpTail.assign i3 g3 n3 p3 hx3 ?_
  refine h w1 ?_ c1 (o.past b1 f1)
  exact hF.next f1 fun k hk h => by
    have h : k = V := h
    omega
end
/-- The registers that came in, and their copies. -/
structure Jin (N M : Nat) (f g : Nat → Nat) (v1 v2 : Value) (l m : List SibI) (W : World) : Prop where
  x : Blk W N 39 (rgc f v1)
  xs : SL W v1 l
  y : Blk W M 39 (rgc g v2)
  ys : SL W v2 m
theorem Jin.keep {N M : Nat} {f g : Nat → Nat} {v1 v2 : Value} {l m : List SibI} {W W' : World} (h : Jin N M f g v1 v2 l m W) (k : Frm (fun _ => False) W W') : Jin N M f g v1 v2 l m W' :=
  ⟨h.x.keep k (fun h => h), h.xs.keepF k, h.y.keep k (fun h => h), h.ys.keepF k⟩
structure Jst (N M B5 B6 : Nat) (f g : Nat → Nat) (v1 v2 v5 v6 : Value) (l m : List SibI) (W : World) : Prop where
  x : Blk W N 39 (rgc f v1)
  xs : SL W v1 l
  y : Blk W M 39 (rgc g v2)
  ys : SL W v2 m
  o : Blk W B5 39 (rgc f v5)
  os : SL W v5 l
  p : Blk W B6 39 (rgc g v6)
  ps : SL W v6 m
theorem Jst.keep {N M B5 B6 : Nat} {f g : Nat → Nat} {v1 v2 v5 v6 : Value} {l m : List SibI} {W W' : World} (h : Jst N M B5 B6 f g v1 v2 v5 v6 l m W) (k : Frm (fun _ => False) W W') : Jst N M B5 B6 f g v1 v2 v5 v6 l m W' :=
  ⟨h.x.keep k (fun h => h), h.xs.keepF k, h.y.keep k (fun h => h), h.ys.keepF k, h.o.keep k (fun h => h), h.os.keepF k, h.p.keep k (fun h => h), h.ps.keepF k⟩
structure Jst2 (N M B5 B6 B7 B9 B11 : Nat) (f g f7 : Nat → Nat) (v1 v2 v5 v6 v7 v9 v11 : Value) (l m l7 L11 : List SibI) (W : World) : Prop where
  j : Jst N M B5 B6 f g v1 v2 v5 v6 l m W
  a : Blk W B7 39 (rgc f7 v7)
  asl : OwnL W v7 l7
  b : Blk W B9 47 (rgc f7 v9)
  bs : SL W v9 l7
  c : Blk W B11 39 (rgc (fun _ => 0) v11)
  csl : OwnL W v11 L11
theorem Jst2.keep {N M B5 B6 B7 B9 B11 : Nat} {f g f7 : Nat → Nat} {v1 v2 v5 v6 v7 v9 v11 : Value} {l m l7 L11 : List SibI} {W W' : World} (h : Jst2 N M B5 B6 B7 B9 B11 f g f7 v1 v2 v5 v6 v7 v9 v11 l m l7 L11 W) (k : Frm (fun _ => False) W W') : Jst2 N M B5 B6 B7 B9 B11 f g f7 v1 v2 v5 v6 v7 v9 v11 l m l7 L11 W' :=
  ⟨h.j.keep k, h.a.keep k (fun h => h), h.asl.keep k (fun _ _ h => h), h.b.keep k (fun h => h), h.bs.keepF k, h.c.keep k (fun h => h), h.csl.keep k (fun _ _ h => h)⟩
theorem IL.cells {w : World} {a : Option Addr} {cap : Nat} {l : List SibI} (h : IL w (.slice a l.length cap) l) (k : Nat) (hk : k < l.length) :
    ∃ g off, a = some ⟨g, off, none⟩ ∧ w.cell? ⟨g, off + k * 3, none⟩ = some (.int .u8 l[k].r) ∧ w.cell? ⟨g, off + k * 3 + 1, none⟩ = some (.int .u32 l[k].n) ∧ w.cell? ⟨g, off + k * 3 + 2, none⟩ = some (.int .i64 (l[k].s.length : Int)) := by
  obtain ⟨g, off, rfl, _, hc⟩ := Sl.elem intc intc_len h k hk (by omega)
  exact ⟨g, off, rfl, hc 0 (by omega), by rw [Nat.add_assoc]; exact hc 1 (by omega), by rw [Nat.add_assoc]; exact hc 2 (by omega)⟩
theorem joinIs_len {f g f' : Nat → Nat} {l m l' : List SibI} {e : Nat} (h : JoinIs f g l m f' l' e) : l'.length ≤ 8 := by
  rcases h with h | h | h
  · rw [h.2.2.1]; exact Nat.zero_le _
  · rw [h.2.2.2.1]; exact Nat.zero_le _
  · rw [h.2.2.2.2.1.length_eq]; exact h.2.1
def sj3M : List Nat := [1, 3, 4, 12, 16, 32, 127, 191]
def sj3R (f g : Nat → Nat) (v1 v2 : Value) (l m : List SibI) (K : Nat) : List ((Nat → Value) → World → Prop) := [
  fun val _ => val 0 = rg f v1,
  fun val W => ∃ z, (val 1) = rg f z ∧ OwnL W z l,
  fun val _ => val 2 = rg g v2,
  fun val W => ∃ z, (val 3) = rg g z ∧ OwnL W z m,
  fun val W => ∃ b, (val 4) = .pointer (some ⟨b, 0, none⟩) ∧ K ≤ b ∧ Blk W b 39 rz,
  fun val W => ∃ b, (val 5) = .pointer (some ⟨b, 0, none⟩) ∧ K ≤ b ∧ Blk W b 39 rz]
def sj5M : List Nat := [1, 3, 4, 12, 31, 63, 127, 191, 256, 895, 1407]
def sj5R (f g : Nat → Nat) (v1 v2 : Value) (l m : List SibI) (K : Nat) (f7 : Nat → Nat) (l7 : List SibI) (er : Nat) : List ((Nat → Value) → World → Prop) := [
  fun val _ => val 0 = rg f v1,
  fun val W => ∃ z, (val 1) = rg (f) z ∧ SL W z l,
  fun val _ => val 2 = rg g v2,
  fun val W => ∃ z, (val 3) = rg (g) z ∧ SL W z m,
  fun val W => ∃ v', (val 4) = .tuple #[rg f7 v', .int .i64 (er : Int)] ∧ OwnL W v' l7,
  fun val _ => val 5 = (val 4),
  fun val _ => val 6 = tupAt (val 5) 0,
  fun val _ => val 7 = tupAt (val 5) 1,
  fun val W => ∃ b, (val 8) = .pointer (some ⟨b, 0, none⟩) ∧ K ≤ b ∧ Blk W b 47 rz]
def sj7M : List Nat := [1, 3, 4, 15, 31, 63, 127, 191, 511, 1023, 2047, 4095, 8191, 10239, 26623, 34815, 100351, 255999, 518143, 1048575, 2097151, 4194303, 8388607, 16777215, 25165823, 67108863, 75497471, 209715199, 276824063, 813694975, 2088763391, 4294967295, 8589934591]
def sj7R (f g f7 : Nat → Nat) (v1 v2 v5 v6 v7 v9 v11 : Value) (l m l7 L11 : List SibI) (er : Nat) (q : Bool) : List ((Nat → Value) → World → Prop) := [
  fun val _ => val 0 = rg f7 v7,
  fun val W => ∃ z, (val 1) = rg (f7) z ∧ SL W z l7,
  fun val _ => val 2 = rg f7 v9,
  fun val _ => val 3 = .bool true,
  fun val _ => val 4 = .bool false,
  fun val _ => val 5 = .bool false,
  fun val _ => val 6 = .int .i64 (er : Int),
  fun val _ => val 7 = .int .i64 (er : Int),
  fun val _ => val 8 = .bool false,
  fun val _ => val 9 = .bool false,
  fun val _ => val 10 = .bool false,
  fun val _ => val 11 = rg (fun _ => 0) v11,
  fun val W => ∃ z, (val 12) = rg (fun _ => 0) z ∧ SL W z L11,
  fun val _ => val 13 = rg f v1,
  fun val W => ∃ z, (val 14) = rg (f) z ∧ SL W z l,
  fun val _ => val 15 = rg g v2,
  fun val W => ∃ z, (val 16) = rg (g) z ∧ SL W z m,
  fun val W => ∃ z, (val 17) = z ∧ SL W z L11,
  fun val W => ∃ z, (val 18) = rg (fun _ => 0) z ∧ SL W z L11,
  fun val _ => val 19 = .bool true,
  fun val _ => val 20 = .bool false,
  fun val _ => val 21 = .bool false,
  fun val _ => val 22 = .bool false,
  fun val _ => val 23 = rg f v5,
  fun val _ => val 24 = rg g v6,
  fun val _ => val 25 = .bool q,
  fun val _ => val 26 = rg f v1,
  fun val W => ∃ z, (val 27) = rg (f) z ∧ SL W z l,
  fun val _ => val 28 = rg g v2,
  fun val W => ∃ z, (val 29) = rg (g) z ∧ SL W z m,
  fun val _ => val 30 = .bool q,
  fun val _ => val 31 = .bool false,
  fun val _ => val 32 = .bool false]
def sj17M : List Nat := [1, 3, 4, 15, 31, 63, 64, 192, 256, 960, 1984, 4032, 8191, 16383, 32767, 65535, 81919, 262143, 524287, 1048575, 1064959, 3162111, 4210687, 15745023, 32522239, 66076671, 133185535, 268435455, 536870911]
def sj17R (N B12 g off n1 c1 g2 off2 n2 c2 k : Nat) (x : SibI) : List ((Nat → Value) → World → Prop) := [
  fun val _ => val 0 = .pointer (some ⟨B12, 8, none⟩),
  fun val _ => val 1 = .slice (some ⟨g, off, none⟩) n1 c1,
  fun val _ => val 2 = .int .i64 (k : Int),
  fun val _ => val 3 = .pointer (some ⟨g, off + k * 3, none⟩),
  fun val _ => val 4 = .pointer (some ⟨g, off + k * 3, none⟩),
  fun val _ => val 5 = .agg (dv x.r x.n),
  fun val _ => val 6 = .pointer (some ⟨N, 8, none⟩),
  fun val _ => val 7 = .slice (some ⟨g2, off2, none⟩) n2 c2,
  fun val _ => val 8 = .int .i64 (k : Int),
  fun val _ => val 9 = .pointer (some ⟨g2, off2 + k * 3, none⟩),
  fun val _ => val 10 = .pointer (some ⟨g2, off2 + k * 3, none⟩),
  fun val _ => val 11 = .agg (dv x.r x.n),
  fun val _ => val 12 = .bool false,
  fun val _ => val 13 = .bool false,
  fun val _ => val 14 = .pointer (some ⟨B12, 8, none⟩),
  fun val _ => val 15 = .slice (some ⟨g, off, none⟩) n1 c1,
  fun val _ => val 16 = .int .i64 (k : Int),
  fun val _ => val 17 = .pointer (some ⟨g, off + k * 3, none⟩),
  fun val _ => val 18 = .pointer (some ⟨g, off + k * 3 + 2, none⟩),
  fun val _ => val 19 = .int .i64 (x.s.length : Int),
  fun val _ => val 20 = .pointer (some ⟨N, 8, none⟩),
  fun val _ => val 21 = .slice (some ⟨g2, off2, none⟩) n2 c2,
  fun val _ => val 22 = .int .i64 (k : Int),
  fun val _ => val 23 = .pointer (some ⟨g2, off2 + k * 3, none⟩),
  fun val _ => val 24 = .pointer (some ⟨g2, off2 + k * 3 + 2, none⟩),
  fun val _ => val 25 = .string (bs x.s),
  fun val _ => val 26 = .int .i64 (x.s.length : Int),
  fun val _ => val 27 = .bool false,
  fun val _ => val 28 = .bool false]
def sj19M : List Nat := [1, 3, 7, 15, 31, 39, 103, 255, 511, 1023, 2047, 4095, 5119, 13311, 32767, 65535, 131071, 262143, 524287, 1048575]
def sj19R (f g : Nat → Nat) (v1 v2 v5 v6 : Value) (l m : List SibI) : List ((Nat → Value) → World → Prop) := [
  fun val _ => val 0 = rg f v5,
  fun val _ => val 1 = .bool true,
  fun val _ => val 2 = .bool true,
  fun val _ => val 3 = rg f v5,
  fun val W => ∃ z, (val 4) = rg (f) z ∧ SL W z l,
  fun val _ => val 5 = rg f v1,
  fun val W => ∃ z, (val 6) = rg (f) z ∧ SL W z l,
  fun val _ => val 7 = .bool true,
  fun val _ => val 8 = .bool true,
  fun val _ => val 9 = .bool true,
  fun val _ => val 10 = rg g v6,
  fun val W => ∃ z, (val 11) = rg (g) z ∧ SL W z m,
  fun val _ => val 12 = rg g v2,
  fun val W => ∃ z, (val 13) = rg (g) z ∧ SL W z m,
  fun val _ => val 14 = .bool true,
  fun val _ => val 15 = .bool true,
  fun val _ => val 16 = .bool true,
  fun val _ => val 17 = .bool true,
  fun val _ => val 18 = .bool true,
  fun val _ => val 19 = .bool true]

set_option maxRecDepth 100000 in
set_option maxHeartbeats 40000000 in
theorem siblingJoins_any (f g : Nat → Nat) (v1 v2 : Value) (l m : List SibI) (w : World) (hf : Fit8 f) (hg : Fit8 g) (h : SL w v1 l) (hm : SL w v2 m) :
    Calls Try.prog 5 #[rg f v1, rg g v2] w fun e w' => e = .returned (.bool true) ∧ Frm (fun _ => False) w w' := by
  obtain ⟨a1, cap1, rfl, h11, h12⟩ := h.slice
  obtain ⟨a2, cap2, rfl, h21, h22⟩ := hm.slice
  unfold maxLen at h12 h22
  have g0 : Frm (fun _ => False) w ((w.alloc (.cells (rgc f (.slice a1 l.length cap1)) 39)).alloc (.cells (rgc g (.slice a2 m.length cap2)) 39)) := ((Frm.refl _ w).alloc _).alloc _
  have b0 : Blk ((w.alloc (.cells (rgc f (.slice a1 l.length cap1)) 39)).alloc (.cells (rgc g (.slice a2 m.length cap2)) 39)) w.heap.size 39 (rgc f (.slice a1 l.length cap1)) := (Blk.alloc w _ _).old _
  have b1 : Blk ((w.alloc (.cells (rgc f (.slice a1 l.length cap1)) 39)).alloc (.cells (rgc g (.slice a2 m.length cap2)) 39)) (w.heap.size + 1) 39 (rgc g (.slice a2 m.length cap2)) := Blk.at1 w _ _ _
  go_enter Try.func5, Try.ntmps5
  go_upto_region 1 with fail
  generalize (w.alloc (.cells (rgc f (.slice a1 l.length cap1)) 39)).alloc (.cells (rgc g (.slice a2 m.length cap2)) 39) = w0 at *
  obtain ⟨N, hN⟩ : ∃ N, w.heap.size = N := ⟨_, rfl⟩
  have HNw := Lib.hid hN
  rw [hN] at b0 b1 ⊢
  obtain ⟨M, hM⟩ : ∃ M, N + 1 = M := ⟨_, rfl⟩
  have HM := Lib.hid hM
  rw [hM] at b1 ⊢
  clear hN hM
  have lR := load_reg b0
  have hs := h.keepF g0
  have hms := hm.keepF g0
  have HWK := Lib.hid (fun W => sworks_any W)
  by_cases hfew : fewS l
  · have HFW := Lib.hid (sfew_yes f _ l w0 hs hfew)
    have hl30 := hfew.1
    have HL := Lib.hid (show l.length ≤ 1000 by omega)
    have HL3 := Lib.hid (show l.length ≤ 300 by omega)
    clear hfew
    go_wp2_with (first | ((with_reducible refine wpl_load rfl _ rfl ?_ lR ?_); (focus rfl)))
    refine HFW.out.mono ?_
    rintro e w1 ⟨rfl, g1⟩
    have b0 := b0.keep g1 (fun h => h)
    have b1 := b1.keep g1 (fun h => h)
    have k1 := g0.trans g1
    have hms := hms.keepF g1
    have q0 := b1.cell 0 rfl
    have q1 := b1.cell 1 rfl
    have q2 := b1.cell 2 rfl
    have q3 := b1.cell 3 rfl
    have q4 := b1.cell 4 rfl
    have q5 := b1.cell 5 rfl
    have q6 := b1.cell 6 rfl
    have q7 := b1.cell 7 rfl
    have q8 := b1.cell 8 rfl
    clear g0 g1 HFW lR hs
    by_cases hfew2 : fewS m
    · have HFW := Lib.hid (sfew_yes g _ m w1 hms hfew2)
      have hm30 := hfew2.1
      have HLM := Lib.hid (show m.length ≤ 1000 by omega)
      have HLM3 := Lib.hid (show m.length ≤ 300 by omega)
      clear hfew2
      go_wp2_with fail
      refine HFW.out.mono ?_
      rintro e w2 ⟨rfl, g2⟩
      have b0 := b0.keep g2 (fun h => h)
      have b1 := b1.keep g2 (fun h => h)
      have k2 := k1.trans g2
      have S0 : Jin N M f g (.slice a1 l.length cap1) (.slice a2 m.length cap2) l m w2 := ⟨b0, h.keepF k2, b1, hm.keepF k2⟩
      have HS : Hid (∀ W, Frm (fun _ => False) w2 W → Jin N M f g (.slice a1 l.length cap1) (.slice a2 m.length cap2) l m W) := Lib.hid fun W g => S0.keep g
      have hN2 := b1.lt
      clear k1 g2 HFW hms S0 b0 b1 q0 q1 q2 q3 q4 q5 q6 q7 q8
      generalize hv1 : Value.slice a1 l.length cap1 = v1 at *
      generalize hv2 : Value.slice a2 m.length cap2 = v2 at *
      clear hv1 hv2
      go_upto_region 3 with fail
      rename_i hK
      obtain ⟨K, hK0⟩ : ∃ K, w2.heap.size = K := ⟨_, rfl⟩
      have HN : Hid (∀ W, Frm (fun _ => False) w2 W → K ≤ W.heap.size) := Lib.hid fun W g => hK0 ▸ g.size
      have HE : Hid (w2.heap.size ≤ K) := Lib.hid (Nat.le_of_eq hK0)
      clear hK0
      have D : Frm (fun _ => False) w2 w2.drew := (Frm.refl _ _).drew
      refine wp_region_lateS 6 2 [] [[], [0], [], [2], [], []] sj3M (sj3R f g v1 v2 l m K) (by kernel_rfl) rfl rfl rfl (by kernel_rfl) (by kernel_rfl) (by kernel_rfl) (by kernel_rfl) rfl (by kernel_rfl) (by kernel_rfl) (by kernel_rfl) (by kernel_rfl) (fun val => ?_) ?_
      · try simp only [Act.put, List.setIfInBounds_toArray, List.set_cons_zero, List.set_cons_succ]
        refine RelO.next (k' := 1) rfl (fun W gW hF => ?_) ?_
        focus
          exact OpOK.load (by rfl) _ rfl (by rfl) (load_reg (HS.out W (D.trans gW)).x) (fun W' _ => rfl)
        try simp only [Act.put, List.setIfInBounds_toArray, List.set_cons_zero, List.set_cons_succ]
        refine RelO.next (k' := 2) rfl (fun W gW hF => ?_) ?_
        focus
          obtain ⟨h0, _⟩ := hF
          have e0 : val 0 = rg f v1 := h0 _ (Frm.refl _ W)
          try simp only [e0]
          try simp only [tupAt]
          refine OpOK.call (by rfl) ?_ ((copied_any f v1 l W (HS.out W (D.trans gW)).xs HL.out).mono ?_)
          · first | (go_simp; done) | (go_simp; with_reducible rfl) | (go_simp; rfl)
          · rintro e W1 ⟨v', rfl, o', g', _⟩
            exact ⟨_, rfl, g', fun W2 g2 => ⟨v', rfl, o'.keep g2 (fun _ _ h => h)⟩⟩
        try simp only [Act.put, List.setIfInBounds_toArray, List.set_cons_zero, List.set_cons_succ]
        refine RelO.next (k' := 3) rfl (fun W gW hF => ?_) ?_
        focus
          exact OpOK.load (by rfl) _ rfl (by rfl) (load_reg (HS.out W (D.trans gW)).y) (fun W' _ => rfl)
        try simp only [Act.put, List.setIfInBounds_toArray, List.set_cons_zero, List.set_cons_succ]
        refine RelO.next (k' := 4) rfl (fun W gW hF => ?_) ?_
        focus
          obtain ⟨h2, _⟩ := hF
          have e2 : val 2 = rg g v2 := h2 _ (Frm.refl _ W)
          try simp only [e2]
          try simp only [tupAt]
          refine OpOK.call (by rfl) ?_ ((copied_any g v2 m W (HS.out W (D.trans gW)).ys HLM.out).mono ?_)
          · first | (go_simp; done) | (go_simp; with_reducible rfl) | (go_simp; rfl)
          · rintro e W1 ⟨v', rfl, o', g', _⟩
            exact ⟨_, rfl, g', fun W2 g2 => ⟨v', rfl, o'.keep g2 (fun _ _ h => h)⟩⟩
        try simp only [Act.put, List.setIfInBounds_toArray, List.set_cons_zero, List.set_cons_succ]
        refine RelO.next (k' := 5) rfl (fun W gW hF => ?_) ?_
        focus
          have hlt := HN.out W (D.trans gW)
          refine OpOK.made (W' := W.alloc (.cells rz 39)) (u := .pointer (some ⟨W.heap.size, 0, none⟩)) (by rfl) ?_ ((Frm.refl _ W).alloc _) (fun W2 g2 => ⟨W.heap.size, rfl, hlt, (Blk.alloc W _ _).keep g2 (fun h => h)⟩)
          first | (go_simp; done) | (go_simp; with_reducible rfl) | (go_simp; rfl)
        try simp only [Act.put, List.setIfInBounds_toArray, List.set_cons_zero, List.set_cons_succ]
        refine RelO.next (k' := 6) rfl (fun W gW hF => ?_) ?_
        focus
          have hlt := HN.out W (D.trans gW)
          refine OpOK.made (W' := W.alloc (.cells rz 39)) (u := .pointer (some ⟨W.heap.size, 0, none⟩)) (by rfl) ?_ ((Frm.refl _ W).alloc _) (fun W2 g2 => ⟨W.heap.size, rfl, hlt, (Blk.alloc W _ _).keep g2 (fun h => h)⟩)
          first | (go_simp; done) | (go_simp; with_reducible rfl) | (go_simp; rfl)
        try simp only [Act.put, List.setIfInBounds_toArray, List.set_cons_zero, List.set_cons_succ]
        exact RelO.nil
      intro val w4 gW hF hS
      obtain ⟨h0, h1, h2, h3, h4, h5, hT⟩ := hF
      have e0 : val 0 = rg f v1 := h0 _ (Frm.refl _ w4)
      have q1 : ∃ z, (val 1) = rg f z ∧ OwnL w4 z l := h1 _ (Frm.refl _ w4)
      obtain ⟨x24, e1, o24⟩ := q1
      have e2 : val 2 = rg g v2 := h2 _ (Frm.refl _ w4)
      have q3 : ∃ z, (val 3) = rg g z ∧ OwnL w4 z m := h3 _ (Frm.refl _ w4)
      obtain ⟨x26, e3, o26⟩ := q3
      have q4 : ∃ b, (val 4) = .pointer (some ⟨b, 0, none⟩) ∧ K ≤ b ∧ Blk w4 b 39 rz := h4 _ (Frm.refl _ w4)
      obtain ⟨B5, e4, hB5, bB5⟩ := q4
      have q5 : ∃ b, (val 5) = .pointer (some ⟨b, 0, none⟩) ∧ K ≤ b ∧ Blk w4 b 39 rz := h5 _ (Frm.refl _ w4)
      obtain ⟨B6, e5, hB6, bB6⟩ := q5
      have hS1 := hS 4 5 (by decide) (by decide) (by kernel_rfl) (by kernel_rfl) (by decide)
      rw [e4, e5] at hS1
      clear hS
      clear hT h0 h1 h2 h3 h4 h5
      simp only [aO, Act.put, List.setIfInBounds_toArray, List.set_cons_zero, List.set_cons_succ, Nat.reduceAdd]
      try simp only [e5]
      try simp only [e4]
      try simp only [e3]
      try simp only [e2]
      try simp only [e1]
      try simp only [e0]
      try simp only [tupAt]
      refine tail_two (w := w2) f g x24 x26 l m B5 B6 rfl rfl rfl rfl rfl rfl rfl rfl rfl rfl rfl rfl (fun e => hS1 (by rw [e])) (D.trans gW) (Nat.le_trans HE.out hB5) (Nat.le_trans HE.out hB6) o24 o26 bB5 bB6 ?_
      intro w5 g5 c5 s5 c6 s6
      try dsimp only
      refine hK _ _ ?_
      have S1 : Jst N M B5 B6 f g v1 v2 x24 x26 l m w5 := ⟨(HS.out _ g5).x, (HS.out _ g5).xs, (HS.out _ g5).y, (HS.out _ g5).ys, c5, s5, c6, s6⟩
      have k5 := k2.trans g5
      have hB5lt := c5.lt
      have hB6lt := c6.lt
      clear gW D HN HE hK HS e0 e1 e2 e3 e4 e5 o24 o26 g5 c5 s5 c6 s6 hS1 bB5 bB6 k2
      generalize x24 = v5 at *
      generalize x26 = v6 at *
      -- the join
      have l5 := load_reg S1.o
      have l6 := load_reg S1.p
      have HJN := Lib.hid (sjoin_any f g v5 v6 l m w5 hf hg S1.os S1.ps (by have := HL.out; omega) (by have := HLM.out; omega))
      have HRJ0 := Lib.hid (fun W x y (hx : SL W x l) (hy : SL W y m) => rjoin6_any f g x y l m W hf hg hx hy HL3.out HLM3.out)
      go_wp2_with (first | ((with_reducible refine wpl_load rfl _ rfl ?_ l5 ?_); (focus rfl)) | ((with_reducible refine wpl_load rfl _ rfl ?_ l6 ?_); (focus rfl)))
      refine HJN.out.mono ?_
      rintro e w6 ⟨v7, f7, l7, er, rfl, o7, n7, g6, hj⟩
      have hjl := joinIs_len hj
      have HL7 := Lib.hid (show l7.length ≤ 1000 by omega)
      have hjr := joinIs_eq hj
      rw [hjr] at HRJ0
      have HRJ : Hid (∀ W x y, SL W x l → SL W y m → Calls Try.prog 29 #[rg f x, rg g y] W (RegE f7 l7 er W)) := Lib.hid fun W x y hx hy => HRJ0.out W x y hx hy
      obtain ⟨a7, c7, rfl, _, _⟩ := Row.slice o7
      have hob7 := Row.blk o7
      have m7 := Blk.alloc w6 39 rz
      clear HJN HRJ0 hj hjl hjr l5 l6
      go_upto_region 5 with (first
        | ((with_reducible refine wpl_store_blk rfl 39 _ _ rfl (w6.heap.size) (rgc f7 (.slice a7 l7.length c7)) rz ?_ ?_ m7 rfl ?_ ?_ ?_); (focus rfl); (focus rfl); (focus (show _ = some 9; kernel_rfl)); (focus (exact rg_one _ _ _ _)); intro w7 e7 g7 z7))
      rename_i hK
      have f7' : Frm (fun _ => False) w6 w7 := ((Frm.refl _ w6).alloc _).next g7 (fun k hk h => by have h : k = w6.heap.size := h; omega)
      obtain ⟨B7, hB7⟩ : ∃ B7, w6.heap.size = B7 := ⟨_, rfl⟩
      have k7 := g6.trans f7'
      have hz6 := g6.size
      have S2 := S1.keep k7
      have o7 := o7.keep f7' (fun _ _ h => h)
      rw [hB7] at e7 hob7 hz6 ⊢
      have n7' : ∀ q, (Value.slice a7 l7.length c7).ownBlock = some q → w5.heap.size ≤ q ∧ q < B7 := fun q e => ⟨n7 q e, hob7 q e⟩
      have HS : Hid (∀ W, Frm (fun _ => False) w7 W → Jst N M B5 B6 f g v1 v2 v5 v6 l m W) := Lib.hid fun W g => S2.keep g
      have HA : Hid (∀ W, Frm (fun _ => False) w7 W → Blk W B7 39 (rgc f7 (.slice a7 l7.length c7)) ∧ OwnL W (.slice a7 l7.length c7) l7) := Lib.hid fun W g => ⟨e7.keep g (fun h => h), o7.keep g (fun _ _ h => h)⟩
      have hB7lt := e7.lt
      have HJ5 := Lib.hid S1
      clear m7 g7 z7 f7' g6 n7 hob7 e7 o7 S2 S1
      generalize hv7 : Value.slice a7 l7.length c7 = v7 at *
      clear hv7
      obtain ⟨K, hK0⟩ : ∃ K, w7.heap.size = K := ⟨_, rfl⟩
      have HN : Hid (∀ W, Frm (fun _ => False) w7 W → K ≤ W.heap.size) := Lib.hid fun W g => hK0 ▸ g.size
      have HE : Hid (w7.heap.size ≤ K) := Lib.hid (Nat.le_of_eq hK0)
      clear hK0
      have D : Frm (fun _ => False) w7 w7.drew := (Frm.refl _ _).drew
      refine wp_region_late 9 2 [7] [[], [0], [], [2], [1, 3], [4], [4, 5], [4, 5], []] sj5M (sj5R f g v1 v2 l m K f7 l7 er) (by kernel_rfl) rfl rfl rfl (by kernel_rfl) (by kernel_rfl) (by kernel_rfl) (by kernel_rfl) rfl (by kernel_rfl) (by kernel_rfl) (by kernel_rfl) (by kernel_rfl) (fun val => ?_) ?_
      · try simp only [Act.put, List.setIfInBounds_toArray, List.set_cons_zero, List.set_cons_succ]
        refine RelO.next (k' := 1) rfl (fun W gW hF => ?_) ?_
        focus
          exact OpOK.load (by rfl) _ rfl (by rfl) (load_reg (HS.out W (D.trans gW)).x) (fun W' _ => rfl)
        try simp only [Act.put, List.setIfInBounds_toArray, List.set_cons_zero, List.set_cons_succ]
        refine RelO.next (k' := 2) rfl (fun W gW hF => ?_) ?_
        focus
          obtain ⟨h0, _⟩ := hF
          have e0 : val 0 = rg f v1 := h0 _ (Frm.refl _ W)
          try simp only [e0]
          try simp only [tupAt]
          refine OpOK.call (by rfl) ?_ ((their_any (f) v1 l W (HS.out W (D.trans gW)).xs HL.out).mono ?_)
          · first | (go_simp; done) | (go_simp; with_reducible rfl) | (go_simp; rfl)
          · rintro e W1 ⟨v', rfl, o', g', _⟩
            exact ⟨_, rfl, g', fun W2 g2 => ⟨v', rfl, o'.sl.keepF g2⟩⟩
        try simp only [Act.put, List.setIfInBounds_toArray, List.set_cons_zero, List.set_cons_succ]
        refine RelO.next (k' := 3) rfl (fun W gW hF => ?_) ?_
        focus
          exact OpOK.load (by rfl) _ rfl (by rfl) (load_reg (HS.out W (D.trans gW)).y) (fun W' _ => rfl)
        try simp only [Act.put, List.setIfInBounds_toArray, List.set_cons_zero, List.set_cons_succ]
        refine RelO.next (k' := 4) rfl (fun W gW hF => ?_) ?_
        focus
          obtain ⟨h2, _⟩ := hF
          have e2 : val 2 = rg g v2 := h2 _ (Frm.refl _ W)
          try simp only [e2]
          try simp only [tupAt]
          refine OpOK.call (by rfl) ?_ ((their_any (g) v2 m W (HS.out W (D.trans gW)).ys HLM.out).mono ?_)
          · first | (go_simp; done) | (go_simp; with_reducible rfl) | (go_simp; rfl)
          · rintro e W1 ⟨v', rfl, o', g', _⟩
            exact ⟨_, rfl, g', fun W2 g2 => ⟨v', rfl, o'.sl.keepF g2⟩⟩
        try simp only [Act.put, List.setIfInBounds_toArray, List.set_cons_zero, List.set_cons_succ]
        refine RelO.next (k' := 5) rfl (fun W gW hF => ?_) ?_
        focus
          obtain ⟨h1, h3, _⟩ := hF
          have q1 : ∃ z, (val 1) = rg (f) z ∧ SL W z l := h1 _ (Frm.refl _ W)
          obtain ⟨x35, e1, o35⟩ := q1
          have q3 : ∃ z, (val 3) = rg (g) z ∧ SL W z m := h3 _ (Frm.refl _ W)
          obtain ⟨x37, e3, o37⟩ := q3
          try simp only [e3]
          try simp only [e1]
          try simp only [tupAt]
          refine OpOK.call (by rfl) ?_ ((HRJ.out W _ _ o35 o37).mono ?_)
          · first | (go_simp; done) | (go_simp; with_reducible rfl) | (go_simp; rfl)
          · rintro e W1 ⟨v', rfl, o', _, g'⟩
            exact ⟨_, rfl, g', fun W2 g2 => ⟨v', rfl, o'.keep g2 (fun _ _ h => h)⟩⟩
        try simp only [Act.put, List.setIfInBounds_toArray, List.set_cons_zero, List.set_cons_succ]
        refine RelO.next (k' := 6) rfl (fun W gW hF => ?_) ?_
        focus
          obtain ⟨h4, _⟩ := hF
          have q4 : ∃ v', (val 4) = .tuple #[rg f7 v', .int .i64 (er : Int)] ∧ OwnL W v' l7 := h4 _ (Frm.refl _ W)
          obtain ⟨v38, e4, o38⟩ := q4
          try simp only [e4]
          try simp only [tupAt]
          refine OpOK.val (u := (val 4)) (by rfl) ?_ (fun W' _ => rfl)
          try simp only [e4]
          try simp only [tupAt]
          first | (go_simp; done) | (go_simp; with_reducible rfl) | (go_simp; rfl)
        try simp only [Act.put, List.setIfInBounds_toArray, List.set_cons_zero, List.set_cons_succ]
        refine RelO.next (k' := 7) rfl (fun W gW hF => ?_) ?_
        focus
          obtain ⟨h4, h5, _⟩ := hF
          have q4 : ∃ v', (val 4) = .tuple #[rg f7 v', .int .i64 (er : Int)] ∧ OwnL W v' l7 := h4 _ (Frm.refl _ W)
          obtain ⟨v38, e4, o38⟩ := q4
          have e5 : val 5 = (val 4) := h5 _ (Frm.refl _ W)
          try simp only [e5]
          try simp only [e4]
          try simp only [tupAt]
          refine OpOK.val (u := tupAt (val 5) 0) (by rfl) ?_ (fun W' _ => rfl)
          try simp only [e5]
          try simp only [e4]
          try simp only [tupAt]
          first | (go_simp; done) | (go_simp; with_reducible rfl) | (go_simp; rfl)
        try simp only [Act.put, List.setIfInBounds_toArray, List.set_cons_zero, List.set_cons_succ]
        refine RelO.next (k' := 8) rfl (fun W gW hF => ?_) ?_
        focus
          obtain ⟨h4, h5, _⟩ := hF
          have q4 : ∃ v', (val 4) = .tuple #[rg f7 v', .int .i64 (er : Int)] ∧ OwnL W v' l7 := h4 _ (Frm.refl _ W)
          obtain ⟨v38, e4, o38⟩ := q4
          have e5 : val 5 = (val 4) := h5 _ (Frm.refl _ W)
          try simp only [e5]
          try simp only [e4]
          try simp only [tupAt]
          refine OpOK.val (u := tupAt (val 5) 1) (by rfl) ?_ (fun W' _ => rfl)
          try simp only [e5]
          try simp only [e4]
          try simp only [tupAt]
          first | (go_simp; done) | (go_simp; with_reducible rfl) | (go_simp; rfl)
        try simp only [Act.put, List.setIfInBounds_toArray, List.set_cons_zero, List.set_cons_succ]
        refine RelO.next (k' := 9) rfl (fun W gW hF => ?_) ?_
        focus
          have hlt := HN.out W (D.trans gW)
          refine OpOK.made (W' := W.alloc (.cells rz 47)) (u := .pointer (some ⟨W.heap.size, 0, none⟩)) (by rfl) ?_ ((Frm.refl _ W).alloc _) (fun W2 g2 => ⟨W.heap.size, rfl, hlt, (Blk.alloc W _ _).keep g2 (fun h => h)⟩)
          first | (go_simp; done) | (go_simp; with_reducible rfl) | (go_simp; rfl)
        try simp only [Act.put, List.setIfInBounds_toArray, List.set_cons_zero, List.set_cons_succ]
        exact RelO.nil
      intro val w71 gW hF
      obtain ⟨h0, h1, h2, h3, h4, h5, h6, h7, h8, hT⟩ := hF
      have e0 : val 0 = rg f v1 := h0 _ (Frm.refl _ w71)
      have q1 : ∃ z, (val 1) = rg (f) z ∧ SL w71 z l := h1 _ (Frm.refl _ w71)
      obtain ⟨x35, e1, o35⟩ := q1
      have e2 : val 2 = rg g v2 := h2 _ (Frm.refl _ w71)
      have q3 : ∃ z, (val 3) = rg (g) z ∧ SL w71 z m := h3 _ (Frm.refl _ w71)
      obtain ⟨x37, e3, o37⟩ := q3
      have q4 : ∃ v', (val 4) = .tuple #[rg f7 v', .int .i64 (er : Int)] ∧ OwnL w71 v' l7 := h4 _ (Frm.refl _ w71)
      obtain ⟨v38, e4, o38⟩ := q4
      have e5 : val 5 = (val 4) := h5 _ (Frm.refl _ w71)
      have e6 : val 6 = tupAt (val 5) 0 := h6 _ (Frm.refl _ w71)
      have e7 : val 7 = tupAt (val 5) 1 := h7 _ (Frm.refl _ w71)
      have q8 : ∃ b, (val 8) = .pointer (some ⟨b, 0, none⟩) ∧ K ≤ b ∧ Blk w71 b 47 rz := h8 _ (Frm.refl _ w71)
      obtain ⟨B9, e8, hB9, bB9⟩ := q8
      clear hT h0 h1 h2 h3 h4 h5 h6 h7 h8
      simp only [aO, Act.put, List.setIfInBounds_toArray, List.set_cons_zero, List.set_cons_succ, Nat.reduceAdd]
      try simp only [e8]
      try simp only [e7]
      try simp only [e6]
      try simp only [e5]
      try simp only [e4]
      try simp only [e3]
      try simp only [e2]
      try simp only [e1]
      try simp only [e0]
      try simp only [tupAt]
      refine tail_reg1R (w := w7) f7 v38 l7 B9 er rfl rfl rfl rfl rfl rfl rfl rfl rfl rfl rfl (D.trans gW) (Nat.le_trans HE.out hB9) o38 bB9 ?_
      intro w8 g8 c9 s9
      try simp only [Act.put, List.setIfInBounds_toArray, List.set_cons_zero, List.set_cons_succ]
      refine hK _ _ ?_
      have S2 := HS.out _ g8
      have A2 := HA.out _ g8
      have kk := k7.trans g8
      have hz8 := g8.size
      clear gW D HN HE hK HS HA e0 e1 e2 e3 e4 e5 e6 e7 e8 o35 o37 o38 bB9 HRJ k7 g8
      generalize v38 = v9 at *
      -- what is lost
      have l5 := load_reg S2.o
      have l6 := load_reg S2.p
      have HLO := Lib.hid (lost_any f g v5 v6 l m w8 S2.os S2.ps (by have := HL.out; omega) (by have := HLM.out; omega))
      have HRL := Lib.hid (fun W x y (hx : SL W x l) (hy : SL W y m) => rlost_any f g x y l m W hx hy HL.out HLM.out)
      have hL11 : (l.filter (fun x => !decide (x.d ∈ m.map SibI.d))).length ≤ l.length := List.length_filter_le _ _
      generalize l.filter (fun x => !decide (x.d ∈ m.map SibI.d)) = L11 at *
      have HL11 := Lib.hid (show L11.length ≤ 1000 by have := HL.out; omega)
      go_wp2_with (first | ((with_reducible refine wpl_load rfl _ rfl ?_ l5 ?_); (focus rfl)) | ((with_reducible refine wpl_load rfl _ rfl ?_ l6 ?_); (focus rfl)))
      refine HLO.out.mono ?_
      rintro e w9 ⟨v11, rfl, o11, g9, n11⟩
      obtain ⟨a11, c11, rfl, _, _⟩ := Row.slice o11
      have hob11 := Row.blk o11
      have m11 := Blk.alloc w9 39 rz
      clear HLO l5 l6
      go_upto_region 7 with (first
        | ((with_reducible refine wpl_store_blk rfl 39 _ _ rfl (w9.heap.size) (rgc (fun _ => 0) (.slice a11 L11.length c11)) rz ?_ ?_ m11 rfl ?_ ?_ ?_); (focus rfl); (focus rfl); (focus (show _ = some 9; kernel_rfl)); (focus (exact rg_one _ _ _ _)); intro w10 e11 g10 z10))
      rename_i hK
      have f10 : Frm (fun _ => False) w9 w10 := ((Frm.refl _ w9).alloc _).next g10 (fun k hk h => by have h : k = w9.heap.size := h; omega)
      obtain ⟨B11, hB11⟩ : ∃ B11, w9.heap.size = B11 := ⟨_, rfl⟩
      have k10 := g9.trans f10
      have hz9 := g9.size
      have o11 := o11.keep f10 (fun _ _ h => h)
      rw [hB11] at e11 hob11 hz9 ⊢
      have n11' : ∀ q, (Value.slice a11 L11.length c11).ownBlock = some q → B7 < q ∧ q < B11 := fun q e => ⟨by have := n11 q e; omega, hob11 q e⟩
      have hB711 : B7 < B11 := by omega
      have S3 : Jst2 N M B5 B6 B7 B9 B11 f g f7 v1 v2 v5 v6 v7 v9 (.slice a11 L11.length c11) l m l7 L11 w10 := ⟨S2.keep k10, A2.1.keep k10 (fun h => h), A2.2.keep k10 (fun _ _ h => h), c9.keep k10 (fun h => h), s9.keepF k10, e11, o11⟩
      have HS : Hid (∀ W, Frm (fun _ => False) w10 W → Jst2 N M B5 B6 B7 B9 B11 f g f7 v1 v2 v5 v6 v7 v9 (.slice a11 L11.length c11) l m l7 L11 W) := Lib.hid fun W g => S3.keep g
      have kk := kk.trans k10
      clear m11 g10 z10 f10 g9 n11 hob11 e11 o11 S2 S3 A2 c9 s9 k10 hz9 hz8
      generalize hv11 : Value.slice a11 L11.length c11 = v11 at *
      clear hv11
      obtain ⟨q, hq⟩ : ∃ q, (eq8 f g && decide (l.map SibI.d = m.map SibI.d)) = q := ⟨_, rfl⟩
      have HQ := Lib.hid hq
      clear hq
      have D : Frm (fun _ => False) w10 w10.drew := (Frm.refl _ _).drew
      refine wp_region_late 33 0 [] [[], [0], [], [1, 2], [3], [4], [5], [5], [5, 6, 7], [5, 8], [9], [10], [10, 11], [10], [10, 13], [10], [10, 15], [10, 14, 16], [10, 17], [10, 12, 18], [10, 19], [10, 20], [21], [22], [22], [22, 23, 24], [22], [22, 26], [22], [22, 28], [22, 27, 29], [22, 25, 30], [22, 31]] sj7M (sj7R f g f7 v1 v2 v5 v6 v7 v9 v11 l m l7 L11 er q) (by kernel_rfl) rfl rfl rfl (by kernel_rfl) (by kernel_rfl) (by kernel_rfl) (by kernel_rfl) rfl (by kernel_rfl) (by kernel_rfl) (by kernel_rfl) (by kernel_rfl) (fun val => ?_) ?_
      · try dsimp only
        refine RelO.next (k' := 1) rfl (fun W gW hF => ?_) ?_
        focus
          exact OpOK.load (by rfl) _ rfl (by rfl) (load_reg (HS.out W (D.trans gW)).a) (fun W' _ => rfl)
        try simp only [Act.put, List.setIfInBounds_toArray, List.set_cons_zero, List.set_cons_succ]
        refine RelO.next (k' := 2) rfl (fun W gW hF => ?_) ?_
        focus
          obtain ⟨h0, _⟩ := hF
          have e0 : val 0 = rg f7 v7 := h0 _ (Frm.refl _ W)
          try simp only [e0]
          try simp only [tupAt]
          refine OpOK.call (by rfl) ?_ ((their_any (f7) v7 l7 W (HS.out W (D.trans gW)).asl.sl HL7.out).mono ?_)
          · first | (go_simp; done) | (go_simp; with_reducible rfl) | (go_simp; rfl)
          · rintro e W1 ⟨v', rfl, o', g', _⟩
            exact ⟨_, rfl, g', fun W2 g2 => ⟨v', rfl, o'.sl.keepF g2⟩⟩
        try simp only [Act.put, List.setIfInBounds_toArray, List.set_cons_zero, List.set_cons_succ]
        refine RelO.next (k' := 3) rfl (fun W gW hF => ?_) ?_
        focus
          exact OpOK.load (by rfl) _ rfl (by rfl) (load_rreg (HS.out W (D.trans gW)).b) (fun W' _ => rfl)
        try simp only [Act.put, List.setIfInBounds_toArray, List.set_cons_zero, List.set_cons_succ]
        refine RelO.next (k' := 4) rfl (fun W gW hF => ?_) ?_
        focus
          obtain ⟨h1, h2, _⟩ := hF
          have q1 : ∃ z, (val 1) = rg (f7) z ∧ SL W z l7 := h1 _ (Frm.refl _ W)
          obtain ⟨x46, e1, o46⟩ := q1
          have e2 : val 2 = rg f7 v9 := h2 _ (Frm.refl _ W)
          try simp only [e2]
          try simp only [e1]
          try simp only [tupAt]
          refine OpOK.call (by rfl) ?_ ((requal_any (f7) (f7) x46 v9 l7 l7 W o46 (HS.out W (D.trans gW)).bs).mono ?_)
          · first | (go_simp; done) | (go_simp; with_reducible rfl) | (go_simp; rfl)
          · rintro e W1 ⟨he, g1⟩
            rw [eq_selfJ] at he
            subst he
            exact ⟨_, rfl, g1, fun W2 _ => rfl⟩
        try simp only [Act.put, List.setIfInBounds_toArray, List.set_cons_zero, List.set_cons_succ]
        refine RelO.next (k' := 5) rfl (fun W gW hF => ?_) ?_
        focus
          obtain ⟨h3, _⟩ := hF
          have e3 : val 3 = .bool true := h3 _ (Frm.refl _ W)
          try simp only [e3]
          try simp only [tupAt]
          refine OpOK.val (u := .bool false) (by rfl) ?_ (fun W' _ => rfl)
          try simp only [e3]
          try simp only [tupAt]
          first | (go_simp; done) | (go_simp; with_reducible rfl) | (go_simp; rfl)
        try simp only [Act.put, List.setIfInBounds_toArray, List.set_cons_zero, List.set_cons_succ]
        refine RelO.next (k' := 6) rfl (fun W gW hF => ?_) ?_
        focus
          obtain ⟨h4, _⟩ := hF
          have e4 : val 4 = .bool false := h4 _ (Frm.refl _ W)
          try simp only [e4]
          try simp only [tupAt]
          refine OpOK.val (u := .bool false) (by rfl) ?_ (fun W' _ => rfl)
          try simp only [e4]
          try simp only [tupAt]
          first | (go_simp; done) | (go_simp; with_reducible rfl) | (go_simp; rfl)
        try simp only [Act.put, List.setIfInBounds_toArray, List.set_cons_zero, List.set_cons_succ]
        refine RelO.next (k' := 7) rfl (fun W gW hF => ?_) ?_
        focus
          obtain ⟨h5, _⟩ := hF
          have e5 : val 5 = .bool false := h5 _ (Frm.refl _ W)
          try simp only [e5]
          try simp only [tupAt]
          refine OpOK.val (u := .int .i64 (er : Int)) (by rfl) ?_ (fun W' _ => rfl)
          try simp only [e5]
          try simp only [tupAt]
          first | (go_simp; done) | (go_simp; with_reducible rfl) | (go_simp; rfl)
        try simp only [Act.put, List.setIfInBounds_toArray, List.set_cons_zero, List.set_cons_succ]
        refine RelO.next (k' := 8) rfl (fun W gW hF => ?_) ?_
        focus
          obtain ⟨h5, _⟩ := hF
          have e5 : val 5 = .bool false := h5 _ (Frm.refl _ W)
          try simp only [e5]
          try simp only [tupAt]
          refine OpOK.val (u := .int .i64 (er : Int)) (by rfl) ?_ (fun W' _ => rfl)
          try simp only [e5]
          try simp only [tupAt]
          first | (go_simp; done) | (go_simp; with_reducible rfl) | (go_simp; rfl)
        try simp only [Act.put, List.setIfInBounds_toArray, List.set_cons_zero, List.set_cons_succ]
        refine RelO.next (k' := 9) rfl (fun W gW hF => ?_) ?_
        focus
          obtain ⟨h5, h6, h7, _⟩ := hF
          have e5 : val 5 = .bool false := h5 _ (Frm.refl _ W)
          have e6 : val 6 = .int .i64 (er : Int) := h6 _ (Frm.refl _ W)
          have e7 : val 7 = .int .i64 (er : Int) := h7 _ (Frm.refl _ W)
          try simp only [e7]
          try simp only [e6]
          try simp only [e5]
          try simp only [tupAt]
          refine OpOK.val (u := .bool false) (by rfl) ?_ (fun W' _ => rfl)
          try simp only [e7]
          try simp only [e6]
          try simp only [e5]
          try simp only [tupAt]
          first | (go_simp; done) | (go_simp; with_reducible rfl) | (go_simp; rfl)
        try simp only [Act.put, List.setIfInBounds_toArray, List.set_cons_zero, List.set_cons_succ]
        refine RelO.next (k' := 10) rfl (fun W gW hF => ?_) ?_
        focus
          obtain ⟨h5, h8, _⟩ := hF
          have e5 : val 5 = .bool false := h5 _ (Frm.refl _ W)
          have e8 : val 8 = .bool false := h8 _ (Frm.refl _ W)
          try simp only [e8]
          try simp only [e5]
          try simp only [tupAt]
          refine OpOK.val (u := .bool false) (by rfl) ?_ (fun W' _ => rfl)
          try simp only [e8]
          try simp only [e5]
          try simp only [tupAt]
          first | (go_simp; done) | (go_simp; with_reducible rfl) | (go_simp; rfl)
        try simp only [Act.put, List.setIfInBounds_toArray, List.set_cons_zero, List.set_cons_succ]
        refine RelO.next (k' := 11) rfl (fun W gW hF => ?_) ?_
        focus
          obtain ⟨h9, _⟩ := hF
          have e9 : val 9 = .bool false := h9 _ (Frm.refl _ W)
          try simp only [e9]
          try simp only [tupAt]
          refine OpOK.val (u := .bool false) (by rfl) ?_ (fun W' _ => rfl)
          try simp only [e9]
          try simp only [tupAt]
          first | (go_simp; done) | (go_simp; with_reducible rfl) | (go_simp; rfl)
        try simp only [Act.put, List.setIfInBounds_toArray, List.set_cons_zero, List.set_cons_succ]
        refine RelO.next (k' := 12) rfl (fun W gW hF => ?_) ?_
        focus
          obtain ⟨h10, _⟩ := hF
          have e10 : val 10 = .bool false := h10 _ (Frm.refl _ W)
          try simp only [e10]
          try simp only [tupAt]
          exact OpOK.load (by rfl) _ rfl (by rfl) (load_reg (HS.out W (D.trans gW)).c) (fun W' _ => rfl)
        try simp only [Act.put, List.setIfInBounds_toArray, List.set_cons_zero, List.set_cons_succ]
        refine RelO.next (k' := 13) rfl (fun W gW hF => ?_) ?_
        focus
          obtain ⟨h10, h11, _⟩ := hF
          have e10 : val 10 = .bool false := h10 _ (Frm.refl _ W)
          have e11 : val 11 = rg (fun _ => 0) v11 := h11 _ (Frm.refl _ W)
          try simp only [e11]
          try simp only [e10]
          try simp only [tupAt]
          refine OpOK.call (by rfl) ?_ ((their_any (fun _ => 0) v11 L11 W (HS.out W (D.trans gW)).csl.sl HL11.out).mono ?_)
          · first | (go_simp; done) | (go_simp; with_reducible rfl) | (go_simp; rfl)
          · rintro e W1 ⟨v', rfl, o', g', _⟩
            exact ⟨_, rfl, g', fun W2 g2 => ⟨v', rfl, o'.sl.keepF g2⟩⟩
        try simp only [Act.put, List.setIfInBounds_toArray, List.set_cons_zero, List.set_cons_succ]
        refine RelO.next (k' := 14) rfl (fun W gW hF => ?_) ?_
        focus
          obtain ⟨h10, _⟩ := hF
          have e10 : val 10 = .bool false := h10 _ (Frm.refl _ W)
          try simp only [e10]
          try simp only [tupAt]
          exact OpOK.load (by rfl) _ rfl (by rfl) (load_reg (HS.out W (D.trans gW)).j.x) (fun W' _ => rfl)
        try simp only [Act.put, List.setIfInBounds_toArray, List.set_cons_zero, List.set_cons_succ]
        refine RelO.next (k' := 15) rfl (fun W gW hF => ?_) ?_
        focus
          obtain ⟨h10, h13, _⟩ := hF
          have e10 : val 10 = .bool false := h10 _ (Frm.refl _ W)
          have e13 : val 13 = rg f v1 := h13 _ (Frm.refl _ W)
          try simp only [e13]
          try simp only [e10]
          try simp only [tupAt]
          refine OpOK.call (by rfl) ?_ ((their_any (f) v1 l W (HS.out W (D.trans gW)).j.xs HL.out).mono ?_)
          · first | (go_simp; done) | (go_simp; with_reducible rfl) | (go_simp; rfl)
          · rintro e W1 ⟨v', rfl, o', g', _⟩
            exact ⟨_, rfl, g', fun W2 g2 => ⟨v', rfl, o'.sl.keepF g2⟩⟩
        try simp only [Act.put, List.setIfInBounds_toArray, List.set_cons_zero, List.set_cons_succ]
        refine RelO.next (k' := 16) rfl (fun W gW hF => ?_) ?_
        focus
          obtain ⟨h10, _⟩ := hF
          have e10 : val 10 = .bool false := h10 _ (Frm.refl _ W)
          try simp only [e10]
          try simp only [tupAt]
          exact OpOK.load (by rfl) _ rfl (by rfl) (load_reg (HS.out W (D.trans gW)).j.y) (fun W' _ => rfl)
        try simp only [Act.put, List.setIfInBounds_toArray, List.set_cons_zero, List.set_cons_succ]
        refine RelO.next (k' := 17) rfl (fun W gW hF => ?_) ?_
        focus
          obtain ⟨h10, h15, _⟩ := hF
          have e10 : val 10 = .bool false := h10 _ (Frm.refl _ W)
          have e15 : val 15 = rg g v2 := h15 _ (Frm.refl _ W)
          try simp only [e15]
          try simp only [e10]
          try simp only [tupAt]
          refine OpOK.call (by rfl) ?_ ((their_any (g) v2 m W (HS.out W (D.trans gW)).j.ys HLM.out).mono ?_)
          · first | (go_simp; done) | (go_simp; with_reducible rfl) | (go_simp; rfl)
          · rintro e W1 ⟨v', rfl, o', g', _⟩
            exact ⟨_, rfl, g', fun W2 g2 => ⟨v', rfl, o'.sl.keepF g2⟩⟩
        try simp only [Act.put, List.setIfInBounds_toArray, List.set_cons_zero, List.set_cons_succ]
        refine RelO.next (k' := 18) rfl (fun W gW hF => ?_) ?_
        focus
          obtain ⟨h10, h14, h16, _⟩ := hF
          have e10 : val 10 = .bool false := h10 _ (Frm.refl _ W)
          have q14 : ∃ z, (val 14) = rg (f) z ∧ SL W z l := h14 _ (Frm.refl _ W)
          obtain ⟨x59, e14, o59⟩ := q14
          have q16 : ∃ z, (val 16) = rg (g) z ∧ SL W z m := h16 _ (Frm.refl _ W)
          obtain ⟨x61, e16, o61⟩ := q16
          try simp only [e16]
          try simp only [e14]
          try simp only [e10]
          try simp only [tupAt]
          refine OpOK.call (by rfl) ?_ ((HRL.out W _ _ o59 o61).mono ?_)
          · first | (go_simp; done) | (go_simp; with_reducible rfl) | (go_simp; rfl)
          · rintro e W1 ⟨v', rfl, o', g', _⟩
            exact ⟨_, rfl, g', fun W2 g2 => ⟨v', rfl, o'.sl.keepF g2⟩⟩
        try simp only [Act.put, List.setIfInBounds_toArray, List.set_cons_zero, List.set_cons_succ]
        refine RelO.next (k' := 19) rfl (fun W gW hF => ?_) ?_
        focus
          obtain ⟨h10, h17, _⟩ := hF
          have e10 : val 10 = .bool false := h10 _ (Frm.refl _ W)
          have q17 : ∃ z, (val 17) = z ∧ SL W z L11 := h17 _ (Frm.refl _ W)
          obtain ⟨x62, e17, o62⟩ := q17
          try simp only [e17]
          try simp only [e10]
          try simp only [tupAt]
          obtain ⟨a62, c62, rfl, _, _⟩ := o62.slice
          exact OpOK.val (u := rg (fun _ => 0) (.slice a62 L11.length c62)) (by rfl) (by first | (go_simp; done) | (go_simp; with_reducible rfl) | (go_simp; rfl)) (fun W2 g2 => ⟨_, rfl, o62.keepF g2⟩)
        try simp only [Act.put, List.setIfInBounds_toArray, List.set_cons_zero, List.set_cons_succ]
        refine RelO.next (k' := 20) rfl (fun W gW hF => ?_) ?_
        focus
          obtain ⟨h10, h12, h18, _⟩ := hF
          have e10 : val 10 = .bool false := h10 _ (Frm.refl _ W)
          have q12 : ∃ z, (val 12) = rg (fun _ => 0) z ∧ SL W z L11 := h12 _ (Frm.refl _ W)
          obtain ⟨x57, e12, o57⟩ := q12
          have q18 : ∃ z, (val 18) = rg (fun _ => 0) z ∧ SL W z L11 := h18 _ (Frm.refl _ W)
          obtain ⟨x63, e18, o63⟩ := q18
          try simp only [e18]
          try simp only [e12]
          try simp only [e10]
          try simp only [tupAt]
          refine OpOK.call (by rfl) ?_ ((requal_any (fun _ => 0) (fun _ => 0) x57 x63 L11 L11 W o57 o63).mono ?_)
          · first | (go_simp; done) | (go_simp; with_reducible rfl) | (go_simp; rfl)
          · rintro e W1 ⟨he, g1⟩
            rw [eq_selfJ] at he
            subst he
            exact ⟨_, rfl, g1, fun W2 _ => rfl⟩
        try simp only [Act.put, List.setIfInBounds_toArray, List.set_cons_zero, List.set_cons_succ]
        refine RelO.next (k' := 21) rfl (fun W gW hF => ?_) ?_
        focus
          obtain ⟨h10, h19, _⟩ := hF
          have e10 : val 10 = .bool false := h10 _ (Frm.refl _ W)
          have e19 : val 19 = .bool true := h19 _ (Frm.refl _ W)
          try simp only [e19]
          try simp only [e10]
          try simp only [tupAt]
          refine OpOK.val (u := .bool false) (by rfl) ?_ (fun W' _ => rfl)
          try simp only [e19]
          try simp only [e10]
          try simp only [tupAt]
          first | (go_simp; done) | (go_simp; with_reducible rfl) | (go_simp; rfl)
        try simp only [Act.put, List.setIfInBounds_toArray, List.set_cons_zero, List.set_cons_succ]
        refine RelO.next (k' := 22) rfl (fun W gW hF => ?_) ?_
        focus
          obtain ⟨h10, h20, _⟩ := hF
          have e10 : val 10 = .bool false := h10 _ (Frm.refl _ W)
          have e20 : val 20 = .bool false := h20 _ (Frm.refl _ W)
          try simp only [e20]
          try simp only [e10]
          try simp only [tupAt]
          refine OpOK.val (u := .bool false) (by rfl) ?_ (fun W' _ => rfl)
          try simp only [e20]
          try simp only [e10]
          try simp only [tupAt]
          first | (go_simp; done) | (go_simp; with_reducible rfl) | (go_simp; rfl)
        try simp only [Act.put, List.setIfInBounds_toArray, List.set_cons_zero, List.set_cons_succ]
        refine RelO.next (k' := 23) rfl (fun W gW hF => ?_) ?_
        focus
          obtain ⟨h21, _⟩ := hF
          have e21 : val 21 = .bool false := h21 _ (Frm.refl _ W)
          try simp only [e21]
          try simp only [tupAt]
          refine OpOK.val (u := .bool false) (by rfl) ?_ (fun W' _ => rfl)
          try simp only [e21]
          try simp only [tupAt]
          first | (go_simp; done) | (go_simp; with_reducible rfl) | (go_simp; rfl)
        try simp only [Act.put, List.setIfInBounds_toArray, List.set_cons_zero, List.set_cons_succ]
        refine RelO.next (k' := 24) rfl (fun W gW hF => ?_) ?_
        focus
          obtain ⟨h22, _⟩ := hF
          have e22 : val 22 = .bool false := h22 _ (Frm.refl _ W)
          try simp only [e22]
          try simp only [tupAt]
          exact OpOK.load (by rfl) _ rfl (by rfl) (load_reg (HS.out W (D.trans gW)).j.o) (fun W' _ => rfl)
        try simp only [Act.put, List.setIfInBounds_toArray, List.set_cons_zero, List.set_cons_succ]
        refine RelO.next (k' := 25) rfl (fun W gW hF => ?_) ?_
        focus
          obtain ⟨h22, _⟩ := hF
          have e22 : val 22 = .bool false := h22 _ (Frm.refl _ W)
          try simp only [e22]
          try simp only [tupAt]
          exact OpOK.load (by rfl) _ rfl (by rfl) (load_reg (HS.out W (D.trans gW)).j.p) (fun W' _ => rfl)
        try simp only [Act.put, List.setIfInBounds_toArray, List.set_cons_zero, List.set_cons_succ]
        refine RelO.next (k' := 26) rfl (fun W gW hF => ?_) ?_
        focus
          obtain ⟨h22, h23, h24, _⟩ := hF
          have e22 : val 22 = .bool false := h22 _ (Frm.refl _ W)
          have e23 : val 23 = rg f v5 := h23 _ (Frm.refl _ W)
          have e24 : val 24 = rg g v6 := h24 _ (Frm.refl _ W)
          try simp only [e24]
          try simp only [e23]
          try simp only [e22]
          try simp only [tupAt]
          refine OpOK.call (by rfl) ?_ ((same_any f g v5 v6 l m W (HS.out W (D.trans gW)).j.os (HS.out W (D.trans gW)).j.ps).mono ?_)
          · first | (go_simp; done) | (go_simp; with_reducible rfl) | (go_simp; rfl)
          · rintro e W1 ⟨he, g1⟩
            rw [HQ.out] at he
            subst he
            exact ⟨_, rfl, g1, fun W2 _ => rfl⟩
        try simp only [Act.put, List.setIfInBounds_toArray, List.set_cons_zero, List.set_cons_succ]
        refine RelO.next (k' := 27) rfl (fun W gW hF => ?_) ?_
        focus
          obtain ⟨h22, _⟩ := hF
          have e22 : val 22 = .bool false := h22 _ (Frm.refl _ W)
          try simp only [e22]
          try simp only [tupAt]
          exact OpOK.load (by rfl) _ rfl (by rfl) (load_reg (HS.out W (D.trans gW)).j.x) (fun W' _ => rfl)
        try simp only [Act.put, List.setIfInBounds_toArray, List.set_cons_zero, List.set_cons_succ]
        refine RelO.next (k' := 28) rfl (fun W gW hF => ?_) ?_
        focus
          obtain ⟨h22, h26, _⟩ := hF
          have e22 : val 22 = .bool false := h22 _ (Frm.refl _ W)
          have e26 : val 26 = rg f v1 := h26 _ (Frm.refl _ W)
          try simp only [e26]
          try simp only [e22]
          try simp only [tupAt]
          refine OpOK.call (by rfl) ?_ ((their_any (f) v1 l W (HS.out W (D.trans gW)).j.xs HL.out).mono ?_)
          · first | (go_simp; done) | (go_simp; with_reducible rfl) | (go_simp; rfl)
          · rintro e W1 ⟨v', rfl, o', g', _⟩
            exact ⟨_, rfl, g', fun W2 g2 => ⟨v', rfl, o'.sl.keepF g2⟩⟩
        try simp only [Act.put, List.setIfInBounds_toArray, List.set_cons_zero, List.set_cons_succ]
        refine RelO.next (k' := 29) rfl (fun W gW hF => ?_) ?_
        focus
          obtain ⟨h22, _⟩ := hF
          have e22 : val 22 = .bool false := h22 _ (Frm.refl _ W)
          try simp only [e22]
          try simp only [tupAt]
          exact OpOK.load (by rfl) _ rfl (by rfl) (load_reg (HS.out W (D.trans gW)).j.y) (fun W' _ => rfl)
        try simp only [Act.put, List.setIfInBounds_toArray, List.set_cons_zero, List.set_cons_succ]
        refine RelO.next (k' := 30) rfl (fun W gW hF => ?_) ?_
        focus
          obtain ⟨h22, h28, _⟩ := hF
          have e22 : val 22 = .bool false := h22 _ (Frm.refl _ W)
          have e28 : val 28 = rg g v2 := h28 _ (Frm.refl _ W)
          try simp only [e28]
          try simp only [e22]
          try simp only [tupAt]
          refine OpOK.call (by rfl) ?_ ((their_any (g) v2 m W (HS.out W (D.trans gW)).j.ys HLM.out).mono ?_)
          · first | (go_simp; done) | (go_simp; with_reducible rfl) | (go_simp; rfl)
          · rintro e W1 ⟨v', rfl, o', g', _⟩
            exact ⟨_, rfl, g', fun W2 g2 => ⟨v', rfl, o'.sl.keepF g2⟩⟩
        try simp only [Act.put, List.setIfInBounds_toArray, List.set_cons_zero, List.set_cons_succ]
        refine RelO.next (k' := 31) rfl (fun W gW hF => ?_) ?_
        focus
          obtain ⟨h22, h27, h29, _⟩ := hF
          have e22 : val 22 = .bool false := h22 _ (Frm.refl _ W)
          have q27 : ∃ z, (val 27) = rg (f) z ∧ SL W z l := h27 _ (Frm.refl _ W)
          obtain ⟨x72, e27, o72⟩ := q27
          have q29 : ∃ z, (val 29) = rg (g) z ∧ SL W z m := h29 _ (Frm.refl _ W)
          obtain ⟨x74, e29, o74⟩ := q29
          try simp only [e29]
          try simp only [e27]
          try simp only [e22]
          try simp only [tupAt]
          refine OpOK.call (by rfl) ?_ ((rsame_any f g x72 x74 l m W o72 o74).mono ?_)
          · first | (go_simp; done) | (go_simp; with_reducible rfl) | (go_simp; rfl)
          · rintro e W1 ⟨he, g1⟩
            rw [HQ.out] at he
            subst he
            exact ⟨_, rfl, g1, fun W2 _ => rfl⟩
        try simp only [Act.put, List.setIfInBounds_toArray, List.set_cons_zero, List.set_cons_succ]
        refine RelO.next (k' := 32) rfl (fun W gW hF => ?_) ?_
        focus
          obtain ⟨h22, h25, h30, _⟩ := hF
          have e22 : val 22 = .bool false := h22 _ (Frm.refl _ W)
          have e25 : val 25 = .bool q := h25 _ (Frm.refl _ W)
          have e30 : val 30 = .bool q := h30 _ (Frm.refl _ W)
          try simp only [e30]
          try simp only [e25]
          try simp only [e22]
          try simp only [tupAt]
          refine OpOK.val (u := .bool false) (by rfl) ?_ (fun W' _ => rfl)
          try simp only [e30]
          try simp only [e25]
          try simp only [e22]
          try simp only [tupAt]
          first | (go_simp; done) | (go_simp; with_reducible rfl) | (go_simp; rfl)
        try simp only [Act.put, List.setIfInBounds_toArray, List.set_cons_zero, List.set_cons_succ]
        refine RelO.next (k' := 33) rfl (fun W gW hF => ?_) ?_
        focus
          obtain ⟨h22, h31, _⟩ := hF
          have e22 : val 22 = .bool false := h22 _ (Frm.refl _ W)
          have e31 : val 31 = .bool false := h31 _ (Frm.refl _ W)
          try simp only [e31]
          try simp only [e22]
          try simp only [tupAt]
          refine OpOK.val (u := .bool false) (by rfl) ?_ (fun W' _ => rfl)
          try simp only [e31]
          try simp only [e22]
          try simp only [tupAt]
          first | (go_simp; done) | (go_simp; with_reducible rfl) | (go_simp; rfl)
        try simp only [Act.put, List.setIfInBounds_toArray, List.set_cons_zero, List.set_cons_succ]
        exact RelO.nil
      intro val w12 gW hF
      obtain ⟨h0, h1, h2, h3, h4, h5, h6, h7, h8, h9, h10, h11, h12, h13, h14, h15, h16, h17, h18, h19, h20, h21, h22, h23, h24, h25, h26, h27, h28, h29, h30, h31, h32, hT⟩ := hF
      have e0 : val 0 = rg f7 v7 := h0 _ (Frm.refl _ w12)
      have q1 : ∃ z, (val 1) = rg (f7) z ∧ SL w12 z l7 := h1 _ (Frm.refl _ w12)
      obtain ⟨x46, e1, o46⟩ := q1
      have e2 : val 2 = rg f7 v9 := h2 _ (Frm.refl _ w12)
      have e3 : val 3 = .bool true := h3 _ (Frm.refl _ w12)
      have e4 : val 4 = .bool false := h4 _ (Frm.refl _ w12)
      have e5 : val 5 = .bool false := h5 _ (Frm.refl _ w12)
      have e6 : val 6 = .int .i64 (er : Int) := h6 _ (Frm.refl _ w12)
      have e7 : val 7 = .int .i64 (er : Int) := h7 _ (Frm.refl _ w12)
      have e8 : val 8 = .bool false := h8 _ (Frm.refl _ w12)
      have e9 : val 9 = .bool false := h9 _ (Frm.refl _ w12)
      have e10 : val 10 = .bool false := h10 _ (Frm.refl _ w12)
      have e11 : val 11 = rg (fun _ => 0) v11 := h11 _ (Frm.refl _ w12)
      have q12 : ∃ z, (val 12) = rg (fun _ => 0) z ∧ SL w12 z L11 := h12 _ (Frm.refl _ w12)
      obtain ⟨x57, e12, o57⟩ := q12
      have e13 : val 13 = rg f v1 := h13 _ (Frm.refl _ w12)
      have q14 : ∃ z, (val 14) = rg (f) z ∧ SL w12 z l := h14 _ (Frm.refl _ w12)
      obtain ⟨x59, e14, o59⟩ := q14
      have e15 : val 15 = rg g v2 := h15 _ (Frm.refl _ w12)
      have q16 : ∃ z, (val 16) = rg (g) z ∧ SL w12 z m := h16 _ (Frm.refl _ w12)
      obtain ⟨x61, e16, o61⟩ := q16
      have q17 : ∃ z, (val 17) = z ∧ SL w12 z L11 := h17 _ (Frm.refl _ w12)
      obtain ⟨x62, e17, o62⟩ := q17
      have q18 : ∃ z, (val 18) = rg (fun _ => 0) z ∧ SL w12 z L11 := h18 _ (Frm.refl _ w12)
      obtain ⟨x63, e18, o63⟩ := q18
      have e19 : val 19 = .bool true := h19 _ (Frm.refl _ w12)
      have e20 : val 20 = .bool false := h20 _ (Frm.refl _ w12)
      have e21 : val 21 = .bool false := h21 _ (Frm.refl _ w12)
      have e22 : val 22 = .bool false := h22 _ (Frm.refl _ w12)
      have e23 : val 23 = rg f v5 := h23 _ (Frm.refl _ w12)
      have e24 : val 24 = rg g v6 := h24 _ (Frm.refl _ w12)
      have e25 : val 25 = .bool q := h25 _ (Frm.refl _ w12)
      have e26 : val 26 = rg f v1 := h26 _ (Frm.refl _ w12)
      have q27 : ∃ z, (val 27) = rg (f) z ∧ SL w12 z l := h27 _ (Frm.refl _ w12)
      obtain ⟨x72, e27, o72⟩ := q27
      have e28 : val 28 = rg g v2 := h28 _ (Frm.refl _ w12)
      have q29 : ∃ z, (val 29) = rg (g) z ∧ SL w12 z m := h29 _ (Frm.refl _ w12)
      obtain ⟨x74, e29, o74⟩ := q29
      have e30 : val 30 = .bool q := h30 _ (Frm.refl _ w12)
      have e31 : val 31 = .bool false := h31 _ (Frm.refl _ w12)
      have e32 : val 32 = .bool false := h32 _ (Frm.refl _ w12)
      clear hT h0 h1 h2 h3 h4 h5 h6 h7 h8 h9 h10 h11 h12 h13 h14 h15 h16 h17 h18 h19 h20 h21 h22 h23 h24 h25 h26 h27 h28 h29 h30 h31 h32
      simp only [aO, Act.put, List.setIfInBounds_toArray, List.set_cons_zero, List.set_cons_succ, Nat.reduceAdd]
      try simp only [e32]
      try simp only [e31]
      try simp only [e30]
      try simp only [e29]
      try simp only [e28]
      try simp only [e27]
      try simp only [e26]
      try simp only [e25]
      try simp only [e24]
      try simp only [e23]
      try simp only [e22]
      try simp only [e21]
      try simp only [e20]
      try simp only [e19]
      try simp only [e18]
      try simp only [e17]
      try simp only [e16]
      try simp only [e15]
      try simp only [e14]
      try simp only [e13]
      try simp only [e12]
      try simp only [e11]
      try simp only [e10]
      try simp only [e9]
      try simp only [e8]
      try simp only [e7]
      try simp only [e6]
      try simp only [e5]
      try simp only [e4]
      try simp only [e3]
      try simp only [e2]
      try simp only [e1]
      try simp only [e0]
      try simp only [tupAt]
      refine wpTail.doneN ?_
      refine hK _ _ ?_
      have gD := D.trans gW
      clear gW D hK HQ HRL e0 e1 e2 e3 e4 e5 e6 e7 e8 e9 e10 e11 e12 e13 e14 e15 e16 e17 e18 e19 e20 e21 e22 e23 e24 e25 e26 e27 e28 e29 e30 e31 e32 o46 o57 o59 o61 o62 o63 o72 o74
      have S3 := HS.out w12 gD
      have kk := kk.trans gD
      -- the answers are written over
      have lA := load_reg S3.a
      have HSP := Lib.hid (spoilt_any f7 v7 l7 w12 S3.asl)
      go_wp2_with (first | ((with_reducible refine wpl_load rfl _ rfl ?_ lA ?_); (focus rfl)))
      refine HSP.out.mono ?_
      rintro e w13 ⟨rfl, g13⟩
      have c13 := S3.c.keep g13 (fun e => by have := (n7' _ e).2; omega)
      have o13 := S3.csl.keep g13 (fun q e e2 => by have := (n7' _ e2).2; have := (n11' _ e).1; omega)
      have kk := kk.next g13 (fun q hq e => by have := (n7' _ e).1; omega)
      clear lA HSP g13 S3 HS gD
      have lA := load_reg c13
      have HSP := Lib.hid (spoilt_any (fun _ => 0) v11 L11 w13 o13)
      go_wp2_with (first | ((with_reducible refine wpl_load rfl _ rfl ?_ lA ?_); (focus rfl)))
      refine HSP.out.mono ?_
      rintro e w14 ⟨rfl, g14⟩
      have kk := kk.next g14 (fun q hq e => by have := (n11' _ e).1; omega)
      clear lA HSP g14 c13 o13
      have S4 := HJ5.out.keep kk
      -- each value in its place
      have l5 := load_reg S4.o
      have HMP := Lib.hid (smap_any f v5 l w14 S4.os HL.out)
      go_wp2_with (first | ((with_reducible refine wpl_load rfl _ rfl ?_ l5 ?_); (focus rfl)))
      refine HMP.out.mono ?_
      rintro e w15 ⟨v12, rfl, o12, g15, n12⟩
      obtain ⟨a12, c12, rfl, _, hc12⟩ := Row.slice o12
      unfold maxLen at hc12
      have hob12 := Row.blk o12
      have m12 := Blk.alloc w15 70 rz
      clear HMP l5
      go_upto_region 12 with (first
        | ((with_reducible refine wpl_store_blk rfl 70 _ _ rfl (w15.heap.size) (rgc f (.slice a12 l.length c12)) rz ?_ ?_ m12 rfl ?_ ?_ ?_); (focus rfl); (focus rfl); (focus (show _ = some 9; kernel_rfl)); (focus (exact rg_one _ _ _ _)); intro w16 e12 g16 z16))
      have f16 : Frm (fun _ => False) w15 w16 := ((Frm.refl _ w15).alloc _).next g16 (fun k hk h => by have h : k = w15.heap.size := h; omega)
      have S5 := S4.keep (g15.trans f16)
      have kk := kk.trans (g15.trans f16)
      have i12 : IL w16 (.slice a12 l.length c12) l := (o12.keep f16 (fun _ _ h => h)).il
      obtain ⟨B12, hB12⟩ : ∃ B12, w15.heap.size = B12 := ⟨_, rfl⟩
      rw [hB12] at e12 ⊢
      obtain ⟨ax, cx, ev1, _, hcx⟩ := S5.xs.slice
      subst ev1
      unfold maxLen at hcx
      clear m12 g16 z16 f16 g15 n12 hob12 o12 S4 hB12
      have lc := load_ictx e12
      have lx := load_ctx S5.x
      have E := fEq f f true ((eq8_iff _ _).2 fun _ _ => rfl)
      have c8 := e12.cell 8 rfl
      have d8 := S5.x.cell 8 rfl
      have a3 := Try.isAgg37
      have z3 := Try.sizeOf37
      have a4 := Try.isAgg68
      have z4 := Try.sizeOf68
      have HS : Hid (∀ W, Frm (fun _ => False) w16 W → Jst N M B5 B6 f g (.slice ax l.length cx) v2 v5 v6 l m W) := Lib.hid fun W g => S5.keep g
      have HB : Hid (∀ W, Frm (fun _ => False) w16 W → Blk W B12 70 (rgc f (.slice a12 l.length c12)) ∧ IL W (.slice a12 l.length c12) l) := Lib.hid fun W g => ⟨e12.keep g (fun h => h), i12.keepF g⟩
      clear e12 i12 S5
      go_wp2_with (first | ((with_reducible refine wpl_load rfl _ rfl ?_ lc ?_); (focus rfl)) | ((with_reducible refine wpl_load rfl _ rfl ?_ lx ?_); (focus rfl)))
      clear lc lx E c8 d8
      go_loopw [13] (fun i wr => ∃ k : Nat, k ≤ l.length ∧ i = .int .i64 k ∧ Frm (fun _ => False) w16 wr) (fun i _ => l.length - (intOf i).toNat)
      case atStart => exact ⟨0, Nat.zero_le _, rfl, Frm.refl _ _⟩
      case round =>
        obtain ⟨k, hk, rfl, f1⟩ := hrel
        have c8 := (HB.out wr f1).1.cell 8 rfl
        have F1 := Lib.hid f1
        clear f1
        by_cases hlt : k < l.length
        · obtain ⟨g1, off1, ha1, _, _, _⟩ := (HB.out wr F1.out).2.cells k hlt
          obtain ⟨g2, off2, ha2, _, _, _⟩ := (HS.out wr F1.out).xs.cells k hlt
          subst ha1 ha2
          obtain ⟨x, hx⟩ : ∃ x, l[k] = x := ⟨_, rfl⟩
          have HX1 : Hid (∀ W, Frm (fun _ => False) wr W → W.cell? ⟨g1, off1 + k * 3, none⟩ = some (.int .u8 x.r) ∧ W.cell? ⟨g1, off1 + k * 3 + 1, none⟩ = some (.int .u32 x.n) ∧ W.cell? ⟨g1, off1 + k * 3 + 2, none⟩ = some (.int .i64 (x.s.length : Int))) := Lib.hid fun W gW => by
            obtain ⟨g9, off9, e, x0, x1, x2⟩ := (HB.out W (F1.out.trans gW)).2.cells k hlt
            cases e
            rw [hx] at x0 x1 x2
            exact ⟨x0, x1, x2⟩
          have HX2 : Hid (∀ W, Frm (fun _ => False) wr W → W.cell? ⟨g2, off2 + k * 3, none⟩ = some (.int .u8 x.r) ∧ W.cell? ⟨g2, off2 + k * 3 + 1, none⟩ = some (.int .u32 x.n) ∧ W.cell? ⟨g2, off2 + k * 3 + 2, none⟩ = some (.string (bs x.s))) := Lib.hid fun W gW => by
            obtain ⟨g9, off9, e, x0, x1, x2⟩ := (HS.out W (F1.out.trans gW)).xs.cells k hlt
            cases e
            rw [hx] at x0 x1 x2
            exact ⟨x0, x1, x2⟩
          have HB12 : Hid (∀ W, Frm (fun _ => False) wr W → Blk W B12 70 (rgc f (.slice (some ⟨g1, off1, none⟩) l.length c12))) := Lib.hid fun W gW => (HB.out W (F1.out.trans gW)).1
          have HBX : Hid (∀ W, Frm (fun _ => False) wr W → Blk W N 39 (rgc f (.slice (some ⟨g2, off2, none⟩) l.length cx))) := Lib.hid fun W gW => (HS.out W (F1.out.trans gW)).x
          obtain ⟨n, hn⟩ : ∃ n, l.length = n := ⟨_, rfl⟩
          have HNN := Lib.hid hn
          have hki' : (k : Int) < (l.length : Int) := by omega
          have hki : (k : Int) < (n : Int) := by omega
          have hk0 : (0 : Int) ≤ (k : Int) := by omega
          have hn3 : (n : Int) ≤ 1000 := by have := HL.out; omega
          have hc12' : n ≤ c12 := by omega
          have hcx' : n ≤ cx := by omega
          rw [hn] at HB12 HBX
          clear hx hn
          go_upto_region 17 with fail
          rename_i hK
          clear c8
          have D : Frm (fun _ => False) wr wr.drew := (Frm.refl _ _).drew
          refine wp_region_late 29 0 [] [[], [0], [], [1, 2], [3], [4], [], [6], [], [7, 8], [9], [10], [5, 11], [12], [13], [13, 14], [13], [13, 15, 16], [13, 17], [13, 18], [13], [13, 20], [13], [13, 21, 22], [13, 23], [13, 24], [13, 25], [13, 19, 26], [13, 27]] sj17M (sj17R N B12 g1 off1 n c12 g2 off2 n cx k x) (by kernel_rfl) rfl rfl rfl (by kernel_rfl) (by kernel_rfl) (by kernel_rfl) (by kernel_rfl) rfl (by kernel_rfl) (by kernel_rfl) (by kernel_rfl) (by kernel_rfl) (fun val => ?_) ?_
          · try dsimp only
            refine RelO.next (k' := 1) rfl (fun W gW hF => ?_) ?_
            focus
              refine OpOK.val (u := .pointer (some ⟨B12, 8, none⟩)) (by rfl) ?_ (fun W' _ => rfl)
              try simp only [tupAt]
              first | (go_simp; done) | (go_simp; with_reducible rfl) | (go_simp; rfl)
            try simp only [Act.put, List.setIfInBounds_toArray, List.set_cons_zero, List.set_cons_succ]
            refine RelO.next (k' := 2) rfl (fun W gW hF => ?_) ?_
            focus
              obtain ⟨h0, _⟩ := hF
              have e0 : val 0 = .pointer (some ⟨B12, 8, none⟩) := h0 _ (Frm.refl _ W)
              try simp only [e0]
              try simp only [tupAt]
              have c8 := (HB12.out W (D.trans gW)).cell 8 rfl
              have a3 := Try.isAgg68
              have z3 := Try.sizeOf68
              exact OpOK.val (u := .slice (some ⟨g1, off1, none⟩) n c12) (by rfl) (by first | (go_simp; done) | (go_simp; with_reducible rfl) | (go_simp; rfl)) (fun W' _ => rfl)
            try simp only [Act.put, List.setIfInBounds_toArray, List.set_cons_zero, List.set_cons_succ]
            refine RelO.next (k' := 3) rfl (fun W gW hF => ?_) ?_
            focus
              refine OpOK.val (u := .int .i64 (k : Int)) (by rfl) ?_ (fun W' _ => rfl)
              try simp only [tupAt]
              first | (go_simp; done) | (go_simp; with_reducible rfl) | (go_simp; rfl)
            try simp only [Act.put, List.setIfInBounds_toArray, List.set_cons_zero, List.set_cons_succ]
            refine RelO.next (k' := 4) rfl (fun W gW hF => ?_) ?_
            focus
              obtain ⟨h1, h2, _⟩ := hF
              have e1 : val 1 = .slice (some ⟨g1, off1, none⟩) n c12 := h1 _ (Frm.refl _ W)
              have e2 : val 2 = .int .i64 (k : Int) := h2 _ (Frm.refl _ W)
              try simp only [e2]
              try simp only [e1]
              try simp only [tupAt]
              refine OpOK.val (u := .pointer (some ⟨g1, off1 + k * 3, none⟩)) (by rfl) ?_ (fun W' _ => rfl)
              try simp only [e2]
              try simp only [e1]
              try simp only [tupAt]
              first | (go_simp; done) | (go_simp; with_reducible rfl) | (go_simp; rfl)
            try simp only [Act.put, List.setIfInBounds_toArray, List.set_cons_zero, List.set_cons_succ]
            refine RelO.next (k' := 5) rfl (fun W gW hF => ?_) ?_
            focus
              obtain ⟨h3, _⟩ := hF
              have e3 : val 3 = .pointer (some ⟨g1, off1 + k * 3, none⟩) := h3 _ (Frm.refl _ W)
              try simp only [e3]
              try simp only [tupAt]
              refine OpOK.val (u := .pointer (some ⟨g1, off1 + k * 3, none⟩)) (by rfl) ?_ (fun W' _ => rfl)
              try simp only [e3]
              try simp only [tupAt]
              first | (go_simp; done) | (go_simp; with_reducible rfl) | (go_simp; rfl)
            try simp only [Act.put, List.setIfInBounds_toArray, List.set_cons_zero, List.set_cons_succ]
            refine RelO.next (k' := 6) rfl (fun W gW hF => ?_) ?_
            focus
              obtain ⟨h4, _⟩ := hF
              have e4 : val 4 = .pointer (some ⟨g1, off1 + k * 3, none⟩) := h4 _ (Frm.refl _ W)
              try simp only [e4]
              try simp only [tupAt]
              obtain ⟨x0, x1, x2⟩ := HX1.out W (D.trans gW)
              exact OpOK.val (u := .agg (dv x.r x.n)) (by rfl) (by first | (go_simp; done) | (go_simp; with_reducible rfl) | (go_simp; rfl)) (fun W' _ => rfl)
            try simp only [Act.put, List.setIfInBounds_toArray, List.set_cons_zero, List.set_cons_succ]
            refine RelO.next (k' := 7) rfl (fun W gW hF => ?_) ?_
            focus
              refine OpOK.val (u := .pointer (some ⟨N, 8, none⟩)) (by rfl) ?_ (fun W' _ => rfl)
              try simp only [tupAt]
              first | (go_simp; done) | (go_simp; with_reducible rfl) | (go_simp; rfl)
            try simp only [Act.put, List.setIfInBounds_toArray, List.set_cons_zero, List.set_cons_succ]
            refine RelO.next (k' := 8) rfl (fun W gW hF => ?_) ?_
            focus
              obtain ⟨h6, _⟩ := hF
              have e6 : val 6 = .pointer (some ⟨N, 8, none⟩) := h6 _ (Frm.refl _ W)
              try simp only [e6]
              try simp only [tupAt]
              have c8 := (HBX.out W (D.trans gW)).cell 8 rfl
              have a3 := Try.isAgg37
              have z3 := Try.sizeOf37
              exact OpOK.val (u := .slice (some ⟨g2, off2, none⟩) n cx) (by rfl) (by first | (go_simp; done) | (go_simp; with_reducible rfl) | (go_simp; rfl)) (fun W' _ => rfl)
            try simp only [Act.put, List.setIfInBounds_toArray, List.set_cons_zero, List.set_cons_succ]
            refine RelO.next (k' := 9) rfl (fun W gW hF => ?_) ?_
            focus
              refine OpOK.val (u := .int .i64 (k : Int)) (by rfl) ?_ (fun W' _ => rfl)
              try simp only [tupAt]
              first | (go_simp; done) | (go_simp; with_reducible rfl) | (go_simp; rfl)
            try simp only [Act.put, List.setIfInBounds_toArray, List.set_cons_zero, List.set_cons_succ]
            refine RelO.next (k' := 10) rfl (fun W gW hF => ?_) ?_
            focus
              obtain ⟨h7, h8, _⟩ := hF
              have e7 : val 7 = .slice (some ⟨g2, off2, none⟩) n cx := h7 _ (Frm.refl _ W)
              have e8 : val 8 = .int .i64 (k : Int) := h8 _ (Frm.refl _ W)
              try simp only [e8]
              try simp only [e7]
              try simp only [tupAt]
              refine OpOK.val (u := .pointer (some ⟨g2, off2 + k * 3, none⟩)) (by rfl) ?_ (fun W' _ => rfl)
              try simp only [e8]
              try simp only [e7]
              try simp only [tupAt]
              first | (go_simp; done) | (go_simp; with_reducible rfl) | (go_simp; rfl)
            try simp only [Act.put, List.setIfInBounds_toArray, List.set_cons_zero, List.set_cons_succ]
            refine RelO.next (k' := 11) rfl (fun W gW hF => ?_) ?_
            focus
              obtain ⟨h9, _⟩ := hF
              have e9 : val 9 = .pointer (some ⟨g2, off2 + k * 3, none⟩) := h9 _ (Frm.refl _ W)
              try simp only [e9]
              try simp only [tupAt]
              refine OpOK.val (u := .pointer (some ⟨g2, off2 + k * 3, none⟩)) (by rfl) ?_ (fun W' _ => rfl)
              try simp only [e9]
              try simp only [tupAt]
              first | (go_simp; done) | (go_simp; with_reducible rfl) | (go_simp; rfl)
            try simp only [Act.put, List.setIfInBounds_toArray, List.set_cons_zero, List.set_cons_succ]
            refine RelO.next (k' := 12) rfl (fun W gW hF => ?_) ?_
            focus
              obtain ⟨h10, _⟩ := hF
              have e10 : val 10 = .pointer (some ⟨g2, off2 + k * 3, none⟩) := h10 _ (Frm.refl _ W)
              try simp only [e10]
              try simp only [tupAt]
              obtain ⟨x0, x1, x2⟩ := HX2.out W (D.trans gW)
              exact OpOK.val (u := .agg (dv x.r x.n)) (by rfl) (by first | (go_simp; done) | (go_simp; with_reducible rfl) | (go_simp; rfl)) (fun W' _ => rfl)
            try simp only [Act.put, List.setIfInBounds_toArray, List.set_cons_zero, List.set_cons_succ]
            refine RelO.next (k' := 13) rfl (fun W gW hF => ?_) ?_
            focus
              obtain ⟨h5, h11, _⟩ := hF
              have e5 : val 5 = .agg (dv x.r x.n) := h5 _ (Frm.refl _ W)
              have e11 : val 11 = .agg (dv x.r x.n) := h11 _ (Frm.refl _ W)
              try simp only [e11]
              try simp only [e5]
              try simp only [tupAt]
              have E : ∀ W, (Op.equalIn 10000 27 (.agg (dv x.r x.n)) (.agg (dv x.r x.n))).run Try.prog W = .ok true W := fun W => by rw [run_eq_dot]; simp
              exact OpOK.val (u := .bool false) (by rfl) (by first | (go_simp; done) | (go_simp; with_reducible rfl) | (go_simp; rfl)) (fun W' _ => rfl)
            try simp only [Act.put, List.setIfInBounds_toArray, List.set_cons_zero, List.set_cons_succ]
            refine RelO.next (k' := 14) rfl (fun W gW hF => ?_) ?_
            focus
              obtain ⟨h12, _⟩ := hF
              have e12 : val 12 = .bool false := h12 _ (Frm.refl _ W)
              try simp only [e12]
              try simp only [tupAt]
              refine OpOK.val (u := .bool false) (by rfl) ?_ (fun W' _ => rfl)
              try simp only [e12]
              try simp only [tupAt]
              first | (go_simp; done) | (go_simp; with_reducible rfl) | (go_simp; rfl)
            try simp only [Act.put, List.setIfInBounds_toArray, List.set_cons_zero, List.set_cons_succ]
            refine RelO.next (k' := 15) rfl (fun W gW hF => ?_) ?_
            focus
              obtain ⟨h13, _⟩ := hF
              have e13 : val 13 = .bool false := h13 _ (Frm.refl _ W)
              try simp only [e13]
              try simp only [tupAt]
              refine OpOK.val (u := .pointer (some ⟨B12, 8, none⟩)) (by rfl) ?_ (fun W' _ => rfl)
              try simp only [e13]
              try simp only [tupAt]
              first | (go_simp; done) | (go_simp; with_reducible rfl) | (go_simp; rfl)
            try simp only [Act.put, List.setIfInBounds_toArray, List.set_cons_zero, List.set_cons_succ]
            refine RelO.next (k' := 16) rfl (fun W gW hF => ?_) ?_
            focus
              obtain ⟨h13, h14, _⟩ := hF
              have e13 : val 13 = .bool false := h13 _ (Frm.refl _ W)
              have e14 : val 14 = .pointer (some ⟨B12, 8, none⟩) := h14 _ (Frm.refl _ W)
              try simp only [e14]
              try simp only [e13]
              try simp only [tupAt]
              have c8 := (HB12.out W (D.trans gW)).cell 8 rfl
              have a3 := Try.isAgg68
              have z3 := Try.sizeOf68
              exact OpOK.val (u := .slice (some ⟨g1, off1, none⟩) n c12) (by rfl) (by first | (go_simp; done) | (go_simp; with_reducible rfl) | (go_simp; rfl)) (fun W' _ => rfl)
            try simp only [Act.put, List.setIfInBounds_toArray, List.set_cons_zero, List.set_cons_succ]
            refine RelO.next (k' := 17) rfl (fun W gW hF => ?_) ?_
            focus
              obtain ⟨h13, _⟩ := hF
              have e13 : val 13 = .bool false := h13 _ (Frm.refl _ W)
              try simp only [e13]
              try simp only [tupAt]
              refine OpOK.val (u := .int .i64 (k : Int)) (by rfl) ?_ (fun W' _ => rfl)
              try simp only [e13]
              try simp only [tupAt]
              first | (go_simp; done) | (go_simp; with_reducible rfl) | (go_simp; rfl)
            try simp only [Act.put, List.setIfInBounds_toArray, List.set_cons_zero, List.set_cons_succ]
            refine RelO.next (k' := 18) rfl (fun W gW hF => ?_) ?_
            focus
              obtain ⟨h13, h15, h16, _⟩ := hF
              have e13 : val 13 = .bool false := h13 _ (Frm.refl _ W)
              have e15 : val 15 = .slice (some ⟨g1, off1, none⟩) n c12 := h15 _ (Frm.refl _ W)
              have e16 : val 16 = .int .i64 (k : Int) := h16 _ (Frm.refl _ W)
              try simp only [e16]
              try simp only [e15]
              try simp only [e13]
              try simp only [tupAt]
              refine OpOK.val (u := .pointer (some ⟨g1, off1 + k * 3, none⟩)) (by rfl) ?_ (fun W' _ => rfl)
              try simp only [e16]
              try simp only [e15]
              try simp only [e13]
              try simp only [tupAt]
              first | (go_simp; done) | (go_simp; with_reducible rfl) | (go_simp; rfl)
            try simp only [Act.put, List.setIfInBounds_toArray, List.set_cons_zero, List.set_cons_succ]
            refine RelO.next (k' := 19) rfl (fun W gW hF => ?_) ?_
            focus
              obtain ⟨h13, h17, _⟩ := hF
              have e13 : val 13 = .bool false := h13 _ (Frm.refl _ W)
              have e17 : val 17 = .pointer (some ⟨g1, off1 + k * 3, none⟩) := h17 _ (Frm.refl _ W)
              try simp only [e17]
              try simp only [e13]
              try simp only [tupAt]
              refine OpOK.val (u := .pointer (some ⟨g1, off1 + k * 3 + 2, none⟩)) (by rfl) ?_ (fun W' _ => rfl)
              try simp only [e17]
              try simp only [e13]
              try simp only [tupAt]
              first | (go_simp; done) | (go_simp; with_reducible rfl) | (go_simp; rfl)
            try simp only [Act.put, List.setIfInBounds_toArray, List.set_cons_zero, List.set_cons_succ]
            refine RelO.next (k' := 20) rfl (fun W gW hF => ?_) ?_
            focus
              obtain ⟨h13, h18, _⟩ := hF
              have e13 : val 13 = .bool false := h13 _ (Frm.refl _ W)
              have e18 : val 18 = .pointer (some ⟨g1, off1 + k * 3 + 2, none⟩) := h18 _ (Frm.refl _ W)
              try simp only [e18]
              try simp only [e13]
              try simp only [tupAt]
              obtain ⟨x0, x1, x2⟩ := HX1.out W (D.trans gW)
              exact OpOK.val (u := .int .i64 (x.s.length : Int)) (by rfl) (by first | (go_simp; done) | (go_simp; with_reducible rfl) | (go_simp; rfl)) (fun W' _ => rfl)
            try simp only [Act.put, List.setIfInBounds_toArray, List.set_cons_zero, List.set_cons_succ]
            refine RelO.next (k' := 21) rfl (fun W gW hF => ?_) ?_
            focus
              obtain ⟨h13, _⟩ := hF
              have e13 : val 13 = .bool false := h13 _ (Frm.refl _ W)
              try simp only [e13]
              try simp only [tupAt]
              refine OpOK.val (u := .pointer (some ⟨N, 8, none⟩)) (by rfl) ?_ (fun W' _ => rfl)
              try simp only [e13]
              try simp only [tupAt]
              first | (go_simp; done) | (go_simp; with_reducible rfl) | (go_simp; rfl)
            try simp only [Act.put, List.setIfInBounds_toArray, List.set_cons_zero, List.set_cons_succ]
            refine RelO.next (k' := 22) rfl (fun W gW hF => ?_) ?_
            focus
              obtain ⟨h13, h20, _⟩ := hF
              have e13 : val 13 = .bool false := h13 _ (Frm.refl _ W)
              have e20 : val 20 = .pointer (some ⟨N, 8, none⟩) := h20 _ (Frm.refl _ W)
              try simp only [e20]
              try simp only [e13]
              try simp only [tupAt]
              have c8 := (HBX.out W (D.trans gW)).cell 8 rfl
              have a3 := Try.isAgg37
              have z3 := Try.sizeOf37
              exact OpOK.val (u := .slice (some ⟨g2, off2, none⟩) n cx) (by rfl) (by first | (go_simp; done) | (go_simp; with_reducible rfl) | (go_simp; rfl)) (fun W' _ => rfl)
            try simp only [Act.put, List.setIfInBounds_toArray, List.set_cons_zero, List.set_cons_succ]
            refine RelO.next (k' := 23) rfl (fun W gW hF => ?_) ?_
            focus
              obtain ⟨h13, _⟩ := hF
              have e13 : val 13 = .bool false := h13 _ (Frm.refl _ W)
              try simp only [e13]
              try simp only [tupAt]
              refine OpOK.val (u := .int .i64 (k : Int)) (by rfl) ?_ (fun W' _ => rfl)
              try simp only [e13]
              try simp only [tupAt]
              first | (go_simp; done) | (go_simp; with_reducible rfl) | (go_simp; rfl)
            try simp only [Act.put, List.setIfInBounds_toArray, List.set_cons_zero, List.set_cons_succ]
            refine RelO.next (k' := 24) rfl (fun W gW hF => ?_) ?_
            focus
              obtain ⟨h13, h21, h22, _⟩ := hF
              have e13 : val 13 = .bool false := h13 _ (Frm.refl _ W)
              have e21 : val 21 = .slice (some ⟨g2, off2, none⟩) n cx := h21 _ (Frm.refl _ W)
              have e22 : val 22 = .int .i64 (k : Int) := h22 _ (Frm.refl _ W)
              try simp only [e22]
              try simp only [e21]
              try simp only [e13]
              try simp only [tupAt]
              refine OpOK.val (u := .pointer (some ⟨g2, off2 + k * 3, none⟩)) (by rfl) ?_ (fun W' _ => rfl)
              try simp only [e22]
              try simp only [e21]
              try simp only [e13]
              try simp only [tupAt]
              first | (go_simp; done) | (go_simp; with_reducible rfl) | (go_simp; rfl)
            try simp only [Act.put, List.setIfInBounds_toArray, List.set_cons_zero, List.set_cons_succ]
            refine RelO.next (k' := 25) rfl (fun W gW hF => ?_) ?_
            focus
              obtain ⟨h13, h23, _⟩ := hF
              have e13 : val 13 = .bool false := h13 _ (Frm.refl _ W)
              have e23 : val 23 = .pointer (some ⟨g2, off2 + k * 3, none⟩) := h23 _ (Frm.refl _ W)
              try simp only [e23]
              try simp only [e13]
              try simp only [tupAt]
              refine OpOK.val (u := .pointer (some ⟨g2, off2 + k * 3 + 2, none⟩)) (by rfl) ?_ (fun W' _ => rfl)
              try simp only [e23]
              try simp only [e13]
              try simp only [tupAt]
              first | (go_simp; done) | (go_simp; with_reducible rfl) | (go_simp; rfl)
            try simp only [Act.put, List.setIfInBounds_toArray, List.set_cons_zero, List.set_cons_succ]
            refine RelO.next (k' := 26) rfl (fun W gW hF => ?_) ?_
            focus
              obtain ⟨h13, h24, _⟩ := hF
              have e13 : val 13 = .bool false := h13 _ (Frm.refl _ W)
              have e24 : val 24 = .pointer (some ⟨g2, off2 + k * 3 + 2, none⟩) := h24 _ (Frm.refl _ W)
              try simp only [e24]
              try simp only [e13]
              try simp only [tupAt]
              obtain ⟨x0, x1, x2⟩ := HX2.out W (D.trans gW)
              exact OpOK.val (u := .string (bs x.s)) (by rfl) (by first | (go_simp; done) | (go_simp; with_reducible rfl) | (go_simp; rfl)) (fun W' _ => rfl)
            try simp only [Act.put, List.setIfInBounds_toArray, List.set_cons_zero, List.set_cons_succ]
            refine RelO.next (k' := 27) rfl (fun W gW hF => ?_) ?_
            focus
              obtain ⟨h13, h25, _⟩ := hF
              have e13 : val 13 = .bool false := h13 _ (Frm.refl _ W)
              have e25 : val 25 = .string (bs x.s) := h25 _ (Frm.refl _ W)
              try simp only [e25]
              try simp only [e13]
              try simp only [tupAt]
              refine OpOK.val (u := .int .i64 (x.s.length : Int)) (by rfl) ?_ (fun W' _ => rfl)
              try simp only [e25]
              try simp only [e13]
              try simp only [tupAt]
              first | (go_simp; done) | (go_simp; with_reducible rfl) | (go_simp; rfl)
            try simp only [Act.put, List.setIfInBounds_toArray, List.set_cons_zero, List.set_cons_succ]
            refine RelO.next (k' := 28) rfl (fun W gW hF => ?_) ?_
            focus
              obtain ⟨h13, h19, h26, _⟩ := hF
              have e13 : val 13 = .bool false := h13 _ (Frm.refl _ W)
              have e19 : val 19 = .int .i64 (x.s.length : Int) := h19 _ (Frm.refl _ W)
              have e26 : val 26 = .int .i64 (x.s.length : Int) := h26 _ (Frm.refl _ W)
              try simp only [e26]
              try simp only [e19]
              try simp only [e13]
              try simp only [tupAt]
              refine OpOK.val (u := .bool false) (by rfl) ?_ (fun W' _ => rfl)
              try simp only [e26]
              try simp only [e19]
              try simp only [e13]
              try simp only [tupAt]
              first | (go_simp; done) | (go_simp; with_reducible rfl) | (go_simp; rfl)
            try simp only [Act.put, List.setIfInBounds_toArray, List.set_cons_zero, List.set_cons_succ]
            refine RelO.next (k' := 29) rfl (fun W gW hF => ?_) ?_
            focus
              obtain ⟨h13, h27, _⟩ := hF
              have e13 : val 13 = .bool false := h13 _ (Frm.refl _ W)
              have e27 : val 27 = .bool false := h27 _ (Frm.refl _ W)
              try simp only [e27]
              try simp only [e13]
              try simp only [tupAt]
              refine OpOK.val (u := .bool false) (by rfl) ?_ (fun W' _ => rfl)
              try simp only [e27]
              try simp only [e13]
              try simp only [tupAt]
              first | (go_simp; done) | (go_simp; with_reducible rfl) | (go_simp; rfl)
            try simp only [Act.put, List.setIfInBounds_toArray, List.set_cons_zero, List.set_cons_succ]
            exact RelO.nil
          intro val w17 gW hF
          obtain ⟨h0, h1, h2, h3, h4, h5, h6, h7, h8, h9, h10, h11, h12, h13, h14, h15, h16, h17, h18, h19, h20, h21, h22, h23, h24, h25, h26, h27, h28, hT⟩ := hF
          have e0 : val 0 = .pointer (some ⟨B12, 8, none⟩) := h0 _ (Frm.refl _ w17)
          have e1 : val 1 = .slice (some ⟨g1, off1, none⟩) n c12 := h1 _ (Frm.refl _ w17)
          have e2 : val 2 = .int .i64 (k : Int) := h2 _ (Frm.refl _ w17)
          have e3 : val 3 = .pointer (some ⟨g1, off1 + k * 3, none⟩) := h3 _ (Frm.refl _ w17)
          have e4 : val 4 = .pointer (some ⟨g1, off1 + k * 3, none⟩) := h4 _ (Frm.refl _ w17)
          have e5 : val 5 = .agg (dv x.r x.n) := h5 _ (Frm.refl _ w17)
          have e6 : val 6 = .pointer (some ⟨N, 8, none⟩) := h6 _ (Frm.refl _ w17)
          have e7 : val 7 = .slice (some ⟨g2, off2, none⟩) n cx := h7 _ (Frm.refl _ w17)
          have e8 : val 8 = .int .i64 (k : Int) := h8 _ (Frm.refl _ w17)
          have e9 : val 9 = .pointer (some ⟨g2, off2 + k * 3, none⟩) := h9 _ (Frm.refl _ w17)
          have e10 : val 10 = .pointer (some ⟨g2, off2 + k * 3, none⟩) := h10 _ (Frm.refl _ w17)
          have e11 : val 11 = .agg (dv x.r x.n) := h11 _ (Frm.refl _ w17)
          have e12 : val 12 = .bool false := h12 _ (Frm.refl _ w17)
          have e13 : val 13 = .bool false := h13 _ (Frm.refl _ w17)
          have e14 : val 14 = .pointer (some ⟨B12, 8, none⟩) := h14 _ (Frm.refl _ w17)
          have e15 : val 15 = .slice (some ⟨g1, off1, none⟩) n c12 := h15 _ (Frm.refl _ w17)
          have e16 : val 16 = .int .i64 (k : Int) := h16 _ (Frm.refl _ w17)
          have e17 : val 17 = .pointer (some ⟨g1, off1 + k * 3, none⟩) := h17 _ (Frm.refl _ w17)
          have e18 : val 18 = .pointer (some ⟨g1, off1 + k * 3 + 2, none⟩) := h18 _ (Frm.refl _ w17)
          have e19 : val 19 = .int .i64 (x.s.length : Int) := h19 _ (Frm.refl _ w17)
          have e20 : val 20 = .pointer (some ⟨N, 8, none⟩) := h20 _ (Frm.refl _ w17)
          have e21 : val 21 = .slice (some ⟨g2, off2, none⟩) n cx := h21 _ (Frm.refl _ w17)
          have e22 : val 22 = .int .i64 (k : Int) := h22 _ (Frm.refl _ w17)
          have e23 : val 23 = .pointer (some ⟨g2, off2 + k * 3, none⟩) := h23 _ (Frm.refl _ w17)
          have e24 : val 24 = .pointer (some ⟨g2, off2 + k * 3 + 2, none⟩) := h24 _ (Frm.refl _ w17)
          have e25 : val 25 = .string (bs x.s) := h25 _ (Frm.refl _ w17)
          have e26 : val 26 = .int .i64 (x.s.length : Int) := h26 _ (Frm.refl _ w17)
          have e27 : val 27 = .bool false := h27 _ (Frm.refl _ w17)
          have e28 : val 28 = .bool false := h28 _ (Frm.refl _ w17)
          clear hT h0 h1 h2 h3 h4 h5 h6 h7 h8 h9 h10 h11 h12 h13 h14 h15 h16 h17 h18 h19 h20 h21 h22 h23 h24 h25 h26 h27 h28
          simp only [aO, Act.put, List.setIfInBounds_toArray, List.set_cons_zero, List.set_cons_succ, Nat.reduceAdd]
          try simp only [e28]
          try simp only [e27]
          try simp only [e26]
          try simp only [e25]
          try simp only [e24]
          try simp only [e23]
          try simp only [e22]
          try simp only [e21]
          try simp only [e20]
          try simp only [e19]
          try simp only [e18]
          try simp only [e17]
          try simp only [e16]
          try simp only [e15]
          try simp only [e14]
          try simp only [e13]
          try simp only [e12]
          try simp only [e11]
          try simp only [e10]
          try simp only [e9]
          try simp only [e8]
          try simp only [e7]
          try simp only [e6]
          try simp only [e5]
          try simp only [e4]
          try simp only [e3]
          try simp only [e2]
          try simp only [e1]
          try simp only [e0]
          try simp only [tupAt]
          refine wpTail.doneN ?_
          refine hK _ _ ?_
          have gD := D.trans gW
          clear gW D hK e0 e1 e2 e3 e4 e5 e6 e7 e8 e9 e10 e11 e12 e13 e14 e15 e16 e17 e18 e19 e20 e21 e22 e23 e24 e25 e26 e27 e28
          go_wp2_with fail
          go_roundw
          case rel => exact ⟨k + 1, by omega, by go_num, F1.out.trans gD⟩
          case measure => simp [intOf]; omega
        · obtain rfl : k = l.length := by omega
          have HS2 : Hid (∀ W, Frm (fun _ => False) wr W → Jst N M B5 B6 f g (.slice ax l.length cx) v2 v5 v6 l m W) := Lib.hid fun W g => HS.out W (F1.out.trans g)
          have kk := kk.trans F1.out
          clear HS HB
          have HS := HS2
          clear HS2
          obtain ⟨w18, hw18⟩ : ∃ x, x = wr := ⟨_, rfl⟩
          rw [← hw18] at HS kk c8 ⊢
          clear hw18 F1
          generalize hv1 : Value.slice ax l.length cx = v1 at *
          clear hv1
          go_upto_region 19 with fail
          rename_i hK
          have D : Frm (fun _ => False) w18 w18.drew := (Frm.refl _ _).drew
          refine wp_region_late 20 0 [] [[], [0], [1], [2], [2, 3], [2], [2, 5], [2, 4, 6], [2, 7], [8], [9], [9, 10], [9], [9, 12], [9, 11, 13], [9, 14], [15], [16], [16, 17], [18]] sj19M (sj19R f g v1 v2 v5 v6 l m) (by kernel_rfl) rfl rfl rfl (by kernel_rfl) (by kernel_rfl) (by kernel_rfl) (by kernel_rfl) rfl (by kernel_rfl) (by kernel_rfl) (by kernel_rfl) (by kernel_rfl) (fun val => ?_) ?_
          · try dsimp only
            refine RelO.next (k' := 1) rfl (fun W gW hF => ?_) ?_
            focus
              exact OpOK.load (by rfl) _ rfl (by rfl) (load_reg (HS.out W (D.trans gW)).o) (fun W' _ => rfl)
            try simp only [Act.put, List.setIfInBounds_toArray, List.set_cons_zero, List.set_cons_succ]
            refine RelO.next (k' := 2) rfl (fun W gW hF => ?_) ?_
            focus
              obtain ⟨h0, _⟩ := hF
              have e0 : val 0 = rg f v5 := h0 _ (Frm.refl _ W)
              try simp only [e0]
              try simp only [tupAt]
              refine OpOK.call (by rfl) ?_ ((gone_any f v5 l W (HS.out W (D.trans gW)).os HL.out).mono ?_)
              · first | (go_simp; done) | (go_simp; with_reducible rfl) | (go_simp; rfl)
              · rintro e W1 ⟨rfl, g1⟩
                exact ⟨_, rfl, g1, fun W2 _ => rfl⟩
            try simp only [Act.put, List.setIfInBounds_toArray, List.set_cons_zero, List.set_cons_succ]
            refine RelO.next (k' := 3) rfl (fun W gW hF => ?_) ?_
            focus
              obtain ⟨h1, _⟩ := hF
              have e1 : val 1 = .bool true := h1 _ (Frm.refl _ W)
              try simp only [e1]
              try simp only [tupAt]
              refine OpOK.val (u := .bool true) (by rfl) ?_ (fun W' _ => rfl)
              try simp only [e1]
              try simp only [tupAt]
              first | (go_simp; done) | (go_simp; with_reducible rfl) | (go_simp; rfl)
            try simp only [Act.put, List.setIfInBounds_toArray, List.set_cons_zero, List.set_cons_succ]
            refine RelO.next (k' := 4) rfl (fun W gW hF => ?_) ?_
            focus
              obtain ⟨h2, _⟩ := hF
              have e2 : val 2 = .bool true := h2 _ (Frm.refl _ W)
              try simp only [e2]
              try simp only [tupAt]
              exact OpOK.load (by rfl) _ rfl (by rfl) (load_reg (HS.out W (D.trans gW)).o) (fun W' _ => rfl)
            try simp only [Act.put, List.setIfInBounds_toArray, List.set_cons_zero, List.set_cons_succ]
            refine RelO.next (k' := 5) rfl (fun W gW hF => ?_) ?_
            focus
              obtain ⟨h2, h3, _⟩ := hF
              have e2 : val 2 = .bool true := h2 _ (Frm.refl _ W)
              have e3 : val 3 = rg f v5 := h3 _ (Frm.refl _ W)
              try simp only [e3]
              try simp only [e2]
              try simp only [tupAt]
              refine OpOK.call (by rfl) ?_ ((their_any (f) v5 l W (HS.out W (D.trans gW)).os HL.out).mono ?_)
              · first | (go_simp; done) | (go_simp; with_reducible rfl) | (go_simp; rfl)
              · rintro e W1 ⟨v', rfl, o', g', _⟩
                exact ⟨_, rfl, g', fun W2 g2 => ⟨v', rfl, o'.sl.keepF g2⟩⟩
            try simp only [Act.put, List.setIfInBounds_toArray, List.set_cons_zero, List.set_cons_succ]
            refine RelO.next (k' := 6) rfl (fun W gW hF => ?_) ?_
            focus
              obtain ⟨h2, _⟩ := hF
              have e2 : val 2 = .bool true := h2 _ (Frm.refl _ W)
              try simp only [e2]
              try simp only [tupAt]
              exact OpOK.load (by rfl) _ rfl (by rfl) (load_reg (HS.out W (D.trans gW)).x) (fun W' _ => rfl)
            try simp only [Act.put, List.setIfInBounds_toArray, List.set_cons_zero, List.set_cons_succ]
            refine RelO.next (k' := 7) rfl (fun W gW hF => ?_) ?_
            focus
              obtain ⟨h2, h5, _⟩ := hF
              have e2 : val 2 = .bool true := h2 _ (Frm.refl _ W)
              have e5 : val 5 = rg f v1 := h5 _ (Frm.refl _ W)
              try simp only [e5]
              try simp only [e2]
              try simp only [tupAt]
              refine OpOK.call (by rfl) ?_ ((their_any (f) v1 l W (HS.out W (D.trans gW)).xs HL.out).mono ?_)
              · first | (go_simp; done) | (go_simp; with_reducible rfl) | (go_simp; rfl)
              · rintro e W1 ⟨v', rfl, o', g', _⟩
                exact ⟨_, rfl, g', fun W2 g2 => ⟨v', rfl, o'.sl.keepF g2⟩⟩
            try simp only [Act.put, List.setIfInBounds_toArray, List.set_cons_zero, List.set_cons_succ]
            refine RelO.next (k' := 8) rfl (fun W gW hF => ?_) ?_
            focus
              obtain ⟨h2, h4, h6, _⟩ := hF
              have e2 : val 2 = .bool true := h2 _ (Frm.refl _ W)
              have q4 : ∃ z, (val 4) = rg (f) z ∧ SL W z l := h4 _ (Frm.refl _ W)
              obtain ⟨x138, e4, o138⟩ := q4
              have q6 : ∃ z, (val 6) = rg (f) z ∧ SL W z l := h6 _ (Frm.refl _ W)
              obtain ⟨x140, e6, o140⟩ := q6
              try simp only [e6]
              try simp only [e4]
              try simp only [e2]
              try simp only [tupAt]
              refine OpOK.call (by rfl) ?_ ((requal_any (f) (f) x138 x140 l l W o138 o140).mono ?_)
              · first | (go_simp; done) | (go_simp; with_reducible rfl) | (go_simp; rfl)
              · rintro e W1 ⟨he, g1⟩
                rw [eq_selfJ] at he
                subst he
                exact ⟨_, rfl, g1, fun W2 _ => rfl⟩
            try simp only [Act.put, List.setIfInBounds_toArray, List.set_cons_zero, List.set_cons_succ]
            refine RelO.next (k' := 9) rfl (fun W gW hF => ?_) ?_
            focus
              obtain ⟨h2, h7, _⟩ := hF
              have e2 : val 2 = .bool true := h2 _ (Frm.refl _ W)
              have e7 : val 7 = .bool true := h7 _ (Frm.refl _ W)
              try simp only [e7]
              try simp only [e2]
              try simp only [tupAt]
              refine OpOK.val (u := .bool true) (by rfl) ?_ (fun W' _ => rfl)
              try simp only [e7]
              try simp only [e2]
              try simp only [tupAt]
              first | (go_simp; done) | (go_simp; with_reducible rfl) | (go_simp; rfl)
            try simp only [Act.put, List.setIfInBounds_toArray, List.set_cons_zero, List.set_cons_succ]
            refine RelO.next (k' := 10) rfl (fun W gW hF => ?_) ?_
            focus
              obtain ⟨h8, _⟩ := hF
              have e8 : val 8 = .bool true := h8 _ (Frm.refl _ W)
              try simp only [e8]
              try simp only [tupAt]
              refine OpOK.val (u := .bool true) (by rfl) ?_ (fun W' _ => rfl)
              try simp only [e8]
              try simp only [tupAt]
              first | (go_simp; done) | (go_simp; with_reducible rfl) | (go_simp; rfl)
            try simp only [Act.put, List.setIfInBounds_toArray, List.set_cons_zero, List.set_cons_succ]
            refine RelO.next (k' := 11) rfl (fun W gW hF => ?_) ?_
            focus
              obtain ⟨h9, _⟩ := hF
              have e9 : val 9 = .bool true := h9 _ (Frm.refl _ W)
              try simp only [e9]
              try simp only [tupAt]
              exact OpOK.load (by rfl) _ rfl (by rfl) (load_reg (HS.out W (D.trans gW)).p) (fun W' _ => rfl)
            try simp only [Act.put, List.setIfInBounds_toArray, List.set_cons_zero, List.set_cons_succ]
            refine RelO.next (k' := 12) rfl (fun W gW hF => ?_) ?_
            focus
              obtain ⟨h9, h10, _⟩ := hF
              have e9 : val 9 = .bool true := h9 _ (Frm.refl _ W)
              have e10 : val 10 = rg g v6 := h10 _ (Frm.refl _ W)
              try simp only [e10]
              try simp only [e9]
              try simp only [tupAt]
              refine OpOK.call (by rfl) ?_ ((their_any (g) v6 m W (HS.out W (D.trans gW)).ps HLM.out).mono ?_)
              · first | (go_simp; done) | (go_simp; with_reducible rfl) | (go_simp; rfl)
              · rintro e W1 ⟨v', rfl, o', g', _⟩
                exact ⟨_, rfl, g', fun W2 g2 => ⟨v', rfl, o'.sl.keepF g2⟩⟩
            try simp only [Act.put, List.setIfInBounds_toArray, List.set_cons_zero, List.set_cons_succ]
            refine RelO.next (k' := 13) rfl (fun W gW hF => ?_) ?_
            focus
              obtain ⟨h9, _⟩ := hF
              have e9 : val 9 = .bool true := h9 _ (Frm.refl _ W)
              try simp only [e9]
              try simp only [tupAt]
              exact OpOK.load (by rfl) _ rfl (by rfl) (load_reg (HS.out W (D.trans gW)).y) (fun W' _ => rfl)
            try simp only [Act.put, List.setIfInBounds_toArray, List.set_cons_zero, List.set_cons_succ]
            refine RelO.next (k' := 14) rfl (fun W gW hF => ?_) ?_
            focus
              obtain ⟨h9, h12, _⟩ := hF
              have e9 : val 9 = .bool true := h9 _ (Frm.refl _ W)
              have e12 : val 12 = rg g v2 := h12 _ (Frm.refl _ W)
              try simp only [e12]
              try simp only [e9]
              try simp only [tupAt]
              refine OpOK.call (by rfl) ?_ ((their_any (g) v2 m W (HS.out W (D.trans gW)).ys HLM.out).mono ?_)
              · first | (go_simp; done) | (go_simp; with_reducible rfl) | (go_simp; rfl)
              · rintro e W1 ⟨v', rfl, o', g', _⟩
                exact ⟨_, rfl, g', fun W2 g2 => ⟨v', rfl, o'.sl.keepF g2⟩⟩
            try simp only [Act.put, List.setIfInBounds_toArray, List.set_cons_zero, List.set_cons_succ]
            refine RelO.next (k' := 15) rfl (fun W gW hF => ?_) ?_
            focus
              obtain ⟨h9, h11, h13, _⟩ := hF
              have e9 : val 9 = .bool true := h9 _ (Frm.refl _ W)
              have q11 : ∃ z, (val 11) = rg (g) z ∧ SL W z m := h11 _ (Frm.refl _ W)
              obtain ⟨x145, e11, o145⟩ := q11
              have q13 : ∃ z, (val 13) = rg (g) z ∧ SL W z m := h13 _ (Frm.refl _ W)
              obtain ⟨x147, e13, o147⟩ := q13
              try simp only [e13]
              try simp only [e11]
              try simp only [e9]
              try simp only [tupAt]
              refine OpOK.call (by rfl) ?_ ((requal_any (g) (g) x145 x147 m m W o145 o147).mono ?_)
              · first | (go_simp; done) | (go_simp; with_reducible rfl) | (go_simp; rfl)
              · rintro e W1 ⟨he, g1⟩
                rw [eq_selfJ] at he
                subst he
                exact ⟨_, rfl, g1, fun W2 _ => rfl⟩
            try simp only [Act.put, List.setIfInBounds_toArray, List.set_cons_zero, List.set_cons_succ]
            refine RelO.next (k' := 16) rfl (fun W gW hF => ?_) ?_
            focus
              obtain ⟨h9, h14, _⟩ := hF
              have e9 : val 9 = .bool true := h9 _ (Frm.refl _ W)
              have e14 : val 14 = .bool true := h14 _ (Frm.refl _ W)
              try simp only [e14]
              try simp only [e9]
              try simp only [tupAt]
              refine OpOK.val (u := .bool true) (by rfl) ?_ (fun W' _ => rfl)
              try simp only [e14]
              try simp only [e9]
              try simp only [tupAt]
              first | (go_simp; done) | (go_simp; with_reducible rfl) | (go_simp; rfl)
            try simp only [Act.put, List.setIfInBounds_toArray, List.set_cons_zero, List.set_cons_succ]
            refine RelO.next (k' := 17) rfl (fun W gW hF => ?_) ?_
            focus
              obtain ⟨h15, _⟩ := hF
              have e15 : val 15 = .bool true := h15 _ (Frm.refl _ W)
              try simp only [e15]
              try simp only [tupAt]
              refine OpOK.val (u := .bool true) (by rfl) ?_ (fun W' _ => rfl)
              try simp only [e15]
              try simp only [tupAt]
              first | (go_simp; done) | (go_simp; with_reducible rfl) | (go_simp; rfl)
            try simp only [Act.put, List.setIfInBounds_toArray, List.set_cons_zero, List.set_cons_succ]
            refine RelO.next (k' := 18) rfl (fun W gW hF => ?_) ?_
            focus
              obtain ⟨h16, _⟩ := hF
              have e16 : val 16 = .bool true := h16 _ (Frm.refl _ W)
              try simp only [e16]
              try simp only [tupAt]
              refine OpOK.call (by rfl) ?_ ((sworks_any W).mono ?_)
              · first | (go_simp; done) | (go_simp; with_reducible rfl) | (go_simp; rfl)
              · rintro e W1 ⟨rfl, g1⟩
                exact ⟨_, rfl, g1, fun W2 _ => rfl⟩
            try simp only [Act.put, List.setIfInBounds_toArray, List.set_cons_zero, List.set_cons_succ]
            refine RelO.next (k' := 19) rfl (fun W gW hF => ?_) ?_
            focus
              obtain ⟨h16, h17, _⟩ := hF
              have e16 : val 16 = .bool true := h16 _ (Frm.refl _ W)
              have e17 : val 17 = .bool true := h17 _ (Frm.refl _ W)
              try simp only [e17]
              try simp only [e16]
              try simp only [tupAt]
              refine OpOK.val (u := .bool true) (by rfl) ?_ (fun W' _ => rfl)
              try simp only [e17]
              try simp only [e16]
              try simp only [tupAt]
              first | (go_simp; done) | (go_simp; with_reducible rfl) | (go_simp; rfl)
            try simp only [Act.put, List.setIfInBounds_toArray, List.set_cons_zero, List.set_cons_succ]
            refine RelO.next (k' := 20) rfl (fun W gW hF => ?_) ?_
            focus
              obtain ⟨h18, _⟩ := hF
              have e18 : val 18 = .bool true := h18 _ (Frm.refl _ W)
              try simp only [e18]
              try simp only [tupAt]
              refine OpOK.val (u := .bool true) (by rfl) ?_ (fun W' _ => rfl)
              try simp only [e18]
              try simp only [tupAt]
              first | (go_simp; done) | (go_simp; with_reducible rfl) | (go_simp; rfl)
            try simp only [Act.put, List.setIfInBounds_toArray, List.set_cons_zero, List.set_cons_succ]
            exact RelO.nil
          intro val w19 gW hF
          obtain ⟨h0, h1, h2, h3, h4, h5, h6, h7, h8, h9, h10, h11, h12, h13, h14, h15, h16, h17, h18, h19, hT⟩ := hF
          have e0 : val 0 = rg f v5 := h0 _ (Frm.refl _ w19)
          have e1 : val 1 = .bool true := h1 _ (Frm.refl _ w19)
          have e2 : val 2 = .bool true := h2 _ (Frm.refl _ w19)
          have e3 : val 3 = rg f v5 := h3 _ (Frm.refl _ w19)
          have q4 : ∃ z, (val 4) = rg (f) z ∧ SL w19 z l := h4 _ (Frm.refl _ w19)
          obtain ⟨x138, e4, o138⟩ := q4
          have e5 : val 5 = rg f v1 := h5 _ (Frm.refl _ w19)
          have q6 : ∃ z, (val 6) = rg (f) z ∧ SL w19 z l := h6 _ (Frm.refl _ w19)
          obtain ⟨x140, e6, o140⟩ := q6
          have e7 : val 7 = .bool true := h7 _ (Frm.refl _ w19)
          have e8 : val 8 = .bool true := h8 _ (Frm.refl _ w19)
          have e9 : val 9 = .bool true := h9 _ (Frm.refl _ w19)
          have e10 : val 10 = rg g v6 := h10 _ (Frm.refl _ w19)
          have q11 : ∃ z, (val 11) = rg (g) z ∧ SL w19 z m := h11 _ (Frm.refl _ w19)
          obtain ⟨x145, e11, o145⟩ := q11
          have e12 : val 12 = rg g v2 := h12 _ (Frm.refl _ w19)
          have q13 : ∃ z, (val 13) = rg (g) z ∧ SL w19 z m := h13 _ (Frm.refl _ w19)
          obtain ⟨x147, e13, o147⟩ := q13
          have e14 : val 14 = .bool true := h14 _ (Frm.refl _ w19)
          have e15 : val 15 = .bool true := h15 _ (Frm.refl _ w19)
          have e16 : val 16 = .bool true := h16 _ (Frm.refl _ w19)
          have e17 : val 17 = .bool true := h17 _ (Frm.refl _ w19)
          have e18 : val 18 = .bool true := h18 _ (Frm.refl _ w19)
          have e19 : val 19 = .bool true := h19 _ (Frm.refl _ w19)
          clear hT h0 h1 h2 h3 h4 h5 h6 h7 h8 h9 h10 h11 h12 h13 h14 h15 h16 h17 h18 h19
          simp only [aO, Act.put, List.setIfInBounds_toArray, List.set_cons_zero, List.set_cons_succ, Nat.reduceAdd]
          try simp only [e19]
          try simp only [e18]
          try simp only [e17]
          try simp only [e16]
          try simp only [e15]
          try simp only [e14]
          try simp only [e13]
          try simp only [e12]
          try simp only [e11]
          try simp only [e10]
          try simp only [e9]
          try simp only [e8]
          try simp only [e7]
          try simp only [e6]
          try simp only [e5]
          try simp only [e4]
          try simp only [e3]
          try simp only [e2]
          try simp only [e1]
          try simp only [e0]
          try simp only [tupAt]
          refine wpTail.doneN ?_
          refine hK _ _ ?_
          have gD := D.trans gW
          clear gW D hK e0 e1 e2 e3 e4 e5 e6 e7 e8 e9 e10 e11 e12 e13 e14 e15 e16 e17 e18 e19 o138 o140 o145 o147
          go_wp2_with fail
          go_ret
          exact ⟨rfl, k5.trans (kk.trans gD)⟩
    · have HFW := Lib.hid (sfew_no g _ m w1 hms hfew2)
      clear hfew2
      go_wp2_with fail
      refine HFW.out.mono ?_
      rintro e w2 ⟨rfl, g2⟩
      go_wp2_with fail
      refine (HWK.out w2).mono ?_
      rintro e w3 ⟨rfl, g3⟩
      go_wp2_with fail
      go_ret
      exact ⟨rfl, (k1.trans g2).trans g3⟩
  · have HFW := Lib.hid (sfew_no f _ l w0 hs hfew)
    clear hfew
    go_wp2_with (first | ((with_reducible refine wpl_load rfl _ rfl ?_ lR ?_); (focus rfl)))
    refine HFW.out.mono ?_
    rintro e w1 ⟨rfl, g1⟩
    clear HFW lR
    go_wp2_with fail
    refine (HWK.out w1).mono ?_
    rintro e w2 ⟨rfl, g2⟩
    go_wp2_with fail
    go_ret
    exact ⟨rfl, (g0.trans g1).trans g2⟩
end Go.Proofs.Ytmdmkcofafhlcaa

