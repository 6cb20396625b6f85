/- The statement SiblingRing, called. Of any three registers. No condition. -/
import Derived.Test.YtmdmkcofafhlcaaRingA
import Derived.Test.YtmdmkcofafhlcaaLawSJoins
namespace Go.Proofs.Ytmdmkcofafhlcaa
open Go.RowKit

theorem eq_selfR {f : Nat → Nat} {l : List SibI} : (eq8 f f && decide (l = l)) = true := by simp [eq8]
section
variable {ops : Array Oper} {Q : Exit → Act → World → Prop} {r : Nat} {a : Act} {w W : World}
/-- Three registers are stored in new blocks: the end of such a region. -/
theorem tail_three {o1 o2 o3 : Oper} {x1 y1 x2 y2 x3 y3 : Operand} (f g h : Nat → Nat) (v v' v'' : Value) (l m n : List SibI) (V V2 V3 : Nat)
    (i1 : ops[r]? = some o1) (i2 : ops[r + 1]? = some o2) (i3 : ops[r + 1 + 1]? = some o3) (g1 : o1.guard = none) (g2 : o2.guard = none) (g3 : o3.guard = none) (n1 : o1.dst = none) (n2 : o2.dst = none) (n3 : o3.dst = none)
    (p1 : o1.op = .store 39 x1 y1) (p2 : o2.op = .store 39 x2 y2) (p3 : o3.op = .store 39 x3 y3)
    (hx1 : a.eval x1 = .pointer (some ⟨V, 0, none⟩)) (hy1 : a.eval y1 = rg f v) (hx2 : a.eval x2 = .pointer (some ⟨V2, 0, none⟩)) (hy2 : a.eval y2 = rg g v') (hx3 : a.eval x3 = .pointer (some ⟨V3, 0, none⟩)) (hy3 : a.eval y3 = rg h v'') (h12 : V ≠ V2) (h13 : V ≠ V3) (h23 : V2 ≠ V3)
    (hF : Frm (fun _ => False) w W) (hV : w.heap.size ≤ V) (hV2 : w.heap.size ≤ V2) (hV3 : w.heap.size ≤ V3) (o : OwnL W v l) (o' : OwnL W v' m) (o'' : OwnL W v'' n) (b1 : Blk W V 39 rz) (b2 : Blk W V2 39 rz) (b3 : Blk W V3 39 rz)
    (hK : ∀ w2, Frm (fun _ => False) w w2 → Hid (∀ W', Frm (fun _ => False) w2 W' → Blk W' V 39 (rgc f v) ∧ SL W' v l) → Hid (∀ W', Frm (fun _ => False) w2 W' → Blk W' V2 39 (rgc g v') ∧ SL W' v' m) → Hid (∀ W', Frm (fun _ => False) w2 W' → Blk W' V3 39 (rgc h v'') ∧ SL W' v'' n) → Q .normal a w2) : wpTail Try.prog ops Q r 3 a W := by
  obtain ⟨_, _, ev, _, _⟩ := o.sl.slice
  obtain ⟨_, _, ev', _, _⟩ := o'.sl.slice
  obtain ⟨_, _, ev'', _, _⟩ := o''.sl.slice
  refine row_step i1 g1 n1 39 _ _ p1 V (rgc f v) rz hx1 hy1 b1 rfl (show _ = some 9 by kernel_rfl) (by simp [Value.oneCell', ev]) fun w1 c1 f1 z1 => ?_
  refine row_step i2 g2 n2 39 _ _ p2 V2 (rgc g v') rz hx2 hy2 (b2.keep f1 (Ne.symm h12)) rfl (show _ = some 9 by kernel_rfl) (by simp [Value.oneCell', ev']) fun w2 c2 f2 z2 => ?_
  refine row_step i3 g3 n3 39 _ _ p3 V3 (rgc h v'') rz hx3 hy3 ((b3.keep f1 (Ne.symm h13)).keep f2 (Ne.symm h23)) rfl (show _ = some 9 by kernel_rfl) (by simp [Value.oneCell', ev'']) fun w3 c3 f3 z3 => ?_
  have all : ∀ (u : Value) (p : List SibI), OwnL W u p → SL w3 u p := fun u p op => by
    cases p with
    | nil => exact op.sl.nil_of
    | cons x p => exact ((op.past b1 f1).keep f2 fun g hg => op.notRgc (f := fun _ => 0) (u := .slice none 0 0) b2 g (op.blkOf g hg)).keep f3 fun g hg => op.notRgc (f := fun _ => 0) (u := .slice none 0 0) b3 g (op.blkOf g hg)
  have d1 := (c1.keep f2 h12).keep f3 h13
  have d2 := c2.keep f3 h23
  refine hK w3 ?_ (Lib.hid fun W' g => ⟨d1.keep g (fun h => h), (all _ _ o).keepF g⟩) (Lib.hid fun W' g => ⟨d2.keep g (fun h => h), (all _ _ o').keepF g⟩) (Lib.hid fun W' g => ⟨c3.keep g (fun h => h), (all _ _ o'').keepF g⟩)
  refine ((hF.next f1 fun k hk h => ?_).next f2 fun k hk h => ?_).next f3 fun k hk h => ?_
  · have h : k = V := h
    omega
  · have h : k = V2 := h
    omega
  · have h : k = V3 := h
    omega
end
theorem by_facts {f : Nat → Nat} {lx la : List SibI} (h : lx.map by1 = la) (ho : okR f lx = true) (hl : lx.length ≤ 1000) : ValsBy Vd la ∧ okR f la = true ∧ la.length ≤ 1000 := by
  subst h
  rw [← byS_map]
  exact ⟨byS_vals _ _ _, (byS_ok _ _ _ _).trans ho, by rw [byS_len]; exact hl⟩
/-- A join answers what the document's does. -/
theorem sjoinE {f g f' : Nat → Nat} {l m l' : List SibI} {e' : Nat} (hf : Fit8 f) (hg : Fit8 g) (hl : l.length ≤ 1000) (hm : m.length ≤ 1000) (hr : rjoinS f g l m = (f', l', e')) (W : World) (x y : Value) (hx : SL W x l) (hy : SL W y m) :
    Calls Try.prog 28 #[rg f x, rg g y] W (RegE f' l' e' W) := by
  refine (sjoin_any f g x y l m W hf hg hx hy (by omega) (by omega)).mono ?_
  rintro e w' ⟨v', f2, l2, e2, rfl, o, n, fr, hj⟩
  have h2 := (joinIs_eq hj).symm.trans hr
  obtain ⟨rfl, h3⟩ := Prod.mk.inj h2
  obtain ⟨rfl, rfl⟩ := Prod.mk.inj h3
  exact ⟨v', rfl, o, n, fr⟩
def ri1_0M : List Nat := [1, 3, 7, 15, 31, 63, 127, 255, 511, 1023, 2047, 4095, 8191, 16383, 32767, 65535, 131071, 262143, 524287, 1048575, 2097151, 4194303, 8388607, 16777215, 33554431, 67108863, 134217727, 268435455]
def ri1_0R (f : Nat → Nat) (v1 : Value) : List ((Nat → Value) → World → Prop) := [
  fun val _ => val 0 = rg f v1,
  fun val _ => val 1 = .bool false,
  fun val _ => val 2 = .bool true,
  fun val _ => val 3 = .bool true,
  fun val _ => val 4 = undef,
  fun val _ => val 5 = undef,
  fun val _ => val 6 = undef,
  fun val _ => val 7 = .bool true,
  fun val _ => val 8 = .bool true,
  fun val _ => val 9 = undef,
  fun val _ => val 10 = undef,
  fun val _ => val 11 = undef,
  fun val _ => val 12 = .bool true,
  fun val _ => val 13 = .bool true,
  fun val _ => val 14 = undef,
  fun val _ => val 15 = undef,
  fun val _ => val 16 = undef,
  fun val _ => val 17 = .bool true,
  fun val _ => val 18 = .bool true,
  fun val _ => val 19 = undef,
  fun val _ => val 20 = undef,
  fun val _ => val 21 = undef,
  fun val _ => val 22 = .bool true,
  fun val _ => val 23 = .bool true,
  fun val _ => val 24 = undef,
  fun val _ => val 25 = undef,
  fun val _ => val 26 = undef,
  fun val _ => val 27 = .bool true]

def ri1_1M : List Nat := [1, 3, 7, 15, 31, 63, 127, 255, 511, 1023, 2047, 4095, 8191, 16383, 32767, 65535, 131071, 262143, 524287, 1048575, 2097151, 4194303, 8388607, 16777215, 33554431, 67108863, 134217727, 268435455]
def ri1_1R (f : Nat → Nat) (g : Nat → Nat) (v1 : Value) (v2 : Value) : List ((Nat → Value) → World → Prop) := [
  fun val _ => val 0 = rg f v1,
  fun val _ => val 1 = .bool true,
  fun val _ => val 2 = .bool false,
  fun val _ => val 3 = .bool false,
  fun val _ => val 4 = rg g v2,
  fun val _ => val 5 = .bool false,
  fun val _ => val 6 = .bool true,
  fun val _ => val 7 = .bool true,
  fun val _ => val 8 = .bool true,
  fun val _ => val 9 = undef,
  fun val _ => val 10 = undef,
  fun val _ => val 11 = undef,
  fun val _ => val 12 = .bool true,
  fun val _ => val 13 = .bool true,
  fun val _ => val 14 = undef,
  fun val _ => val 15 = undef,
  fun val _ => val 16 = undef,
  fun val _ => val 17 = .bool true,
  fun val _ => val 18 = .bool true,
  fun val _ => val 19 = undef,
  fun val _ => val 20 = undef,
  fun val _ => val 21 = undef,
  fun val _ => val 22 = .bool true,
  fun val _ => val 23 = .bool true,
  fun val _ => val 24 = undef,
  fun val _ => val 25 = undef,
  fun val _ => val 26 = undef,
  fun val _ => val 27 = .bool true]

def ri1_2M : List Nat := [1, 3, 7, 15, 31, 63, 127, 255, 511, 1023, 2047, 4095, 8191, 16383, 32767, 65535, 131071, 262143, 524287, 1048575, 2097151, 4194303, 8388607, 16777215, 33554431, 67108863, 134217727, 268435455]
def ri1_2R (f : Nat → Nat) (g : Nat → Nat) (h : Nat → Nat) (v1 : Value) (v2 : Value) (v3 : Value) : List ((Nat → Value) → World → Prop) := [
  fun val _ => val 0 = rg f v1,
  fun val _ => val 1 = .bool true,
  fun val _ => val 2 = .bool false,
  fun val _ => val 3 = .bool false,
  fun val _ => val 4 = rg g v2,
  fun val _ => val 5 = .bool true,
  fun val _ => val 6 = .bool false,
  fun val _ => val 7 = .bool false,
  fun val _ => val 8 = .bool false,
  fun val _ => val 9 = rg h v3,
  fun val _ => val 10 = .bool false,
  fun val _ => val 11 = .bool true,
  fun val _ => val 12 = .bool true,
  fun val _ => val 13 = .bool true,
  fun val _ => val 14 = undef,
  fun val _ => val 15 = undef,
  fun val _ => val 16 = undef,
  fun val _ => val 17 = .bool true,
  fun val _ => val 18 = .bool true,
  fun val _ => val 19 = undef,
  fun val _ => val 20 = undef,
  fun val _ => val 21 = undef,
  fun val _ => val 22 = .bool true,
  fun val _ => val 23 = .bool true,
  fun val _ => val 24 = undef,
  fun val _ => val 25 = undef,
  fun val _ => val 26 = undef,
  fun val _ => val 27 = .bool true]

def ri1_3M : List Nat := [1, 3, 7, 15, 31, 63, 127, 255, 511, 1023, 2047, 4095, 8191, 16383, 32767, 65535, 131071, 262143, 524287, 1048575, 2097151, 4194303, 8388607, 16777215, 33554431, 67108863, 134217727, 268435455]
def ri1_3R (f : Nat → Nat) (g : Nat → Nat) (h : Nat → Nat) (v1 : Value) (v2 : Value) (v3 : Value) : List ((Nat → Value) → World → Prop) := [
  fun val _ => val 0 = rg f v1,
  fun val _ => val 1 = .bool true,
  fun val _ => val 2 = .bool false,
  fun val _ => val 3 = .bool false,
  fun val _ => val 4 = rg g v2,
  fun val _ => val 5 = .bool true,
  fun val _ => val 6 = .bool false,
  fun val _ => val 7 = .bool false,
  fun val _ => val 8 = .bool false,
  fun val _ => val 9 = rg h v3,
  fun val _ => val 10 = .bool true,
  fun val _ => val 11 = .bool false,
  fun val _ => val 12 = .bool false,
  fun val _ => val 13 = .bool false,
  fun val _ => val 14 = rg f v1,
  fun val _ => val 15 = .int .i64 4,
  fun val _ => val 16 = .bool true,
  fun val _ => val 17 = .bool true,
  fun val _ => val 18 = .bool true,
  fun val _ => val 19 = undef,
  fun val _ => val 20 = undef,
  fun val _ => val 21 = undef,
  fun val _ => val 22 = .bool true,
  fun val _ => val 23 = .bool true,
  fun val _ => val 24 = undef,
  fun val _ => val 25 = undef,
  fun val _ => val 26 = undef,
  fun val _ => val 27 = .bool true]

def ri1_4M : List Nat := [1, 3, 7, 15, 31, 63, 127, 255, 511, 1023, 2047, 4095, 8191, 16383, 32767, 65535, 131071, 262143, 524287, 1048575, 2097151, 4194303, 8388607, 16777215, 33554431, 67108863, 134217727, 268435455]
def ri1_4R (f : Nat → Nat) (g : Nat → Nat) (h : Nat → Nat) (v1 : Value) (v2 : Value) (v3 : Value) : List ((Nat → Value) → World → Prop) := [
  fun val _ => val 0 = rg f v1,
  fun val _ => val 1 = .bool true,
  fun val _ => val 2 = .bool false,
  fun val _ => val 3 = .bool false,
  fun val _ => val 4 = rg g v2,
  fun val _ => val 5 = .bool true,
  fun val _ => val 6 = .bool false,
  fun val _ => val 7 = .bool false,
  fun val _ => val 8 = .bool false,
  fun val _ => val 9 = rg h v3,
  fun val _ => val 10 = .bool true,
  fun val _ => val 11 = .bool false,
  fun val _ => val 12 = .bool false,
  fun val _ => val 13 = .bool false,
  fun val _ => val 14 = rg f v1,
  fun val _ => val 15 = .int .i64 0,
  fun val _ => val 16 = .bool false,
  fun val _ => val 17 = .bool false,
  fun val _ => val 18 = .bool false,
  fun val _ => val 19 = rg g v2,
  fun val _ => val 20 = .int .i64 4,
  fun val _ => val 21 = .bool true,
  fun val _ => val 22 = .bool true,
  fun val _ => val 23 = .bool true,
  fun val _ => val 24 = undef,
  fun val _ => val 25 = undef,
  fun val _ => val 26 = undef,
  fun val _ => val 27 = .bool true]

def ri1_5M : List Nat := [1, 3, 7, 15, 31, 63, 127, 255, 511, 1023, 2047, 4095, 8191, 16383, 32767, 65535, 131071, 262143, 524287, 1048575, 2097151, 4194303, 8388607, 16777215, 33554431, 67108863, 134217727, 268435455]
def ri1_5R (f : Nat → Nat) (g : Nat → Nat) (h : Nat → Nat) (v1 : Value) (v2 : Value) (v3 : Value) : List ((Nat → Value) → World → Prop) := [
  fun val _ => val 0 = rg f v1,
  fun val _ => val 1 = .bool true,
  fun val _ => val 2 = .bool false,
  fun val _ => val 3 = .bool false,
  fun val _ => val 4 = rg g v2,
  fun val _ => val 5 = .bool true,
  fun val _ => val 6 = .bool false,
  fun val _ => val 7 = .bool false,
  fun val _ => val 8 = .bool false,
  fun val _ => val 9 = rg h v3,
  fun val _ => val 10 = .bool true,
  fun val _ => val 11 = .bool false,
  fun val _ => val 12 = .bool false,
  fun val _ => val 13 = .bool false,
  fun val _ => val 14 = rg f v1,
  fun val _ => val 15 = .int .i64 0,
  fun val _ => val 16 = .bool false,
  fun val _ => val 17 = .bool false,
  fun val _ => val 18 = .bool false,
  fun val _ => val 19 = rg g v2,
  fun val _ => val 20 = .int .i64 0,
  fun val _ => val 21 = .bool false,
  fun val _ => val 22 = .bool false,
  fun val _ => val 23 = .bool false,
  fun val _ => val 24 = rg h v3,
  fun val _ => val 25 = .int .i64 4,
  fun val _ => val 26 = .bool true,
  fun val _ => val 27 = .bool true]

def ri1_6M : List Nat := [1, 3, 7, 15, 31, 63, 127, 255, 511, 1023, 2047, 4095, 8191, 16383, 32767, 65535, 131071, 262143, 524287, 1048575, 2097151, 4194303, 8388607, 16777215, 33554431, 67108863, 134217727, 268435455]
def ri1_6R (f : Nat → Nat) (g : Nat → Nat) (h : Nat → Nat) (v1 : Value) (v2 : Value) (v3 : Value) : List ((Nat → Value) → World → Prop) := [
  fun val _ => val 0 = rg f v1,
  fun val _ => val 1 = .bool true,
  fun val _ => val 2 = .bool false,
  fun val _ => val 3 = .bool false,
  fun val _ => val 4 = rg g v2,
  fun val _ => val 5 = .bool true,
  fun val _ => val 6 = .bool false,
  fun val _ => val 7 = .bool false,
  fun val _ => val 8 = .bool false,
  fun val _ => val 9 = rg h v3,
  fun val _ => val 10 = .bool true,
  fun val _ => val 11 = .bool false,
  fun val _ => val 12 = .bool false,
  fun val _ => val 13 = .bool false,
  fun val _ => val 14 = rg f v1,
  fun val _ => val 15 = .int .i64 0,
  fun val _ => val 16 = .bool false,
  fun val _ => val 17 = .bool false,
  fun val _ => val 18 = .bool false,
  fun val _ => val 19 = rg g v2,
  fun val _ => val 20 = .int .i64 0,
  fun val _ => val 21 = .bool false,
  fun val _ => val 22 = .bool false,
  fun val _ => val 23 = .bool false,
  fun val _ => val 24 = rg h v3,
  fun val _ => val 25 = .int .i64 0,
  fun val _ => val 26 = .bool false,
  fun val _ => val 27 = .bool false]

def ri3M : List Nat := [1, 3, 4, 15, 16, 63, 64, 128, 256, 1023, 1535, 2559]
def ri3R (f : Nat → Nat) (g : Nat → Nat) (h : Nat → Nat) (la : List SibI) (lb : List SibI) (lc : List SibI) (K : Nat) (v1 : Value) (v2 : Value) (v3 : Value) : List ((Nat → Value) → World → Prop) := [
  fun val _ => val 0 = rg f v1,
  fun val W => ∃ v', (val 1) = rg f v' ∧ OwnL W v' la,
  fun val _ => val 2 = rg g v2,
  fun val W => ∃ v', (val 3) = rg g v' ∧ OwnL W v' lb,
  fun val _ => val 4 = rg h v3,
  fun val W => ∃ v', (val 5) = rg h v' ∧ OwnL W v' lc,
  fun val W => ∃ b, (val 6) = .pointer (some ⟨b, 0, none⟩) ∧ K ≤ b ∧ Blk W b 39 rz,
  fun val W => ∃ b, (val 7) = .pointer (some ⟨b, 0, none⟩) ∧ K ≤ b ∧ Blk W b 39 rz,
  fun val W => ∃ b, (val 8) = .pointer (some ⟨b, 0, none⟩) ∧ K ≤ b ∧ Blk W b 39 rz]

def ri4M : List Nat := [1, 2, 7, 15, 31, 47, 64, 255, 383]
def ri4R (f : Nat → Nat) (g : Nat → Nat) (fab : Nat → Nat) (lab : List SibI) (K : Nat) (eab : Nat) (v54 : Value) (v56 : Value) : List ((Nat → Value) → World → Prop) := [
  fun val _ => val 0 = rg f v54,
  fun val _ => val 1 = rg g v56,
  fun val W => ∃ v', (val 2) = .tuple #[rg fab v', .int .i64 (eab : Int)] ∧ OwnL W v' lab,
  fun val _ => val 3 = (val 2),
  fun val _ => val 4 = tupAt (val 3) 0,
  fun val _ => val 5 = tupAt (val 3) 1,
  fun val W => ∃ b, (val 6) = .pointer (some ⟨b, 0, none⟩) ∧ K ≤ b ∧ Blk W b 39 rz]

def ri5M : List Nat := [1, 2, 7, 15, 31, 47, 64, 255, 383]
def ri5R (f : Nat → Nat) (g : Nat → Nat) (fab : Nat → Nat) (lab : List SibI) (K : Nat) (eab : Nat) (v54 : Value) (v56 : Value) : List ((Nat → Value) → World → Prop) := [
  fun val _ => val 0 = rg g v56,
  fun val _ => val 1 = rg f v54,
  fun val W => ∃ v', (val 2) = .tuple #[rg fab v', .int .i64 (eab : Int)] ∧ OwnL W v' lab,
  fun val _ => val 3 = (val 2),
  fun val _ => val 4 = tupAt (val 3) 0,
  fun val _ => val 5 = tupAt (val 3) 1,
  fun val W => ∃ b, (val 6) = .pointer (some ⟨b, 0, none⟩) ∧ K ≤ b ∧ Blk W b 39 rz]

def ri6M : List Nat := [1, 2, 7, 15, 31, 47, 64, 255, 383]
def ri6R (g : Nat → Nat) (h : Nat → Nat) (fbc : Nat → Nat) (lbc : List SibI) (K : Nat) (ebc : Nat) (v56 : Value) (v58 : Value) : List ((Nat → Value) → World → Prop) := [
  fun val _ => val 0 = rg g v56,
  fun val _ => val 1 = rg h v58,
  fun val W => ∃ v', (val 2) = .tuple #[rg fbc v', .int .i64 (ebc : Int)] ∧ OwnL W v' lbc,
  fun val _ => val 3 = (val 2),
  fun val _ => val 4 = tupAt (val 3) 0,
  fun val _ => val 5 = tupAt (val 3) 1,
  fun val W => ∃ b, (val 6) = .pointer (some ⟨b, 0, none⟩) ∧ K ≤ b ∧ Blk W b 39 rz]

def ri7M : List Nat := [1, 2, 7, 15, 31, 47, 64, 255, 383]
def ri7R (f : Nat → Nat) (la : List SibI) (K : Nat) (v54 : Value) : List ((Nat → Value) → World → Prop) := [
  fun val _ => val 0 = rg f v54,
  fun val _ => val 1 = rg f v54,
  fun val W => ∃ v', (val 2) = .tuple #[rg f v', .int .i64 0] ∧ OwnL W v' la,
  fun val _ => val 3 = (val 2),
  fun val _ => val 4 = tupAt (val 3) 0,
  fun val _ => val 5 = tupAt (val 3) 1,
  fun val W => ∃ b, (val 6) = .pointer (some ⟨b, 0, none⟩) ∧ K ≤ b ∧ Blk W b 39 rz]

def ri8M : List Nat := [1, 2, 7, 15, 31, 47, 127, 255, 511, 1023, 2047, 4095, 8191, 16383, 32767, 49151, 131071, 262143, 524287]
def ri8R (f : Nat → Nat) (fab : Nat → Nat) (eab : Nat) (v54 : Value) (v62 : Value) (v68 : Value) (v80 : Value) : List ((Nat → Value) → World → Prop) := [
  fun val _ => val 0 = .int .i64 (eab : Int),
  fun val _ => val 1 = .int .i64 (eab : Int),
  fun val _ => val 2 = .bool false,
  fun val _ => val 3 = .bool false,
  fun val _ => val 4 = rg fab v62,
  fun val _ => val 5 = rg fab v68,
  fun val _ => val 6 = .bool true,
  fun val _ => val 7 = .bool false,
  fun val _ => val 8 = .bool false,
  fun val _ => val 9 = .bool false,
  fun val _ => val 10 = .int .i64 0,
  fun val _ => val 11 = .bool false,
  fun val _ => val 12 = .bool false,
  fun val _ => val 13 = .bool false,
  fun val _ => val 14 = rg f v80,
  fun val _ => val 15 = rg f v54,
  fun val _ => val 16 = .bool true,
  fun val _ => val 17 = .bool false,
  fun val _ => val 18 = .bool false]

def ri10aM : List Nat := [1, 3, 7, 15, 31, 63]
def ri10aR : List ((Nat → Value) → World → Prop) := [
  fun val _ => val 0 = .int .i64 7,
  fun val _ => val 1 = .bool true,
  fun val _ => val 2 = .bool true,
  fun val _ => val 3 = undef,
  fun val _ => val 4 = undef,
  fun val _ => val 5 = .bool true]

def ri10bM : List Nat := [1, 3, 7, 15, 31, 63]
def ri10bR : List ((Nat → Value) → World → Prop) := [
  fun val _ => val 0 = .int .i64 0,
  fun val _ => val 1 = .bool false,
  fun val _ => val 2 = .bool false,
  fun val _ => val 3 = .int .i64 7,
  fun val _ => val 4 = .bool true,
  fun val _ => val 5 = .bool true]

def ri10cM : List Nat := [1, 3, 7, 15, 31, 63]
def ri10cR : List ((Nat → Value) → World → Prop) := [
  fun val _ => val 0 = .int .i64 0,
  fun val _ => val 1 = .bool false,
  fun val _ => val 2 = .bool false,
  fun val _ => val 3 = .int .i64 0,
  fun val _ => val 4 = .bool false,
  fun val _ => val 5 = .bool false]

def ri12M : List Nat := [1, 2, 7, 15, 31, 47, 64, 255, 383]
def ri12R (h : Nat → Nat) (fab : Nat → Nat) (fl : Nat → Nat) (ll : List SibI) (K : Nat) (el : Nat) (v58 : Value) (v62 : Value) : List ((Nat → Value) → World → Prop) := [
  fun val _ => val 0 = rg fab v62,
  fun val _ => val 1 = rg h v58,
  fun val W => ∃ v', (val 2) = .tuple #[rg fl v', .int .i64 (el : Int)] ∧ OwnL W v' ll,
  fun val _ => val 3 = (val 2),
  fun val _ => val 4 = tupAt (val 3) 0,
  fun val _ => val 5 = tupAt (val 3) 1,
  fun val W => ∃ b, (val 6) = .pointer (some ⟨b, 0, none⟩) ∧ K ≤ b ∧ Blk W b 39 rz]

def ri13M : List Nat := [1, 2, 7, 15, 31, 47, 64, 255, 383]
def ri13R (f : Nat → Nat) (fbc : Nat → Nat) (fl : Nat → Nat) (ll : List SibI) (K : Nat) (el : Nat) (v54 : Value) (v74 : Value) : List ((Nat → Value) → World → Prop) := [
  fun val _ => val 0 = rg f v54,
  fun val _ => val 1 = rg fbc v74,
  fun val W => ∃ v', (val 2) = .tuple #[rg fl v', .int .i64 (el : Int)] ∧ OwnL W v' ll,
  fun val _ => val 3 = (val 2),
  fun val _ => val 4 = tupAt (val 3) 0,
  fun val _ => val 5 = tupAt (val 3) 1,
  fun val W => ∃ b, (val 6) = .pointer (some ⟨b, 0, none⟩) ∧ K ≤ b ∧ Blk W b 39 rz]

def ri14M : List Nat := [1, 2, 7, 15, 31, 47, 64, 255, 383]
def ri14R (g : Nat → Nat) (fab : Nat → Nat) (lab : List SibI) (K : Nat) (v56 : Value) (v62 : Value) : List ((Nat → Value) → World → Prop) := [
  fun val _ => val 0 = rg fab v62,
  fun val _ => val 1 = rg g v56,
  fun val W => ∃ v', (val 2) = .tuple #[rg fab v', .int .i64 0] ∧ OwnL W v' lab,
  fun val _ => val 3 = (val 2),
  fun val _ => val 4 = tupAt (val 3) 0,
  fun val _ => val 5 = tupAt (val 3) 1,
  fun val W => ∃ b, (val 6) = .pointer (some ⟨b, 0, none⟩) ∧ K ≤ b ∧ Blk W b 39 rz]

def ri15M : List Nat := [1, 2, 7, 15, 31, 47, 127, 255, 511, 1023, 2047, 4095, 8191, 16383, 24575, 65535, 131071, 262143, 524287, 1048575, 2097151, 4194303, 8388607, 16777215, 33554431, 67108863]
def ri15R (fab : Nat → Nat) (fl : Nat → Nat) (el : Nat) (v62 : Value) (v112 : Value) (v118 : Value) (v124 : Value) : List ((Nat → Value) → World → Prop) := [
  fun val _ => val 0 = .int .i64 (el : Int),
  fun val _ => val 1 = .int .i64 (el : Int),
  fun val _ => val 2 = .bool true,
  fun val _ => val 3 = .bool true,
  fun val _ => val 4 = rg fl v112,
  fun val _ => val 5 = rg fl v118,
  fun val _ => val 6 = .bool true,
  fun val _ => val 7 = .bool true,
  fun val _ => val 8 = .bool true,
  fun val _ => val 9 = .int .i64 0,
  fun val _ => val 10 = .bool true,
  fun val _ => val 11 = .bool true,
  fun val _ => val 12 = .bool true,
  fun val _ => val 13 = rg fab v124,
  fun val _ => val 14 = rg fab v62,
  fun val _ => val 15 = .bool true,
  fun val _ => val 16 = .bool true,
  fun val _ => val 17 = .bool true,
  fun val _ => val 18 = rg fab v62,
  fun val _ => val 19 = .int .i64 0,
  fun val _ => val 20 = .bool true,
  fun val _ => val 21 = .bool true,
  fun val _ => val 22 = .bool true,
  fun val _ => val 23 = .bool true,
  fun val _ => val 24 = .bool true,
  fun val _ => val 25 = .bool true]

set_option maxRecDepth 100000 in
set_option maxHeartbeats 40000000 in
theorem siblingRing_any (f g h : Nat → Nat) (v1 v2 v3 : Value) (lx ly lz : List SibI) (w : World) (hf : Fit8 f) (hg : Fit8 g) (hh : Fit8 h) (s1 : SL w v1 lx) (s2 : SL w v2 ly) (s3 : SL w v3 lz) :
    Calls Try.prog 7 #[rg f v1, rg g v2, rg h v3] w fun e w' => e = .returned (.bool true) ∧ Frm (fun _ => False) w w' := by
  have GG : Frm (fun _ => False) w (((w.alloc (.cells (rgc f v1) 39)).alloc (.cells (rgc g v2) 39)).alloc (.cells (rgc h v3) 39)) := (((Frm.refl _ w).alloc _).alloc _).alloc _
  have b3 : Blk (((w.alloc (.cells (rgc f v1) 39)).alloc (.cells (rgc g v2) 39)).alloc (.cells (rgc h v3) 39)) w.heap.size 39 (rgc f v1) := ((Blk.alloc w _ _).old _).old _
  have b4 : Blk (((w.alloc (.cells (rgc f v1) 39)).alloc (.cells (rgc g v2) 39)).alloc (.cells (rgc h v3) 39)) (w.heap.size + 1) 39 (rgc g v2) := (Blk.at1 w _ _ _).old _
  have b5 : Blk (((w.alloc (.cells (rgc f v1) 39)).alloc (.cells (rgc g v2) 39)).alloc (.cells (rgc h v3) 39)) (w.heap.size + 1 + 1) 39 (rgc h v3) := Blk.at2 w _ _ _ _
  go_enter Try.func7, Try.ntmps7
  go_upto_region 1 with fail
  rename_i hK
  generalize ((w.alloc (.cells (rgc f v1) 39)).alloc (.cells (rgc g v2) 39)).alloc (.cells (rgc h v3) 39) = w0 at *
  obtain ⟨N3, hN3⟩ : ∃ N, w.heap.size = N := ⟨_, rfl⟩
  rw [hN3] at b3 b4 b5 ⊢
  obtain ⟨N4, hN4⟩ : ∃ N, N3 + 1 = N := ⟨_, rfl⟩
  rw [hN4] at b4 b5 ⊢
  obtain ⟨N5, hN5⟩ : ∃ N, N4 + 1 = N := ⟨_, rfl⟩
  rw [hN5] at b5 ⊢
  have H3 : Hid (∀ W, Frm (fun _ => False) w0 W → Blk W N3 39 (rgc f v1) ∧ SL W v1 lx) := Lib.hid fun W g => ⟨b3.keep g (fun h => h), s1.keepF (GG.trans g)⟩
  have H4 : Hid (∀ W, Frm (fun _ => False) w0 W → Blk W N4 39 (rgc g v2) ∧ SL W v2 ly) := Lib.hid fun W g => ⟨b4.keep g (fun h => h), s2.keepF (GG.trans g)⟩
  have H5 : Hid (∀ W, Frm (fun _ => False) w0 W → Blk W N5 39 (rgc h v3) ∧ SL W v3 lz) := Lib.hid fun W g => ⟨b5.keep g (fun h => h), s3.keepF (GG.trans g)⟩
  have HWK := Lib.hid (fun W => sworks_any W)
  clear b3 b4 b5 hN3 hN4 hN5
  by_cases hq : fewS lx
  rotate_left
  · have HF0 := Lib.hid hq
    clear hq
    have D : Frm (fun _ => False) w0 w0 := Frm.refl _ _
    refine wp_region_textR 28 0 [[], [0], [1], [2], [3], [3, 4], [3, 5], [3, 6], [7], [8], [8, 9], [8, 10], [8, 11], [12], [13], [13, 14], [13, 15], [13, 16], [17], [18], [18, 19], [18, 20], [18, 21], [22], [23], [23, 24], [23, 25], [23, 26]] ri1_0M (ri1_0R f v1) rfl rfl rfl rfl (by kernel_rfl) (by kernel_rfl) (fun val => ?_) ?_
    · try dsimp only
      refine RelO.next (k' := 1) rfl (fun W gW hF => ?_) ?_
      focus
        exact OpOK.load (by rfl) _ rfl (by rfl) (load_reg (H3.out W (D.trans gW)).1) (fun W' _ => rfl)
      try simp only [Act.put, List.setIfInBounds_toArray, List.set_cons_zero, List.set_cons_succ]
      refine RelO.next (k' := 2) rfl (fun W gW hF => ?_) ?_
      focus
        obtain ⟨h0, _⟩ := hF
        have e0 : val 0 = rg f v1 := h0 _ (Frm.refl _ W)
        try simp only [e0]
        try simp only [tupAt]
        refine OpOK.call (by rfl) ?_ ((sfew_no f v1 lx W (H3.out W (D.trans gW)).2 HF0.out).mono ?_)
        · first | (go_simp; done) | (go_simp; with_reducible rfl) | (go_simp; rfl)
        · rintro e W1 ⟨he, g1⟩
          subst he
          exact ⟨_, rfl, g1, fun W2 _ => rfl⟩
      try simp only [Act.put, List.setIfInBounds_toArray, List.set_cons_zero, List.set_cons_succ]
      refine RelO.next (k' := 3) rfl (fun W gW hF => ?_) ?_
      focus
        obtain ⟨h1, _⟩ := hF
        have e1 : val 1 = .bool false := h1 _ (Frm.refl _ W)
        try simp only [e1]
        try simp only [tupAt]
        refine OpOK.val (u := .bool true) (by rfl) ?_ (fun W' _ => rfl)
        try simp only [e1]
        try simp only [tupAt]
        first | (go_simp; done) | (go_simp; with_reducible rfl) | (go_simp; rfl)
      try simp only [Act.put, List.setIfInBounds_toArray, List.set_cons_zero, List.set_cons_succ]
      refine RelO.next (k' := 4) rfl (fun W gW hF => ?_) ?_
      focus
        obtain ⟨h2, _⟩ := hF
        have e2 : val 2 = .bool true := h2 _ (Frm.refl _ W)
        try simp only [e2]
        try simp only [tupAt]
        refine OpOK.val (u := .bool true) (by rfl) ?_ (fun W' _ => rfl)
        try simp only [e2]
        try simp only [tupAt]
        first | (go_simp; done) | (go_simp; with_reducible rfl) | (go_simp; rfl)
      try simp only [Act.put, List.setIfInBounds_toArray, List.set_cons_zero, List.set_cons_succ]
      refine RelO.next (k' := 5) rfl (fun W gW hF => ?_) ?_
      focus
        obtain ⟨h3, _⟩ := hF
        have e3 : val 3 = .bool true := h3 _ (Frm.refl _ W)
        try simp only [e3]
        try simp only [tupAt]
        exact OpOK.skip (by rfl) (fun W' _ => rfl)
      try simp only [Act.put, List.setIfInBounds_toArray, List.set_cons_zero, List.set_cons_succ]
      refine RelO.next (k' := 6) rfl (fun W gW hF => ?_) ?_
      focus
        obtain ⟨h3, h4, _⟩ := hF
        have e3 : val 3 = .bool true := h3 _ (Frm.refl _ W)
        have e4 : val 4 = undef := h4 _ (Frm.refl _ W)
        try simp only [e4]
        try simp only [e3]
        try simp only [tupAt]
        exact OpOK.skip (by rfl) (fun W' _ => rfl)
      try simp only [Act.put, List.setIfInBounds_toArray, List.set_cons_zero, List.set_cons_succ]
      refine RelO.next (k' := 7) rfl (fun W gW hF => ?_) ?_
      focus
        obtain ⟨h3, h5, _⟩ := hF
        have e3 : val 3 = .bool true := h3 _ (Frm.refl _ W)
        have e5 : val 5 = undef := h5 _ (Frm.refl _ W)
        try simp only [e5]
        try simp only [e3]
        try simp only [tupAt]
        exact OpOK.skip (by rfl) (fun W' _ => rfl)
      try simp only [Act.put, List.setIfInBounds_toArray, List.set_cons_zero, List.set_cons_succ]
      refine RelO.next (k' := 8) rfl (fun W gW hF => ?_) ?_
      focus
        obtain ⟨h3, h6, _⟩ := hF
        have e3 : val 3 = .bool true := h3 _ (Frm.refl _ W)
        have e6 : val 6 = undef := h6 _ (Frm.refl _ W)
        try simp only [e6]
        try simp only [e3]
        try simp only [tupAt]
        refine OpOK.val (u := .bool true) (by rfl) ?_ (fun W' _ => rfl)
        try simp only [e6]
        try simp only [e3]
        try simp only [tupAt]
        first | (go_simp; done) | (go_simp; with_reducible rfl) | (go_simp; rfl)
      try simp only [Act.put, List.setIfInBounds_toArray, List.set_cons_zero, List.set_cons_succ]
      refine RelO.next (k' := 9) rfl (fun W gW hF => ?_) ?_
      focus
        obtain ⟨h7, _⟩ := hF
        have e7 : val 7 = .bool true := h7 _ (Frm.refl _ W)
        try simp only [e7]
        try simp only [tupAt]
        refine OpOK.val (u := .bool true) (by rfl) ?_ (fun W' _ => rfl)
        try simp only [e7]
        try simp only [tupAt]
        first | (go_simp; done) | (go_simp; with_reducible rfl) | (go_simp; rfl)
      try simp only [Act.put, List.setIfInBounds_toArray, List.set_cons_zero, List.set_cons_succ]
      refine RelO.next (k' := 10) rfl (fun W gW hF => ?_) ?_
      focus
        obtain ⟨h8, _⟩ := hF
        have e8 : val 8 = .bool true := h8 _ (Frm.refl _ W)
        try simp only [e8]
        try simp only [tupAt]
        exact OpOK.skip (by rfl) (fun W' _ => rfl)
      try simp only [Act.put, List.setIfInBounds_toArray, List.set_cons_zero, List.set_cons_succ]
      refine RelO.next (k' := 11) rfl (fun W gW hF => ?_) ?_
      focus
        obtain ⟨h8, h9, _⟩ := hF
        have e8 : val 8 = .bool true := h8 _ (Frm.refl _ W)
        have e9 : val 9 = undef := h9 _ (Frm.refl _ W)
        try simp only [e9]
        try simp only [e8]
        try simp only [tupAt]
        exact OpOK.skip (by rfl) (fun W' _ => rfl)
      try simp only [Act.put, List.setIfInBounds_toArray, List.set_cons_zero, List.set_cons_succ]
      refine RelO.next (k' := 12) rfl (fun W gW hF => ?_) ?_
      focus
        obtain ⟨h8, h10, _⟩ := hF
        have e8 : val 8 = .bool true := h8 _ (Frm.refl _ W)
        have e10 : val 10 = undef := h10 _ (Frm.refl _ W)
        try simp only [e10]
        try simp only [e8]
        try simp only [tupAt]
        exact OpOK.skip (by rfl) (fun W' _ => rfl)
      try simp only [Act.put, List.setIfInBounds_toArray, List.set_cons_zero, List.set_cons_succ]
      refine RelO.next (k' := 13) rfl (fun W gW hF => ?_) ?_
      focus
        obtain ⟨h8, h11, _⟩ := hF
        have e8 : val 8 = .bool true := h8 _ (Frm.refl _ W)
        have e11 : val 11 = undef := h11 _ (Frm.refl _ W)
        try simp only [e11]
        try simp only [e8]
        try simp only [tupAt]
        refine OpOK.val (u := .bool true) (by rfl) ?_ (fun W' _ => rfl)
        try simp only [e11]
        try simp only [e8]
        try simp only [tupAt]
        first | (go_simp; done) | (go_simp; with_reducible rfl) | (go_simp; rfl)
      try simp only [Act.put, List.setIfInBounds_toArray, List.set_cons_zero, List.set_cons_succ]
      refine RelO.next (k' := 14) rfl (fun W gW hF => ?_) ?_
      focus
        obtain ⟨h12, _⟩ := hF
        have e12 : val 12 = .bool true := h12 _ (Frm.refl _ W)
        try simp only [e12]
        try simp only [tupAt]
        refine OpOK.val (u := .bool true) (by rfl) ?_ (fun W' _ => rfl)
        try simp only [e12]
        try simp only [tupAt]
        first | (go_simp; done) | (go_simp; with_reducible rfl) | (go_simp; rfl)
      try simp only [Act.put, List.setIfInBounds_toArray, List.set_cons_zero, List.set_cons_succ]
      refine RelO.next (k' := 15) rfl (fun W gW hF => ?_) ?_
      focus
        obtain ⟨h13, _⟩ := hF
        have e13 : val 13 = .bool true := h13 _ (Frm.refl _ W)
        try simp only [e13]
        try simp only [tupAt]
        exact OpOK.skip (by rfl) (fun W' _ => rfl)
      try simp only [Act.put, List.setIfInBounds_toArray, List.set_cons_zero, List.set_cons_succ]
      refine RelO.next (k' := 16) rfl (fun W gW hF => ?_) ?_
      focus
        obtain ⟨h13, h14, _⟩ := hF
        have e13 : val 13 = .bool true := h13 _ (Frm.refl _ W)
        have e14 : val 14 = undef := h14 _ (Frm.refl _ W)
        try simp only [e14]
        try simp only [e13]
        try simp only [tupAt]
        exact OpOK.skip (by rfl) (fun W' _ => rfl)
      try simp only [Act.put, List.setIfInBounds_toArray, List.set_cons_zero, List.set_cons_succ]
      refine RelO.next (k' := 17) rfl (fun W gW hF => ?_) ?_
      focus
        obtain ⟨h13, h15, _⟩ := hF
        have e13 : val 13 = .bool true := h13 _ (Frm.refl _ W)
        have e15 : val 15 = undef := h15 _ (Frm.refl _ W)
        try simp only [e15]
        try simp only [e13]
        try simp only [tupAt]
        exact OpOK.skip (by rfl) (fun W' _ => rfl)
      try simp only [Act.put, List.setIfInBounds_toArray, List.set_cons_zero, List.set_cons_succ]
      refine RelO.next (k' := 18) rfl (fun W gW hF => ?_) ?_
      focus
        obtain ⟨h13, h16, _⟩ := hF
        have e13 : val 13 = .bool true := h13 _ (Frm.refl _ W)
        have e16 : val 16 = undef := h16 _ (Frm.refl _ W)
        try simp only [e16]
        try simp only [e13]
        try simp only [tupAt]
        refine OpOK.val (u := .bool true) (by rfl) ?_ (fun W' _ => rfl)
        try simp only [e16]
        try simp only [e13]
        try simp only [tupAt]
        first | (go_simp; done) | (go_simp; with_reducible rfl) | (go_simp; rfl)
      try simp only [Act.put, List.setIfInBounds_toArray, List.set_cons_zero, List.set_cons_succ]
      refine RelO.next (k' := 19) rfl (fun W gW hF => ?_) ?_
      focus
        obtain ⟨h17, _⟩ := hF
        have e17 : val 17 = .bool true := h17 _ (Frm.refl _ W)
        try simp only [e17]
        try simp only [tupAt]
        refine OpOK.val (u := .bool true) (by rfl) ?_ (fun W' _ => rfl)
        try simp only [e17]
        try simp only [tupAt]
        first | (go_simp; done) | (go_simp; with_reducible rfl) | (go_simp; rfl)
      try simp only [Act.put, List.setIfInBounds_toArray, List.set_cons_zero, List.set_cons_succ]
      refine RelO.next (k' := 20) rfl (fun W gW hF => ?_) ?_
      focus
        obtain ⟨h18, _⟩ := hF
        have e18 : val 18 = .bool true := h18 _ (Frm.refl _ W)
        try simp only [e18]
        try simp only [tupAt]
        exact OpOK.skip (by rfl) (fun W' _ => rfl)
      try simp only [Act.put, List.setIfInBounds_toArray, List.set_cons_zero, List.set_cons_succ]
      refine RelO.next (k' := 21) rfl (fun W gW hF => ?_) ?_
      focus
        obtain ⟨h18, h19, _⟩ := hF
        have e18 : val 18 = .bool true := h18 _ (Frm.refl _ W)
        have e19 : val 19 = undef := h19 _ (Frm.refl _ W)
        try simp only [e19]
        try simp only [e18]
        try simp only [tupAt]
        exact OpOK.skip (by rfl) (fun W' _ => rfl)
      try simp only [Act.put, List.setIfInBounds_toArray, List.set_cons_zero, List.set_cons_succ]
      refine RelO.next (k' := 22) rfl (fun W gW hF => ?_) ?_
      focus
        obtain ⟨h18, h20, _⟩ := hF
        have e18 : val 18 = .bool true := h18 _ (Frm.refl _ W)
        have e20 : val 20 = undef := h20 _ (Frm.refl _ W)
        try simp only [e20]
        try simp only [e18]
        try simp only [tupAt]
        exact OpOK.skip (by rfl) (fun W' _ => rfl)
      try simp only [Act.put, List.setIfInBounds_toArray, List.set_cons_zero, List.set_cons_succ]
      refine RelO.next (k' := 23) rfl (fun W gW hF => ?_) ?_
      focus
        obtain ⟨h18, h21, _⟩ := hF
        have e18 : val 18 = .bool true := h18 _ (Frm.refl _ W)
        have e21 : val 21 = undef := h21 _ (Frm.refl _ W)
        try simp only [e21]
        try simp only [e18]
        try simp only [tupAt]
        refine OpOK.val (u := .bool true) (by rfl) ?_ (fun W' _ => rfl)
        try simp only [e21]
        try simp only [e18]
        try simp only [tupAt]
        first | (go_simp; done) | (go_simp; with_reducible rfl) | (go_simp; rfl)
      try simp only [Act.put, List.setIfInBounds_toArray, List.set_cons_zero, List.set_cons_succ]
      refine RelO.next (k' := 24) rfl (fun W gW hF => ?_) ?_
      focus
        obtain ⟨h22, _⟩ := hF
        have e22 : val 22 = .bool true := h22 _ (Frm.refl _ W)
        try simp only [e22]
        try simp only [tupAt]
        refine OpOK.val (u := .bool true) (by rfl) ?_ (fun W' _ => rfl)
        try simp only [e22]
        try simp only [tupAt]
        first | (go_simp; done) | (go_simp; with_reducible rfl) | (go_simp; rfl)
      try simp only [Act.put, List.setIfInBounds_toArray, List.set_cons_zero, List.set_cons_succ]
      refine RelO.next (k' := 25) rfl (fun W gW hF => ?_) ?_
      focus
        obtain ⟨h23, _⟩ := hF
        have e23 : val 23 = .bool true := h23 _ (Frm.refl _ W)
        try simp only [e23]
        try simp only [tupAt]
        exact OpOK.skip (by rfl) (fun W' _ => rfl)
      try simp only [Act.put, List.setIfInBounds_toArray, List.set_cons_zero, List.set_cons_succ]
      refine RelO.next (k' := 26) rfl (fun W gW hF => ?_) ?_
      focus
        obtain ⟨h23, h24, _⟩ := hF
        have e23 : val 23 = .bool true := h23 _ (Frm.refl _ W)
        have e24 : val 24 = undef := h24 _ (Frm.refl _ W)
        try simp only [e24]
        try simp only [e23]
        try simp only [tupAt]
        exact OpOK.skip (by rfl) (fun W' _ => rfl)
      try simp only [Act.put, List.setIfInBounds_toArray, List.set_cons_zero, List.set_cons_succ]
      refine RelO.next (k' := 27) rfl (fun W gW hF => ?_) ?_
      focus
        obtain ⟨h23, h25, _⟩ := hF
        have e23 : val 23 = .bool true := h23 _ (Frm.refl _ W)
        have e25 : val 25 = undef := h25 _ (Frm.refl _ W)
        try simp only [e25]
        try simp only [e23]
        try simp only [tupAt]
        exact OpOK.skip (by rfl) (fun W' _ => rfl)
      try simp only [Act.put, List.setIfInBounds_toArray, List.set_cons_zero, List.set_cons_succ]
      refine RelO.next (k' := 28) rfl (fun W gW hF => ?_) ?_
      focus
        obtain ⟨h23, h26, _⟩ := hF
        have e23 : val 23 = .bool true := h23 _ (Frm.refl _ W)
        have e26 : val 26 = undef := h26 _ (Frm.refl _ W)
        try simp only [e26]
        try simp only [e23]
        try simp only [tupAt]
        refine OpOK.val (u := .bool true) (by rfl) ?_ (fun W' _ => rfl)
        try simp only [e26]
        try simp only [e23]
        try simp only [tupAt]
        first | (go_simp; done) | (go_simp; with_reducible rfl) | (go_simp; rfl)
      try simp only [Act.put, List.setIfInBounds_toArray, List.set_cons_zero, List.set_cons_succ]
      exact RelO.nil
    intro val w1 gW hF
    obtain ⟨h0, h1, h2, h3, h4, h5, h6, h7, h8, h9, h10, h11, h12, h13, h14, h15, h16, h17, h18, h19, h20, h21, h22, h23, h24, h25, h26, h27, hT⟩ := hF
    have e0 : val 0 = rg f v1 := h0 _ (Frm.refl _ w1)
    have e1 : val 1 = .bool false := h1 _ (Frm.refl _ w1)
    have e2 : val 2 = .bool true := h2 _ (Frm.refl _ w1)
    have e3 : val 3 = .bool true := h3 _ (Frm.refl _ w1)
    have e4 : val 4 = undef := h4 _ (Frm.refl _ w1)
    have e5 : val 5 = undef := h5 _ (Frm.refl _ w1)
    have e6 : val 6 = undef := h6 _ (Frm.refl _ w1)
    have e7 : val 7 = .bool true := h7 _ (Frm.refl _ w1)
    have e8 : val 8 = .bool true := h8 _ (Frm.refl _ w1)
    have e9 : val 9 = undef := h9 _ (Frm.refl _ w1)
    have e10 : val 10 = undef := h10 _ (Frm.refl _ w1)
    have e11 : val 11 = undef := h11 _ (Frm.refl _ w1)
    have e12 : val 12 = .bool true := h12 _ (Frm.refl _ w1)
    have e13 : val 13 = .bool true := h13 _ (Frm.refl _ w1)
    have e14 : val 14 = undef := h14 _ (Frm.refl _ w1)
    have e15 : val 15 = undef := h15 _ (Frm.refl _ w1)
    have e16 : val 16 = undef := h16 _ (Frm.refl _ w1)
    have e17 : val 17 = .bool true := h17 _ (Frm.refl _ w1)
    have e18 : val 18 = .bool true := h18 _ (Frm.refl _ w1)
    have e19 : val 19 = undef := h19 _ (Frm.refl _ w1)
    have e20 : val 20 = undef := h20 _ (Frm.refl _ w1)
    have e21 : val 21 = undef := h21 _ (Frm.refl _ w1)
    have e22 : val 22 = .bool true := h22 _ (Frm.refl _ w1)
    have e23 : val 23 = .bool true := h23 _ (Frm.refl _ w1)
    have e24 : val 24 = undef := h24 _ (Frm.refl _ w1)
    have e25 : val 25 = undef := h25 _ (Frm.refl _ w1)
    have e26 : val 26 = undef := h26 _ (Frm.refl _ w1)
    have e27 : val 27 = .bool true := h27 _ (Frm.refl _ w1)
    clear hT h0 h1 h2 h3 h4 h5 h6 h7 h8 h9 h10 h11 h12 h13 h14 h15 h16 h17 h18 h19 h20 h21 h22 h23 h24 h25 h26 h27
    simp only [aO, Act.put, List.setIfInBounds_toArray, List.set_cons_zero, List.set_cons_succ, Nat.reduceAdd]
    try simp only [e27]
    try simp only [e26]
    try simp only [e25]
    try simp only [e24]
    try simp only [e23]
    try simp only [e22]
    try simp only [e21]
    try simp only [e20]
    try simp only [e19]
    try simp only [e18]
    try simp only [e17]
    try simp only [e16]
    try simp only [e15]
    try simp only [e14]
    try simp only [e13]
    try simp only [e12]
    try simp only [e11]
    try simp only [e10]
    try simp only [e9]
    try simp only [e8]
    try simp only [e7]
    try simp only [e6]
    try simp only [e5]
    try simp only [e4]
    try simp only [e3]
    try simp only [e2]
    try simp only [e1]
    try simp only [e0]
    try simp only [tupAt]
    refine wpTail.done ?_
    refine hK _ _ ?_
    have g1 := D.trans gW
    replace H3 := Hid.grow H3 g1
    replace H4 := Hid.grow H4 g1
    replace H5 := Hid.grow H5 g1
    replace GG := GG.trans g1
    clear gW D hK g1 e0 e1 e2 e3 e4 e5 e6 e7 e8 e9 e10 e11 e12 e13 e14 e15 e16 e17 e18 e19 e20 e21 e22 e23 e24 e25 e26 e27 
    go_wp2_with fail
    refine (HWK.out w1).mono ?_
    rintro e w2 ⟨rfl, g2⟩
    go_wp2_with fail
    go_ret
    exact ⟨rfl, GG.trans g2⟩
  have HF0 := Lib.hid hq
  have HL0 := Lib.hid (show lx.length ≤ 1000 by have := hq.1; omega)
  clear hq
  by_cases hq : fewS ly
  rotate_left
  · have HF1 := Lib.hid hq
    clear hq
    have D : Frm (fun _ => False) w0 w0 := Frm.refl _ _
    refine wp_region_textR 28 0 [[], [0], [1], [2], [3], [3, 4], [3, 5], [3, 6], [7], [8], [8, 9], [8, 10], [8, 11], [12], [13], [13, 14], [13, 15], [13, 16], [17], [18], [18, 19], [18, 20], [18, 21], [22], [23], [23, 24], [23, 25], [23, 26]] ri1_1M (ri1_1R f g v1 v2) rfl rfl rfl rfl (by kernel_rfl) (by kernel_rfl) (fun val => ?_) ?_
    · try dsimp only
      refine RelO.next (k' := 1) rfl (fun W gW hF => ?_) ?_
      focus
        exact OpOK.load (by rfl) _ rfl (by rfl) (load_reg (H3.out W (D.trans gW)).1) (fun W' _ => rfl)
      try simp only [Act.put, List.setIfInBounds_toArray, List.set_cons_zero, List.set_cons_succ]
      refine RelO.next (k' := 2) rfl (fun W gW hF => ?_) ?_
      focus
        obtain ⟨h0, _⟩ := hF
        have e0 : val 0 = rg f v1 := h0 _ (Frm.refl _ W)
        try simp only [e0]
        try simp only [tupAt]
        refine OpOK.call (by rfl) ?_ ((sfew_yes f v1 lx W (H3.out W (D.trans gW)).2 HF0.out).mono ?_)
        · first | (go_simp; done) | (go_simp; with_reducible rfl) | (go_simp; rfl)
        · rintro e W1 ⟨he, g1⟩
          subst he
          exact ⟨_, rfl, g1, fun W2 _ => rfl⟩
      try simp only [Act.put, List.setIfInBounds_toArray, List.set_cons_zero, List.set_cons_succ]
      refine RelO.next (k' := 3) rfl (fun W gW hF => ?_) ?_
      focus
        obtain ⟨h1, _⟩ := hF
        have e1 : val 1 = .bool true := h1 _ (Frm.refl _ W)
        try simp only [e1]
        try simp only [tupAt]
        refine OpOK.val (u := .bool false) (by rfl) ?_ (fun W' _ => rfl)
        try simp only [e1]
        try simp only [tupAt]
        first | (go_simp; done) | (go_simp; with_reducible rfl) | (go_simp; rfl)
      try simp only [Act.put, List.setIfInBounds_toArray, List.set_cons_zero, List.set_cons_succ]
      refine RelO.next (k' := 4) rfl (fun W gW hF => ?_) ?_
      focus
        obtain ⟨h2, _⟩ := hF
        have e2 : val 2 = .bool false := h2 _ (Frm.refl _ W)
        try simp only [e2]
        try simp only [tupAt]
        refine OpOK.val (u := .bool false) (by rfl) ?_ (fun W' _ => rfl)
        try simp only [e2]
        try simp only [tupAt]
        first | (go_simp; done) | (go_simp; with_reducible rfl) | (go_simp; rfl)
      try simp only [Act.put, List.setIfInBounds_toArray, List.set_cons_zero, List.set_cons_succ]
      refine RelO.next (k' := 5) rfl (fun W gW hF => ?_) ?_
      focus
        obtain ⟨h3, _⟩ := hF
        have e3 : val 3 = .bool false := h3 _ (Frm.refl _ W)
        try simp only [e3]
        try simp only [tupAt]
        exact OpOK.load (by rfl) _ rfl (by rfl) (load_reg (H4.out W (D.trans gW)).1) (fun W' _ => rfl)
      try simp only [Act.put, List.setIfInBounds_toArray, List.set_cons_zero, List.set_cons_succ]
      refine RelO.next (k' := 6) rfl (fun W gW hF => ?_) ?_
      focus
        obtain ⟨h3, h4, _⟩ := hF
        have e3 : val 3 = .bool false := h3 _ (Frm.refl _ W)
        have e4 : val 4 = rg g v2 := h4 _ (Frm.refl _ W)
        try simp only [e4]
        try simp only [e3]
        try simp only [tupAt]
        refine OpOK.call (by rfl) ?_ ((sfew_no g v2 ly W (H4.out W (D.trans gW)).2 HF1.out).mono ?_)
        · first | (go_simp; done) | (go_simp; with_reducible rfl) | (go_simp; rfl)
        · rintro e W1 ⟨he, g1⟩
          subst he
          exact ⟨_, rfl, g1, fun W2 _ => rfl⟩
      try simp only [Act.put, List.setIfInBounds_toArray, List.set_cons_zero, List.set_cons_succ]
      refine RelO.next (k' := 7) rfl (fun W gW hF => ?_) ?_
      focus
        obtain ⟨h3, h5, _⟩ := hF
        have e3 : val 3 = .bool false := h3 _ (Frm.refl _ W)
        have e5 : val 5 = .bool false := h5 _ (Frm.refl _ W)
        try simp only [e5]
        try simp only [e3]
        try simp only [tupAt]
        refine OpOK.val (u := .bool true) (by rfl) ?_ (fun W' _ => rfl)
        try simp only [e5]
        try simp only [e3]
        try simp only [tupAt]
        first | (go_simp; done) | (go_simp; with_reducible rfl) | (go_simp; rfl)
      try simp only [Act.put, List.setIfInBounds_toArray, List.set_cons_zero, List.set_cons_succ]
      refine RelO.next (k' := 8) rfl (fun W gW hF => ?_) ?_
      focus
        obtain ⟨h3, h6, _⟩ := hF
        have e3 : val 3 = .bool false := h3 _ (Frm.refl _ W)
        have e6 : val 6 = .bool true := h6 _ (Frm.refl _ W)
        try simp only [e6]
        try simp only [e3]
        try simp only [tupAt]
        refine OpOK.val (u := .bool true) (by rfl) ?_ (fun W' _ => rfl)
        try simp only [e6]
        try simp only [e3]
        try simp only [tupAt]
        first | (go_simp; done) | (go_simp; with_reducible rfl) | (go_simp; rfl)
      try simp only [Act.put, List.setIfInBounds_toArray, List.set_cons_zero, List.set_cons_succ]
      refine RelO.next (k' := 9) rfl (fun W gW hF => ?_) ?_
      focus
        obtain ⟨h7, _⟩ := hF
        have e7 : val 7 = .bool true := h7 _ (Frm.refl _ W)
        try simp only [e7]
        try simp only [tupAt]
        refine OpOK.val (u := .bool true) (by rfl) ?_ (fun W' _ => rfl)
        try simp only [e7]
        try simp only [tupAt]
        first | (go_simp; done) | (go_simp; with_reducible rfl) | (go_simp; rfl)
      try simp only [Act.put, List.setIfInBounds_toArray, List.set_cons_zero, List.set_cons_succ]
      refine RelO.next (k' := 10) rfl (fun W gW hF => ?_) ?_
      focus
        obtain ⟨h8, _⟩ := hF
        have e8 : val 8 = .bool true := h8 _ (Frm.refl _ W)
        try simp only [e8]
        try simp only [tupAt]
        exact OpOK.skip (by rfl) (fun W' _ => rfl)
      try simp only [Act.put, List.setIfInBounds_toArray, List.set_cons_zero, List.set_cons_succ]
      refine RelO.next (k' := 11) rfl (fun W gW hF => ?_) ?_
      focus
        obtain ⟨h8, h9, _⟩ := hF
        have e8 : val 8 = .bool true := h8 _ (Frm.refl _ W)
        have e9 : val 9 = undef := h9 _ (Frm.refl _ W)
        try simp only [e9]
        try simp only [e8]
        try simp only [tupAt]
        exact OpOK.skip (by rfl) (fun W' _ => rfl)
      try simp only [Act.put, List.setIfInBounds_toArray, List.set_cons_zero, List.set_cons_succ]
      refine RelO.next (k' := 12) rfl (fun W gW hF => ?_) ?_
      focus
        obtain ⟨h8, h10, _⟩ := hF
        have e8 : val 8 = .bool true := h8 _ (Frm.refl _ W)
        have e10 : val 10 = undef := h10 _ (Frm.refl _ W)
        try simp only [e10]
        try simp only [e8]
        try simp only [tupAt]
        exact OpOK.skip (by rfl) (fun W' _ => rfl)
      try simp only [Act.put, List.setIfInBounds_toArray, List.set_cons_zero, List.set_cons_succ]
      refine RelO.next (k' := 13) rfl (fun W gW hF => ?_) ?_
      focus
        obtain ⟨h8, h11, _⟩ := hF
        have e8 : val 8 = .bool true := h8 _ (Frm.refl _ W)
        have e11 : val 11 = undef := h11 _ (Frm.refl _ W)
        try simp only [e11]
        try simp only [e8]
        try simp only [tupAt]
        refine OpOK.val (u := .bool true) (by rfl) ?_ (fun W' _ => rfl)
        try simp only [e11]
        try simp only [e8]
        try simp only [tupAt]
        first | (go_simp; done) | (go_simp; with_reducible rfl) | (go_simp; rfl)
      try simp only [Act.put, List.setIfInBounds_toArray, List.set_cons_zero, List.set_cons_succ]
      refine RelO.next (k' := 14) rfl (fun W gW hF => ?_) ?_
      focus
        obtain ⟨h12, _⟩ := hF
        have e12 : val 12 = .bool true := h12 _ (Frm.refl _ W)
        try simp only [e12]
        try simp only [tupAt]
        refine OpOK.val (u := .bool true) (by rfl) ?_ (fun W' _ => rfl)
        try simp only [e12]
        try simp only [tupAt]
        first | (go_simp; done) | (go_simp; with_reducible rfl) | (go_simp; rfl)
      try simp only [Act.put, List.setIfInBounds_toArray, List.set_cons_zero, List.set_cons_succ]
      refine RelO.next (k' := 15) rfl (fun W gW hF => ?_) ?_
      focus
        obtain ⟨h13, _⟩ := hF
        have e13 : val 13 = .bool true := h13 _ (Frm.refl _ W)
        try simp only [e13]
        try simp only [tupAt]
        exact OpOK.skip (by rfl) (fun W' _ => rfl)
      try simp only [Act.put, List.setIfInBounds_toArray, List.set_cons_zero, List.set_cons_succ]
      refine RelO.next (k' := 16) rfl (fun W gW hF => ?_) ?_
      focus
        obtain ⟨h13, h14, _⟩ := hF
        have e13 : val 13 = .bool true := h13 _ (Frm.refl _ W)
        have e14 : val 14 = undef := h14 _ (Frm.refl _ W)
        try simp only [e14]
        try simp only [e13]
        try simp only [tupAt]
        exact OpOK.skip (by rfl) (fun W' _ => rfl)
      try simp only [Act.put, List.setIfInBounds_toArray, List.set_cons_zero, List.set_cons_succ]
      refine RelO.next (k' := 17) rfl (fun W gW hF => ?_) ?_
      focus
        obtain ⟨h13, h15, _⟩ := hF
        have e13 : val 13 = .bool true := h13 _ (Frm.refl _ W)
        have e15 : val 15 = undef := h15 _ (Frm.refl _ W)
        try simp only [e15]
        try simp only [e13]
        try simp only [tupAt]
        exact OpOK.skip (by rfl) (fun W' _ => rfl)
      try simp only [Act.put, List.setIfInBounds_toArray, List.set_cons_zero, List.set_cons_succ]
      refine RelO.next (k' := 18) rfl (fun W gW hF => ?_) ?_
      focus
        obtain ⟨h13, h16, _⟩ := hF
        have e13 : val 13 = .bool true := h13 _ (Frm.refl _ W)
        have e16 : val 16 = undef := h16 _ (Frm.refl _ W)
        try simp only [e16]
        try simp only [e13]
        try simp only [tupAt]
        refine OpOK.val (u := .bool true) (by rfl) ?_ (fun W' _ => rfl)
        try simp only [e16]
        try simp only [e13]
        try simp only [tupAt]
        first | (go_simp; done) | (go_simp; with_reducible rfl) | (go_simp; rfl)
      try simp only [Act.put, List.setIfInBounds_toArray, List.set_cons_zero, List.set_cons_succ]
      refine RelO.next (k' := 19) rfl (fun W gW hF => ?_) ?_
      focus
        obtain ⟨h17, _⟩ := hF
        have e17 : val 17 = .bool true := h17 _ (Frm.refl _ W)
        try simp only [e17]
        try simp only [tupAt]
        refine OpOK.val (u := .bool true) (by rfl) ?_ (fun W' _ => rfl)
        try simp only [e17]
        try simp only [tupAt]
        first | (go_simp; done) | (go_simp; with_reducible rfl) | (go_simp; rfl)
      try simp only [Act.put, List.setIfInBounds_toArray, List.set_cons_zero, List.set_cons_succ]
      refine RelO.next (k' := 20) rfl (fun W gW hF => ?_) ?_
      focus
        obtain ⟨h18, _⟩ := hF
        have e18 : val 18 = .bool true := h18 _ (Frm.refl _ W)
        try simp only [e18]
        try simp only [tupAt]
        exact OpOK.skip (by rfl) (fun W' _ => rfl)
      try simp only [Act.put, List.setIfInBounds_toArray, List.set_cons_zero, List.set_cons_succ]
      refine RelO.next (k' := 21) rfl (fun W gW hF => ?_) ?_
      focus
        obtain ⟨h18, h19, _⟩ := hF
        have e18 : val 18 = .bool true := h18 _ (Frm.refl _ W)
        have e19 : val 19 = undef := h19 _ (Frm.refl _ W)
        try simp only [e19]
        try simp only [e18]
        try simp only [tupAt]
        exact OpOK.skip (by rfl) (fun W' _ => rfl)
      try simp only [Act.put, List.setIfInBounds_toArray, List.set_cons_zero, List.set_cons_succ]
      refine RelO.next (k' := 22) rfl (fun W gW hF => ?_) ?_
      focus
        obtain ⟨h18, h20, _⟩ := hF
        have e18 : val 18 = .bool true := h18 _ (Frm.refl _ W)
        have e20 : val 20 = undef := h20 _ (Frm.refl _ W)
        try simp only [e20]
        try simp only [e18]
        try simp only [tupAt]
        exact OpOK.skip (by rfl) (fun W' _ => rfl)
      try simp only [Act.put, List.setIfInBounds_toArray, List.set_cons_zero, List.set_cons_succ]
      refine RelO.next (k' := 23) rfl (fun W gW hF => ?_) ?_
      focus
        obtain ⟨h18, h21, _⟩ := hF
        have e18 : val 18 = .bool true := h18 _ (Frm.refl _ W)
        have e21 : val 21 = undef := h21 _ (Frm.refl _ W)
        try simp only [e21]
        try simp only [e18]
        try simp only [tupAt]
        refine OpOK.val (u := .bool true) (by rfl) ?_ (fun W' _ => rfl)
        try simp only [e21]
        try simp only [e18]
        try simp only [tupAt]
        first | (go_simp; done) | (go_simp; with_reducible rfl) | (go_simp; rfl)
      try simp only [Act.put, List.setIfInBounds_toArray, List.set_cons_zero, List.set_cons_succ]
      refine RelO.next (k' := 24) rfl (fun W gW hF => ?_) ?_
      focus
        obtain ⟨h22, _⟩ := hF
        have e22 : val 22 = .bool true := h22 _ (Frm.refl _ W)
        try simp only [e22]
        try simp only [tupAt]
        refine OpOK.val (u := .bool true) (by rfl) ?_ (fun W' _ => rfl)
        try simp only [e22]
        try simp only [tupAt]
        first | (go_simp; done) | (go_simp; with_reducible rfl) | (go_simp; rfl)
      try simp only [Act.put, List.setIfInBounds_toArray, List.set_cons_zero, List.set_cons_succ]
      refine RelO.next (k' := 25) rfl (fun W gW hF => ?_) ?_
      focus
        obtain ⟨h23, _⟩ := hF
        have e23 : val 23 = .bool true := h23 _ (Frm.refl _ W)
        try simp only [e23]
        try simp only [tupAt]
        exact OpOK.skip (by rfl) (fun W' _ => rfl)
      try simp only [Act.put, List.setIfInBounds_toArray, List.set_cons_zero, List.set_cons_succ]
      refine RelO.next (k' := 26) rfl (fun W gW hF => ?_) ?_
      focus
        obtain ⟨h23, h24, _⟩ := hF
        have e23 : val 23 = .bool true := h23 _ (Frm.refl _ W)
        have e24 : val 24 = undef := h24 _ (Frm.refl _ W)
        try simp only [e24]
        try simp only [e23]
        try simp only [tupAt]
        exact OpOK.skip (by rfl) (fun W' _ => rfl)
      try simp only [Act.put, List.setIfInBounds_toArray, List.set_cons_zero, List.set_cons_succ]
      refine RelO.next (k' := 27) rfl (fun W gW hF => ?_) ?_
      focus
        obtain ⟨h23, h25, _⟩ := hF
        have e23 : val 23 = .bool true := h23 _ (Frm.refl _ W)
        have e25 : val 25 = undef := h25 _ (Frm.refl _ W)
        try simp only [e25]
        try simp only [e23]
        try simp only [tupAt]
        exact OpOK.skip (by rfl) (fun W' _ => rfl)
      try simp only [Act.put, List.setIfInBounds_toArray, List.set_cons_zero, List.set_cons_succ]
      refine RelO.next (k' := 28) rfl (fun W gW hF => ?_) ?_
      focus
        obtain ⟨h23, h26, _⟩ := hF
        have e23 : val 23 = .bool true := h23 _ (Frm.refl _ W)
        have e26 : val 26 = undef := h26 _ (Frm.refl _ W)
        try simp only [e26]
        try simp only [e23]
        try simp only [tupAt]
        refine OpOK.val (u := .bool true) (by rfl) ?_ (fun W' _ => rfl)
        try simp only [e26]
        try simp only [e23]
        try simp only [tupAt]
        first | (go_simp; done) | (go_simp; with_reducible rfl) | (go_simp; rfl)
      try simp only [Act.put, List.setIfInBounds_toArray, List.set_cons_zero, List.set_cons_succ]
      exact RelO.nil
    intro val w1 gW hF
    obtain ⟨h0, h1, h2, h3, h4, h5, h6, h7, h8, h9, h10, h11, h12, h13, h14, h15, h16, h17, h18, h19, h20, h21, h22, h23, h24, h25, h26, h27, hT⟩ := hF
    have e0 : val 0 = rg f v1 := h0 _ (Frm.refl _ w1)
    have e1 : val 1 = .bool true := h1 _ (Frm.refl _ w1)
    have e2 : val 2 = .bool false := h2 _ (Frm.refl _ w1)
    have e3 : val 3 = .bool false := h3 _ (Frm.refl _ w1)
    have e4 : val 4 = rg g v2 := h4 _ (Frm.refl _ w1)
    have e5 : val 5 = .bool false := h5 _ (Frm.refl _ w1)
    have e6 : val 6 = .bool true := h6 _ (Frm.refl _ w1)
    have e7 : val 7 = .bool true := h7 _ (Frm.refl _ w1)
    have e8 : val 8 = .bool true := h8 _ (Frm.refl _ w1)
    have e9 : val 9 = undef := h9 _ (Frm.refl _ w1)
    have e10 : val 10 = undef := h10 _ (Frm.refl _ w1)
    have e11 : val 11 = undef := h11 _ (Frm.refl _ w1)
    have e12 : val 12 = .bool true := h12 _ (Frm.refl _ w1)
    have e13 : val 13 = .bool true := h13 _ (Frm.refl _ w1)
    have e14 : val 14 = undef := h14 _ (Frm.refl _ w1)
    have e15 : val 15 = undef := h15 _ (Frm.refl _ w1)
    have e16 : val 16 = undef := h16 _ (Frm.refl _ w1)
    have e17 : val 17 = .bool true := h17 _ (Frm.refl _ w1)
    have e18 : val 18 = .bool true := h18 _ (Frm.refl _ w1)
    have e19 : val 19 = undef := h19 _ (Frm.refl _ w1)
    have e20 : val 20 = undef := h20 _ (Frm.refl _ w1)
    have e21 : val 21 = undef := h21 _ (Frm.refl _ w1)
    have e22 : val 22 = .bool true := h22 _ (Frm.refl _ w1)
    have e23 : val 23 = .bool true := h23 _ (Frm.refl _ w1)
    have e24 : val 24 = undef := h24 _ (Frm.refl _ w1)
    have e25 : val 25 = undef := h25 _ (Frm.refl _ w1)
    have e26 : val 26 = undef := h26 _ (Frm.refl _ w1)
    have e27 : val 27 = .bool true := h27 _ (Frm.refl _ w1)
    clear hT h0 h1 h2 h3 h4 h5 h6 h7 h8 h9 h10 h11 h12 h13 h14 h15 h16 h17 h18 h19 h20 h21 h22 h23 h24 h25 h26 h27
    simp only [aO, Act.put, List.setIfInBounds_toArray, List.set_cons_zero, List.set_cons_succ, Nat.reduceAdd]
    try simp only [e27]
    try simp only [e26]
    try simp only [e25]
    try simp only [e24]
    try simp only [e23]
    try simp only [e22]
    try simp only [e21]
    try simp only [e20]
    try simp only [e19]
    try simp only [e18]
    try simp only [e17]
    try simp only [e16]
    try simp only [e15]
    try simp only [e14]
    try simp only [e13]
    try simp only [e12]
    try simp only [e11]
    try simp only [e10]
    try simp only [e9]
    try simp only [e8]
    try simp only [e7]
    try simp only [e6]
    try simp only [e5]
    try simp only [e4]
    try simp only [e3]
    try simp only [e2]
    try simp only [e1]
    try simp only [e0]
    try simp only [tupAt]
    refine wpTail.done ?_
    refine hK _ _ ?_
    have g1 := D.trans gW
    replace H3 := Hid.grow H3 g1
    replace H4 := Hid.grow H4 g1
    replace H5 := Hid.grow H5 g1
    replace GG := GG.trans g1
    clear gW D hK g1 e0 e1 e2 e3 e4 e5 e6 e7 e8 e9 e10 e11 e12 e13 e14 e15 e16 e17 e18 e19 e20 e21 e22 e23 e24 e25 e26 e27 
    go_wp2_with fail
    refine (HWK.out w1).mono ?_
    rintro e w2 ⟨rfl, g2⟩
    go_wp2_with fail
    go_ret
    exact ⟨rfl, GG.trans g2⟩
  have HF1 := Lib.hid hq
  have HL1 := Lib.hid (show ly.length ≤ 1000 by have := hq.1; omega)
  clear hq
  by_cases hq : fewS lz
  rotate_left
  · have HF2 := Lib.hid hq
    clear hq
    have D : Frm (fun _ => False) w0 w0 := Frm.refl _ _
    refine wp_region_textR 28 0 [[], [0], [1], [2], [3], [3, 4], [3, 5], [3, 6], [7], [8], [8, 9], [8, 10], [8, 11], [12], [13], [13, 14], [13, 15], [13, 16], [17], [18], [18, 19], [18, 20], [18, 21], [22], [23], [23, 24], [23, 25], [23, 26]] ri1_2M (ri1_2R f g h v1 v2 v3) rfl rfl rfl rfl (by kernel_rfl) (by kernel_rfl) (fun val => ?_) ?_
    · try dsimp only
      refine RelO.next (k' := 1) rfl (fun W gW hF => ?_) ?_
      focus
        exact OpOK.load (by rfl) _ rfl (by rfl) (load_reg (H3.out W (D.trans gW)).1) (fun W' _ => rfl)
      try simp only [Act.put, List.setIfInBounds_toArray, List.set_cons_zero, List.set_cons_succ]
      refine RelO.next (k' := 2) rfl (fun W gW hF => ?_) ?_
      focus
        obtain ⟨h0, _⟩ := hF
        have e0 : val 0 = rg f v1 := h0 _ (Frm.refl _ W)
        try simp only [e0]
        try simp only [tupAt]
        refine OpOK.call (by rfl) ?_ ((sfew_yes f v1 lx W (H3.out W (D.trans gW)).2 HF0.out).mono ?_)
        · first | (go_simp; done) | (go_simp; with_reducible rfl) | (go_simp; rfl)
        · rintro e W1 ⟨he, g1⟩
          subst he
          exact ⟨_, rfl, g1, fun W2 _ => rfl⟩
      try simp only [Act.put, List.setIfInBounds_toArray, List.set_cons_zero, List.set_cons_succ]
      refine RelO.next (k' := 3) rfl (fun W gW hF => ?_) ?_
      focus
        obtain ⟨h1, _⟩ := hF
        have e1 : val 1 = .bool true := h1 _ (Frm.refl _ W)
        try simp only [e1]
        try simp only [tupAt]
        refine OpOK.val (u := .bool false) (by rfl) ?_ (fun W' _ => rfl)
        try simp only [e1]
        try simp only [tupAt]
        first | (go_simp; done) | (go_simp; with_reducible rfl) | (go_simp; rfl)
      try simp only [Act.put, List.setIfInBounds_toArray, List.set_cons_zero, List.set_cons_succ]
      refine RelO.next (k' := 4) rfl (fun W gW hF => ?_) ?_
      focus
        obtain ⟨h2, _⟩ := hF
        have e2 : val 2 = .bool false := h2 _ (Frm.refl _ W)
        try simp only [e2]
        try simp only [tupAt]
        refine OpOK.val (u := .bool false) (by rfl) ?_ (fun W' _ => rfl)
        try simp only [e2]
        try simp only [tupAt]
        first | (go_simp; done) | (go_simp; with_reducible rfl) | (go_simp; rfl)
      try simp only [Act.put, List.setIfInBounds_toArray, List.set_cons_zero, List.set_cons_succ]
      refine RelO.next (k' := 5) rfl (fun W gW hF => ?_) ?_
      focus
        obtain ⟨h3, _⟩ := hF
        have e3 : val 3 = .bool false := h3 _ (Frm.refl _ W)
        try simp only [e3]
        try simp only [tupAt]
        exact OpOK.load (by rfl) _ rfl (by rfl) (load_reg (H4.out W (D.trans gW)).1) (fun W' _ => rfl)
      try simp only [Act.put, List.setIfInBounds_toArray, List.set_cons_zero, List.set_cons_succ]
      refine RelO.next (k' := 6) rfl (fun W gW hF => ?_) ?_
      focus
        obtain ⟨h3, h4, _⟩ := hF
        have e3 : val 3 = .bool false := h3 _ (Frm.refl _ W)
        have e4 : val 4 = rg g v2 := h4 _ (Frm.refl _ W)
        try simp only [e4]
        try simp only [e3]
        try simp only [tupAt]
        refine OpOK.call (by rfl) ?_ ((sfew_yes g v2 ly W (H4.out W (D.trans gW)).2 HF1.out).mono ?_)
        · first | (go_simp; done) | (go_simp; with_reducible rfl) | (go_simp; rfl)
        · rintro e W1 ⟨he, g1⟩
          subst he
          exact ⟨_, rfl, g1, fun W2 _ => rfl⟩
      try simp only [Act.put, List.setIfInBounds_toArray, List.set_cons_zero, List.set_cons_succ]
      refine RelO.next (k' := 7) rfl (fun W gW hF => ?_) ?_
      focus
        obtain ⟨h3, h5, _⟩ := hF
        have e3 : val 3 = .bool false := h3 _ (Frm.refl _ W)
        have e5 : val 5 = .bool true := h5 _ (Frm.refl _ W)
        try simp only [e5]
        try simp only [e3]
        try simp only [tupAt]
        refine OpOK.val (u := .bool false) (by rfl) ?_ (fun W' _ => rfl)
        try simp only [e5]
        try simp only [e3]
        try simp only [tupAt]
        first | (go_simp; done) | (go_simp; with_reducible rfl) | (go_simp; rfl)
      try simp only [Act.put, List.setIfInBounds_toArray, List.set_cons_zero, List.set_cons_succ]
      refine RelO.next (k' := 8) rfl (fun W gW hF => ?_) ?_
      focus
        obtain ⟨h3, h6, _⟩ := hF
        have e3 : val 3 = .bool false := h3 _ (Frm.refl _ W)
        have e6 : val 6 = .bool false := h6 _ (Frm.refl _ W)
        try simp only [e6]
        try simp only [e3]
        try simp only [tupAt]
        refine OpOK.val (u := .bool false) (by rfl) ?_ (fun W' _ => rfl)
        try simp only [e6]
        try simp only [e3]
        try simp only [tupAt]
        first | (go_simp; done) | (go_simp; with_reducible rfl) | (go_simp; rfl)
      try simp only [Act.put, List.setIfInBounds_toArray, List.set_cons_zero, List.set_cons_succ]
      refine RelO.next (k' := 9) rfl (fun W gW hF => ?_) ?_
      focus
        obtain ⟨h7, _⟩ := hF
        have e7 : val 7 = .bool false := h7 _ (Frm.refl _ W)
        try simp only [e7]
        try simp only [tupAt]
        refine OpOK.val (u := .bool false) (by rfl) ?_ (fun W' _ => rfl)
        try simp only [e7]
        try simp only [tupAt]
        first | (go_simp; done) | (go_simp; with_reducible rfl) | (go_simp; rfl)
      try simp only [Act.put, List.setIfInBounds_toArray, List.set_cons_zero, List.set_cons_succ]
      refine RelO.next (k' := 10) rfl (fun W gW hF => ?_) ?_
      focus
        obtain ⟨h8, _⟩ := hF
        have e8 : val 8 = .bool false := h8 _ (Frm.refl _ W)
        try simp only [e8]
        try simp only [tupAt]
        exact OpOK.load (by rfl) _ rfl (by rfl) (load_reg (H5.out W (D.trans gW)).1) (fun W' _ => rfl)
      try simp only [Act.put, List.setIfInBounds_toArray, List.set_cons_zero, List.set_cons_succ]
      refine RelO.next (k' := 11) rfl (fun W gW hF => ?_) ?_
      focus
        obtain ⟨h8, h9, _⟩ := hF
        have e8 : val 8 = .bool false := h8 _ (Frm.refl _ W)
        have e9 : val 9 = rg h v3 := h9 _ (Frm.refl _ W)
        try simp only [e9]
        try simp only [e8]
        try simp only [tupAt]
        refine OpOK.call (by rfl) ?_ ((sfew_no h v3 lz W (H5.out W (D.trans gW)).2 HF2.out).mono ?_)
        · first | (go_simp; done) | (go_simp; with_reducible rfl) | (go_simp; rfl)
        · rintro e W1 ⟨he, g1⟩
          subst he
          exact ⟨_, rfl, g1, fun W2 _ => rfl⟩
      try simp only [Act.put, List.setIfInBounds_toArray, List.set_cons_zero, List.set_cons_succ]
      refine RelO.next (k' := 12) rfl (fun W gW hF => ?_) ?_
      focus
        obtain ⟨h8, h10, _⟩ := hF
        have e8 : val 8 = .bool false := h8 _ (Frm.refl _ W)
        have e10 : val 10 = .bool false := h10 _ (Frm.refl _ W)
        try simp only [e10]
        try simp only [e8]
        try simp only [tupAt]
        refine OpOK.val (u := .bool true) (by rfl) ?_ (fun W' _ => rfl)
        try simp only [e10]
        try simp only [e8]
        try simp only [tupAt]
        first | (go_simp; done) | (go_simp; with_reducible rfl) | (go_simp; rfl)
      try simp only [Act.put, List.setIfInBounds_toArray, List.set_cons_zero, List.set_cons_succ]
      refine RelO.next (k' := 13) rfl (fun W gW hF => ?_) ?_
      focus
        obtain ⟨h8, h11, _⟩ := hF
        have e8 : val 8 = .bool false := h8 _ (Frm.refl _ W)
        have e11 : val 11 = .bool true := h11 _ (Frm.refl _ W)
        try simp only [e11]
        try simp only [e8]
        try simp only [tupAt]
        refine OpOK.val (u := .bool true) (by rfl) ?_ (fun W' _ => rfl)
        try simp only [e11]
        try simp only [e8]
        try simp only [tupAt]
        first | (go_simp; done) | (go_simp; with_reducible rfl) | (go_simp; rfl)
      try simp only [Act.put, List.setIfInBounds_toArray, List.set_cons_zero, List.set_cons_succ]
      refine RelO.next (k' := 14) rfl (fun W gW hF => ?_) ?_
      focus
        obtain ⟨h12, _⟩ := hF
        have e12 : val 12 = .bool true := h12 _ (Frm.refl _ W)
        try simp only [e12]
        try simp only [tupAt]
        refine OpOK.val (u := .bool true) (by rfl) ?_ (fun W' _ => rfl)
        try simp only [e12]
        try simp only [tupAt]
        first | (go_simp; done) | (go_simp; with_reducible rfl) | (go_simp; rfl)
      try simp only [Act.put, List.setIfInBounds_toArray, List.set_cons_zero, List.set_cons_succ]
      refine RelO.next (k' := 15) rfl (fun W gW hF => ?_) ?_
      focus
        obtain ⟨h13, _⟩ := hF
        have e13 : val 13 = .bool true := h13 _ (Frm.refl _ W)
        try simp only [e13]
        try simp only [tupAt]
        exact OpOK.skip (by rfl) (fun W' _ => rfl)
      try simp only [Act.put, List.setIfInBounds_toArray, List.set_cons_zero, List.set_cons_succ]
      refine RelO.next (k' := 16) rfl (fun W gW hF => ?_) ?_
      focus
        obtain ⟨h13, h14, _⟩ := hF
        have e13 : val 13 = .bool true := h13 _ (Frm.refl _ W)
        have e14 : val 14 = undef := h14 _ (Frm.refl _ W)
        try simp only [e14]
        try simp only [e13]
        try simp only [tupAt]
        exact OpOK.skip (by rfl) (fun W' _ => rfl)
      try simp only [Act.put, List.setIfInBounds_toArray, List.set_cons_zero, List.set_cons_succ]
      refine RelO.next (k' := 17) rfl (fun W gW hF => ?_) ?_
      focus
        obtain ⟨h13, h15, _⟩ := hF
        have e13 : val 13 = .bool true := h13 _ (Frm.refl _ W)
        have e15 : val 15 = undef := h15 _ (Frm.refl _ W)
        try simp only [e15]
        try simp only [e13]
        try simp only [tupAt]
        exact OpOK.skip (by rfl) (fun W' _ => rfl)
      try simp only [Act.put, List.setIfInBounds_toArray, List.set_cons_zero, List.set_cons_succ]
      refine RelO.next (k' := 18) rfl (fun W gW hF => ?_) ?_
      focus
        obtain ⟨h13, h16, _⟩ := hF
        have e13 : val 13 = .bool true := h13 _ (Frm.refl _ W)
        have e16 : val 16 = undef := h16 _ (Frm.refl _ W)
        try simp only [e16]
        try simp only [e13]
        try simp only [tupAt]
        refine OpOK.val (u := .bool true) (by rfl) ?_ (fun W' _ => rfl)
        try simp only [e16]
        try simp only [e13]
        try simp only [tupAt]
        first | (go_simp; done) | (go_simp; with_reducible rfl) | (go_simp; rfl)
      try simp only [Act.put, List.setIfInBounds_toArray, List.set_cons_zero, List.set_cons_succ]
      refine RelO.next (k' := 19) rfl (fun W gW hF => ?_) ?_
      focus
        obtain ⟨h17, _⟩ := hF
        have e17 : val 17 = .bool true := h17 _ (Frm.refl _ W)
        try simp only [e17]
        try simp only [tupAt]
        refine OpOK.val (u := .bool true) (by rfl) ?_ (fun W' _ => rfl)
        try simp only [e17]
        try simp only [tupAt]
        first | (go_simp; done) | (go_simp; with_reducible rfl) | (go_simp; rfl)
      try simp only [Act.put, List.setIfInBounds_toArray, List.set_cons_zero, List.set_cons_succ]
      refine RelO.next (k' := 20) rfl (fun W gW hF => ?_) ?_
      focus
        obtain ⟨h18, _⟩ := hF
        have e18 : val 18 = .bool true := h18 _ (Frm.refl _ W)
        try simp only [e18]
        try simp only [tupAt]
        exact OpOK.skip (by rfl) (fun W' _ => rfl)
      try simp only [Act.put, List.setIfInBounds_toArray, List.set_cons_zero, List.set_cons_succ]
      refine RelO.next (k' := 21) rfl (fun W gW hF => ?_) ?_
      focus
        obtain ⟨h18, h19, _⟩ := hF
        have e18 : val 18 = .bool true := h18 _ (Frm.refl _ W)
        have e19 : val 19 = undef := h19 _ (Frm.refl _ W)
        try simp only [e19]
        try simp only [e18]
        try simp only [tupAt]
        exact OpOK.skip (by rfl) (fun W' _ => rfl)
      try simp only [Act.put, List.setIfInBounds_toArray, List.set_cons_zero, List.set_cons_succ]
      refine RelO.next (k' := 22) rfl (fun W gW hF => ?_) ?_
      focus
        obtain ⟨h18, h20, _⟩ := hF
        have e18 : val 18 = .bool true := h18 _ (Frm.refl _ W)
        have e20 : val 20 = undef := h20 _ (Frm.refl _ W)
        try simp only [e20]
        try simp only [e18]
        try simp only [tupAt]
        exact OpOK.skip (by rfl) (fun W' _ => rfl)
      try simp only [Act.put, List.setIfInBounds_toArray, List.set_cons_zero, List.set_cons_succ]
      refine RelO.next (k' := 23) rfl (fun W gW hF => ?_) ?_
      focus
        obtain ⟨h18, h21, _⟩ := hF
        have e18 : val 18 = .bool true := h18 _ (Frm.refl _ W)
        have e21 : val 21 = undef := h21 _ (Frm.refl _ W)
        try simp only [e21]
        try simp only [e18]
        try simp only [tupAt]
        refine OpOK.val (u := .bool true) (by rfl) ?_ (fun W' _ => rfl)
        try simp only [e21]
        try simp only [e18]
        try simp only [tupAt]
        first | (go_simp; done) | (go_simp; with_reducible rfl) | (go_simp; rfl)
      try simp only [Act.put, List.setIfInBounds_toArray, List.set_cons_zero, List.set_cons_succ]
      refine RelO.next (k' := 24) rfl (fun W gW hF => ?_) ?_
      focus
        obtain ⟨h22, _⟩ := hF
        have e22 : val 22 = .bool true := h22 _ (Frm.refl _ W)
        try simp only [e22]
        try simp only [tupAt]
        refine OpOK.val (u := .bool true) (by rfl) ?_ (fun W' _ => rfl)
        try simp only [e22]
        try simp only [tupAt]
        first | (go_simp; done) | (go_simp; with_reducible rfl) | (go_simp; rfl)
      try simp only [Act.put, List.setIfInBounds_toArray, List.set_cons_zero, List.set_cons_succ]
      refine RelO.next (k' := 25) rfl (fun W gW hF => ?_) ?_
      focus
        obtain ⟨h23, _⟩ := hF
        have e23 : val 23 = .bool true := h23 _ (Frm.refl _ W)
        try simp only [e23]
        try simp only [tupAt]
        exact OpOK.skip (by rfl) (fun W' _ => rfl)
      try simp only [Act.put, List.setIfInBounds_toArray, List.set_cons_zero, List.set_cons_succ]
      refine RelO.next (k' := 26) rfl (fun W gW hF => ?_) ?_
      focus
        obtain ⟨h23, h24, _⟩ := hF
        have e23 : val 23 = .bool true := h23 _ (Frm.refl _ W)
        have e24 : val 24 = undef := h24 _ (Frm.refl _ W)
        try simp only [e24]
        try simp only [e23]
        try simp only [tupAt]
        exact OpOK.skip (by rfl) (fun W' _ => rfl)
      try simp only [Act.put, List.setIfInBounds_toArray, List.set_cons_zero, List.set_cons_succ]
      refine RelO.next (k' := 27) rfl (fun W gW hF => ?_) ?_
      focus
        obtain ⟨h23, h25, _⟩ := hF
        have e23 : val 23 = .bool true := h23 _ (Frm.refl _ W)
        have e25 : val 25 = undef := h25 _ (Frm.refl _ W)
        try simp only [e25]
        try simp only [e23]
        try simp only [tupAt]
        exact OpOK.skip (by rfl) (fun W' _ => rfl)
      try simp only [Act.put, List.setIfInBounds_toArray, List.set_cons_zero, List.set_cons_succ]
      refine RelO.next (k' := 28) rfl (fun W gW hF => ?_) ?_
      focus
        obtain ⟨h23, h26, _⟩ := hF
        have e23 : val 23 = .bool true := h23 _ (Frm.refl _ W)
        have e26 : val 26 = undef := h26 _ (Frm.refl _ W)
        try simp only [e26]
        try simp only [e23]
        try simp only [tupAt]
        refine OpOK.val (u := .bool true) (by rfl) ?_ (fun W' _ => rfl)
        try simp only [e26]
        try simp only [e23]
        try simp only [tupAt]
        first | (go_simp; done) | (go_simp; with_reducible rfl) | (go_simp; rfl)
      try simp only [Act.put, List.setIfInBounds_toArray, List.set_cons_zero, List.set_cons_succ]
      exact RelO.nil
    intro val w1 gW hF
    obtain ⟨h0, h1, h2, h3, h4, h5, h6, h7, h8, h9, h10, h11, h12, h13, h14, h15, h16, h17, h18, h19, h20, h21, h22, h23, h24, h25, h26, h27, hT⟩ := hF
    have e0 : val 0 = rg f v1 := h0 _ (Frm.refl _ w1)
    have e1 : val 1 = .bool true := h1 _ (Frm.refl _ w1)
    have e2 : val 2 = .bool false := h2 _ (Frm.refl _ w1)
    have e3 : val 3 = .bool false := h3 _ (Frm.refl _ w1)
    have e4 : val 4 = rg g v2 := h4 _ (Frm.refl _ w1)
    have e5 : val 5 = .bool true := h5 _ (Frm.refl _ w1)
    have e6 : val 6 = .bool false := h6 _ (Frm.refl _ w1)
    have e7 : val 7 = .bool false := h7 _ (Frm.refl _ w1)
    have e8 : val 8 = .bool false := h8 _ (Frm.refl _ w1)
    have e9 : val 9 = rg h v3 := h9 _ (Frm.refl _ w1)
    have e10 : val 10 = .bool false := h10 _ (Frm.refl _ w1)
    have e11 : val 11 = .bool true := h11 _ (Frm.refl _ w1)
    have e12 : val 12 = .bool true := h12 _ (Frm.refl _ w1)
    have e13 : val 13 = .bool true := h13 _ (Frm.refl _ w1)
    have e14 : val 14 = undef := h14 _ (Frm.refl _ w1)
    have e15 : val 15 = undef := h15 _ (Frm.refl _ w1)
    have e16 : val 16 = undef := h16 _ (Frm.refl _ w1)
    have e17 : val 17 = .bool true := h17 _ (Frm.refl _ w1)
    have e18 : val 18 = .bool true := h18 _ (Frm.refl _ w1)
    have e19 : val 19 = undef := h19 _ (Frm.refl _ w1)
    have e20 : val 20 = undef := h20 _ (Frm.refl _ w1)
    have e21 : val 21 = undef := h21 _ (Frm.refl _ w1)
    have e22 : val 22 = .bool true := h22 _ (Frm.refl _ w1)
    have e23 : val 23 = .bool true := h23 _ (Frm.refl _ w1)
    have e24 : val 24 = undef := h24 _ (Frm.refl _ w1)
    have e25 : val 25 = undef := h25 _ (Frm.refl _ w1)
    have e26 : val 26 = undef := h26 _ (Frm.refl _ w1)
    have e27 : val 27 = .bool true := h27 _ (Frm.refl _ w1)
    clear hT h0 h1 h2 h3 h4 h5 h6 h7 h8 h9 h10 h11 h12 h13 h14 h15 h16 h17 h18 h19 h20 h21 h22 h23 h24 h25 h26 h27
    simp only [aO, Act.put, List.setIfInBounds_toArray, List.set_cons_zero, List.set_cons_succ, Nat.reduceAdd]
    try simp only [e27]
    try simp only [e26]
    try simp only [e25]
    try simp only [e24]
    try simp only [e23]
    try simp only [e22]
    try simp only [e21]
    try simp only [e20]
    try simp only [e19]
    try simp only [e18]
    try simp only [e17]
    try simp only [e16]
    try simp only [e15]
    try simp only [e14]
    try simp only [e13]
    try simp only [e12]
    try simp only [e11]
    try simp only [e10]
    try simp only [e9]
    try simp only [e8]
    try simp only [e7]
    try simp only [e6]
    try simp only [e5]
    try simp only [e4]
    try simp only [e3]
    try simp only [e2]
    try simp only [e1]
    try simp only [e0]
    try simp only [tupAt]
    refine wpTail.done ?_
    refine hK _ _ ?_
    have g1 := D.trans gW
    replace H3 := Hid.grow H3 g1
    replace H4 := Hid.grow H4 g1
    replace H5 := Hid.grow H5 g1
    replace GG := GG.trans g1
    clear gW D hK g1 e0 e1 e2 e3 e4 e5 e6 e7 e8 e9 e10 e11 e12 e13 e14 e15 e16 e17 e18 e19 e20 e21 e22 e23 e24 e25 e26 e27 
    go_wp2_with fail
    refine (HWK.out w1).mono ?_
    rintro e w2 ⟨rfl, g2⟩
    go_wp2_with fail
    go_ret
    exact ⟨rfl, GG.trans g2⟩
  have HF2 := Lib.hid hq
  have HL2 := Lib.hid (show lz.length ≤ 1000 by have := hq.1; omega)
  clear hq
  cases hq : okR f lx
  case false =>
    have HC0 : Hid (chkS f lx = 4) := Lib.hid (by unfold chkS; rw [hq]; rfl)
    clear hq
    have D : Frm (fun _ => False) w0 w0 := Frm.refl _ _
    refine wp_region_textR 28 0 [[], [0], [1], [2], [3], [3, 4], [3, 5], [3, 6], [7], [8], [8, 9], [8, 10], [8, 11], [12], [13], [13, 14], [13, 15], [13, 16], [17], [18], [18, 19], [18, 20], [18, 21], [22], [23], [23, 24], [23, 25], [23, 26]] ri1_3M (ri1_3R f g h v1 v2 v3) rfl rfl rfl rfl (by kernel_rfl) (by kernel_rfl) (fun val => ?_) ?_
    · try dsimp only
      refine RelO.next (k' := 1) rfl (fun W gW hF => ?_) ?_
      focus
        exact OpOK.load (by rfl) _ rfl (by rfl) (load_reg (H3.out W (D.trans gW)).1) (fun W' _ => rfl)
      try simp only [Act.put, List.setIfInBounds_toArray, List.set_cons_zero, List.set_cons_succ]
      refine RelO.next (k' := 2) rfl (fun W gW hF => ?_) ?_
      focus
        obtain ⟨h0, _⟩ := hF
        have e0 : val 0 = rg f v1 := h0 _ (Frm.refl _ W)
        try simp only [e0]
        try simp only [tupAt]
        refine OpOK.call (by rfl) ?_ ((sfew_yes f v1 lx W (H3.out W (D.trans gW)).2 HF0.out).mono ?_)
        · first | (go_simp; done) | (go_simp; with_reducible rfl) | (go_simp; rfl)
        · rintro e W1 ⟨he, g1⟩
          subst he
          exact ⟨_, rfl, g1, fun W2 _ => rfl⟩
      try simp only [Act.put, List.setIfInBounds_toArray, List.set_cons_zero, List.set_cons_succ]
      refine RelO.next (k' := 3) rfl (fun W gW hF => ?_) ?_
      focus
        obtain ⟨h1, _⟩ := hF
        have e1 : val 1 = .bool true := h1 _ (Frm.refl _ W)
        try simp only [e1]
        try simp only [tupAt]
        refine OpOK.val (u := .bool false) (by rfl) ?_ (fun W' _ => rfl)
        try simp only [e1]
        try simp only [tupAt]
        first | (go_simp; done) | (go_simp; with_reducible rfl) | (go_simp; rfl)
      try simp only [Act.put, List.setIfInBounds_toArray, List.set_cons_zero, List.set_cons_succ]
      refine RelO.next (k' := 4) rfl (fun W gW hF => ?_) ?_
      focus
        obtain ⟨h2, _⟩ := hF
        have e2 : val 2 = .bool false := h2 _ (Frm.refl _ W)
        try simp only [e2]
        try simp only [tupAt]
        refine OpOK.val (u := .bool false) (by rfl) ?_ (fun W' _ => rfl)
        try simp only [e2]
        try simp only [tupAt]
        first | (go_simp; done) | (go_simp; with_reducible rfl) | (go_simp; rfl)
      try simp only [Act.put, List.setIfInBounds_toArray, List.set_cons_zero, List.set_cons_succ]
      refine RelO.next (k' := 5) rfl (fun W gW hF => ?_) ?_
      focus
        obtain ⟨h3, _⟩ := hF
        have e3 : val 3 = .bool false := h3 _ (Frm.refl _ W)
        try simp only [e3]
        try simp only [tupAt]
        exact OpOK.load (by rfl) _ rfl (by rfl) (load_reg (H4.out W (D.trans gW)).1) (fun W' _ => rfl)
      try simp only [Act.put, List.setIfInBounds_toArray, List.set_cons_zero, List.set_cons_succ]
      refine RelO.next (k' := 6) rfl (fun W gW hF => ?_) ?_
      focus
        obtain ⟨h3, h4, _⟩ := hF
        have e3 : val 3 = .bool false := h3 _ (Frm.refl _ W)
        have e4 : val 4 = rg g v2 := h4 _ (Frm.refl _ W)
        try simp only [e4]
        try simp only [e3]
        try simp only [tupAt]
        refine OpOK.call (by rfl) ?_ ((sfew_yes g v2 ly W (H4.out W (D.trans gW)).2 HF1.out).mono ?_)
        · first | (go_simp; done) | (go_simp; with_reducible rfl) | (go_simp; rfl)
        · rintro e W1 ⟨he, g1⟩
          subst he
          exact ⟨_, rfl, g1, fun W2 _ => rfl⟩
      try simp only [Act.put, List.setIfInBounds_toArray, List.set_cons_zero, List.set_cons_succ]
      refine RelO.next (k' := 7) rfl (fun W gW hF => ?_) ?_
      focus
        obtain ⟨h3, h5, _⟩ := hF
        have e3 : val 3 = .bool false := h3 _ (Frm.refl _ W)
        have e5 : val 5 = .bool true := h5 _ (Frm.refl _ W)
        try simp only [e5]
        try simp only [e3]
        try simp only [tupAt]
        refine OpOK.val (u := .bool false) (by rfl) ?_ (fun W' _ => rfl)
        try simp only [e5]
        try simp only [e3]
        try simp only [tupAt]
        first | (go_simp; done) | (go_simp; with_reducible rfl) | (go_simp; rfl)
      try simp only [Act.put, List.setIfInBounds_toArray, List.set_cons_zero, List.set_cons_succ]
      refine RelO.next (k' := 8) rfl (fun W gW hF => ?_) ?_
      focus
        obtain ⟨h3, h6, _⟩ := hF
        have e3 : val 3 = .bool false := h3 _ (Frm.refl _ W)
        have e6 : val 6 = .bool false := h6 _ (Frm.refl _ W)
        try simp only [e6]
        try simp only [e3]
        try simp only [tupAt]
        refine OpOK.val (u := .bool false) (by rfl) ?_ (fun W' _ => rfl)
        try simp only [e6]
        try simp only [e3]
        try simp only [tupAt]
        first | (go_simp; done) | (go_simp; with_reducible rfl) | (go_simp; rfl)
      try simp only [Act.put, List.setIfInBounds_toArray, List.set_cons_zero, List.set_cons_succ]
      refine RelO.next (k' := 9) rfl (fun W gW hF => ?_) ?_
      focus
        obtain ⟨h7, _⟩ := hF
        have e7 : val 7 = .bool false := h7 _ (Frm.refl _ W)
        try simp only [e7]
        try simp only [tupAt]
        refine OpOK.val (u := .bool false) (by rfl) ?_ (fun W' _ => rfl)
        try simp only [e7]
        try simp only [tupAt]
        first | (go_simp; done) | (go_simp; with_reducible rfl) | (go_simp; rfl)
      try simp only [Act.put, List.setIfInBounds_toArray, List.set_cons_zero, List.set_cons_succ]
      refine RelO.next (k' := 10) rfl (fun W gW hF => ?_) ?_
      focus
        obtain ⟨h8, _⟩ := hF
        have e8 : val 8 = .bool false := h8 _ (Frm.refl _ W)
        try simp only [e8]
        try simp only [tupAt]
        exact OpOK.load (by rfl) _ rfl (by rfl) (load_reg (H5.out W (D.trans gW)).1) (fun W' _ => rfl)
      try simp only [Act.put, List.setIfInBounds_toArray, List.set_cons_zero, List.set_cons_succ]
      refine RelO.next (k' := 11) rfl (fun W gW hF => ?_) ?_
      focus
        obtain ⟨h8, h9, _⟩ := hF
        have e8 : val 8 = .bool false := h8 _ (Frm.refl _ W)
        have e9 : val 9 = rg h v3 := h9 _ (Frm.refl _ W)
        try simp only [e9]
        try simp only [e8]
        try simp only [tupAt]
        refine OpOK.call (by rfl) ?_ ((sfew_yes h v3 lz W (H5.out W (D.trans gW)).2 HF2.out).mono ?_)
        · first | (go_simp; done) | (go_simp; with_reducible rfl) | (go_simp; rfl)
        · rintro e W1 ⟨he, g1⟩
          subst he
          exact ⟨_, rfl, g1, fun W2 _ => rfl⟩
      try simp only [Act.put, List.setIfInBounds_toArray, List.set_cons_zero, List.set_cons_succ]
      refine RelO.next (k' := 12) rfl (fun W gW hF => ?_) ?_
      focus
        obtain ⟨h8, h10, _⟩ := hF
        have e8 : val 8 = .bool false := h8 _ (Frm.refl _ W)
        have e10 : val 10 = .bool true := h10 _ (Frm.refl _ W)
        try simp only [e10]
        try simp only [e8]
        try simp only [tupAt]
        refine OpOK.val (u := .bool false) (by rfl) ?_ (fun W' _ => rfl)
        try simp only [e10]
        try simp only [e8]
        try simp only [tupAt]
        first | (go_simp; done) | (go_simp; with_reducible rfl) | (go_simp; rfl)
      try simp only [Act.put, List.setIfInBounds_toArray, List.set_cons_zero, List.set_cons_succ]
      refine RelO.next (k' := 13) rfl (fun W gW hF => ?_) ?_
      focus
        obtain ⟨h8, h11, _⟩ := hF
        have e8 : val 8 = .bool false := h8 _ (Frm.refl _ W)
        have e11 : val 11 = .bool false := h11 _ (Frm.refl _ W)
        try simp only [e11]
        try simp only [e8]
        try simp only [tupAt]
        refine OpOK.val (u := .bool false) (by rfl) ?_ (fun W' _ => rfl)
        try simp only [e11]
        try simp only [e8]
        try simp only [tupAt]
        first | (go_simp; done) | (go_simp; with_reducible rfl) | (go_simp; rfl)
      try simp only [Act.put, List.setIfInBounds_toArray, List.set_cons_zero, List.set_cons_succ]
      refine RelO.next (k' := 14) rfl (fun W gW hF => ?_) ?_
      focus
        obtain ⟨h12, _⟩ := hF
        have e12 : val 12 = .bool false := h12 _ (Frm.refl _ W)
        try simp only [e12]
        try simp only [tupAt]
        refine OpOK.val (u := .bool false) (by rfl) ?_ (fun W' _ => rfl)
        try simp only [e12]
        try simp only [tupAt]
        first | (go_simp; done) | (go_simp; with_reducible rfl) | (go_simp; rfl)
      try simp only [Act.put, List.setIfInBounds_toArray, List.set_cons_zero, List.set_cons_succ]
      refine RelO.next (k' := 15) rfl (fun W gW hF => ?_) ?_
      focus
        obtain ⟨h13, _⟩ := hF
        have e13 : val 13 = .bool false := h13 _ (Frm.refl _ W)
        try simp only [e13]
        try simp only [tupAt]
        exact OpOK.load (by rfl) _ rfl (by rfl) (load_reg (H3.out W (D.trans gW)).1) (fun W' _ => rfl)
      try simp only [Act.put, List.setIfInBounds_toArray, List.set_cons_zero, List.set_cons_succ]
      refine RelO.next (k' := 16) rfl (fun W gW hF => ?_) ?_
      focus
        obtain ⟨h13, h14, _⟩ := hF
        have e13 : val 13 = .bool false := h13 _ (Frm.refl _ W)
        have e14 : val 14 = rg f v1 := h14 _ (Frm.refl _ W)
        try simp only [e14]
        try simp only [e13]
        try simp only [tupAt]
        refine OpOK.call (by rfl) ?_ ((check_any f v1 lx W hf (H3.out W (D.trans gW)).2 (by have := HL0.out; omega)).mono ?_)
        · first | (go_simp; done) | (go_simp; with_reducible rfl) | (go_simp; rfl)
        · rintro e W1 ⟨he, g1⟩
          rw [HC0.out] at he
          subst he
          exact ⟨_, rfl, g1, fun W2 _ => rfl⟩
      try simp only [Act.put, List.setIfInBounds_toArray, List.set_cons_zero, List.set_cons_succ]
      refine RelO.next (k' := 17) rfl (fun W gW hF => ?_) ?_
      focus
        obtain ⟨h13, h15, _⟩ := hF
        have e13 : val 13 = .bool false := h13 _ (Frm.refl _ W)
        have e15 : val 15 = .int .i64 4 := h15 _ (Frm.refl _ W)
        try simp only [e15]
        try simp only [e13]
        try simp only [tupAt]
        refine OpOK.val (u := .bool true) (by rfl) ?_ (fun W' _ => rfl)
        try simp only [e15]
        try simp only [e13]
        try simp only [tupAt]
        first | (go_simp; done) | (go_simp; with_reducible rfl) | (go_simp; rfl)
      try simp only [Act.put, List.setIfInBounds_toArray, List.set_cons_zero, List.set_cons_succ]
      refine RelO.next (k' := 18) rfl (fun W gW hF => ?_) ?_
      focus
        obtain ⟨h13, h16, _⟩ := hF
        have e13 : val 13 = .bool false := h13 _ (Frm.refl _ W)
        have e16 : val 16 = .bool true := h16 _ (Frm.refl _ W)
        try simp only [e16]
        try simp only [e13]
        try simp only [tupAt]
        refine OpOK.val (u := .bool true) (by rfl) ?_ (fun W' _ => rfl)
        try simp only [e16]
        try simp only [e13]
        try simp only [tupAt]
        first | (go_simp; done) | (go_simp; with_reducible rfl) | (go_simp; rfl)
      try simp only [Act.put, List.setIfInBounds_toArray, List.set_cons_zero, List.set_cons_succ]
      refine RelO.next (k' := 19) rfl (fun W gW hF => ?_) ?_
      focus
        obtain ⟨h17, _⟩ := hF
        have e17 : val 17 = .bool true := h17 _ (Frm.refl _ W)
        try simp only [e17]
        try simp only [tupAt]
        refine OpOK.val (u := .bool true) (by rfl) ?_ (fun W' _ => rfl)
        try simp only [e17]
        try simp only [tupAt]
        first | (go_simp; done) | (go_simp; with_reducible rfl) | (go_simp; rfl)
      try simp only [Act.put, List.setIfInBounds_toArray, List.set_cons_zero, List.set_cons_succ]
      refine RelO.next (k' := 20) rfl (fun W gW hF => ?_) ?_
      focus
        obtain ⟨h18, _⟩ := hF
        have e18 : val 18 = .bool true := h18 _ (Frm.refl _ W)
        try simp only [e18]
        try simp only [tupAt]
        exact OpOK.skip (by rfl) (fun W' _ => rfl)
      try simp only [Act.put, List.setIfInBounds_toArray, List.set_cons_zero, List.set_cons_succ]
      refine RelO.next (k' := 21) rfl (fun W gW hF => ?_) ?_
      focus
        obtain ⟨h18, h19, _⟩ := hF
        have e18 : val 18 = .bool true := h18 _ (Frm.refl _ W)
        have e19 : val 19 = undef := h19 _ (Frm.refl _ W)
        try simp only [e19]
        try simp only [e18]
        try simp only [tupAt]
        exact OpOK.skip (by rfl) (fun W' _ => rfl)
      try simp only [Act.put, List.setIfInBounds_toArray, List.set_cons_zero, List.set_cons_succ]
      refine RelO.next (k' := 22) rfl (fun W gW hF => ?_) ?_
      focus
        obtain ⟨h18, h20, _⟩ := hF
        have e18 : val 18 = .bool true := h18 _ (Frm.refl _ W)
        have e20 : val 20 = undef := h20 _ (Frm.refl _ W)
        try simp only [e20]
        try simp only [e18]
        try simp only [tupAt]
        exact OpOK.skip (by rfl) (fun W' _ => rfl)
      try simp only [Act.put, List.setIfInBounds_toArray, List.set_cons_zero, List.set_cons_succ]
      refine RelO.next (k' := 23) rfl (fun W gW hF => ?_) ?_
      focus
        obtain ⟨h18, h21, _⟩ := hF
        have e18 : val 18 = .bool true := h18 _ (Frm.refl _ W)
        have e21 : val 21 = undef := h21 _ (Frm.refl _ W)
        try simp only [e21]
        try simp only [e18]
        try simp only [tupAt]
        refine OpOK.val (u := .bool true) (by rfl) ?_ (fun W' _ => rfl)
        try simp only [e21]
        try simp only [e18]
        try simp only [tupAt]
        first | (go_simp; done) | (go_simp; with_reducible rfl) | (go_simp; rfl)
      try simp only [Act.put, List.setIfInBounds_toArray, List.set_cons_zero, List.set_cons_succ]
      refine RelO.next (k' := 24) rfl (fun W gW hF => ?_) ?_
      focus
        obtain ⟨h22, _⟩ := hF
        have e22 : val 22 = .bool true := h22 _ (Frm.refl _ W)
        try simp only [e22]
        try simp only [tupAt]
        refine OpOK.val (u := .bool true) (by rfl) ?_ (fun W' _ => rfl)
        try simp only [e22]
        try simp only [tupAt]
        first | (go_simp; done) | (go_simp; with_reducible rfl) | (go_simp; rfl)
      try simp only [Act.put, List.setIfInBounds_toArray, List.set_cons_zero, List.set_cons_succ]
      refine RelO.next (k' := 25) rfl (fun W gW hF => ?_) ?_
      focus
        obtain ⟨h23, _⟩ := hF
        have e23 : val 23 = .bool true := h23 _ (Frm.refl _ W)
        try simp only [e23]
        try simp only [tupAt]
        exact OpOK.skip (by rfl) (fun W' _ => rfl)
      try simp only [Act.put, List.setIfInBounds_toArray, List.set_cons_zero, List.set_cons_succ]
      refine RelO.next (k' := 26) rfl (fun W gW hF => ?_) ?_
      focus
        obtain ⟨h23, h24, _⟩ := hF
        have e23 : val 23 = .bool true := h23 _ (Frm.refl _ W)
        have e24 : val 24 = undef := h24 _ (Frm.refl _ W)
        try simp only [e24]
        try simp only [e23]
        try simp only [tupAt]
        exact OpOK.skip (by rfl) (fun W' _ => rfl)
      try simp only [Act.put, List.setIfInBounds_toArray, List.set_cons_zero, List.set_cons_succ]
      refine RelO.next (k' := 27) rfl (fun W gW hF => ?_) ?_
      focus
        obtain ⟨h23, h25, _⟩ := hF
        have e23 : val 23 = .bool true := h23 _ (Frm.refl _ W)
        have e25 : val 25 = undef := h25 _ (Frm.refl _ W)
        try simp only [e25]
        try simp only [e23]
        try simp only [tupAt]
        exact OpOK.skip (by rfl) (fun W' _ => rfl)
      try simp only [Act.put, List.setIfInBounds_toArray, List.set_cons_zero, List.set_cons_succ]
      refine RelO.next (k' := 28) rfl (fun W gW hF => ?_) ?_
      focus
        obtain ⟨h23, h26, _⟩ := hF
        have e23 : val 23 = .bool true := h23 _ (Frm.refl _ W)
        have e26 : val 26 = undef := h26 _ (Frm.refl _ W)
        try simp only [e26]
        try simp only [e23]
        try simp only [tupAt]
        refine OpOK.val (u := .bool true) (by rfl) ?_ (fun W' _ => rfl)
        try simp only [e26]
        try simp only [e23]
        try simp only [tupAt]
        first | (go_simp; done) | (go_simp; with_reducible rfl) | (go_simp; rfl)
      try simp only [Act.put, List.setIfInBounds_toArray, List.set_cons_zero, List.set_cons_succ]
      exact RelO.nil
    intro val w1 gW hF
    obtain ⟨h0, h1, h2, h3, h4, h5, h6, h7, h8, h9, h10, h11, h12, h13, h14, h15, h16, h17, h18, h19, h20, h21, h22, h23, h24, h25, h26, h27, hT⟩ := hF
    have e0 : val 0 = rg f v1 := h0 _ (Frm.refl _ w1)
    have e1 : val 1 = .bool true := h1 _ (Frm.refl _ w1)
    have e2 : val 2 = .bool false := h2 _ (Frm.refl _ w1)
    have e3 : val 3 = .bool false := h3 _ (Frm.refl _ w1)
    have e4 : val 4 = rg g v2 := h4 _ (Frm.refl _ w1)
    have e5 : val 5 = .bool true := h5 _ (Frm.refl _ w1)
    have e6 : val 6 = .bool false := h6 _ (Frm.refl _ w1)
    have e7 : val 7 = .bool false := h7 _ (Frm.refl _ w1)
    have e8 : val 8 = .bool false := h8 _ (Frm.refl _ w1)
    have e9 : val 9 = rg h v3 := h9 _ (Frm.refl _ w1)
    have e10 : val 10 = .bool true := h10 _ (Frm.refl _ w1)
    have e11 : val 11 = .bool false := h11 _ (Frm.refl _ w1)
    have e12 : val 12 = .bool false := h12 _ (Frm.refl _ w1)
    have e13 : val 13 = .bool false := h13 _ (Frm.refl _ w1)
    have e14 : val 14 = rg f v1 := h14 _ (Frm.refl _ w1)
    have e15 : val 15 = .int .i64 4 := h15 _ (Frm.refl _ w1)
    have e16 : val 16 = .bool true := h16 _ (Frm.refl _ w1)
    have e17 : val 17 = .bool true := h17 _ (Frm.refl _ w1)
    have e18 : val 18 = .bool true := h18 _ (Frm.refl _ w1)
    have e19 : val 19 = undef := h19 _ (Frm.refl _ w1)
    have e20 : val 20 = undef := h20 _ (Frm.refl _ w1)
    have e21 : val 21 = undef := h21 _ (Frm.refl _ w1)
    have e22 : val 22 = .bool true := h22 _ (Frm.refl _ w1)
    have e23 : val 23 = .bool true := h23 _ (Frm.refl _ w1)
    have e24 : val 24 = undef := h24 _ (Frm.refl _ w1)
    have e25 : val 25 = undef := h25 _ (Frm.refl _ w1)
    have e26 : val 26 = undef := h26 _ (Frm.refl _ w1)
    have e27 : val 27 = .bool true := h27 _ (Frm.refl _ w1)
    clear hT h0 h1 h2 h3 h4 h5 h6 h7 h8 h9 h10 h11 h12 h13 h14 h15 h16 h17 h18 h19 h20 h21 h22 h23 h24 h25 h26 h27
    simp only [aO, Act.put, List.setIfInBounds_toArray, List.set_cons_zero, List.set_cons_succ, Nat.reduceAdd]
    try simp only [e27]
    try simp only [e26]
    try simp only [e25]
    try simp only [e24]
    try simp only [e23]
    try simp only [e22]
    try simp only [e21]
    try simp only [e20]
    try simp only [e19]
    try simp only [e18]
    try simp only [e17]
    try simp only [e16]
    try simp only [e15]
    try simp only [e14]
    try simp only [e13]
    try simp only [e12]
    try simp only [e11]
    try simp only [e10]
    try simp only [e9]
    try simp only [e8]
    try simp only [e7]
    try simp only [e6]
    try simp only [e5]
    try simp only [e4]
    try simp only [e3]
    try simp only [e2]
    try simp only [e1]
    try simp only [e0]
    try simp only [tupAt]
    refine wpTail.done ?_
    refine hK _ _ ?_
    have g1 := D.trans gW
    replace H3 := Hid.grow H3 g1
    replace H4 := Hid.grow H4 g1
    replace H5 := Hid.grow H5 g1
    replace GG := GG.trans g1
    clear gW D hK g1 e0 e1 e2 e3 e4 e5 e6 e7 e8 e9 e10 e11 e12 e13 e14 e15 e16 e17 e18 e19 e20 e21 e22 e23 e24 e25 e26 e27 
    go_wp2_with fail
    refine (HWK.out w1).mono ?_
    rintro e w2 ⟨rfl, g2⟩
    go_wp2_with fail
    go_ret
    exact ⟨rfl, GG.trans g2⟩
  have HC0 : Hid (chkS f lx = 0) := Lib.hid (by unfold chkS; rw [hq]; rfl)
  have HO0 := Lib.hid hq
  clear hq
  cases hq : okR g ly
  case false =>
    have HC1 : Hid (chkS g ly = 4) := Lib.hid (by unfold chkS; rw [hq]; rfl)
    clear hq
    have D : Frm (fun _ => False) w0 w0 := Frm.refl _ _
    refine wp_region_textR 28 0 [[], [0], [1], [2], [3], [3, 4], [3, 5], [3, 6], [7], [8], [8, 9], [8, 10], [8, 11], [12], [13], [13, 14], [13, 15], [13, 16], [17], [18], [18, 19], [18, 20], [18, 21], [22], [23], [23, 24], [23, 25], [23, 26]] ri1_4M (ri1_4R f g h v1 v2 v3) rfl rfl rfl rfl (by kernel_rfl) (by kernel_rfl) (fun val => ?_) ?_
    · try dsimp only
      refine RelO.next (k' := 1) rfl (fun W gW hF => ?_) ?_
      focus
        exact OpOK.load (by rfl) _ rfl (by rfl) (load_reg (H3.out W (D.trans gW)).1) (fun W' _ => rfl)
      try simp only [Act.put, List.setIfInBounds_toArray, List.set_cons_zero, List.set_cons_succ]
      refine RelO.next (k' := 2) rfl (fun W gW hF => ?_) ?_
      focus
        obtain ⟨h0, _⟩ := hF
        have e0 : val 0 = rg f v1 := h0 _ (Frm.refl _ W)
        try simp only [e0]
        try simp only [tupAt]
        refine OpOK.call (by rfl) ?_ ((sfew_yes f v1 lx W (H3.out W (D.trans gW)).2 HF0.out).mono ?_)
        · first | (go_simp; done) | (go_simp; with_reducible rfl) | (go_simp; rfl)
        · rintro e W1 ⟨he, g1⟩
          subst he
          exact ⟨_, rfl, g1, fun W2 _ => rfl⟩
      try simp only [Act.put, List.setIfInBounds_toArray, List.set_cons_zero, List.set_cons_succ]
      refine RelO.next (k' := 3) rfl (fun W gW hF => ?_) ?_
      focus
        obtain ⟨h1, _⟩ := hF
        have e1 : val 1 = .bool true := h1 _ (Frm.refl _ W)
        try simp only [e1]
        try simp only [tupAt]
        refine OpOK.val (u := .bool false) (by rfl) ?_ (fun W' _ => rfl)
        try simp only [e1]
        try simp only [tupAt]
        first | (go_simp; done) | (go_simp; with_reducible rfl) | (go_simp; rfl)
      try simp only [Act.put, List.setIfInBounds_toArray, List.set_cons_zero, List.set_cons_succ]
      refine RelO.next (k' := 4) rfl (fun W gW hF => ?_) ?_
      focus
        obtain ⟨h2, _⟩ := hF
        have e2 : val 2 = .bool false := h2 _ (Frm.refl _ W)
        try simp only [e2]
        try simp only [tupAt]
        refine OpOK.val (u := .bool false) (by rfl) ?_ (fun W' _ => rfl)
        try simp only [e2]
        try simp only [tupAt]
        first | (go_simp; done) | (go_simp; with_reducible rfl) | (go_simp; rfl)
      try simp only [Act.put, List.setIfInBounds_toArray, List.set_cons_zero, List.set_cons_succ]
      refine RelO.next (k' := 5) rfl (fun W gW hF => ?_) ?_
      focus
        obtain ⟨h3, _⟩ := hF
        have e3 : val 3 = .bool false := h3 _ (Frm.refl _ W)
        try simp only [e3]
        try simp only [tupAt]
        exact OpOK.load (by rfl) _ rfl (by rfl) (load_reg (H4.out W (D.trans gW)).1) (fun W' _ => rfl)
      try simp only [Act.put, List.setIfInBounds_toArray, List.set_cons_zero, List.set_cons_succ]
      refine RelO.next (k' := 6) rfl (fun W gW hF => ?_) ?_
      focus
        obtain ⟨h3, h4, _⟩ := hF
        have e3 : val 3 = .bool false := h3 _ (Frm.refl _ W)
        have e4 : val 4 = rg g v2 := h4 _ (Frm.refl _ W)
        try simp only [e4]
        try simp only [e3]
        try simp only [tupAt]
        refine OpOK.call (by rfl) ?_ ((sfew_yes g v2 ly W (H4.out W (D.trans gW)).2 HF1.out).mono ?_)
        · first | (go_simp; done) | (go_simp; with_reducible rfl) | (go_simp; rfl)
        · rintro e W1 ⟨he, g1⟩
          subst he
          exact ⟨_, rfl, g1, fun W2 _ => rfl⟩
      try simp only [Act.put, List.setIfInBounds_toArray, List.set_cons_zero, List.set_cons_succ]
      refine RelO.next (k' := 7) rfl (fun W gW hF => ?_) ?_
      focus
        obtain ⟨h3, h5, _⟩ := hF
        have e3 : val 3 = .bool false := h3 _ (Frm.refl _ W)
        have e5 : val 5 = .bool true := h5 _ (Frm.refl _ W)
        try simp only [e5]
        try simp only [e3]
        try simp only [tupAt]
        refine OpOK.val (u := .bool false) (by rfl) ?_ (fun W' _ => rfl)
        try simp only [e5]
        try simp only [e3]
        try simp only [tupAt]
        first | (go_simp; done) | (go_simp; with_reducible rfl) | (go_simp; rfl)
      try simp only [Act.put, List.setIfInBounds_toArray, List.set_cons_zero, List.set_cons_succ]
      refine RelO.next (k' := 8) rfl (fun W gW hF => ?_) ?_
      focus
        obtain ⟨h3, h6, _⟩ := hF
        have e3 : val 3 = .bool false := h3 _ (Frm.refl _ W)
        have e6 : val 6 = .bool false := h6 _ (Frm.refl _ W)
        try simp only [e6]
        try simp only [e3]
        try simp only [tupAt]
        refine OpOK.val (u := .bool false) (by rfl) ?_ (fun W' _ => rfl)
        try simp only [e6]
        try simp only [e3]
        try simp only [tupAt]
        first | (go_simp; done) | (go_simp; with_reducible rfl) | (go_simp; rfl)
      try simp only [Act.put, List.setIfInBounds_toArray, List.set_cons_zero, List.set_cons_succ]
      refine RelO.next (k' := 9) rfl (fun W gW hF => ?_) ?_
      focus
        obtain ⟨h7, _⟩ := hF
        have e7 : val 7 = .bool false := h7 _ (Frm.refl _ W)
        try simp only [e7]
        try simp only [tupAt]
        refine OpOK.val (u := .bool false) (by rfl) ?_ (fun W' _ => rfl)
        try simp only [e7]
        try simp only [tupAt]
        first | (go_simp; done) | (go_simp; with_reducible rfl) | (go_simp; rfl)
      try simp only [Act.put, List.setIfInBounds_toArray, List.set_cons_zero, List.set_cons_succ]
      refine RelO.next (k' := 10) rfl (fun W gW hF => ?_) ?_
      focus
        obtain ⟨h8, _⟩ := hF
        have e8 : val 8 = .bool false := h8 _ (Frm.refl _ W)
        try simp only [e8]
        try simp only [tupAt]
        exact OpOK.load (by rfl) _ rfl (by rfl) (load_reg (H5.out W (D.trans gW)).1) (fun W' _ => rfl)
      try simp only [Act.put, List.setIfInBounds_toArray, List.set_cons_zero, List.set_cons_succ]
      refine RelO.next (k' := 11) rfl (fun W gW hF => ?_) ?_
      focus
        obtain ⟨h8, h9, _⟩ := hF
        have e8 : val 8 = .bool false := h8 _ (Frm.refl _ W)
        have e9 : val 9 = rg h v3 := h9 _ (Frm.refl _ W)
        try simp only [e9]
        try simp only [e8]
        try simp only [tupAt]
        refine OpOK.call (by rfl) ?_ ((sfew_yes h v3 lz W (H5.out W (D.trans gW)).2 HF2.out).mono ?_)
        · first | (go_simp; done) | (go_simp; with_reducible rfl) | (go_simp; rfl)
        · rintro e W1 ⟨he, g1⟩
          subst he
          exact ⟨_, rfl, g1, fun W2 _ => rfl⟩
      try simp only [Act.put, List.setIfInBounds_toArray, List.set_cons_zero, List.set_cons_succ]
      refine RelO.next (k' := 12) rfl (fun W gW hF => ?_) ?_
      focus
        obtain ⟨h8, h10, _⟩ := hF
        have e8 : val 8 = .bool false := h8 _ (Frm.refl _ W)
        have e10 : val 10 = .bool true := h10 _ (Frm.refl _ W)
        try simp only [e10]
        try simp only [e8]
        try simp only [tupAt]
        refine OpOK.val (u := .bool false) (by rfl) ?_ (fun W' _ => rfl)
        try simp only [e10]
        try simp only [e8]
        try simp only [tupAt]
        first | (go_simp; done) | (go_simp; with_reducible rfl) | (go_simp; rfl)
      try simp only [Act.put, List.setIfInBounds_toArray, List.set_cons_zero, List.set_cons_succ]
      refine RelO.next (k' := 13) rfl (fun W gW hF => ?_) ?_
      focus
        obtain ⟨h8, h11, _⟩ := hF
        have e8 : val 8 = .bool false := h8 _ (Frm.refl _ W)
        have e11 : val 11 = .bool false := h11 _ (Frm.refl _ W)
        try simp only [e11]
        try simp only [e8]
        try simp only [tupAt]
        refine OpOK.val (u := .bool false) (by rfl) ?_ (fun W' _ => rfl)
        try simp only [e11]
        try simp only [e8]
        try simp only [tupAt]
        first | (go_simp; done) | (go_simp; with_reducible rfl) | (go_simp; rfl)
      try simp only [Act.put, List.setIfInBounds_toArray, List.set_cons_zero, List.set_cons_succ]
      refine RelO.next (k' := 14) rfl (fun W gW hF => ?_) ?_
      focus
        obtain ⟨h12, _⟩ := hF
        have e12 : val 12 = .bool false := h12 _ (Frm.refl _ W)
        try simp only [e12]
        try simp only [tupAt]
        refine OpOK.val (u := .bool false) (by rfl) ?_ (fun W' _ => rfl)
        try simp only [e12]
        try simp only [tupAt]
        first | (go_simp; done) | (go_simp; with_reducible rfl) | (go_simp; rfl)
      try simp only [Act.put, List.setIfInBounds_toArray, List.set_cons_zero, List.set_cons_succ]
      refine RelO.next (k' := 15) rfl (fun W gW hF => ?_) ?_
      focus
        obtain ⟨h13, _⟩ := hF
        have e13 : val 13 = .bool false := h13 _ (Frm.refl _ W)
        try simp only [e13]
        try simp only [tupAt]
        exact OpOK.load (by rfl) _ rfl (by rfl) (load_reg (H3.out W (D.trans gW)).1) (fun W' _ => rfl)
      try simp only [Act.put, List.setIfInBounds_toArray, List.set_cons_zero, List.set_cons_succ]
      refine RelO.next (k' := 16) rfl (fun W gW hF => ?_) ?_
      focus
        obtain ⟨h13, h14, _⟩ := hF
        have e13 : val 13 = .bool false := h13 _ (Frm.refl _ W)
        have e14 : val 14 = rg f v1 := h14 _ (Frm.refl _ W)
        try simp only [e14]
        try simp only [e13]
        try simp only [tupAt]
        refine OpOK.call (by rfl) ?_ ((check_any f v1 lx W hf (H3.out W (D.trans gW)).2 (by have := HL0.out; omega)).mono ?_)
        · first | (go_simp; done) | (go_simp; with_reducible rfl) | (go_simp; rfl)
        · rintro e W1 ⟨he, g1⟩
          rw [HC0.out] at he
          subst he
          exact ⟨_, rfl, g1, fun W2 _ => rfl⟩
      try simp only [Act.put, List.setIfInBounds_toArray, List.set_cons_zero, List.set_cons_succ]
      refine RelO.next (k' := 17) rfl (fun W gW hF => ?_) ?_
      focus
        obtain ⟨h13, h15, _⟩ := hF
        have e13 : val 13 = .bool false := h13 _ (Frm.refl _ W)
        have e15 : val 15 = .int .i64 0 := h15 _ (Frm.refl _ W)
        try simp only [e15]
        try simp only [e13]
        try simp only [tupAt]
        refine OpOK.val (u := .bool false) (by rfl) ?_ (fun W' _ => rfl)
        try simp only [e15]
        try simp only [e13]
        try simp only [tupAt]
        first | (go_simp; done) | (go_simp; with_reducible rfl) | (go_simp; rfl)
      try simp only [Act.put, List.setIfInBounds_toArray, List.set_cons_zero, List.set_cons_succ]
      refine RelO.next (k' := 18) rfl (fun W gW hF => ?_) ?_
      focus
        obtain ⟨h13, h16, _⟩ := hF
        have e13 : val 13 = .bool false := h13 _ (Frm.refl _ W)
        have e16 : val 16 = .bool false := h16 _ (Frm.refl _ W)
        try simp only [e16]
        try simp only [e13]
        try simp only [tupAt]
        refine OpOK.val (u := .bool false) (by rfl) ?_ (fun W' _ => rfl)
        try simp only [e16]
        try simp only [e13]
        try simp only [tupAt]
        first | (go_simp; done) | (go_simp; with_reducible rfl) | (go_simp; rfl)
      try simp only [Act.put, List.setIfInBounds_toArray, List.set_cons_zero, List.set_cons_succ]
      refine RelO.next (k' := 19) rfl (fun W gW hF => ?_) ?_
      focus
        obtain ⟨h17, _⟩ := hF
        have e17 : val 17 = .bool false := h17 _ (Frm.refl _ W)
        try simp only [e17]
        try simp only [tupAt]
        refine OpOK.val (u := .bool false) (by rfl) ?_ (fun W' _ => rfl)
        try simp only [e17]
        try simp only [tupAt]
        first | (go_simp; done) | (go_simp; with_reducible rfl) | (go_simp; rfl)
      try simp only [Act.put, List.setIfInBounds_toArray, List.set_cons_zero, List.set_cons_succ]
      refine RelO.next (k' := 20) rfl (fun W gW hF => ?_) ?_
      focus
        obtain ⟨h18, _⟩ := hF
        have e18 : val 18 = .bool false := h18 _ (Frm.refl _ W)
        try simp only [e18]
        try simp only [tupAt]
        exact OpOK.load (by rfl) _ rfl (by rfl) (load_reg (H4.out W (D.trans gW)).1) (fun W' _ => rfl)
      try simp only [Act.put, List.setIfInBounds_toArray, List.set_cons_zero, List.set_cons_succ]
      refine RelO.next (k' := 21) rfl (fun W gW hF => ?_) ?_
      focus
        obtain ⟨h18, h19, _⟩ := hF
        have e18 : val 18 = .bool false := h18 _ (Frm.refl _ W)
        have e19 : val 19 = rg g v2 := h19 _ (Frm.refl _ W)
        try simp only [e19]
        try simp only [e18]
        try simp only [tupAt]
        refine OpOK.call (by rfl) ?_ ((check_any g v2 ly W hg (H4.out W (D.trans gW)).2 (by have := HL1.out; omega)).mono ?_)
        · first | (go_simp; done) | (go_simp; with_reducible rfl) | (go_simp; rfl)
        · rintro e W1 ⟨he, g1⟩
          rw [HC1.out] at he
          subst he
          exact ⟨_, rfl, g1, fun W2 _ => rfl⟩
      try simp only [Act.put, List.setIfInBounds_toArray, List.set_cons_zero, List.set_cons_succ]
      refine RelO.next (k' := 22) rfl (fun W gW hF => ?_) ?_
      focus
        obtain ⟨h18, h20, _⟩ := hF
        have e18 : val 18 = .bool false := h18 _ (Frm.refl _ W)
        have e20 : val 20 = .int .i64 4 := h20 _ (Frm.refl _ W)
        try simp only [e20]
        try simp only [e18]
        try simp only [tupAt]
        refine OpOK.val (u := .bool true) (by rfl) ?_ (fun W' _ => rfl)
        try simp only [e20]
        try simp only [e18]
        try simp only [tupAt]
        first | (go_simp; done) | (go_simp; with_reducible rfl) | (go_simp; rfl)
      try simp only [Act.put, List.setIfInBounds_toArray, List.set_cons_zero, List.set_cons_succ]
      refine RelO.next (k' := 23) rfl (fun W gW hF => ?_) ?_
      focus
        obtain ⟨h18, h21, _⟩ := hF
        have e18 : val 18 = .bool false := h18 _ (Frm.refl _ W)
        have e21 : val 21 = .bool true := h21 _ (Frm.refl _ W)
        try simp only [e21]
        try simp only [e18]
        try simp only [tupAt]
        refine OpOK.val (u := .bool true) (by rfl) ?_ (fun W' _ => rfl)
        try simp only [e21]
        try simp only [e18]
        try simp only [tupAt]
        first | (go_simp; done) | (go_simp; with_reducible rfl) | (go_simp; rfl)
      try simp only [Act.put, List.setIfInBounds_toArray, List.set_cons_zero, List.set_cons_succ]
      refine RelO.next (k' := 24) rfl (fun W gW hF => ?_) ?_
      focus
        obtain ⟨h22, _⟩ := hF
        have e22 : val 22 = .bool true := h22 _ (Frm.refl _ W)
        try simp only [e22]
        try simp only [tupAt]
        refine OpOK.val (u := .bool true) (by rfl) ?_ (fun W' _ => rfl)
        try simp only [e22]
        try simp only [tupAt]
        first | (go_simp; done) | (go_simp; with_reducible rfl) | (go_simp; rfl)
      try simp only [Act.put, List.setIfInBounds_toArray, List.set_cons_zero, List.set_cons_succ]
      refine RelO.next (k' := 25) rfl (fun W gW hF => ?_) ?_
      focus
        obtain ⟨h23, _⟩ := hF
        have e23 : val 23 = .bool true := h23 _ (Frm.refl _ W)
        try simp only [e23]
        try simp only [tupAt]
        exact OpOK.skip (by rfl) (fun W' _ => rfl)
      try simp only [Act.put, List.setIfInBounds_toArray, List.set_cons_zero, List.set_cons_succ]
      refine RelO.next (k' := 26) rfl (fun W gW hF => ?_) ?_
      focus
        obtain ⟨h23, h24, _⟩ := hF
        have e23 : val 23 = .bool true := h23 _ (Frm.refl _ W)
        have e24 : val 24 = undef := h24 _ (Frm.refl _ W)
        try simp only [e24]
        try simp only [e23]
        try simp only [tupAt]
        exact OpOK.skip (by rfl) (fun W' _ => rfl)
      try simp only [Act.put, List.setIfInBounds_toArray, List.set_cons_zero, List.set_cons_succ]
      refine RelO.next (k' := 27) rfl (fun W gW hF => ?_) ?_
      focus
        obtain ⟨h23, h25, _⟩ := hF
        have e23 : val 23 = .bool true := h23 _ (Frm.refl _ W)
        have e25 : val 25 = undef := h25 _ (Frm.refl _ W)
        try simp only [e25]
        try simp only [e23]
        try simp only [tupAt]
        exact OpOK.skip (by rfl) (fun W' _ => rfl)
      try simp only [Act.put, List.setIfInBounds_toArray, List.set_cons_zero, List.set_cons_succ]
      refine RelO.next (k' := 28) rfl (fun W gW hF => ?_) ?_
      focus
        obtain ⟨h23, h26, _⟩ := hF
        have e23 : val 23 = .bool true := h23 _ (Frm.refl _ W)
        have e26 : val 26 = undef := h26 _ (Frm.refl _ W)
        try simp only [e26]
        try simp only [e23]
        try simp only [tupAt]
        refine OpOK.val (u := .bool true) (by rfl) ?_ (fun W' _ => rfl)
        try simp only [e26]
        try simp only [e23]
        try simp only [tupAt]
        first | (go_simp; done) | (go_simp; with_reducible rfl) | (go_simp; rfl)
      try simp only [Act.put, List.setIfInBounds_toArray, List.set_cons_zero, List.set_cons_succ]
      exact RelO.nil
    intro val w1 gW hF
    obtain ⟨h0, h1, h2, h3, h4, h5, h6, h7, h8, h9, h10, h11, h12, h13, h14, h15, h16, h17, h18, h19, h20, h21, h22, h23, h24, h25, h26, h27, hT⟩ := hF
    have e0 : val 0 = rg f v1 := h0 _ (Frm.refl _ w1)
    have e1 : val 1 = .bool true := h1 _ (Frm.refl _ w1)
    have e2 : val 2 = .bool false := h2 _ (Frm.refl _ w1)
    have e3 : val 3 = .bool false := h3 _ (Frm.refl _ w1)
    have e4 : val 4 = rg g v2 := h4 _ (Frm.refl _ w1)
    have e5 : val 5 = .bool true := h5 _ (Frm.refl _ w1)
    have e6 : val 6 = .bool false := h6 _ (Frm.refl _ w1)
    have e7 : val 7 = .bool false := h7 _ (Frm.refl _ w1)
    have e8 : val 8 = .bool false := h8 _ (Frm.refl _ w1)
    have e9 : val 9 = rg h v3 := h9 _ (Frm.refl _ w1)
    have e10 : val 10 = .bool true := h10 _ (Frm.refl _ w1)
    have e11 : val 11 = .bool false := h11 _ (Frm.refl _ w1)
    have e12 : val 12 = .bool false := h12 _ (Frm.refl _ w1)
    have e13 : val 13 = .bool false := h13 _ (Frm.refl _ w1)
    have e14 : val 14 = rg f v1 := h14 _ (Frm.refl _ w1)
    have e15 : val 15 = .int .i64 0 := h15 _ (Frm.refl _ w1)
    have e16 : val 16 = .bool false := h16 _ (Frm.refl _ w1)
    have e17 : val 17 = .bool false := h17 _ (Frm.refl _ w1)
    have e18 : val 18 = .bool false := h18 _ (Frm.refl _ w1)
    have e19 : val 19 = rg g v2 := h19 _ (Frm.refl _ w1)
    have e20 : val 20 = .int .i64 4 := h20 _ (Frm.refl _ w1)
    have e21 : val 21 = .bool true := h21 _ (Frm.refl _ w1)
    have e22 : val 22 = .bool true := h22 _ (Frm.refl _ w1)
    have e23 : val 23 = .bool true := h23 _ (Frm.refl _ w1)
    have e24 : val 24 = undef := h24 _ (Frm.refl _ w1)
    have e25 : val 25 = undef := h25 _ (Frm.refl _ w1)
    have e26 : val 26 = undef := h26 _ (Frm.refl _ w1)
    have e27 : val 27 = .bool true := h27 _ (Frm.refl _ w1)
    clear hT h0 h1 h2 h3 h4 h5 h6 h7 h8 h9 h10 h11 h12 h13 h14 h15 h16 h17 h18 h19 h20 h21 h22 h23 h24 h25 h26 h27
    simp only [aO, Act.put, List.setIfInBounds_toArray, List.set_cons_zero, List.set_cons_succ, Nat.reduceAdd]
    try simp only [e27]
    try simp only [e26]
    try simp only [e25]
    try simp only [e24]
    try simp only [e23]
    try simp only [e22]
    try simp only [e21]
    try simp only [e20]
    try simp only [e19]
    try simp only [e18]
    try simp only [e17]
    try simp only [e16]
    try simp only [e15]
    try simp only [e14]
    try simp only [e13]
    try simp only [e12]
    try simp only [e11]
    try simp only [e10]
    try simp only [e9]
    try simp only [e8]
    try simp only [e7]
    try simp only [e6]
    try simp only [e5]
    try simp only [e4]
    try simp only [e3]
    try simp only [e2]
    try simp only [e1]
    try simp only [e0]
    try simp only [tupAt]
    refine wpTail.done ?_
    refine hK _ _ ?_
    have g1 := D.trans gW
    replace H3 := Hid.grow H3 g1
    replace H4 := Hid.grow H4 g1
    replace H5 := Hid.grow H5 g1
    replace GG := GG.trans g1
    clear gW D hK g1 e0 e1 e2 e3 e4 e5 e6 e7 e8 e9 e10 e11 e12 e13 e14 e15 e16 e17 e18 e19 e20 e21 e22 e23 e24 e25 e26 e27 
    go_wp2_with fail
    refine (HWK.out w1).mono ?_
    rintro e w2 ⟨rfl, g2⟩
    go_wp2_with fail
    go_ret
    exact ⟨rfl, GG.trans g2⟩
  have HC1 : Hid (chkS g ly = 0) := Lib.hid (by unfold chkS; rw [hq]; rfl)
  have HO1 := Lib.hid hq
  clear hq
  cases hq : okR h lz
  case false =>
    have HC2 : Hid (chkS h lz = 4) := Lib.hid (by unfold chkS; rw [hq]; rfl)
    clear hq
    have D : Frm (fun _ => False) w0 w0 := Frm.refl _ _
    refine wp_region_textR 28 0 [[], [0], [1], [2], [3], [3, 4], [3, 5], [3, 6], [7], [8], [8, 9], [8, 10], [8, 11], [12], [13], [13, 14], [13, 15], [13, 16], [17], [18], [18, 19], [18, 20], [18, 21], [22], [23], [23, 24], [23, 25], [23, 26]] ri1_5M (ri1_5R f g h v1 v2 v3) rfl rfl rfl rfl (by kernel_rfl) (by kernel_rfl) (fun val => ?_) ?_
    · try dsimp only
      refine RelO.next (k' := 1) rfl (fun W gW hF => ?_) ?_
      focus
        exact OpOK.load (by rfl) _ rfl (by rfl) (load_reg (H3.out W (D.trans gW)).1) (fun W' _ => rfl)
      try simp only [Act.put, List.setIfInBounds_toArray, List.set_cons_zero, List.set_cons_succ]
      refine RelO.next (k' := 2) rfl (fun W gW hF => ?_) ?_
      focus
        obtain ⟨h0, _⟩ := hF
        have e0 : val 0 = rg f v1 := h0 _ (Frm.refl _ W)
        try simp only [e0]
        try simp only [tupAt]
        refine OpOK.call (by rfl) ?_ ((sfew_yes f v1 lx W (H3.out W (D.trans gW)).2 HF0.out).mono ?_)
        · first | (go_simp; done) | (go_simp; with_reducible rfl) | (go_simp; rfl)
        · rintro e W1 ⟨he, g1⟩
          subst he
          exact ⟨_, rfl, g1, fun W2 _ => rfl⟩
      try simp only [Act.put, List.setIfInBounds_toArray, List.set_cons_zero, List.set_cons_succ]
      refine RelO.next (k' := 3) rfl (fun W gW hF => ?_) ?_
      focus
        obtain ⟨h1, _⟩ := hF
        have e1 : val 1 = .bool true := h1 _ (Frm.refl _ W)
        try simp only [e1]
        try simp only [tupAt]
        refine OpOK.val (u := .bool false) (by rfl) ?_ (fun W' _ => rfl)
        try simp only [e1]
        try simp only [tupAt]
        first | (go_simp; done) | (go_simp; with_reducible rfl) | (go_simp; rfl)
      try simp only [Act.put, List.setIfInBounds_toArray, List.set_cons_zero, List.set_cons_succ]
      refine RelO.next (k' := 4) rfl (fun W gW hF => ?_) ?_
      focus
        obtain ⟨h2, _⟩ := hF
        have e2 : val 2 = .bool false := h2 _ (Frm.refl _ W)
        try simp only [e2]
        try simp only [tupAt]
        refine OpOK.val (u := .bool false) (by rfl) ?_ (fun W' _ => rfl)
        try simp only [e2]
        try simp only [tupAt]
        first | (go_simp; done) | (go_simp; with_reducible rfl) | (go_simp; rfl)
      try simp only [Act.put, List.setIfInBounds_toArray, List.set_cons_zero, List.set_cons_succ]
      refine RelO.next (k' := 5) rfl (fun W gW hF => ?_) ?_
      focus
        obtain ⟨h3, _⟩ := hF
        have e3 : val 3 = .bool false := h3 _ (Frm.refl _ W)
        try simp only [e3]
        try simp only [tupAt]
        exact OpOK.load (by rfl) _ rfl (by rfl) (load_reg (H4.out W (D.trans gW)).1) (fun W' _ => rfl)
      try simp only [Act.put, List.setIfInBounds_toArray, List.set_cons_zero, List.set_cons_succ]
      refine RelO.next (k' := 6) rfl (fun W gW hF => ?_) ?_
      focus
        obtain ⟨h3, h4, _⟩ := hF
        have e3 : val 3 = .bool false := h3 _ (Frm.refl _ W)
        have e4 : val 4 = rg g v2 := h4 _ (Frm.refl _ W)
        try simp only [e4]
        try simp only [e3]
        try simp only [tupAt]
        refine OpOK.call (by rfl) ?_ ((sfew_yes g v2 ly W (H4.out W (D.trans gW)).2 HF1.out).mono ?_)
        · first | (go_simp; done) | (go_simp; with_reducible rfl) | (go_simp; rfl)
        · rintro e W1 ⟨he, g1⟩
          subst he
          exact ⟨_, rfl, g1, fun W2 _ => rfl⟩
      try simp only [Act.put, List.setIfInBounds_toArray, List.set_cons_zero, List.set_cons_succ]
      refine RelO.next (k' := 7) rfl (fun W gW hF => ?_) ?_
      focus
        obtain ⟨h3, h5, _⟩ := hF
        have e3 : val 3 = .bool false := h3 _ (Frm.refl _ W)
        have e5 : val 5 = .bool true := h5 _ (Frm.refl _ W)
        try simp only [e5]
        try simp only [e3]
        try simp only [tupAt]
        refine OpOK.val (u := .bool false) (by rfl) ?_ (fun W' _ => rfl)
        try simp only [e5]
        try simp only [e3]
        try simp only [tupAt]
        first | (go_simp; done) | (go_simp; with_reducible rfl) | (go_simp; rfl)
      try simp only [Act.put, List.setIfInBounds_toArray, List.set_cons_zero, List.set_cons_succ]
      refine RelO.next (k' := 8) rfl (fun W gW hF => ?_) ?_
      focus
        obtain ⟨h3, h6, _⟩ := hF
        have e3 : val 3 = .bool false := h3 _ (Frm.refl _ W)
        have e6 : val 6 = .bool false := h6 _ (Frm.refl _ W)
        try simp only [e6]
        try simp only [e3]
        try simp only [tupAt]
        refine OpOK.val (u := .bool false) (by rfl) ?_ (fun W' _ => rfl)
        try simp only [e6]
        try simp only [e3]
        try simp only [tupAt]
        first | (go_simp; done) | (go_simp; with_reducible rfl) | (go_simp; rfl)
      try simp only [Act.put, List.setIfInBounds_toArray, List.set_cons_zero, List.set_cons_succ]
      refine RelO.next (k' := 9) rfl (fun W gW hF => ?_) ?_
      focus
        obtain ⟨h7, _⟩ := hF
        have e7 : val 7 = .bool false := h7 _ (Frm.refl _ W)
        try simp only [e7]
        try simp only [tupAt]
        refine OpOK.val (u := .bool false) (by rfl) ?_ (fun W' _ => rfl)
        try simp only [e7]
        try simp only [tupAt]
        first | (go_simp; done) | (go_simp; with_reducible rfl) | (go_simp; rfl)
      try simp only [Act.put, List.setIfInBounds_toArray, List.set_cons_zero, List.set_cons_succ]
      refine RelO.next (k' := 10) rfl (fun W gW hF => ?_) ?_
      focus
        obtain ⟨h8, _⟩ := hF
        have e8 : val 8 = .bool false := h8 _ (Frm.refl _ W)
        try simp only [e8]
        try simp only [tupAt]
        exact OpOK.load (by rfl) _ rfl (by rfl) (load_reg (H5.out W (D.trans gW)).1) (fun W' _ => rfl)
      try simp only [Act.put, List.setIfInBounds_toArray, List.set_cons_zero, List.set_cons_succ]
      refine RelO.next (k' := 11) rfl (fun W gW hF => ?_) ?_
      focus
        obtain ⟨h8, h9, _⟩ := hF
        have e8 : val 8 = .bool false := h8 _ (Frm.refl _ W)
        have e9 : val 9 = rg h v3 := h9 _ (Frm.refl _ W)
        try simp only [e9]
        try simp only [e8]
        try simp only [tupAt]
        refine OpOK.call (by rfl) ?_ ((sfew_yes h v3 lz W (H5.out W (D.trans gW)).2 HF2.out).mono ?_)
        · first | (go_simp; done) | (go_simp; with_reducible rfl) | (go_simp; rfl)
        · rintro e W1 ⟨he, g1⟩
          subst he
          exact ⟨_, rfl, g1, fun W2 _ => rfl⟩
      try simp only [Act.put, List.setIfInBounds_toArray, List.set_cons_zero, List.set_cons_succ]
      refine RelO.next (k' := 12) rfl (fun W gW hF => ?_) ?_
      focus
        obtain ⟨h8, h10, _⟩ := hF
        have e8 : val 8 = .bool false := h8 _ (Frm.refl _ W)
        have e10 : val 10 = .bool true := h10 _ (Frm.refl _ W)
        try simp only [e10]
        try simp only [e8]
        try simp only [tupAt]
        refine OpOK.val (u := .bool false) (by rfl) ?_ (fun W' _ => rfl)
        try simp only [e10]
        try simp only [e8]
        try simp only [tupAt]
        first | (go_simp; done) | (go_simp; with_reducible rfl) | (go_simp; rfl)
      try simp only [Act.put, List.setIfInBounds_toArray, List.set_cons_zero, List.set_cons_succ]
      refine RelO.next (k' := 13) rfl (fun W gW hF => ?_) ?_
      focus
        obtain ⟨h8, h11, _⟩ := hF
        have e8 : val 8 = .bool false := h8 _ (Frm.refl _ W)
        have e11 : val 11 = .bool false := h11 _ (Frm.refl _ W)
        try simp only [e11]
        try simp only [e8]
        try simp only [tupAt]
        refine OpOK.val (u := .bool false) (by rfl) ?_ (fun W' _ => rfl)
        try simp only [e11]
        try simp only [e8]
        try simp only [tupAt]
        first | (go_simp; done) | (go_simp; with_reducible rfl) | (go_simp; rfl)
      try simp only [Act.put, List.setIfInBounds_toArray, List.set_cons_zero, List.set_cons_succ]
      refine RelO.next (k' := 14) rfl (fun W gW hF => ?_) ?_
      focus
        obtain ⟨h12, _⟩ := hF
        have e12 : val 12 = .bool false := h12 _ (Frm.refl _ W)
        try simp only [e12]
        try simp only [tupAt]
        refine OpOK.val (u := .bool false) (by rfl) ?_ (fun W' _ => rfl)
        try simp only [e12]
        try simp only [tupAt]
        first | (go_simp; done) | (go_simp; with_reducible rfl) | (go_simp; rfl)
      try simp only [Act.put, List.setIfInBounds_toArray, List.set_cons_zero, List.set_cons_succ]
      refine RelO.next (k' := 15) rfl (fun W gW hF => ?_) ?_
      focus
        obtain ⟨h13, _⟩ := hF
        have e13 : val 13 = .bool false := h13 _ (Frm.refl _ W)
        try simp only [e13]
        try simp only [tupAt]
        exact OpOK.load (by rfl) _ rfl (by rfl) (load_reg (H3.out W (D.trans gW)).1) (fun W' _ => rfl)
      try simp only [Act.put, List.setIfInBounds_toArray, List.set_cons_zero, List.set_cons_succ]
      refine RelO.next (k' := 16) rfl (fun W gW hF => ?_) ?_
      focus
        obtain ⟨h13, h14, _⟩ := hF
        have e13 : val 13 = .bool false := h13 _ (Frm.refl _ W)
        have e14 : val 14 = rg f v1 := h14 _ (Frm.refl _ W)
        try simp only [e14]
        try simp only [e13]
        try simp only [tupAt]
        refine OpOK.call (by rfl) ?_ ((check_any f v1 lx W hf (H3.out W (D.trans gW)).2 (by have := HL0.out; omega)).mono ?_)
        · first | (go_simp; done) | (go_simp; with_reducible rfl) | (go_simp; rfl)
        · rintro e W1 ⟨he, g1⟩
          rw [HC0.out] at he
          subst he
          exact ⟨_, rfl, g1, fun W2 _ => rfl⟩
      try simp only [Act.put, List.setIfInBounds_toArray, List.set_cons_zero, List.set_cons_succ]
      refine RelO.next (k' := 17) rfl (fun W gW hF => ?_) ?_
      focus
        obtain ⟨h13, h15, _⟩ := hF
        have e13 : val 13 = .bool false := h13 _ (Frm.refl _ W)
        have e15 : val 15 = .int .i64 0 := h15 _ (Frm.refl _ W)
        try simp only [e15]
        try simp only [e13]
        try simp only [tupAt]
        refine OpOK.val (u := .bool false) (by rfl) ?_ (fun W' _ => rfl)
        try simp only [e15]
        try simp only [e13]
        try simp only [tupAt]
        first | (go_simp; done) | (go_simp; with_reducible rfl) | (go_simp; rfl)
      try simp only [Act.put, List.setIfInBounds_toArray, List.set_cons_zero, List.set_cons_succ]
      refine RelO.next (k' := 18) rfl (fun W gW hF => ?_) ?_
      focus
        obtain ⟨h13, h16, _⟩ := hF
        have e13 : val 13 = .bool false := h13 _ (Frm.refl _ W)
        have e16 : val 16 = .bool false := h16 _ (Frm.refl _ W)
        try simp only [e16]
        try simp only [e13]
        try simp only [tupAt]
        refine OpOK.val (u := .bool false) (by rfl) ?_ (fun W' _ => rfl)
        try simp only [e16]
        try simp only [e13]
        try simp only [tupAt]
        first | (go_simp; done) | (go_simp; with_reducible rfl) | (go_simp; rfl)
      try simp only [Act.put, List.setIfInBounds_toArray, List.set_cons_zero, List.set_cons_succ]
      refine RelO.next (k' := 19) rfl (fun W gW hF => ?_) ?_
      focus
        obtain ⟨h17, _⟩ := hF
        have e17 : val 17 = .bool false := h17 _ (Frm.refl _ W)
        try simp only [e17]
        try simp only [tupAt]
        refine OpOK.val (u := .bool false) (by rfl) ?_ (fun W' _ => rfl)
        try simp only [e17]
        try simp only [tupAt]
        first | (go_simp; done) | (go_simp; with_reducible rfl) | (go_simp; rfl)
      try simp only [Act.put, List.setIfInBounds_toArray, List.set_cons_zero, List.set_cons_succ]
      refine RelO.next (k' := 20) rfl (fun W gW hF => ?_) ?_
      focus
        obtain ⟨h18, _⟩ := hF
        have e18 : val 18 = .bool false := h18 _ (Frm.refl _ W)
        try simp only [e18]
        try simp only [tupAt]
        exact OpOK.load (by rfl) _ rfl (by rfl) (load_reg (H4.out W (D.trans gW)).1) (fun W' _ => rfl)
      try simp only [Act.put, List.setIfInBounds_toArray, List.set_cons_zero, List.set_cons_succ]
      refine RelO.next (k' := 21) rfl (fun W gW hF => ?_) ?_
      focus
        obtain ⟨h18, h19, _⟩ := hF
        have e18 : val 18 = .bool false := h18 _ (Frm.refl _ W)
        have e19 : val 19 = rg g v2 := h19 _ (Frm.refl _ W)
        try simp only [e19]
        try simp only [e18]
        try simp only [tupAt]
        refine OpOK.call (by rfl) ?_ ((check_any g v2 ly W hg (H4.out W (D.trans gW)).2 (by have := HL1.out; omega)).mono ?_)
        · first | (go_simp; done) | (go_simp; with_reducible rfl) | (go_simp; rfl)
        · rintro e W1 ⟨he, g1⟩
          rw [HC1.out] at he
          subst he
          exact ⟨_, rfl, g1, fun W2 _ => rfl⟩
      try simp only [Act.put, List.setIfInBounds_toArray, List.set_cons_zero, List.set_cons_succ]
      refine RelO.next (k' := 22) rfl (fun W gW hF => ?_) ?_
      focus
        obtain ⟨h18, h20, _⟩ := hF
        have e18 : val 18 = .bool false := h18 _ (Frm.refl _ W)
        have e20 : val 20 = .int .i64 0 := h20 _ (Frm.refl _ W)
        try simp only [e20]
        try simp only [e18]
        try simp only [tupAt]
        refine OpOK.val (u := .bool false) (by rfl) ?_ (fun W' _ => rfl)
        try simp only [e20]
        try simp only [e18]
        try simp only [tupAt]
        first | (go_simp; done) | (go_simp; with_reducible rfl) | (go_simp; rfl)
      try simp only [Act.put, List.setIfInBounds_toArray, List.set_cons_zero, List.set_cons_succ]
      refine RelO.next (k' := 23) rfl (fun W gW hF => ?_) ?_
      focus
        obtain ⟨h18, h21, _⟩ := hF
        have e18 : val 18 = .bool false := h18 _ (Frm.refl _ W)
        have e21 : val 21 = .bool false := h21 _ (Frm.refl _ W)
        try simp only [e21]
        try simp only [e18]
        try simp only [tupAt]
        refine OpOK.val (u := .bool false) (by rfl) ?_ (fun W' _ => rfl)
        try simp only [e21]
        try simp only [e18]
        try simp only [tupAt]
        first | (go_simp; done) | (go_simp; with_reducible rfl) | (go_simp; rfl)
      try simp only [Act.put, List.setIfInBounds_toArray, List.set_cons_zero, List.set_cons_succ]
      refine RelO.next (k' := 24) rfl (fun W gW hF => ?_) ?_
      focus
        obtain ⟨h22, _⟩ := hF
        have e22 : val 22 = .bool false := h22 _ (Frm.refl _ W)
        try simp only [e22]
        try simp only [tupAt]
        refine OpOK.val (u := .bool false) (by rfl) ?_ (fun W' _ => rfl)
        try simp only [e22]
        try simp only [tupAt]
        first | (go_simp; done) | (go_simp; with_reducible rfl) | (go_simp; rfl)
      try simp only [Act.put, List.setIfInBounds_toArray, List.set_cons_zero, List.set_cons_succ]
      refine RelO.next (k' := 25) rfl (fun W gW hF => ?_) ?_
      focus
        obtain ⟨h23, _⟩ := hF
        have e23 : val 23 = .bool false := h23 _ (Frm.refl _ W)
        try simp only [e23]
        try simp only [tupAt]
        exact OpOK.load (by rfl) _ rfl (by rfl) (load_reg (H5.out W (D.trans gW)).1) (fun W' _ => rfl)
      try simp only [Act.put, List.setIfInBounds_toArray, List.set_cons_zero, List.set_cons_succ]
      refine RelO.next (k' := 26) rfl (fun W gW hF => ?_) ?_
      focus
        obtain ⟨h23, h24, _⟩ := hF
        have e23 : val 23 = .bool false := h23 _ (Frm.refl _ W)
        have e24 : val 24 = rg h v3 := h24 _ (Frm.refl _ W)
        try simp only [e24]
        try simp only [e23]
        try simp only [tupAt]
        refine OpOK.call (by rfl) ?_ ((check_any h v3 lz W hh (H5.out W (D.trans gW)).2 (by have := HL2.out; omega)).mono ?_)
        · first | (go_simp; done) | (go_simp; with_reducible rfl) | (go_simp; rfl)
        · rintro e W1 ⟨he, g1⟩
          rw [HC2.out] at he
          subst he
          exact ⟨_, rfl, g1, fun W2 _ => rfl⟩
      try simp only [Act.put, List.setIfInBounds_toArray, List.set_cons_zero, List.set_cons_succ]
      refine RelO.next (k' := 27) rfl (fun W gW hF => ?_) ?_
      focus
        obtain ⟨h23, h25, _⟩ := hF
        have e23 : val 23 = .bool false := h23 _ (Frm.refl _ W)
        have e25 : val 25 = .int .i64 4 := h25 _ (Frm.refl _ W)
        try simp only [e25]
        try simp only [e23]
        try simp only [tupAt]
        refine OpOK.val (u := .bool true) (by rfl) ?_ (fun W' _ => rfl)
        try simp only [e25]
        try simp only [e23]
        try simp only [tupAt]
        first | (go_simp; done) | (go_simp; with_reducible rfl) | (go_simp; rfl)
      try simp only [Act.put, List.setIfInBounds_toArray, List.set_cons_zero, List.set_cons_succ]
      refine RelO.next (k' := 28) rfl (fun W gW hF => ?_) ?_
      focus
        obtain ⟨h23, h26, _⟩ := hF
        have e23 : val 23 = .bool false := h23 _ (Frm.refl _ W)
        have e26 : val 26 = .bool true := h26 _ (Frm.refl _ W)
        try simp only [e26]
        try simp only [e23]
        try simp only [tupAt]
        refine OpOK.val (u := .bool true) (by rfl) ?_ (fun W' _ => rfl)
        try simp only [e26]
        try simp only [e23]
        try simp only [tupAt]
        first | (go_simp; done) | (go_simp; with_reducible rfl) | (go_simp; rfl)
      try simp only [Act.put, List.setIfInBounds_toArray, List.set_cons_zero, List.set_cons_succ]
      exact RelO.nil
    intro val w1 gW hF
    obtain ⟨h0, h1, h2, h3, h4, h5, h6, h7, h8, h9, h10, h11, h12, h13, h14, h15, h16, h17, h18, h19, h20, h21, h22, h23, h24, h25, h26, h27, hT⟩ := hF
    have e0 : val 0 = rg f v1 := h0 _ (Frm.refl _ w1)
    have e1 : val 1 = .bool true := h1 _ (Frm.refl _ w1)
    have e2 : val 2 = .bool false := h2 _ (Frm.refl _ w1)
    have e3 : val 3 = .bool false := h3 _ (Frm.refl _ w1)
    have e4 : val 4 = rg g v2 := h4 _ (Frm.refl _ w1)
    have e5 : val 5 = .bool true := h5 _ (Frm.refl _ w1)
    have e6 : val 6 = .bool false := h6 _ (Frm.refl _ w1)
    have e7 : val 7 = .bool false := h7 _ (Frm.refl _ w1)
    have e8 : val 8 = .bool false := h8 _ (Frm.refl _ w1)
    have e9 : val 9 = rg h v3 := h9 _ (Frm.refl _ w1)
    have e10 : val 10 = .bool true := h10 _ (Frm.refl _ w1)
    have e11 : val 11 = .bool false := h11 _ (Frm.refl _ w1)
    have e12 : val 12 = .bool false := h12 _ (Frm.refl _ w1)
    have e13 : val 13 = .bool false := h13 _ (Frm.refl _ w1)
    have e14 : val 14 = rg f v1 := h14 _ (Frm.refl _ w1)
    have e15 : val 15 = .int .i64 0 := h15 _ (Frm.refl _ w1)
    have e16 : val 16 = .bool false := h16 _ (Frm.refl _ w1)
    have e17 : val 17 = .bool false := h17 _ (Frm.refl _ w1)
    have e18 : val 18 = .bool false := h18 _ (Frm.refl _ w1)
    have e19 : val 19 = rg g v2 := h19 _ (Frm.refl _ w1)
    have e20 : val 20 = .int .i64 0 := h20 _ (Frm.refl _ w1)
    have e21 : val 21 = .bool false := h21 _ (Frm.refl _ w1)
    have e22 : val 22 = .bool false := h22 _ (Frm.refl _ w1)
    have e23 : val 23 = .bool false := h23 _ (Frm.refl _ w1)
    have e24 : val 24 = rg h v3 := h24 _ (Frm.refl _ w1)
    have e25 : val 25 = .int .i64 4 := h25 _ (Frm.refl _ w1)
    have e26 : val 26 = .bool true := h26 _ (Frm.refl _ w1)
    have e27 : val 27 = .bool true := h27 _ (Frm.refl _ w1)
    clear hT h0 h1 h2 h3 h4 h5 h6 h7 h8 h9 h10 h11 h12 h13 h14 h15 h16 h17 h18 h19 h20 h21 h22 h23 h24 h25 h26 h27
    simp only [aO, Act.put, List.setIfInBounds_toArray, List.set_cons_zero, List.set_cons_succ, Nat.reduceAdd]
    try simp only [e27]
    try simp only [e26]
    try simp only [e25]
    try simp only [e24]
    try simp only [e23]
    try simp only [e22]
    try simp only [e21]
    try simp only [e20]
    try simp only [e19]
    try simp only [e18]
    try simp only [e17]
    try simp only [e16]
    try simp only [e15]
    try simp only [e14]
    try simp only [e13]
    try simp only [e12]
    try simp only [e11]
    try simp only [e10]
    try simp only [e9]
    try simp only [e8]
    try simp only [e7]
    try simp only [e6]
    try simp only [e5]
    try simp only [e4]
    try simp only [e3]
    try simp only [e2]
    try simp only [e1]
    try simp only [e0]
    try simp only [tupAt]
    refine wpTail.done ?_
    refine hK _ _ ?_
    have g1 := D.trans gW
    replace H3 := Hid.grow H3 g1
    replace H4 := Hid.grow H4 g1
    replace H5 := Hid.grow H5 g1
    replace GG := GG.trans g1
    clear gW D hK g1 e0 e1 e2 e3 e4 e5 e6 e7 e8 e9 e10 e11 e12 e13 e14 e15 e16 e17 e18 e19 e20 e21 e22 e23 e24 e25 e26 e27 
    go_wp2_with fail
    refine (HWK.out w1).mono ?_
    rintro e w2 ⟨rfl, g2⟩
    go_wp2_with fail
    go_ret
    exact ⟨rfl, GG.trans g2⟩
  have HC2 : Hid (chkS h lz = 0) := Lib.hid (by unfold chkS; rw [hq]; rfl)
  have HO2 := Lib.hid hq
  clear hq
  have D : Frm (fun _ => False) w0 w0 := Frm.refl _ _
  refine wp_region_textR 28 0 [[], [0], [1], [2], [3], [3, 4], [3, 5], [3, 6], [7], [8], [8, 9], [8, 10], [8, 11], [12], [13], [13, 14], [13, 15], [13, 16], [17], [18], [18, 19], [18, 20], [18, 21], [22], [23], [23, 24], [23, 25], [23, 26]] ri1_6M (ri1_6R f g h v1 v2 v3) rfl rfl rfl rfl (by kernel_rfl) (by kernel_rfl) (fun val => ?_) ?_
  · try dsimp only
    refine RelO.next (k' := 1) rfl (fun W gW hF => ?_) ?_
    focus
      exact OpOK.load (by rfl) _ rfl (by rfl) (load_reg (H3.out W (D.trans gW)).1) (fun W' _ => rfl)
    try simp only [Act.put, List.setIfInBounds_toArray, List.set_cons_zero, List.set_cons_succ]
    refine RelO.next (k' := 2) rfl (fun W gW hF => ?_) ?_
    focus
      obtain ⟨h0, _⟩ := hF
      have e0 : val 0 = rg f v1 := h0 _ (Frm.refl _ W)
      try simp only [e0]
      try simp only [tupAt]
      refine OpOK.call (by rfl) ?_ ((sfew_yes f v1 lx W (H3.out W (D.trans gW)).2 HF0.out).mono ?_)
      · first | (go_simp; done) | (go_simp; with_reducible rfl) | (go_simp; rfl)
      · rintro e W1 ⟨he, g1⟩
        subst he
        exact ⟨_, rfl, g1, fun W2 _ => rfl⟩
    try simp only [Act.put, List.setIfInBounds_toArray, List.set_cons_zero, List.set_cons_succ]
    refine RelO.next (k' := 3) rfl (fun W gW hF => ?_) ?_
    focus
      obtain ⟨h1, _⟩ := hF
      have e1 : val 1 = .bool true := h1 _ (Frm.refl _ W)
      try simp only [e1]
      try simp only [tupAt]
      refine OpOK.val (u := .bool false) (by rfl) ?_ (fun W' _ => rfl)
      try simp only [e1]
      try simp only [tupAt]
      first | (go_simp; done) | (go_simp; with_reducible rfl) | (go_simp; rfl)
    try simp only [Act.put, List.setIfInBounds_toArray, List.set_cons_zero, List.set_cons_succ]
    refine RelO.next (k' := 4) rfl (fun W gW hF => ?_) ?_
    focus
      obtain ⟨h2, _⟩ := hF
      have e2 : val 2 = .bool false := h2 _ (Frm.refl _ W)
      try simp only [e2]
      try simp only [tupAt]
      refine OpOK.val (u := .bool false) (by rfl) ?_ (fun W' _ => rfl)
      try simp only [e2]
      try simp only [tupAt]
      first | (go_simp; done) | (go_simp; with_reducible rfl) | (go_simp; rfl)
    try simp only [Act.put, List.setIfInBounds_toArray, List.set_cons_zero, List.set_cons_succ]
    refine RelO.next (k' := 5) rfl (fun W gW hF => ?_) ?_
    focus
      obtain ⟨h3, _⟩ := hF
      have e3 : val 3 = .bool false := h3 _ (Frm.refl _ W)
      try simp only [e3]
      try simp only [tupAt]
      exact OpOK.load (by rfl) _ rfl (by rfl) (load_reg (H4.out W (D.trans gW)).1) (fun W' _ => rfl)
    try simp only [Act.put, List.setIfInBounds_toArray, List.set_cons_zero, List.set_cons_succ]
    refine RelO.next (k' := 6) rfl (fun W gW hF => ?_) ?_
    focus
      obtain ⟨h3, h4, _⟩ := hF
      have e3 : val 3 = .bool false := h3 _ (Frm.refl _ W)
      have e4 : val 4 = rg g v2 := h4 _ (Frm.refl _ W)
      try simp only [e4]
      try simp only [e3]
      try simp only [tupAt]
      refine OpOK.call (by rfl) ?_ ((sfew_yes g v2 ly W (H4.out W (D.trans gW)).2 HF1.out).mono ?_)
      · first | (go_simp; done) | (go_simp; with_reducible rfl) | (go_simp; rfl)
      · rintro e W1 ⟨he, g1⟩
        subst he
        exact ⟨_, rfl, g1, fun W2 _ => rfl⟩
    try simp only [Act.put, List.setIfInBounds_toArray, List.set_cons_zero, List.set_cons_succ]
    refine RelO.next (k' := 7) rfl (fun W gW hF => ?_) ?_
    focus
      obtain ⟨h3, h5, _⟩ := hF
      have e3 : val 3 = .bool false := h3 _ (Frm.refl _ W)
      have e5 : val 5 = .bool true := h5 _ (Frm.refl _ W)
      try simp only [e5]
      try simp only [e3]
      try simp only [tupAt]
      refine OpOK.val (u := .bool false) (by rfl) ?_ (fun W' _ => rfl)
      try simp only [e5]
      try simp only [e3]
      try simp only [tupAt]
      first | (go_simp; done) | (go_simp; with_reducible rfl) | (go_simp; rfl)
    try simp only [Act.put, List.setIfInBounds_toArray, List.set_cons_zero, List.set_cons_succ]
    refine RelO.next (k' := 8) rfl (fun W gW hF => ?_) ?_
    focus
      obtain ⟨h3, h6, _⟩ := hF
      have e3 : val 3 = .bool false := h3 _ (Frm.refl _ W)
      have e6 : val 6 = .bool false := h6 _ (Frm.refl _ W)
      try simp only [e6]
      try simp only [e3]
      try simp only [tupAt]
      refine OpOK.val (u := .bool false) (by rfl) ?_ (fun W' _ => rfl)
      try simp only [e6]
      try simp only [e3]
      try simp only [tupAt]
      first | (go_simp; done) | (go_simp; with_reducible rfl) | (go_simp; rfl)
    try simp only [Act.put, List.setIfInBounds_toArray, List.set_cons_zero, List.set_cons_succ]
    refine RelO.next (k' := 9) rfl (fun W gW hF => ?_) ?_
    focus
      obtain ⟨h7, _⟩ := hF
      have e7 : val 7 = .bool false := h7 _ (Frm.refl _ W)
      try simp only [e7]
      try simp only [tupAt]
      refine OpOK.val (u := .bool false) (by rfl) ?_ (fun W' _ => rfl)
      try simp only [e7]
      try simp only [tupAt]
      first | (go_simp; done) | (go_simp; with_reducible rfl) | (go_simp; rfl)
    try simp only [Act.put, List.setIfInBounds_toArray, List.set_cons_zero, List.set_cons_succ]
    refine RelO.next (k' := 10) rfl (fun W gW hF => ?_) ?_
    focus
      obtain ⟨h8, _⟩ := hF
      have e8 : val 8 = .bool false := h8 _ (Frm.refl _ W)
      try simp only [e8]
      try simp only [tupAt]
      exact OpOK.load (by rfl) _ rfl (by rfl) (load_reg (H5.out W (D.trans gW)).1) (fun W' _ => rfl)
    try simp only [Act.put, List.setIfInBounds_toArray, List.set_cons_zero, List.set_cons_succ]
    refine RelO.next (k' := 11) rfl (fun W gW hF => ?_) ?_
    focus
      obtain ⟨h8, h9, _⟩ := hF
      have e8 : val 8 = .bool false := h8 _ (Frm.refl _ W)
      have e9 : val 9 = rg h v3 := h9 _ (Frm.refl _ W)
      try simp only [e9]
      try simp only [e8]
      try simp only [tupAt]
      refine OpOK.call (by rfl) ?_ ((sfew_yes h v3 lz W (H5.out W (D.trans gW)).2 HF2.out).mono ?_)
      · first | (go_simp; done) | (go_simp; with_reducible rfl) | (go_simp; rfl)
      · rintro e W1 ⟨he, g1⟩
        subst he
        exact ⟨_, rfl, g1, fun W2 _ => rfl⟩
    try simp only [Act.put, List.setIfInBounds_toArray, List.set_cons_zero, List.set_cons_succ]
    refine RelO.next (k' := 12) rfl (fun W gW hF => ?_) ?_
    focus
      obtain ⟨h8, h10, _⟩ := hF
      have e8 : val 8 = .bool false := h8 _ (Frm.refl _ W)
      have e10 : val 10 = .bool true := h10 _ (Frm.refl _ W)
      try simp only [e10]
      try simp only [e8]
      try simp only [tupAt]
      refine OpOK.val (u := .bool false) (by rfl) ?_ (fun W' _ => rfl)
      try simp only [e10]
      try simp only [e8]
      try simp only [tupAt]
      first | (go_simp; done) | (go_simp; with_reducible rfl) | (go_simp; rfl)
    try simp only [Act.put, List.setIfInBounds_toArray, List.set_cons_zero, List.set_cons_succ]
    refine RelO.next (k' := 13) rfl (fun W gW hF => ?_) ?_
    focus
      obtain ⟨h8, h11, _⟩ := hF
      have e8 : val 8 = .bool false := h8 _ (Frm.refl _ W)
      have e11 : val 11 = .bool false := h11 _ (Frm.refl _ W)
      try simp only [e11]
      try simp only [e8]
      try simp only [tupAt]
      refine OpOK.val (u := .bool false) (by rfl) ?_ (fun W' _ => rfl)
      try simp only [e11]
      try simp only [e8]
      try simp only [tupAt]
      first | (go_simp; done) | (go_simp; with_reducible rfl) | (go_simp; rfl)
    try simp only [Act.put, List.setIfInBounds_toArray, List.set_cons_zero, List.set_cons_succ]
    refine RelO.next (k' := 14) rfl (fun W gW hF => ?_) ?_
    focus
      obtain ⟨h12, _⟩ := hF
      have e12 : val 12 = .bool false := h12 _ (Frm.refl _ W)
      try simp only [e12]
      try simp only [tupAt]
      refine OpOK.val (u := .bool false) (by rfl) ?_ (fun W' _ => rfl)
      try simp only [e12]
      try simp only [tupAt]
      first | (go_simp; done) | (go_simp; with_reducible rfl) | (go_simp; rfl)
    try simp only [Act.put, List.setIfInBounds_toArray, List.set_cons_zero, List.set_cons_succ]
    refine RelO.next (k' := 15) rfl (fun W gW hF => ?_) ?_
    focus
      obtain ⟨h13, _⟩ := hF
      have e13 : val 13 = .bool false := h13 _ (Frm.refl _ W)
      try simp only [e13]
      try simp only [tupAt]
      exact OpOK.load (by rfl) _ rfl (by rfl) (load_reg (H3.out W (D.trans gW)).1) (fun W' _ => rfl)
    try simp only [Act.put, List.setIfInBounds_toArray, List.set_cons_zero, List.set_cons_succ]
    refine RelO.next (k' := 16) rfl (fun W gW hF => ?_) ?_
    focus
      obtain ⟨h13, h14, _⟩ := hF
      have e13 : val 13 = .bool false := h13 _ (Frm.refl _ W)
      have e14 : val 14 = rg f v1 := h14 _ (Frm.refl _ W)
      try simp only [e14]
      try simp only [e13]
      try simp only [tupAt]
      refine OpOK.call (by rfl) ?_ ((check_any f v1 lx W hf (H3.out W (D.trans gW)).2 (by have := HL0.out; omega)).mono ?_)
      · first | (go_simp; done) | (go_simp; with_reducible rfl) | (go_simp; rfl)
      · rintro e W1 ⟨he, g1⟩
        rw [HC0.out] at he
        subst he
        exact ⟨_, rfl, g1, fun W2 _ => rfl⟩
    try simp only [Act.put, List.setIfInBounds_toArray, List.set_cons_zero, List.set_cons_succ]
    refine RelO.next (k' := 17) rfl (fun W gW hF => ?_) ?_
    focus
      obtain ⟨h13, h15, _⟩ := hF
      have e13 : val 13 = .bool false := h13 _ (Frm.refl _ W)
      have e15 : val 15 = .int .i64 0 := h15 _ (Frm.refl _ W)
      try simp only [e15]
      try simp only [e13]
      try simp only [tupAt]
      refine OpOK.val (u := .bool false) (by rfl) ?_ (fun W' _ => rfl)
      try simp only [e15]
      try simp only [e13]
      try simp only [tupAt]
      first | (go_simp; done) | (go_simp; with_reducible rfl) | (go_simp; rfl)
    try simp only [Act.put, List.setIfInBounds_toArray, List.set_cons_zero, List.set_cons_succ]
    refine RelO.next (k' := 18) rfl (fun W gW hF => ?_) ?_
    focus
      obtain ⟨h13, h16, _⟩ := hF
      have e13 : val 13 = .bool false := h13 _ (Frm.refl _ W)
      have e16 : val 16 = .bool false := h16 _ (Frm.refl _ W)
      try simp only [e16]
      try simp only [e13]
      try simp only [tupAt]
      refine OpOK.val (u := .bool false) (by rfl) ?_ (fun W' _ => rfl)
      try simp only [e16]
      try simp only [e13]
      try simp only [tupAt]
      first | (go_simp; done) | (go_simp; with_reducible rfl) | (go_simp; rfl)
    try simp only [Act.put, List.setIfInBounds_toArray, List.set_cons_zero, List.set_cons_succ]
    refine RelO.next (k' := 19) rfl (fun W gW hF => ?_) ?_
    focus
      obtain ⟨h17, _⟩ := hF
      have e17 : val 17 = .bool false := h17 _ (Frm.refl _ W)
      try simp only [e17]
      try simp only [tupAt]
      refine OpOK.val (u := .bool false) (by rfl) ?_ (fun W' _ => rfl)
      try simp only [e17]
      try simp only [tupAt]
      first | (go_simp; done) | (go_simp; with_reducible rfl) | (go_simp; rfl)
    try simp only [Act.put, List.setIfInBounds_toArray, List.set_cons_zero, List.set_cons_succ]
    refine RelO.next (k' := 20) rfl (fun W gW hF => ?_) ?_
    focus
      obtain ⟨h18, _⟩ := hF
      have e18 : val 18 = .bool false := h18 _ (Frm.refl _ W)
      try simp only [e18]
      try simp only [tupAt]
      exact OpOK.load (by rfl) _ rfl (by rfl) (load_reg (H4.out W (D.trans gW)).1) (fun W' _ => rfl)
    try simp only [Act.put, List.setIfInBounds_toArray, List.set_cons_zero, List.set_cons_succ]
    refine RelO.next (k' := 21) rfl (fun W gW hF => ?_) ?_
    focus
      obtain ⟨h18, h19, _⟩ := hF
      have e18 : val 18 = .bool false := h18 _ (Frm.refl _ W)
      have e19 : val 19 = rg g v2 := h19 _ (Frm.refl _ W)
      try simp only [e19]
      try simp only [e18]
      try simp only [tupAt]
      refine OpOK.call (by rfl) ?_ ((check_any g v2 ly W hg (H4.out W (D.trans gW)).2 (by have := HL1.out; omega)).mono ?_)
      · first | (go_simp; done) | (go_simp; with_reducible rfl) | (go_simp; rfl)
      · rintro e W1 ⟨he, g1⟩
        rw [HC1.out] at he
        subst he
        exact ⟨_, rfl, g1, fun W2 _ => rfl⟩
    try simp only [Act.put, List.setIfInBounds_toArray, List.set_cons_zero, List.set_cons_succ]
    refine RelO.next (k' := 22) rfl (fun W gW hF => ?_) ?_
    focus
      obtain ⟨h18, h20, _⟩ := hF
      have e18 : val 18 = .bool false := h18 _ (Frm.refl _ W)
      have e20 : val 20 = .int .i64 0 := h20 _ (Frm.refl _ W)
      try simp only [e20]
      try simp only [e18]
      try simp only [tupAt]
      refine OpOK.val (u := .bool false) (by rfl) ?_ (fun W' _ => rfl)
      try simp only [e20]
      try simp only [e18]
      try simp only [tupAt]
      first | (go_simp; done) | (go_simp; with_reducible rfl) | (go_simp; rfl)
    try simp only [Act.put, List.setIfInBounds_toArray, List.set_cons_zero, List.set_cons_succ]
    refine RelO.next (k' := 23) rfl (fun W gW hF => ?_) ?_
    focus
      obtain ⟨h18, h21, _⟩ := hF
      have e18 : val 18 = .bool false := h18 _ (Frm.refl _ W)
      have e21 : val 21 = .bool false := h21 _ (Frm.refl _ W)
      try simp only [e21]
      try simp only [e18]
      try simp only [tupAt]
      refine OpOK.val (u := .bool false) (by rfl) ?_ (fun W' _ => rfl)
      try simp only [e21]
      try simp only [e18]
      try simp only [tupAt]
      first | (go_simp; done) | (go_simp; with_reducible rfl) | (go_simp; rfl)
    try simp only [Act.put, List.setIfInBounds_toArray, List.set_cons_zero, List.set_cons_succ]
    refine RelO.next (k' := 24) rfl (fun W gW hF => ?_) ?_
    focus
      obtain ⟨h22, _⟩ := hF
      have e22 : val 22 = .bool false := h22 _ (Frm.refl _ W)
      try simp only [e22]
      try simp only [tupAt]
      refine OpOK.val (u := .bool false) (by rfl) ?_ (fun W' _ => rfl)
      try simp only [e22]
      try simp only [tupAt]
      first | (go_simp; done) | (go_simp; with_reducible rfl) | (go_simp; rfl)
    try simp only [Act.put, List.setIfInBounds_toArray, List.set_cons_zero, List.set_cons_succ]
    refine RelO.next (k' := 25) rfl (fun W gW hF => ?_) ?_
    focus
      obtain ⟨h23, _⟩ := hF
      have e23 : val 23 = .bool false := h23 _ (Frm.refl _ W)
      try simp only [e23]
      try simp only [tupAt]
      exact OpOK.load (by rfl) _ rfl (by rfl) (load_reg (H5.out W (D.trans gW)).1) (fun W' _ => rfl)
    try simp only [Act.put, List.setIfInBounds_toArray, List.set_cons_zero, List.set_cons_succ]
    refine RelO.next (k' := 26) rfl (fun W gW hF => ?_) ?_
    focus
      obtain ⟨h23, h24, _⟩ := hF
      have e23 : val 23 = .bool false := h23 _ (Frm.refl _ W)
      have e24 : val 24 = rg h v3 := h24 _ (Frm.refl _ W)
      try simp only [e24]
      try simp only [e23]
      try simp only [tupAt]
      refine OpOK.call (by rfl) ?_ ((check_any h v3 lz W hh (H5.out W (D.trans gW)).2 (by have := HL2.out; omega)).mono ?_)
      · first | (go_simp; done) | (go_simp; with_reducible rfl) | (go_simp; rfl)
      · rintro e W1 ⟨he, g1⟩
        rw [HC2.out] at he
        subst he
        exact ⟨_, rfl, g1, fun W2 _ => rfl⟩
    try simp only [Act.put, List.setIfInBounds_toArray, List.set_cons_zero, List.set_cons_succ]
    refine RelO.next (k' := 27) rfl (fun W gW hF => ?_) ?_
    focus
      obtain ⟨h23, h25, _⟩ := hF
      have e23 : val 23 = .bool false := h23 _ (Frm.refl _ W)
      have e25 : val 25 = .int .i64 0 := h25 _ (Frm.refl _ W)
      try simp only [e25]
      try simp only [e23]
      try simp only [tupAt]
      refine OpOK.val (u := .bool false) (by rfl) ?_ (fun W' _ => rfl)
      try simp only [e25]
      try simp only [e23]
      try simp only [tupAt]
      first | (go_simp; done) | (go_simp; with_reducible rfl) | (go_simp; rfl)
    try simp only [Act.put, List.setIfInBounds_toArray, List.set_cons_zero, List.set_cons_succ]
    refine RelO.next (k' := 28) rfl (fun W gW hF => ?_) ?_
    focus
      obtain ⟨h23, h26, _⟩ := hF
      have e23 : val 23 = .bool false := h23 _ (Frm.refl _ W)
      have e26 : val 26 = .bool false := h26 _ (Frm.refl _ W)
      try simp only [e26]
      try simp only [e23]
      try simp only [tupAt]
      refine OpOK.val (u := .bool false) (by rfl) ?_ (fun W' _ => rfl)
      try simp only [e26]
      try simp only [e23]
      try simp only [tupAt]
      first | (go_simp; done) | (go_simp; with_reducible rfl) | (go_simp; rfl)
    try simp only [Act.put, List.setIfInBounds_toArray, List.set_cons_zero, List.set_cons_succ]
    exact RelO.nil
  intro val w1 gW hF
  obtain ⟨h0, h1, h2, h3, h4, h5, h6, h7, h8, h9, h10, h11, h12, h13, h14, h15, h16, h17, h18, h19, h20, h21, h22, h23, h24, h25, h26, h27, hT⟩ := hF
  have e0 : val 0 = rg f v1 := h0 _ (Frm.refl _ w1)
  have e1 : val 1 = .bool true := h1 _ (Frm.refl _ w1)
  have e2 : val 2 = .bool false := h2 _ (Frm.refl _ w1)
  have e3 : val 3 = .bool false := h3 _ (Frm.refl _ w1)
  have e4 : val 4 = rg g v2 := h4 _ (Frm.refl _ w1)
  have e5 : val 5 = .bool true := h5 _ (Frm.refl _ w1)
  have e6 : val 6 = .bool false := h6 _ (Frm.refl _ w1)
  have e7 : val 7 = .bool false := h7 _ (Frm.refl _ w1)
  have e8 : val 8 = .bool false := h8 _ (Frm.refl _ w1)
  have e9 : val 9 = rg h v3 := h9 _ (Frm.refl _ w1)
  have e10 : val 10 = .bool true := h10 _ (Frm.refl _ w1)
  have e11 : val 11 = .bool false := h11 _ (Frm.refl _ w1)
  have e12 : val 12 = .bool false := h12 _ (Frm.refl _ w1)
  have e13 : val 13 = .bool false := h13 _ (Frm.refl _ w1)
  have e14 : val 14 = rg f v1 := h14 _ (Frm.refl _ w1)
  have e15 : val 15 = .int .i64 0 := h15 _ (Frm.refl _ w1)
  have e16 : val 16 = .bool false := h16 _ (Frm.refl _ w1)
  have e17 : val 17 = .bool false := h17 _ (Frm.refl _ w1)
  have e18 : val 18 = .bool false := h18 _ (Frm.refl _ w1)
  have e19 : val 19 = rg g v2 := h19 _ (Frm.refl _ w1)
  have e20 : val 20 = .int .i64 0 := h20 _ (Frm.refl _ w1)
  have e21 : val 21 = .bool false := h21 _ (Frm.refl _ w1)
  have e22 : val 22 = .bool false := h22 _ (Frm.refl _ w1)
  have e23 : val 23 = .bool false := h23 _ (Frm.refl _ w1)
  have e24 : val 24 = rg h v3 := h24 _ (Frm.refl _ w1)
  have e25 : val 25 = .int .i64 0 := h25 _ (Frm.refl _ w1)
  have e26 : val 26 = .bool false := h26 _ (Frm.refl _ w1)
  have e27 : val 27 = .bool false := h27 _ (Frm.refl _ w1)
  clear hT h0 h1 h2 h3 h4 h5 h6 h7 h8 h9 h10 h11 h12 h13 h14 h15 h16 h17 h18 h19 h20 h21 h22 h23 h24 h25 h26 h27
  simp only [aO, Act.put, List.setIfInBounds_toArray, List.set_cons_zero, List.set_cons_succ, Nat.reduceAdd]
  try simp only [e27]
  try simp only [e26]
  try simp only [e25]
  try simp only [e24]
  try simp only [e23]
  try simp only [e22]
  try simp only [e21]
  try simp only [e20]
  try simp only [e19]
  try simp only [e18]
  try simp only [e17]
  try simp only [e16]
  try simp only [e15]
  try simp only [e14]
  try simp only [e13]
  try simp only [e12]
  try simp only [e11]
  try simp only [e10]
  try simp only [e9]
  try simp only [e8]
  try simp only [e7]
  try simp only [e6]
  try simp only [e5]
  try simp only [e4]
  try simp only [e3]
  try simp only [e2]
  try simp only [e1]
  try simp only [e0]
  try simp only [tupAt]
  refine wpTail.done ?_
  refine hK _ _ ?_
  have g1 := D.trans gW
  replace H3 := Hid.grow H3 g1
  replace H4 := Hid.grow H4 g1
  replace H5 := Hid.grow H5 g1
  replace GG := GG.trans g1
  clear gW D hK g1 e0 e1 e2 e3 e4 e5 e6 e7 e8 e9 e10 e11 e12 e13 e14 e15 e16 e17 e18 e19 e20 e21 e22 e23 e24 e25 e26 e27 
  clear HC0 HC1 HC2 HF0 HF1 HF2
  obtain ⟨la, hla⟩ : ∃ la, lx.map by1 = la := ⟨_, rfl⟩
  obtain ⟨lb, hlb⟩ : ∃ lb, ly.map by1 = lb := ⟨_, rfl⟩
  obtain ⟨lc, hlc⟩ : ∃ lc, lz.map by1 = lc := ⟨_, rfl⟩
  have HY0 := Lib.hid (fun W v (hW : SL W v lx) => hla ▸ by_any f v lx W hW HL0.out)
  have HY1 := Lib.hid (fun W v (hW : SL W v ly) => hlb ▸ by_any g v ly W hW HL1.out)
  have HY2 := Lib.hid (fun W v (hW : SL W v lz) => hlc ▸ by_any h v lz W hW HL2.out)
  have A0 := Lib.hid (by_facts hla HO0.out HL0.out)
  have A1 := Lib.hid (by_facts hlb HO1.out HL1.out)
  have A2 := Lib.hid (by_facts hlc HO2.out HL2.out)
  clear hla hlb hlc HO0 HO1 HO2
  go_upto_region 3 with fail
  rename_i hK
  obtain ⟨K, hK0⟩ : ∃ K, w1.heap.size = K := ⟨_, rfl⟩
  have HN : Hid (∀ W, Frm (fun _ => False) w1 W → K ≤ W.heap.size) := Lib.hid fun W g => hK0 ▸ g.size
  have HE : Hid (w1.heap.size ≤ K) := Lib.hid (Nat.le_of_eq hK0)
  clear hK0
  have D : Frm (fun _ => False) w1 w1.drew := (Frm.refl _ _).drew
  refine wp_region_lateS 9 3 [] [[], [0], [], [2], [], [4], [], [], []] ri3M (ri3R f g h la lb lc K v1 v2 v3) (by kernel_rfl) rfl rfl rfl (by kernel_rfl) (by kernel_rfl) (by kernel_rfl) (by kernel_rfl) rfl (by kernel_rfl) (by kernel_rfl) (by kernel_rfl) (by kernel_rfl) (fun val => ?_) ?_
  · try simp only [Act.put, List.setIfInBounds_toArray, List.set_cons_zero, List.set_cons_succ]
    refine RelO.next (k' := 1) rfl (fun W gW hF => ?_) ?_
    focus
      exact OpOK.load (by rfl) _ rfl (by rfl) (load_reg (H3.out W (D.trans gW)).1) (fun W' _ => rfl)
    try simp only [Act.put, List.setIfInBounds_toArray, List.set_cons_zero, List.set_cons_succ]
    refine RelO.next (k' := 2) rfl (fun W gW hF => ?_) ?_
    focus
      obtain ⟨h0, _⟩ := hF
      have e0 : val 0 = rg f v1 := h0 _ (Frm.refl _ W)
      try simp only [e0]
      try simp only [tupAt]
      refine OpOK.call (by rfl) ?_ ((HY0.out W _ (H3.out W (D.trans gW)).2).mono ?_)
      · first | (go_simp; done) | (go_simp; with_reducible rfl) | (go_simp; rfl)
      · rintro e W1 ⟨v', rfl, o', g', _⟩
        exact ⟨_, rfl, g', fun W2 g2 => ⟨v', rfl, o'.keep g2 (fun _ _ h => h)⟩⟩
    try simp only [Act.put, List.setIfInBounds_toArray, List.set_cons_zero, List.set_cons_succ]
    refine RelO.next (k' := 3) rfl (fun W gW hF => ?_) ?_
    focus
      exact OpOK.load (by rfl) _ rfl (by rfl) (load_reg (H4.out W (D.trans gW)).1) (fun W' _ => rfl)
    try simp only [Act.put, List.setIfInBounds_toArray, List.set_cons_zero, List.set_cons_succ]
    refine RelO.next (k' := 4) rfl (fun W gW hF => ?_) ?_
    focus
      obtain ⟨h2, _⟩ := hF
      have e2 : val 2 = rg g v2 := h2 _ (Frm.refl _ W)
      try simp only [e2]
      try simp only [tupAt]
      refine OpOK.call (by rfl) ?_ ((HY1.out W _ (H4.out W (D.trans gW)).2).mono ?_)
      · first | (go_simp; done) | (go_simp; with_reducible rfl) | (go_simp; rfl)
      · rintro e W1 ⟨v', rfl, o', g', _⟩
        exact ⟨_, rfl, g', fun W2 g2 => ⟨v', rfl, o'.keep g2 (fun _ _ h => h)⟩⟩
    try simp only [Act.put, List.setIfInBounds_toArray, List.set_cons_zero, List.set_cons_succ]
    refine RelO.next (k' := 5) rfl (fun W gW hF => ?_) ?_
    focus
      exact OpOK.load (by rfl) _ rfl (by rfl) (load_reg (H5.out W (D.trans gW)).1) (fun W' _ => rfl)
    try simp only [Act.put, List.setIfInBounds_toArray, List.set_cons_zero, List.set_cons_succ]
    refine RelO.next (k' := 6) rfl (fun W gW hF => ?_) ?_
    focus
      obtain ⟨h4, _⟩ := hF
      have e4 : val 4 = rg h v3 := h4 _ (Frm.refl _ W)
      try simp only [e4]
      try simp only [tupAt]
      refine OpOK.call (by rfl) ?_ ((HY2.out W _ (H5.out W (D.trans gW)).2).mono ?_)
      · first | (go_simp; done) | (go_simp; with_reducible rfl) | (go_simp; rfl)
      · rintro e W1 ⟨v', rfl, o', g', _⟩
        exact ⟨_, rfl, g', fun W2 g2 => ⟨v', rfl, o'.keep g2 (fun _ _ h => h)⟩⟩
    try simp only [Act.put, List.setIfInBounds_toArray, List.set_cons_zero, List.set_cons_succ]
    refine RelO.next (k' := 7) rfl (fun W gW hF => ?_) ?_
    focus
      have hlt := HN.out W (D.trans gW)
      refine OpOK.made (W' := W.alloc (.cells rz 39)) (u := .pointer (some ⟨W.heap.size, 0, none⟩)) (by rfl) ?_ ((Frm.refl _ W).alloc _) (fun W2 g2 => ⟨W.heap.size, rfl, hlt, (Blk.alloc W _ _).keep g2 (fun h => h)⟩)
      first | (go_simp; done) | (go_simp; with_reducible rfl) | (go_simp; rfl)
    try simp only [Act.put, List.setIfInBounds_toArray, List.set_cons_zero, List.set_cons_succ]
    refine RelO.next (k' := 8) rfl (fun W gW hF => ?_) ?_
    focus
      have hlt := HN.out W (D.trans gW)
      refine OpOK.made (W' := W.alloc (.cells rz 39)) (u := .pointer (some ⟨W.heap.size, 0, none⟩)) (by rfl) ?_ ((Frm.refl _ W).alloc _) (fun W2 g2 => ⟨W.heap.size, rfl, hlt, (Blk.alloc W _ _).keep g2 (fun h => h)⟩)
      first | (go_simp; done) | (go_simp; with_reducible rfl) | (go_simp; rfl)
    try simp only [Act.put, List.setIfInBounds_toArray, List.set_cons_zero, List.set_cons_succ]
    refine RelO.next (k' := 9) rfl (fun W gW hF => ?_) ?_
    focus
      have hlt := HN.out W (D.trans gW)
      refine OpOK.made (W' := W.alloc (.cells rz 39)) (u := .pointer (some ⟨W.heap.size, 0, none⟩)) (by rfl) ?_ ((Frm.refl _ W).alloc _) (fun W2 g2 => ⟨W.heap.size, rfl, hlt, (Blk.alloc W _ _).keep g2 (fun h => h)⟩)
      first | (go_simp; done) | (go_simp; with_reducible rfl) | (go_simp; rfl)
    try simp only [Act.put, List.setIfInBounds_toArray, List.set_cons_zero, List.set_cons_succ]
    exact RelO.nil
  intro val w2 gW hF hS
  obtain ⟨h0, h1, h2, h3, h4, h5, h6, h7, h8, hT⟩ := hF
  have e0 : val 0 = rg f v1 := h0 _ (Frm.refl _ w2)
  have q1 : ∃ v', (val 1) = rg f v' ∧ OwnL w2 v' la := h1 _ (Frm.refl _ w2)
  obtain ⟨v54, e1, o54⟩ := q1
  have e2 : val 2 = rg g v2 := h2 _ (Frm.refl _ w2)
  have q3 : ∃ v', (val 3) = rg g v' ∧ OwnL w2 v' lb := h3 _ (Frm.refl _ w2)
  obtain ⟨v56, e3, o56⟩ := q3
  have e4 : val 4 = rg h v3 := h4 _ (Frm.refl _ w2)
  have q5 : ∃ v', (val 5) = rg h v' ∧ OwnL w2 v' lc := h5 _ (Frm.refl _ w2)
  obtain ⟨v58, e5, o58⟩ := q5
  have q6 : ∃ b, (val 6) = .pointer (some ⟨b, 0, none⟩) ∧ K ≤ b ∧ Blk w2 b 39 rz := h6 _ (Frm.refl _ w2)
  obtain ⟨B7, e6, hB7, bB7⟩ := q6
  have q7 : ∃ b, (val 7) = .pointer (some ⟨b, 0, none⟩) ∧ K ≤ b ∧ Blk w2 b 39 rz := h7 _ (Frm.refl _ w2)
  obtain ⟨B8, e7, hB8, bB8⟩ := q7
  have q8 : ∃ b, (val 8) = .pointer (some ⟨b, 0, none⟩) ∧ K ≤ b ∧ Blk w2 b 39 rz := h8 _ (Frm.refl _ w2)
  obtain ⟨B9, e8, hB9, bB9⟩ := q8
  have hS1 := hS 6 7 (by decide) (by decide) (by kernel_rfl) (by kernel_rfl) (by decide)
  rw [e6, e7] at hS1
  have hS2 := hS 6 8 (by decide) (by decide) (by kernel_rfl) (by kernel_rfl) (by decide)
  rw [e6, e8] at hS2
  have hS3 := hS 7 8 (by decide) (by decide) (by kernel_rfl) (by kernel_rfl) (by decide)
  rw [e7, e8] at hS3
  clear hS
  clear hT h0 h1 h2 h3 h4 h5 h6 h7 h8
  simp only [aO, Act.put, List.setIfInBounds_toArray, List.set_cons_zero, List.set_cons_succ, Nat.reduceAdd]
  try simp only [e8]
  try simp only [e7]
  try simp only [e6]
  try simp only [e5]
  try simp only [e4]
  try simp only [e3]
  try simp only [e2]
  try simp only [e1]
  try simp only [e0]
  try simp only [tupAt]
  refine tail_three (w := w1) f g h v54 v56 v58 la lb lc B7 B8 B9 rfl rfl rfl rfl rfl rfl rfl rfl rfl rfl rfl rfl rfl rfl rfl rfl rfl rfl (fun e => hS1 (by rw [e])) (fun e => hS2 (by rw [e])) (fun e => hS3 (by rw [e])) (D.trans gW) (Nat.le_trans HE.out hB7) (Nat.le_trans HE.out hB8) (Nat.le_trans HE.out hB9) o54 o56 o58 bB7 bB8 bB9 ?_
  intro w3 g2 H7 H8 H9
  try dsimp only
  refine hK _ _ ?_
  replace GG := GG.trans g2
  clear gW D hK HN HE g2 hS1 hS2 hS3 HY0 HY1 HY2 H3 H4 H5 e0 e1 e2 e3 e4 e5 e6 e7 e8 o54 o56 o58 hB7 bB7 hB8 bB8 hB9 bB9
  have hk1 := ring_ok A0.out.2.1 A1.out.2.1
  have hk2 := ring_ok A1.out.2.1 A2.out.2.1
  obtain ⟨⟨fab, lab, eab⟩, hab⟩ : ∃ p, rjoinS f g la lb = p := ⟨_, rfl⟩
  obtain ⟨⟨fbc, lbc, ebc⟩, hbc⟩ : ∃ p, rjoinS g h lb lc = p := ⟨_, rfl⟩
  have hba : rjoinS g f lb la = (fab, lab, eab) := (ring_comm A0.out.1 A1.out.1 A0.out.2.1 A1.out.2.1).trans hab
  have haa := ring_self A0.out.1 A0.out.2.1
  have JAB := Lib.hid (sjoinE hf hg A0.out.2.2 A1.out.2.2 hab)
  have JBA := Lib.hid (sjoinE hg hf A1.out.2.2 A0.out.2.2 hba)
  have JBC := Lib.hid (sjoinE hg hh A1.out.2.2 A2.out.2.2 hbc)
  have JAA := Lib.hid (sjoinE hf hf A0.out.2.2 A0.out.2.2 haa)
  have HFab : Hid (Fit8 fab) := Lib.hid (by have := fit_join (l := la) (m := lb) hf hg; rw [hab] at this; exact this)
  have HFbc : Hid (Fit8 fbc) := Lib.hid (by have := fit_join (l := lb) (m := lc) hg hh; rw [hbc] at this; exact this)
  have HLab : Hid (lab.length ≤ 8) := Lib.hid (by have := len_join (f := f) (g := g) (l := la) (m := lb); rw [hab] at this; exact this)
  have HLbc : Hid (lbc.length ≤ 8) := Lib.hid (by have := len_join (f := g) (g := h) (l := lb) (m := lc); rw [hbc] at this; exact this)
  have HC : Hid (eab = 7 ∧ True ∨ (eab = 0 ∧ ebc = 7) ∨ eab = 0 ∧ ebc = 0 ∧ ((jn8 f g = fab ∧ rstay f g la lb = lab ∧ (rstay f g la lb).length ≤ 8) ∧ (jn8 g h = fbc ∧ rstay g h lb lc = lbc ∧ (rstay g h lb lc).length ≤ 8))) := Lib.hid (by
    rw [hab] at hk1
    rw [hbc] at hk2
    rcases hk1 with ⟨q1, h1⟩ | h1
    · obtain ⟨h11, h12⟩ := Prod.mk.inj h1
      obtain ⟨h12, h13⟩ := Prod.mk.inj h12
      rcases hk2 with ⟨q2, h2⟩ | h2
      · obtain ⟨h21, h22⟩ := Prod.mk.inj h2
        obtain ⟨h22, h23⟩ := Prod.mk.inj h22
        exact .inr (.inr ⟨h13, h23, ⟨h11.symm, h12.symm, q1⟩, h21.symm, h22.symm, q2⟩)
      · obtain ⟨_, h22⟩ := Prod.mk.inj h2
        exact .inr (.inl ⟨h13, (Prod.mk.inj h22).2⟩)
    · obtain ⟨_, h12⟩ := Prod.mk.inj h1
      exact .inl ⟨(Prod.mk.inj h12).2, trivial⟩)
  clear hk1 hk2 hab hbc hba haa
  go_upto_region 4 with fail
  rename_i hK
  obtain ⟨K, hK0⟩ : ∃ K, w3.heap.size = K := ⟨_, rfl⟩
  have HN : Hid (∀ W, Frm (fun _ => False) w3 W → K ≤ W.heap.size) := Lib.hid fun W g => hK0 ▸ g.size
  have HE : Hid (w3.heap.size ≤ K) := Lib.hid (Nat.le_of_eq hK0)
  clear hK0
  have D : Frm (fun _ => False) w3 w3 := Frm.refl _ _
  refine wp_region_textR 7 2 [[], [], [0, 1], [2], [2, 3], [2, 3], []] ri4M (ri4R f g fab lab K eab v54 v56) rfl rfl rfl rfl (by kernel_rfl) (by kernel_rfl) (fun val => ?_) ?_
  · try simp only [Act.put, List.setIfInBounds_toArray, List.set_cons_zero, List.set_cons_succ]
    refine RelO.next (k' := 1) rfl (fun W gW hF => ?_) ?_
    focus
      exact OpOK.load (by rfl) _ rfl (by rfl) (load_reg (H7.out W (D.trans gW)).1) (fun W' _ => rfl)
    try simp only [Act.put, List.setIfInBounds_toArray, List.set_cons_zero, List.set_cons_succ]
    refine RelO.next (k' := 2) rfl (fun W gW hF => ?_) ?_
    focus
      exact OpOK.load (by rfl) _ rfl (by rfl) (load_reg (H8.out W (D.trans gW)).1) (fun W' _ => rfl)
    try simp only [Act.put, List.setIfInBounds_toArray, List.set_cons_zero, List.set_cons_succ]
    refine RelO.next (k' := 3) rfl (fun W gW hF => ?_) ?_
    focus
      obtain ⟨h0, h1, _⟩ := hF
      have e0 : val 0 = rg f v54 := h0 _ (Frm.refl _ W)
      have e1 : val 1 = rg g v56 := h1 _ (Frm.refl _ W)
      try simp only [e1]
      try simp only [e0]
      try simp only [tupAt]
      refine OpOK.call (by rfl) ?_ ((JAB.out W _ _ (H7.out W (D.trans gW)).2 (H8.out W (D.trans gW)).2).mono ?_)
      · first | (go_simp; done) | (go_simp; with_reducible rfl) | (go_simp; rfl)
      · rintro e W1 ⟨v', rfl, o', _, g'⟩
        exact ⟨_, rfl, g', fun W2 g2 => ⟨v', rfl, o'.keep g2 (fun _ _ h => h)⟩⟩
    try simp only [Act.put, List.setIfInBounds_toArray, List.set_cons_zero, List.set_cons_succ]
    refine RelO.next (k' := 4) rfl (fun W gW hF => ?_) ?_
    focus
      obtain ⟨h2, _⟩ := hF
      have q2 : ∃ v', (val 2) = .tuple #[rg fab v', .int .i64 (eab : Int)] ∧ OwnL W v' lab := h2 _ (Frm.refl _ W)
      obtain ⟨v62, e2, o62⟩ := q2
      try simp only [e2]
      try simp only [tupAt]
      refine OpOK.val (u := (val 2)) (by rfl) ?_ (fun W' _ => rfl)
      try simp only [e2]
      try simp only [tupAt]
      first | (go_simp; done) | (go_simp; with_reducible rfl) | (go_simp; rfl)
    try simp only [Act.put, List.setIfInBounds_toArray, List.set_cons_zero, List.set_cons_succ]
    refine RelO.next (k' := 5) rfl (fun W gW hF => ?_) ?_
    focus
      obtain ⟨h2, h3, _⟩ := hF
      have q2 : ∃ v', (val 2) = .tuple #[rg fab v', .int .i64 (eab : Int)] ∧ OwnL W v' lab := h2 _ (Frm.refl _ W)
      obtain ⟨v62, e2, o62⟩ := q2
      have e3 : val 3 = (val 2) := h3 _ (Frm.refl _ W)
      try simp only [e3]
      try simp only [e2]
      try simp only [tupAt]
      refine OpOK.val (u := tupAt (val 3) 0) (by rfl) ?_ (fun W' _ => rfl)
      try simp only [e3]
      try simp only [e2]
      try simp only [tupAt]
      first | (go_simp; done) | (go_simp; with_reducible rfl) | (go_simp; rfl)
    try simp only [Act.put, List.setIfInBounds_toArray, List.set_cons_zero, List.set_cons_succ]
    refine RelO.next (k' := 6) rfl (fun W gW hF => ?_) ?_
    focus
      obtain ⟨h2, h3, _⟩ := hF
      have q2 : ∃ v', (val 2) = .tuple #[rg fab v', .int .i64 (eab : Int)] ∧ OwnL W v' lab := h2 _ (Frm.refl _ W)
      obtain ⟨v62, e2, o62⟩ := q2
      have e3 : val 3 = (val 2) := h3 _ (Frm.refl _ W)
      try simp only [e3]
      try simp only [e2]
      try simp only [tupAt]
      refine OpOK.val (u := tupAt (val 3) 1) (by rfl) ?_ (fun W' _ => rfl)
      try simp only [e3]
      try simp only [e2]
      try simp only [tupAt]
      first | (go_simp; done) | (go_simp; with_reducible rfl) | (go_simp; rfl)
    try simp only [Act.put, List.setIfInBounds_toArray, List.set_cons_zero, List.set_cons_succ]
    refine RelO.next (k' := 7) rfl (fun W gW hF => ?_) ?_
    focus
      have hlt := HN.out W (D.trans gW)
      refine OpOK.made (W' := W.alloc (.cells rz 39)) (u := .pointer (some ⟨W.heap.size, 0, none⟩)) (by rfl) ?_ ((Frm.refl _ W).alloc _) (fun W2 g2 => ⟨W.heap.size, rfl, hlt, (Blk.alloc W _ _).keep g2 (fun h => h)⟩)
      first | (go_simp; done) | (go_simp; with_reducible rfl) | (go_simp; rfl)
    try simp only [Act.put, List.setIfInBounds_toArray, List.set_cons_zero, List.set_cons_succ]
    exact RelO.nil
  intro val w4 gW hF
  obtain ⟨h0, h1, h2, h3, h4, h5, h6, hT⟩ := hF
  have e0 : val 0 = rg f v54 := h0 _ (Frm.refl _ w4)
  have e1 : val 1 = rg g v56 := h1 _ (Frm.refl _ w4)
  have q2 : ∃ v', (val 2) = .tuple #[rg fab v', .int .i64 (eab : Int)] ∧ OwnL w4 v' lab := h2 _ (Frm.refl _ w4)
  obtain ⟨v62, e2, o62⟩ := q2
  have e3 : val 3 = (val 2) := h3 _ (Frm.refl _ w4)
  have e4 : val 4 = tupAt (val 3) 0 := h4 _ (Frm.refl _ w4)
  have e5 : val 5 = tupAt (val 3) 1 := h5 _ (Frm.refl _ w4)
  have q6 : ∃ b, (val 6) = .pointer (some ⟨b, 0, none⟩) ∧ K ≤ b ∧ Blk w4 b 39 rz := h6 _ (Frm.refl _ w4)
  obtain ⟨B10, e6, hB10, bB10⟩ := q6
  clear hT h0 h1 h2 h3 h4 h5 h6
  simp only [aO, Act.put, List.setIfInBounds_toArray, List.set_cons_zero, List.set_cons_succ, Nat.reduceAdd]
  try simp only [e6]
  try simp only [e5]
  try simp only [e4]
  try simp only [e3]
  try simp only [e2]
  try simp only [e1]
  try simp only [e0]
  try simp only [tupAt]
  refine tail_reg1 (w := w3) fab v62 lab B10 (eab : Int) rfl rfl rfl rfl rfl rfl rfl rfl rfl rfl rfl (D.trans gW) (Nat.le_trans HE.out hB10) o62 bB10 ?_
  intro w5 g4 H10
  try simp only [Act.put, List.setIfInBounds_toArray, List.set_cons_zero, List.set_cons_succ]
  refine hK _ _ ?_
  replace H7 := Hid.grow H7 g4
  replace H8 := Hid.grow H8 g4
  replace H9 := Hid.grow H9 g4
  replace GG := GG.trans g4
  clear gW D hK HN HE g4 e0 e1 e2 e3 e4 e5 e6 o62 hB10 bB10
  go_upto_region 5 with fail
  rename_i hK
  obtain ⟨K, hK0⟩ : ∃ K, w5.heap.size = K := ⟨_, rfl⟩
  have HN : Hid (∀ W, Frm (fun _ => False) w5 W → K ≤ W.heap.size) := Lib.hid fun W g => hK0 ▸ g.size
  have HE : Hid (w5.heap.size ≤ K) := Lib.hid (Nat.le_of_eq hK0)
  clear hK0
  have D : Frm (fun _ => False) w5 w5 := Frm.refl _ _
  refine wp_region_textR 7 2 [[], [], [0, 1], [2], [2, 3], [2, 3], []] ri5M (ri5R f g fab lab K eab v54 v56) rfl rfl rfl rfl (by kernel_rfl) (by kernel_rfl) (fun val => ?_) ?_
  · try simp only [Act.put, List.setIfInBounds_toArray, List.set_cons_zero, List.set_cons_succ]
    refine RelO.next (k' := 1) rfl (fun W gW hF => ?_) ?_
    focus
      exact OpOK.load (by rfl) _ rfl (by rfl) (load_reg (H8.out W (D.trans gW)).1) (fun W' _ => rfl)
    try simp only [Act.put, List.setIfInBounds_toArray, List.set_cons_zero, List.set_cons_succ]
    refine RelO.next (k' := 2) rfl (fun W gW hF => ?_) ?_
    focus
      exact OpOK.load (by rfl) _ rfl (by rfl) (load_reg (H7.out W (D.trans gW)).1) (fun W' _ => rfl)
    try simp only [Act.put, List.setIfInBounds_toArray, List.set_cons_zero, List.set_cons_succ]
    refine RelO.next (k' := 3) rfl (fun W gW hF => ?_) ?_
    focus
      obtain ⟨h0, h1, _⟩ := hF
      have e0 : val 0 = rg g v56 := h0 _ (Frm.refl _ W)
      have e1 : val 1 = rg f v54 := h1 _ (Frm.refl _ W)
      try simp only [e1]
      try simp only [e0]
      try simp only [tupAt]
      refine OpOK.call (by rfl) ?_ ((JBA.out W _ _ (H8.out W (D.trans gW)).2 (H7.out W (D.trans gW)).2).mono ?_)
      · first | (go_simp; done) | (go_simp; with_reducible rfl) | (go_simp; rfl)
      · rintro e W1 ⟨v', rfl, o', _, g'⟩
        exact ⟨_, rfl, g', fun W2 g2 => ⟨v', rfl, o'.keep g2 (fun _ _ h => h)⟩⟩
    try simp only [Act.put, List.setIfInBounds_toArray, List.set_cons_zero, List.set_cons_succ]
    refine RelO.next (k' := 4) rfl (fun W gW hF => ?_) ?_
    focus
      obtain ⟨h2, _⟩ := hF
      have q2 : ∃ v', (val 2) = .tuple #[rg fab v', .int .i64 (eab : Int)] ∧ OwnL W v' lab := h2 _ (Frm.refl _ W)
      obtain ⟨v68, e2, o68⟩ := q2
      try simp only [e2]
      try simp only [tupAt]
      refine OpOK.val (u := (val 2)) (by rfl) ?_ (fun W' _ => rfl)
      try simp only [e2]
      try simp only [tupAt]
      first | (go_simp; done) | (go_simp; with_reducible rfl) | (go_simp; rfl)
    try simp only [Act.put, List.setIfInBounds_toArray, List.set_cons_zero, List.set_cons_succ]
    refine RelO.next (k' := 5) rfl (fun W gW hF => ?_) ?_
    focus
      obtain ⟨h2, h3, _⟩ := hF
      have q2 : ∃ v', (val 2) = .tuple #[rg fab v', .int .i64 (eab : Int)] ∧ OwnL W v' lab := h2 _ (Frm.refl _ W)
      obtain ⟨v68, e2, o68⟩ := q2
      have e3 : val 3 = (val 2) := h3 _ (Frm.refl _ W)
      try simp only [e3]
      try simp only [e2]
      try simp only [tupAt]
      refine OpOK.val (u := tupAt (val 3) 0) (by rfl) ?_ (fun W' _ => rfl)
      try simp only [e3]
      try simp only [e2]
      try simp only [tupAt]
      first | (go_simp; done) | (go_simp; with_reducible rfl) | (go_simp; rfl)
    try simp only [Act.put, List.setIfInBounds_toArray, List.set_cons_zero, List.set_cons_succ]
    refine RelO.next (k' := 6) rfl (fun W gW hF => ?_) ?_
    focus
      obtain ⟨h2, h3, _⟩ := hF
      have q2 : ∃ v', (val 2) = .tuple #[rg fab v', .int .i64 (eab : Int)] ∧ OwnL W v' lab := h2 _ (Frm.refl _ W)
      obtain ⟨v68, e2, o68⟩ := q2
      have e3 : val 3 = (val 2) := h3 _ (Frm.refl _ W)
      try simp only [e3]
      try simp only [e2]
      try simp only [tupAt]
      refine OpOK.val (u := tupAt (val 3) 1) (by rfl) ?_ (fun W' _ => rfl)
      try simp only [e3]
      try simp only [e2]
      try simp only [tupAt]
      first | (go_simp; done) | (go_simp; with_reducible rfl) | (go_simp; rfl)
    try simp only [Act.put, List.setIfInBounds_toArray, List.set_cons_zero, List.set_cons_succ]
    refine RelO.next (k' := 7) rfl (fun W gW hF => ?_) ?_
    focus
      have hlt := HN.out W (D.trans gW)
      refine OpOK.made (W' := W.alloc (.cells rz 39)) (u := .pointer (some ⟨W.heap.size, 0, none⟩)) (by rfl) ?_ ((Frm.refl _ W).alloc _) (fun W2 g2 => ⟨W.heap.size, rfl, hlt, (Blk.alloc W _ _).keep g2 (fun h => h)⟩)
      first | (go_simp; done) | (go_simp; with_reducible rfl) | (go_simp; rfl)
    try simp only [Act.put, List.setIfInBounds_toArray, List.set_cons_zero, List.set_cons_succ]
    exact RelO.nil
  intro val w6 gW hF
  obtain ⟨h0, h1, h2, h3, h4, h5, h6, hT⟩ := hF
  have e0 : val 0 = rg g v56 := h0 _ (Frm.refl _ w6)
  have e1 : val 1 = rg f v54 := h1 _ (Frm.refl _ w6)
  have q2 : ∃ v', (val 2) = .tuple #[rg fab v', .int .i64 (eab : Int)] ∧ OwnL w6 v' lab := h2 _ (Frm.refl _ w6)
  obtain ⟨v68, e2, o68⟩ := q2
  have e3 : val 3 = (val 2) := h3 _ (Frm.refl _ w6)
  have e4 : val 4 = tupAt (val 3) 0 := h4 _ (Frm.refl _ w6)
  have e5 : val 5 = tupAt (val 3) 1 := h5 _ (Frm.refl _ w6)
  have q6 : ∃ b, (val 6) = .pointer (some ⟨b, 0, none⟩) ∧ K ≤ b ∧ Blk w6 b 39 rz := h6 _ (Frm.refl _ w6)
  obtain ⟨B12, e6, hB12, bB12⟩ := q6
  clear hT h0 h1 h2 h3 h4 h5 h6
  simp only [aO, Act.put, List.setIfInBounds_toArray, List.set_cons_zero, List.set_cons_succ, Nat.reduceAdd]
  try simp only [e6]
  try simp only [e5]
  try simp only [e4]
  try simp only [e3]
  try simp only [e2]
  try simp only [e1]
  try simp only [e0]
  try simp only [tupAt]
  refine tail_reg1 (w := w5) fab v68 lab B12 (eab : Int) rfl rfl rfl rfl rfl rfl rfl rfl rfl rfl rfl (D.trans gW) (Nat.le_trans HE.out hB12) o68 bB12 ?_
  intro w7 g6 H12
  try simp only [Act.put, List.setIfInBounds_toArray, List.set_cons_zero, List.set_cons_succ]
  refine hK _ _ ?_
  replace H7 := Hid.grow H7 g6
  replace H8 := Hid.grow H8 g6
  replace H9 := Hid.grow H9 g6
  replace H10 := Hid.grow H10 g6
  replace GG := GG.trans g6
  clear gW D hK HN HE g6 e0 e1 e2 e3 e4 e5 e6 o68 hB12 bB12
  go_upto_region 6 with fail
  rename_i hK
  obtain ⟨K, hK0⟩ : ∃ K, w7.heap.size = K := ⟨_, rfl⟩
  have HN : Hid (∀ W, Frm (fun _ => False) w7 W → K ≤ W.heap.size) := Lib.hid fun W g => hK0 ▸ g.size
  have HE : Hid (w7.heap.size ≤ K) := Lib.hid (Nat.le_of_eq hK0)
  clear hK0
  have D : Frm (fun _ => False) w7 w7 := Frm.refl _ _
  refine wp_region_textR 7 2 [[], [], [0, 1], [2], [2, 3], [2, 3], []] ri6M (ri6R g h fbc lbc K ebc v56 v58) rfl rfl rfl rfl (by kernel_rfl) (by kernel_rfl) (fun val => ?_) ?_
  · try simp only [Act.put, List.setIfInBounds_toArray, List.set_cons_zero, List.set_cons_succ]
    refine RelO.next (k' := 1) rfl (fun W gW hF => ?_) ?_
    focus
      exact OpOK.load (by rfl) _ rfl (by rfl) (load_reg (H8.out W (D.trans gW)).1) (fun W' _ => rfl)
    try simp only [Act.put, List.setIfInBounds_toArray, List.set_cons_zero, List.set_cons_succ]
    refine RelO.next (k' := 2) rfl (fun W gW hF => ?_) ?_
    focus
      exact OpOK.load (by rfl) _ rfl (by rfl) (load_reg (H9.out W (D.trans gW)).1) (fun W' _ => rfl)
    try simp only [Act.put, List.setIfInBounds_toArray, List.set_cons_zero, List.set_cons_succ]
    refine RelO.next (k' := 3) rfl (fun W gW hF => ?_) ?_
    focus
      obtain ⟨h0, h1, _⟩ := hF
      have e0 : val 0 = rg g v56 := h0 _ (Frm.refl _ W)
      have e1 : val 1 = rg h v58 := h1 _ (Frm.refl _ W)
      try simp only [e1]
      try simp only [e0]
      try simp only [tupAt]
      refine OpOK.call (by rfl) ?_ ((JBC.out W _ _ (H8.out W (D.trans gW)).2 (H9.out W (D.trans gW)).2).mono ?_)
      · first | (go_simp; done) | (go_simp; with_reducible rfl) | (go_simp; rfl)
      · rintro e W1 ⟨v', rfl, o', _, g'⟩
        exact ⟨_, rfl, g', fun W2 g2 => ⟨v', rfl, o'.keep g2 (fun _ _ h => h)⟩⟩
    try simp only [Act.put, List.setIfInBounds_toArray, List.set_cons_zero, List.set_cons_succ]
    refine RelO.next (k' := 4) rfl (fun W gW hF => ?_) ?_
    focus
      obtain ⟨h2, _⟩ := hF
      have q2 : ∃ v', (val 2) = .tuple #[rg fbc v', .int .i64 (ebc : Int)] ∧ OwnL W v' lbc := h2 _ (Frm.refl _ W)
      obtain ⟨v74, e2, o74⟩ := q2
      try simp only [e2]
      try simp only [tupAt]
      refine OpOK.val (u := (val 2)) (by rfl) ?_ (fun W' _ => rfl)
      try simp only [e2]
      try simp only [tupAt]
      first | (go_simp; done) | (go_simp; with_reducible rfl) | (go_simp; rfl)
    try simp only [Act.put, List.setIfInBounds_toArray, List.set_cons_zero, List.set_cons_succ]
    refine RelO.next (k' := 5) rfl (fun W gW hF => ?_) ?_
    focus
      obtain ⟨h2, h3, _⟩ := hF
      have q2 : ∃ v', (val 2) = .tuple #[rg fbc v', .int .i64 (ebc : Int)] ∧ OwnL W v' lbc := h2 _ (Frm.refl _ W)
      obtain ⟨v74, e2, o74⟩ := q2
      have e3 : val 3 = (val 2) := h3 _ (Frm.refl _ W)
      try simp only [e3]
      try simp only [e2]
      try simp only [tupAt]
      refine OpOK.val (u := tupAt (val 3) 0) (by rfl) ?_ (fun W' _ => rfl)
      try simp only [e3]
      try simp only [e2]
      try simp only [tupAt]
      first | (go_simp; done) | (go_simp; with_reducible rfl) | (go_simp; rfl)
    try simp only [Act.put, List.setIfInBounds_toArray, List.set_cons_zero, List.set_cons_succ]
    refine RelO.next (k' := 6) rfl (fun W gW hF => ?_) ?_
    focus
      obtain ⟨h2, h3, _⟩ := hF
      have q2 : ∃ v', (val 2) = .tuple #[rg fbc v', .int .i64 (ebc : Int)] ∧ OwnL W v' lbc := h2 _ (Frm.refl _ W)
      obtain ⟨v74, e2, o74⟩ := q2
      have e3 : val 3 = (val 2) := h3 _ (Frm.refl _ W)
      try simp only [e3]
      try simp only [e2]
      try simp only [tupAt]
      refine OpOK.val (u := tupAt (val 3) 1) (by rfl) ?_ (fun W' _ => rfl)
      try simp only [e3]
      try simp only [e2]
      try simp only [tupAt]
      first | (go_simp; done) | (go_simp; with_reducible rfl) | (go_simp; rfl)
    try simp only [Act.put, List.setIfInBounds_toArray, List.set_cons_zero, List.set_cons_succ]
    refine RelO.next (k' := 7) rfl (fun W gW hF => ?_) ?_
    focus
      have hlt := HN.out W (D.trans gW)
      refine OpOK.made (W' := W.alloc (.cells rz 39)) (u := .pointer (some ⟨W.heap.size, 0, none⟩)) (by rfl) ?_ ((Frm.refl _ W).alloc _) (fun W2 g2 => ⟨W.heap.size, rfl, hlt, (Blk.alloc W _ _).keep g2 (fun h => h)⟩)
      first | (go_simp; done) | (go_simp; with_reducible rfl) | (go_simp; rfl)
    try simp only [Act.put, List.setIfInBounds_toArray, List.set_cons_zero, List.set_cons_succ]
    exact RelO.nil
  intro val w8 gW hF
  obtain ⟨h0, h1, h2, h3, h4, h5, h6, hT⟩ := hF
  have e0 : val 0 = rg g v56 := h0 _ (Frm.refl _ w8)
  have e1 : val 1 = rg h v58 := h1 _ (Frm.refl _ w8)
  have q2 : ∃ v', (val 2) = .tuple #[rg fbc v', .int .i64 (ebc : Int)] ∧ OwnL w8 v' lbc := h2 _ (Frm.refl _ w8)
  obtain ⟨v74, e2, o74⟩ := q2
  have e3 : val 3 = (val 2) := h3 _ (Frm.refl _ w8)
  have e4 : val 4 = tupAt (val 3) 0 := h4 _ (Frm.refl _ w8)
  have e5 : val 5 = tupAt (val 3) 1 := h5 _ (Frm.refl _ w8)
  have q6 : ∃ b, (val 6) = .pointer (some ⟨b, 0, none⟩) ∧ K ≤ b ∧ Blk w8 b 39 rz := h6 _ (Frm.refl _ w8)
  obtain ⟨B14, e6, hB14, bB14⟩ := q6
  clear hT h0 h1 h2 h3 h4 h5 h6
  simp only [aO, Act.put, List.setIfInBounds_toArray, List.set_cons_zero, List.set_cons_succ, Nat.reduceAdd]
  try simp only [e6]
  try simp only [e5]
  try simp only [e4]
  try simp only [e3]
  try simp only [e2]
  try simp only [e1]
  try simp only [e0]
  try simp only [tupAt]
  refine tail_reg1 (w := w7) fbc v74 lbc B14 (ebc : Int) rfl rfl rfl rfl rfl rfl rfl rfl rfl rfl rfl (D.trans gW) (Nat.le_trans HE.out hB14) o74 bB14 ?_
  intro w9 g8 H14
  try simp only [Act.put, List.setIfInBounds_toArray, List.set_cons_zero, List.set_cons_succ]
  refine hK _ _ ?_
  replace H7 := Hid.grow H7 g8
  replace H8 := Hid.grow H8 g8
  replace H9 := Hid.grow H9 g8
  replace H10 := Hid.grow H10 g8
  replace H12 := Hid.grow H12 g8
  replace GG := GG.trans g8
  clear gW D hK HN HE g8 e0 e1 e2 e3 e4 e5 e6 o74 hB14 bB14
  go_upto_region 7 with fail
  rename_i hK
  obtain ⟨K, hK0⟩ : ∃ K, w9.heap.size = K := ⟨_, rfl⟩
  have HN : Hid (∀ W, Frm (fun _ => False) w9 W → K ≤ W.heap.size) := Lib.hid fun W g => hK0 ▸ g.size
  have HE : Hid (w9.heap.size ≤ K) := Lib.hid (Nat.le_of_eq hK0)
  clear hK0
  have D : Frm (fun _ => False) w9 w9 := Frm.refl _ _
  refine wp_region_textR 7 2 [[], [], [0, 1], [2], [2, 3], [2, 3], []] ri7M (ri7R f la K v54) rfl rfl rfl rfl (by kernel_rfl) (by kernel_rfl) (fun val => ?_) ?_
  · try simp only [Act.put, List.setIfInBounds_toArray, List.set_cons_zero, List.set_cons_succ]
    refine RelO.next (k' := 1) rfl (fun W gW hF => ?_) ?_
    focus
      exact OpOK.load (by rfl) _ rfl (by rfl) (load_reg (H7.out W (D.trans gW)).1) (fun W' _ => rfl)
    try simp only [Act.put, List.setIfInBounds_toArray, List.set_cons_zero, List.set_cons_succ]
    refine RelO.next (k' := 2) rfl (fun W gW hF => ?_) ?_
    focus
      exact OpOK.load (by rfl) _ rfl (by rfl) (load_reg (H7.out W (D.trans gW)).1) (fun W' _ => rfl)
    try simp only [Act.put, List.setIfInBounds_toArray, List.set_cons_zero, List.set_cons_succ]
    refine RelO.next (k' := 3) rfl (fun W gW hF => ?_) ?_
    focus
      obtain ⟨h0, h1, _⟩ := hF
      have e0 : val 0 = rg f v54 := h0 _ (Frm.refl _ W)
      have e1 : val 1 = rg f v54 := h1 _ (Frm.refl _ W)
      try simp only [e1]
      try simp only [e0]
      try simp only [tupAt]
      refine OpOK.call (by rfl) ?_ ((JAA.out W _ _ (H7.out W (D.trans gW)).2 (H7.out W (D.trans gW)).2).mono ?_)
      · first | (go_simp; done) | (go_simp; with_reducible rfl) | (go_simp; rfl)
      · rintro e W1 ⟨v', rfl, o', _, g'⟩
        exact ⟨_, rfl, g', fun W2 g2 => ⟨v', rfl, o'.keep g2 (fun _ _ h => h)⟩⟩
    try simp only [Act.put, List.setIfInBounds_toArray, List.set_cons_zero, List.set_cons_succ]
    refine RelO.next (k' := 4) rfl (fun W gW hF => ?_) ?_
    focus
      obtain ⟨h2, _⟩ := hF
      have q2 : ∃ v', (val 2) = .tuple #[rg f v', .int .i64 0] ∧ OwnL W v' la := h2 _ (Frm.refl _ W)
      obtain ⟨v80, e2, o80⟩ := q2
      try simp only [e2]
      try simp only [tupAt]
      refine OpOK.val (u := (val 2)) (by rfl) ?_ (fun W' _ => rfl)
      try simp only [e2]
      try simp only [tupAt]
      first | (go_simp; done) | (go_simp; with_reducible rfl) | (go_simp; rfl)
    try simp only [Act.put, List.setIfInBounds_toArray, List.set_cons_zero, List.set_cons_succ]
    refine RelO.next (k' := 5) rfl (fun W gW hF => ?_) ?_
    focus
      obtain ⟨h2, h3, _⟩ := hF
      have q2 : ∃ v', (val 2) = .tuple #[rg f v', .int .i64 0] ∧ OwnL W v' la := h2 _ (Frm.refl _ W)
      obtain ⟨v80, e2, o80⟩ := q2
      have e3 : val 3 = (val 2) := h3 _ (Frm.refl _ W)
      try simp only [e3]
      try simp only [e2]
      try simp only [tupAt]
      refine OpOK.val (u := tupAt (val 3) 0) (by rfl) ?_ (fun W' _ => rfl)
      try simp only [e3]
      try simp only [e2]
      try simp only [tupAt]
      first | (go_simp; done) | (go_simp; with_reducible rfl) | (go_simp; rfl)
    try simp only [Act.put, List.setIfInBounds_toArray, List.set_cons_zero, List.set_cons_succ]
    refine RelO.next (k' := 6) rfl (fun W gW hF => ?_) ?_
    focus
      obtain ⟨h2, h3, _⟩ := hF
      have q2 : ∃ v', (val 2) = .tuple #[rg f v', .int .i64 0] ∧ OwnL W v' la := h2 _ (Frm.refl _ W)
      obtain ⟨v80, e2, o80⟩ := q2
      have e3 : val 3 = (val 2) := h3 _ (Frm.refl _ W)
      try simp only [e3]
      try simp only [e2]
      try simp only [tupAt]
      refine OpOK.val (u := tupAt (val 3) 1) (by rfl) ?_ (fun W' _ => rfl)
      try simp only [e3]
      try simp only [e2]
      try simp only [tupAt]
      first | (go_simp; done) | (go_simp; with_reducible rfl) | (go_simp; rfl)
    try simp only [Act.put, List.setIfInBounds_toArray, List.set_cons_zero, List.set_cons_succ]
    refine RelO.next (k' := 7) rfl (fun W gW hF => ?_) ?_
    focus
      have hlt := HN.out W (D.trans gW)
      refine OpOK.made (W' := W.alloc (.cells rz 39)) (u := .pointer (some ⟨W.heap.size, 0, none⟩)) (by rfl) ?_ ((Frm.refl _ W).alloc _) (fun W2 g2 => ⟨W.heap.size, rfl, hlt, (Blk.alloc W _ _).keep g2 (fun h => h)⟩)
      first | (go_simp; done) | (go_simp; with_reducible rfl) | (go_simp; rfl)
    try simp only [Act.put, List.setIfInBounds_toArray, List.set_cons_zero, List.set_cons_succ]
    exact RelO.nil
  intro val w10 gW hF
  obtain ⟨h0, h1, h2, h3, h4, h5, h6, hT⟩ := hF
  have e0 : val 0 = rg f v54 := h0 _ (Frm.refl _ w10)
  have e1 : val 1 = rg f v54 := h1 _ (Frm.refl _ w10)
  have q2 : ∃ v', (val 2) = .tuple #[rg f v', .int .i64 0] ∧ OwnL w10 v' la := h2 _ (Frm.refl _ w10)
  obtain ⟨v80, e2, o80⟩ := q2
  have e3 : val 3 = (val 2) := h3 _ (Frm.refl _ w10)
  have e4 : val 4 = tupAt (val 3) 0 := h4 _ (Frm.refl _ w10)
  have e5 : val 5 = tupAt (val 3) 1 := h5 _ (Frm.refl _ w10)
  have q6 : ∃ b, (val 6) = .pointer (some ⟨b, 0, none⟩) ∧ K ≤ b ∧ Blk w10 b 39 rz := h6 _ (Frm.refl _ w10)
  obtain ⟨B16, e6, hB16, bB16⟩ := q6
  clear hT h0 h1 h2 h3 h4 h5 h6
  simp only [aO, Act.put, List.setIfInBounds_toArray, List.set_cons_zero, List.set_cons_succ, Nat.reduceAdd]
  try simp only [e6]
  try simp only [e5]
  try simp only [e4]
  try simp only [e3]
  try simp only [e2]
  try simp only [e1]
  try simp only [e0]
  try simp only [tupAt]
  refine tail_reg1 (w := w9) f v80 la B16 0 rfl rfl rfl rfl rfl rfl rfl rfl rfl rfl rfl (D.trans gW) (Nat.le_trans HE.out hB16) o80 bB16 ?_
  intro w11 g10 H16
  try simp only [Act.put, List.setIfInBounds_toArray, List.set_cons_zero, List.set_cons_succ]
  refine hK _ _ ?_
  replace H7 := Hid.grow H7 g10
  replace H8 := Hid.grow H8 g10
  replace H9 := Hid.grow H9 g10
  replace H10 := Hid.grow H10 g10
  replace H12 := Hid.grow H12 g10
  replace H14 := Hid.grow H14 g10
  replace GG := GG.trans g10
  clear gW D hK HN HE g10 e0 e1 e2 e3 e4 e5 e6 o80 hB16 bB16
  go_upto_region 8 with fail
  rename_i hK
  have D : Frm (fun _ => False) w11 w11 := Frm.refl _ _
  refine wp_region_textR 19 0 [[], [], [0, 1], [2], [3], [3], [3, 4, 5], [3, 6], [3, 7], [8], [9], [9, 10], [9, 11], [12], [13], [13], [13, 14, 15], [13, 16], [13, 17]] ri8M (ri8R f fab eab v54 v62 v68 v80) rfl rfl rfl rfl (by kernel_rfl) (by kernel_rfl) (fun val => ?_) ?_
  · try dsimp only
    refine RelO.next (k' := 1) rfl (fun W gW hF => ?_) ?_
    focus
      refine OpOK.val (u := .int .i64 (eab : Int)) (by rfl) ?_ (fun W' _ => rfl)
      try simp only [tupAt]
      first | (go_simp; done) | (go_simp; with_reducible rfl) | (go_simp; rfl)
    try simp only [Act.put, List.setIfInBounds_toArray, List.set_cons_zero, List.set_cons_succ]
    refine RelO.next (k' := 2) rfl (fun W gW hF => ?_) ?_
    focus
      refine OpOK.val (u := .int .i64 (eab : Int)) (by rfl) ?_ (fun W' _ => rfl)
      try simp only [tupAt]
      first | (go_simp; done) | (go_simp; with_reducible rfl) | (go_simp; rfl)
    try simp only [Act.put, List.setIfInBounds_toArray, List.set_cons_zero, List.set_cons_succ]
    refine RelO.next (k' := 3) rfl (fun W gW hF => ?_) ?_
    focus
      obtain ⟨h0, h1, _⟩ := hF
      have e0 : val 0 = .int .i64 (eab : Int) := h0 _ (Frm.refl _ W)
      have e1 : val 1 = .int .i64 (eab : Int) := h1 _ (Frm.refl _ W)
      try simp only [e1]
      try simp only [e0]
      try simp only [tupAt]
      refine OpOK.val (u := .bool false) (by rfl) ?_ (fun W' _ => rfl)
      try simp only [e1]
      try simp only [e0]
      try simp only [tupAt]
      first | (go_simp; done) | (go_simp; with_reducible rfl) | (go_simp; rfl)
    try simp only [Act.put, List.setIfInBounds_toArray, List.set_cons_zero, List.set_cons_succ]
    refine RelO.next (k' := 4) rfl (fun W gW hF => ?_) ?_
    focus
      obtain ⟨h2, _⟩ := hF
      have e2 : val 2 = .bool false := h2 _ (Frm.refl _ W)
      try simp only [e2]
      try simp only [tupAt]
      refine OpOK.val (u := .bool false) (by rfl) ?_ (fun W' _ => rfl)
      try simp only [e2]
      try simp only [tupAt]
      first | (go_simp; done) | (go_simp; with_reducible rfl) | (go_simp; rfl)
    try simp only [Act.put, List.setIfInBounds_toArray, List.set_cons_zero, List.set_cons_succ]
    refine RelO.next (k' := 5) rfl (fun W gW hF => ?_) ?_
    focus
      obtain ⟨h3, _⟩ := hF
      have e3 : val 3 = .bool false := h3 _ (Frm.refl _ W)
      try simp only [e3]
      try simp only [tupAt]
      exact OpOK.load (by rfl) _ rfl (by rfl) (load_reg (H10.out W (D.trans gW)).1) (fun W' _ => rfl)
    try simp only [Act.put, List.setIfInBounds_toArray, List.set_cons_zero, List.set_cons_succ]
    refine RelO.next (k' := 6) rfl (fun W gW hF => ?_) ?_
    focus
      obtain ⟨h3, _⟩ := hF
      have e3 : val 3 = .bool false := h3 _ (Frm.refl _ W)
      try simp only [e3]
      try simp only [tupAt]
      exact OpOK.load (by rfl) _ rfl (by rfl) (load_reg (H12.out W (D.trans gW)).1) (fun W' _ => rfl)
    try simp only [Act.put, List.setIfInBounds_toArray, List.set_cons_zero, List.set_cons_succ]
    refine RelO.next (k' := 7) rfl (fun W gW hF => ?_) ?_
    focus
      obtain ⟨h3, h4, h5, _⟩ := hF
      have e3 : val 3 = .bool false := h3 _ (Frm.refl _ W)
      have e4 : val 4 = rg fab v62 := h4 _ (Frm.refl _ W)
      have e5 : val 5 = rg fab v68 := h5 _ (Frm.refl _ W)
      try simp only [e5]
      try simp only [e4]
      try simp only [e3]
      try simp only [tupAt]
      refine OpOK.call (by rfl) ?_ ((equal_any fab fab v62 v68 lab lab W (H10.out W (D.trans gW)).2 (H12.out W (D.trans gW)).2).mono ?_)
      · first | (go_simp; done) | (go_simp; with_reducible rfl) | (go_simp; rfl)
      · rintro e W1 ⟨he, g1⟩
        rw [eq_selfR] at he
        subst he
        exact ⟨_, rfl, g1, fun W2 _ => rfl⟩
    try simp only [Act.put, List.setIfInBounds_toArray, List.set_cons_zero, List.set_cons_succ]
    refine RelO.next (k' := 8) rfl (fun W gW hF => ?_) ?_
    focus
      obtain ⟨h3, h6, _⟩ := hF
      have e3 : val 3 = .bool false := h3 _ (Frm.refl _ W)
      have e6 : val 6 = .bool true := h6 _ (Frm.refl _ W)
      try simp only [e6]
      try simp only [e3]
      try simp only [tupAt]
      refine OpOK.val (u := .bool false) (by rfl) ?_ (fun W' _ => rfl)
      try simp only [e6]
      try simp only [e3]
      try simp only [tupAt]
      first | (go_simp; done) | (go_simp; with_reducible rfl) | (go_simp; rfl)
    try simp only [Act.put, List.setIfInBounds_toArray, List.set_cons_zero, List.set_cons_succ]
    refine RelO.next (k' := 9) rfl (fun W gW hF => ?_) ?_
    focus
      obtain ⟨h3, h7, _⟩ := hF
      have e3 : val 3 = .bool false := h3 _ (Frm.refl _ W)
      have e7 : val 7 = .bool false := h7 _ (Frm.refl _ W)
      try simp only [e7]
      try simp only [e3]
      try simp only [tupAt]
      refine OpOK.val (u := .bool false) (by rfl) ?_ (fun W' _ => rfl)
      try simp only [e7]
      try simp only [e3]
      try simp only [tupAt]
      first | (go_simp; done) | (go_simp; with_reducible rfl) | (go_simp; rfl)
    try simp only [Act.put, List.setIfInBounds_toArray, List.set_cons_zero, List.set_cons_succ]
    refine RelO.next (k' := 10) rfl (fun W gW hF => ?_) ?_
    focus
      obtain ⟨h8, _⟩ := hF
      have e8 : val 8 = .bool false := h8 _ (Frm.refl _ W)
      try simp only [e8]
      try simp only [tupAt]
      refine OpOK.val (u := .bool false) (by rfl) ?_ (fun W' _ => rfl)
      try simp only [e8]
      try simp only [tupAt]
      first | (go_simp; done) | (go_simp; with_reducible rfl) | (go_simp; rfl)
    try simp only [Act.put, List.setIfInBounds_toArray, List.set_cons_zero, List.set_cons_succ]
    refine RelO.next (k' := 11) rfl (fun W gW hF => ?_) ?_
    focus
      obtain ⟨h9, _⟩ := hF
      have e9 : val 9 = .bool false := h9 _ (Frm.refl _ W)
      try simp only [e9]
      try simp only [tupAt]
      refine OpOK.val (u := .int .i64 0) (by rfl) ?_ (fun W' _ => rfl)
      try simp only [e9]
      try simp only [tupAt]
      first | (go_simp; done) | (go_simp; with_reducible rfl) | (go_simp; rfl)
    try simp only [Act.put, List.setIfInBounds_toArray, List.set_cons_zero, List.set_cons_succ]
    refine RelO.next (k' := 12) rfl (fun W gW hF => ?_) ?_
    focus
      obtain ⟨h9, h10, _⟩ := hF
      have e9 : val 9 = .bool false := h9 _ (Frm.refl _ W)
      have e10 : val 10 = .int .i64 0 := h10 _ (Frm.refl _ W)
      try simp only [e10]
      try simp only [e9]
      try simp only [tupAt]
      refine OpOK.val (u := .bool false) (by rfl) ?_ (fun W' _ => rfl)
      try simp only [e10]
      try simp only [e9]
      try simp only [tupAt]
      first | (go_simp; done) | (go_simp; with_reducible rfl) | (go_simp; rfl)
    try simp only [Act.put, List.setIfInBounds_toArray, List.set_cons_zero, List.set_cons_succ]
    refine RelO.next (k' := 13) rfl (fun W gW hF => ?_) ?_
    focus
      obtain ⟨h9, h11, _⟩ := hF
      have e9 : val 9 = .bool false := h9 _ (Frm.refl _ W)
      have e11 : val 11 = .bool false := h11 _ (Frm.refl _ W)
      try simp only [e11]
      try simp only [e9]
      try simp only [tupAt]
      refine OpOK.val (u := .bool false) (by rfl) ?_ (fun W' _ => rfl)
      try simp only [e11]
      try simp only [e9]
      try simp only [tupAt]
      first | (go_simp; done) | (go_simp; with_reducible rfl) | (go_simp; rfl)
    try simp only [Act.put, List.setIfInBounds_toArray, List.set_cons_zero, List.set_cons_succ]
    refine RelO.next (k' := 14) rfl (fun W gW hF => ?_) ?_
    focus
      obtain ⟨h12, _⟩ := hF
      have e12 : val 12 = .bool false := h12 _ (Frm.refl _ W)
      try simp only [e12]
      try simp only [tupAt]
      refine OpOK.val (u := .bool false) (by rfl) ?_ (fun W' _ => rfl)
      try simp only [e12]
      try simp only [tupAt]
      first | (go_simp; done) | (go_simp; with_reducible rfl) | (go_simp; rfl)
    try simp only [Act.put, List.setIfInBounds_toArray, List.set_cons_zero, List.set_cons_succ]
    refine RelO.next (k' := 15) rfl (fun W gW hF => ?_) ?_
    focus
      obtain ⟨h13, _⟩ := hF
      have e13 : val 13 = .bool false := h13 _ (Frm.refl _ W)
      try simp only [e13]
      try simp only [tupAt]
      exact OpOK.load (by rfl) _ rfl (by rfl) (load_reg (H16.out W (D.trans gW)).1) (fun W' _ => rfl)
    try simp only [Act.put, List.setIfInBounds_toArray, List.set_cons_zero, List.set_cons_succ]
    refine RelO.next (k' := 16) rfl (fun W gW hF => ?_) ?_
    focus
      obtain ⟨h13, _⟩ := hF
      have e13 : val 13 = .bool false := h13 _ (Frm.refl _ W)
      try simp only [e13]
      try simp only [tupAt]
      exact OpOK.load (by rfl) _ rfl (by rfl) (load_reg (H7.out W (D.trans gW)).1) (fun W' _ => rfl)
    try simp only [Act.put, List.setIfInBounds_toArray, List.set_cons_zero, List.set_cons_succ]
    refine RelO.next (k' := 17) rfl (fun W gW hF => ?_) ?_
    focus
      obtain ⟨h13, h14, h15, _⟩ := hF
      have e13 : val 13 = .bool false := h13 _ (Frm.refl _ W)
      have e14 : val 14 = rg f v80 := h14 _ (Frm.refl _ W)
      have e15 : val 15 = rg f v54 := h15 _ (Frm.refl _ W)
      try simp only [e15]
      try simp only [e14]
      try simp only [e13]
      try simp only [tupAt]
      refine OpOK.call (by rfl) ?_ ((equal_any f f v80 v54 la la W (H16.out W (D.trans gW)).2 (H7.out W (D.trans gW)).2).mono ?_)
      · first | (go_simp; done) | (go_simp; with_reducible rfl) | (go_simp; rfl)
      · rintro e W1 ⟨he, g1⟩
        rw [eq_selfR] at he
        subst he
        exact ⟨_, rfl, g1, fun W2 _ => rfl⟩
    try simp only [Act.put, List.setIfInBounds_toArray, List.set_cons_zero, List.set_cons_succ]
    refine RelO.next (k' := 18) rfl (fun W gW hF => ?_) ?_
    focus
      obtain ⟨h13, h16, _⟩ := hF
      have e13 : val 13 = .bool false := h13 _ (Frm.refl _ W)
      have e16 : val 16 = .bool true := h16 _ (Frm.refl _ W)
      try simp only [e16]
      try simp only [e13]
      try simp only [tupAt]
      refine OpOK.val (u := .bool false) (by rfl) ?_ (fun W' _ => rfl)
      try simp only [e16]
      try simp only [e13]
      try simp only [tupAt]
      first | (go_simp; done) | (go_simp; with_reducible rfl) | (go_simp; rfl)
    try simp only [Act.put, List.setIfInBounds_toArray, List.set_cons_zero, List.set_cons_succ]
    refine RelO.next (k' := 19) rfl (fun W gW hF => ?_) ?_
    focus
      obtain ⟨h13, h17, _⟩ := hF
      have e13 : val 13 = .bool false := h13 _ (Frm.refl _ W)
      have e17 : val 17 = .bool false := h17 _ (Frm.refl _ W)
      try simp only [e17]
      try simp only [e13]
      try simp only [tupAt]
      refine OpOK.val (u := .bool false) (by rfl) ?_ (fun W' _ => rfl)
      try simp only [e17]
      try simp only [e13]
      try simp only [tupAt]
      first | (go_simp; done) | (go_simp; with_reducible rfl) | (go_simp; rfl)
    try simp only [Act.put, List.setIfInBounds_toArray, List.set_cons_zero, List.set_cons_succ]
    exact RelO.nil
  intro val w12 gW hF
  obtain ⟨h0, h1, h2, h3, h4, h5, h6, h7, h8, h9, h10, h11, h12, h13, h14, h15, h16, h17, h18, hT⟩ := hF
  have e0 : val 0 = .int .i64 (eab : Int) := h0 _ (Frm.refl _ w12)
  have e1 : val 1 = .int .i64 (eab : Int) := h1 _ (Frm.refl _ w12)
  have e2 : val 2 = .bool false := h2 _ (Frm.refl _ w12)
  have e3 : val 3 = .bool false := h3 _ (Frm.refl _ w12)
  have e4 : val 4 = rg fab v62 := h4 _ (Frm.refl _ w12)
  have e5 : val 5 = rg fab v68 := h5 _ (Frm.refl _ w12)
  have e6 : val 6 = .bool true := h6 _ (Frm.refl _ w12)
  have e7 : val 7 = .bool false := h7 _ (Frm.refl _ w12)
  have e8 : val 8 = .bool false := h8 _ (Frm.refl _ w12)
  have e9 : val 9 = .bool false := h9 _ (Frm.refl _ w12)
  have e10 : val 10 = .int .i64 0 := h10 _ (Frm.refl _ w12)
  have e11 : val 11 = .bool false := h11 _ (Frm.refl _ w12)
  have e12 : val 12 = .bool false := h12 _ (Frm.refl _ w12)
  have e13 : val 13 = .bool false := h13 _ (Frm.refl _ w12)
  have e14 : val 14 = rg f v80 := h14 _ (Frm.refl _ w12)
  have e15 : val 15 = rg f v54 := h15 _ (Frm.refl _ w12)
  have e16 : val 16 = .bool true := h16 _ (Frm.refl _ w12)
  have e17 : val 17 = .bool false := h17 _ (Frm.refl _ w12)
  have e18 : val 18 = .bool false := h18 _ (Frm.refl _ w12)
  clear hT h0 h1 h2 h3 h4 h5 h6 h7 h8 h9 h10 h11 h12 h13 h14 h15 h16 h17 h18
  simp only [aO, Act.put, List.setIfInBounds_toArray, List.set_cons_zero, List.set_cons_succ, Nat.reduceAdd]
  try simp only [e18]
  try simp only [e17]
  try simp only [e16]
  try simp only [e15]
  try simp only [e14]
  try simp only [e13]
  try simp only [e12]
  try simp only [e11]
  try simp only [e10]
  try simp only [e9]
  try simp only [e8]
  try simp only [e7]
  try simp only [e6]
  try simp only [e5]
  try simp only [e4]
  try simp only [e3]
  try simp only [e2]
  try simp only [e1]
  try simp only [e0]
  try simp only [tupAt]
  refine wpTail.done ?_
  refine hK _ _ ?_
  have g12 := D.trans gW
  replace H7 := Hid.grow H7 g12
  replace H8 := Hid.grow H8 g12
  replace H9 := Hid.grow H9 g12
  replace H10 := Hid.grow H10 g12
  replace H12 := Hid.grow H12 g12
  replace H14 := Hid.grow H14 g12
  replace H16 := Hid.grow H16 g12
  replace GG := GG.trans g12
  clear gW D hK g12 e0 e1 e2 e3 e4 e5 e6 e7 e8 e9 e10 e11 e12 e13 e14 e15 e16 e17 e18 
  clear JAB JBA JBC JAA
  rcases HC.out with ⟨rfl, _⟩ | ⟨rfl, rfl⟩ | ⟨rfl, rfl, HR⟩
  · clear HC
    go_upto_region 10 with fail
    rename_i hK
    have D : Frm (fun _ => False) w12 w12 := Frm.refl _ _
    refine wp_region_textR 6 0 [[], [0], [1], [2], [2, 3], [2, 4]] ri10aM (ri10aR ) rfl rfl rfl rfl (by kernel_rfl) (by kernel_rfl) (fun val => ?_) ?_
    · try dsimp only
      refine RelO.next (k' := 1) rfl (fun W gW hF => ?_) ?_
      focus
        refine OpOK.val (u := .int .i64 7) (by rfl) ?_ (fun W' _ => rfl)
        try simp only [tupAt]
        first | (go_simp; done) | (go_simp; with_reducible rfl) | (go_simp; rfl)
      try simp only [Act.put, List.setIfInBounds_toArray, List.set_cons_zero, List.set_cons_succ]
      refine RelO.next (k' := 2) rfl (fun W gW hF => ?_) ?_
      focus
        obtain ⟨h0, _⟩ := hF
        have e0 : val 0 = .int .i64 7 := h0 _ (Frm.refl _ W)
        try simp only [e0]
        try simp only [tupAt]
        refine OpOK.val (u := .bool true) (by rfl) ?_ (fun W' _ => rfl)
        try simp only [e0]
        try simp only [tupAt]
        first | (go_simp; done) | (go_simp; with_reducible rfl) | (go_simp; rfl)
      try simp only [Act.put, List.setIfInBounds_toArray, List.set_cons_zero, List.set_cons_succ]
      refine RelO.next (k' := 3) rfl (fun W gW hF => ?_) ?_
      focus
        obtain ⟨h1, _⟩ := hF
        have e1 : val 1 = .bool true := h1 _ (Frm.refl _ W)
        try simp only [e1]
        try simp only [tupAt]
        refine OpOK.val (u := .bool true) (by rfl) ?_ (fun W' _ => rfl)
        try simp only [e1]
        try simp only [tupAt]
        first | (go_simp; done) | (go_simp; with_reducible rfl) | (go_simp; rfl)
      try simp only [Act.put, List.setIfInBounds_toArray, List.set_cons_zero, List.set_cons_succ]
      refine RelO.next (k' := 4) rfl (fun W gW hF => ?_) ?_
      focus
        obtain ⟨h2, _⟩ := hF
        have e2 : val 2 = .bool true := h2 _ (Frm.refl _ W)
        try simp only [e2]
        try simp only [tupAt]
        exact OpOK.skip (by rfl) (fun W' _ => rfl)
      try simp only [Act.put, List.setIfInBounds_toArray, List.set_cons_zero, List.set_cons_succ]
      refine RelO.next (k' := 5) rfl (fun W gW hF => ?_) ?_
      focus
        obtain ⟨h2, h3, _⟩ := hF
        have e2 : val 2 = .bool true := h2 _ (Frm.refl _ W)
        have e3 : val 3 = undef := h3 _ (Frm.refl _ W)
        try simp only [e3]
        try simp only [e2]
        try simp only [tupAt]
        exact OpOK.skip (by rfl) (fun W' _ => rfl)
      try simp only [Act.put, List.setIfInBounds_toArray, List.set_cons_zero, List.set_cons_succ]
      refine RelO.next (k' := 6) rfl (fun W gW hF => ?_) ?_
      focus
        obtain ⟨h2, h4, _⟩ := hF
        have e2 : val 2 = .bool true := h2 _ (Frm.refl _ W)
        have e4 : val 4 = undef := h4 _ (Frm.refl _ W)
        try simp only [e4]
        try simp only [e2]
        try simp only [tupAt]
        refine OpOK.val (u := .bool true) (by rfl) ?_ (fun W' _ => rfl)
        try simp only [e4]
        try simp only [e2]
        try simp only [tupAt]
        first | (go_simp; done) | (go_simp; with_reducible rfl) | (go_simp; rfl)
      try simp only [Act.put, List.setIfInBounds_toArray, List.set_cons_zero, List.set_cons_succ]
      exact RelO.nil
    intro val w13 gW hF
    obtain ⟨h0, h1, h2, h3, h4, h5, hT⟩ := hF
    have e0 : val 0 = .int .i64 7 := h0 _ (Frm.refl _ w13)
    have e1 : val 1 = .bool true := h1 _ (Frm.refl _ w13)
    have e2 : val 2 = .bool true := h2 _ (Frm.refl _ w13)
    have e3 : val 3 = undef := h3 _ (Frm.refl _ w13)
    have e4 : val 4 = undef := h4 _ (Frm.refl _ w13)
    have e5 : val 5 = .bool true := h5 _ (Frm.refl _ w13)
    clear hT h0 h1 h2 h3 h4 h5
    simp only [aO, Act.put, List.setIfInBounds_toArray, List.set_cons_zero, List.set_cons_succ, Nat.reduceAdd]
    try simp only [e5]
    try simp only [e4]
    try simp only [e3]
    try simp only [e2]
    try simp only [e1]
    try simp only [e0]
    try simp only [tupAt]
    refine wpTail.done ?_
    refine hK _ _ ?_
    have g13 := D.trans gW
    replace H7 := Hid.grow H7 g13
    replace H8 := Hid.grow H8 g13
    replace H9 := Hid.grow H9 g13
    replace H10 := Hid.grow H10 g13
    replace H12 := Hid.grow H12 g13
    replace H14 := Hid.grow H14 g13
    replace H16 := Hid.grow H16 g13
    replace GG := GG.trans g13
    clear gW D hK g13 e0 e1 e2 e3 e4 e5 
    go_wp2_with fail
    refine (HWK.out w13).mono ?_
    rintro e w14 ⟨rfl, g14⟩
    go_wp2_with fail
    go_ret
    exact ⟨rfl, GG.trans g14⟩
  · clear HC
    go_upto_region 10 with fail
    rename_i hK
    have D : Frm (fun _ => False) w12 w12 := Frm.refl _ _
    refine wp_region_textR 6 0 [[], [0], [1], [2], [2, 3], [2, 4]] ri10bM (ri10bR ) rfl rfl rfl rfl (by kernel_rfl) (by kernel_rfl) (fun val => ?_) ?_
    · try dsimp only
      refine RelO.next (k' := 1) rfl (fun W gW hF => ?_) ?_
      focus
        refine OpOK.val (u := .int .i64 0) (by rfl) ?_ (fun W' _ => rfl)
        try simp only [tupAt]
        first | (go_simp; done) | (go_simp; with_reducible rfl) | (go_simp; rfl)
      try simp only [Act.put, List.setIfInBounds_toArray, List.set_cons_zero, List.set_cons_succ]
      refine RelO.next (k' := 2) rfl (fun W gW hF => ?_) ?_
      focus
        obtain ⟨h0, _⟩ := hF
        have e0 : val 0 = .int .i64 0 := h0 _ (Frm.refl _ W)
        try simp only [e0]
        try simp only [tupAt]
        refine OpOK.val (u := .bool false) (by rfl) ?_ (fun W' _ => rfl)
        try simp only [e0]
        try simp only [tupAt]
        first | (go_simp; done) | (go_simp; with_reducible rfl) | (go_simp; rfl)
      try simp only [Act.put, List.setIfInBounds_toArray, List.set_cons_zero, List.set_cons_succ]
      refine RelO.next (k' := 3) rfl (fun W gW hF => ?_) ?_
      focus
        obtain ⟨h1, _⟩ := hF
        have e1 : val 1 = .bool false := h1 _ (Frm.refl _ W)
        try simp only [e1]
        try simp only [tupAt]
        refine OpOK.val (u := .bool false) (by rfl) ?_ (fun W' _ => rfl)
        try simp only [e1]
        try simp only [tupAt]
        first | (go_simp; done) | (go_simp; with_reducible rfl) | (go_simp; rfl)
      try simp only [Act.put, List.setIfInBounds_toArray, List.set_cons_zero, List.set_cons_succ]
      refine RelO.next (k' := 4) rfl (fun W gW hF => ?_) ?_
      focus
        obtain ⟨h2, _⟩ := hF
        have e2 : val 2 = .bool false := h2 _ (Frm.refl _ W)
        try simp only [e2]
        try simp only [tupAt]
        refine OpOK.val (u := .int .i64 7) (by rfl) ?_ (fun W' _ => rfl)
        try simp only [e2]
        try simp only [tupAt]
        first | (go_simp; done) | (go_simp; with_reducible rfl) | (go_simp; rfl)
      try simp only [Act.put, List.setIfInBounds_toArray, List.set_cons_zero, List.set_cons_succ]
      refine RelO.next (k' := 5) rfl (fun W gW hF => ?_) ?_
      focus
        obtain ⟨h2, h3, _⟩ := hF
        have e2 : val 2 = .bool false := h2 _ (Frm.refl _ W)
        have e3 : val 3 = .int .i64 7 := h3 _ (Frm.refl _ W)
        try simp only [e3]
        try simp only [e2]
        try simp only [tupAt]
        refine OpOK.val (u := .bool true) (by rfl) ?_ (fun W' _ => rfl)
        try simp only [e3]
        try simp only [e2]
        try simp only [tupAt]
        first | (go_simp; done) | (go_simp; with_reducible rfl) | (go_simp; rfl)
      try simp only [Act.put, List.setIfInBounds_toArray, List.set_cons_zero, List.set_cons_succ]
      refine RelO.next (k' := 6) rfl (fun W gW hF => ?_) ?_
      focus
        obtain ⟨h2, h4, _⟩ := hF
        have e2 : val 2 = .bool false := h2 _ (Frm.refl _ W)
        have e4 : val 4 = .bool true := h4 _ (Frm.refl _ W)
        try simp only [e4]
        try simp only [e2]
        try simp only [tupAt]
        refine OpOK.val (u := .bool true) (by rfl) ?_ (fun W' _ => rfl)
        try simp only [e4]
        try simp only [e2]
        try simp only [tupAt]
        first | (go_simp; done) | (go_simp; with_reducible rfl) | (go_simp; rfl)
      try simp only [Act.put, List.setIfInBounds_toArray, List.set_cons_zero, List.set_cons_succ]
      exact RelO.nil
    intro val w13 gW hF
    obtain ⟨h0, h1, h2, h3, h4, h5, hT⟩ := hF
    have e0 : val 0 = .int .i64 0 := h0 _ (Frm.refl _ w13)
    have e1 : val 1 = .bool false := h1 _ (Frm.refl _ w13)
    have e2 : val 2 = .bool false := h2 _ (Frm.refl _ w13)
    have e3 : val 3 = .int .i64 7 := h3 _ (Frm.refl _ w13)
    have e4 : val 4 = .bool true := h4 _ (Frm.refl _ w13)
    have e5 : val 5 = .bool true := h5 _ (Frm.refl _ w13)
    clear hT h0 h1 h2 h3 h4 h5
    simp only [aO, Act.put, List.setIfInBounds_toArray, List.set_cons_zero, List.set_cons_succ, Nat.reduceAdd]
    try simp only [e5]
    try simp only [e4]
    try simp only [e3]
    try simp only [e2]
    try simp only [e1]
    try simp only [e0]
    try simp only [tupAt]
    refine wpTail.done ?_
    refine hK _ _ ?_
    have g13 := D.trans gW
    replace H7 := Hid.grow H7 g13
    replace H8 := Hid.grow H8 g13
    replace H9 := Hid.grow H9 g13
    replace H10 := Hid.grow H10 g13
    replace H12 := Hid.grow H12 g13
    replace H14 := Hid.grow H14 g13
    replace H16 := Hid.grow H16 g13
    replace GG := GG.trans g13
    clear gW D hK g13 e0 e1 e2 e3 e4 e5 
    go_wp2_with fail
    refine (HWK.out w13).mono ?_
    rintro e w14 ⟨rfl, g14⟩
    go_wp2_with fail
    go_ret
    exact ⟨rfl, GG.trans g14⟩
  · clear HC
    go_upto_region 10 with fail
    rename_i hK
    have D : Frm (fun _ => False) w12 w12 := Frm.refl _ _
    refine wp_region_textR 6 0 [[], [0], [1], [2], [2, 3], [2, 4]] ri10cM (ri10cR ) rfl rfl rfl rfl (by kernel_rfl) (by kernel_rfl) (fun val => ?_) ?_
    · try dsimp only
      refine RelO.next (k' := 1) rfl (fun W gW hF => ?_) ?_
      focus
        refine OpOK.val (u := .int .i64 0) (by rfl) ?_ (fun W' _ => rfl)
        try simp only [tupAt]
        first | (go_simp; done) | (go_simp; with_reducible rfl) | (go_simp; rfl)
      try simp only [Act.put, List.setIfInBounds_toArray, List.set_cons_zero, List.set_cons_succ]
      refine RelO.next (k' := 2) rfl (fun W gW hF => ?_) ?_
      focus
        obtain ⟨h0, _⟩ := hF
        have e0 : val 0 = .int .i64 0 := h0 _ (Frm.refl _ W)
        try simp only [e0]
        try simp only [tupAt]
        refine OpOK.val (u := .bool false) (by rfl) ?_ (fun W' _ => rfl)
        try simp only [e0]
        try simp only [tupAt]
        first | (go_simp; done) | (go_simp; with_reducible rfl) | (go_simp; rfl)
      try simp only [Act.put, List.setIfInBounds_toArray, List.set_cons_zero, List.set_cons_succ]
      refine RelO.next (k' := 3) rfl (fun W gW hF => ?_) ?_
      focus
        obtain ⟨h1, _⟩ := hF
        have e1 : val 1 = .bool false := h1 _ (Frm.refl _ W)
        try simp only [e1]
        try simp only [tupAt]
        refine OpOK.val (u := .bool false) (by rfl) ?_ (fun W' _ => rfl)
        try simp only [e1]
        try simp only [tupAt]
        first | (go_simp; done) | (go_simp; with_reducible rfl) | (go_simp; rfl)
      try simp only [Act.put, List.setIfInBounds_toArray, List.set_cons_zero, List.set_cons_succ]
      refine RelO.next (k' := 4) rfl (fun W gW hF => ?_) ?_
      focus
        obtain ⟨h2, _⟩ := hF
        have e2 : val 2 = .bool false := h2 _ (Frm.refl _ W)
        try simp only [e2]
        try simp only [tupAt]
        refine OpOK.val (u := .int .i64 0) (by rfl) ?_ (fun W' _ => rfl)
        try simp only [e2]
        try simp only [tupAt]
        first | (go_simp; done) | (go_simp; with_reducible rfl) | (go_simp; rfl)
      try simp only [Act.put, List.setIfInBounds_toArray, List.set_cons_zero, List.set_cons_succ]
      refine RelO.next (k' := 5) rfl (fun W gW hF => ?_) ?_
      focus
        obtain ⟨h2, h3, _⟩ := hF
        have e2 : val 2 = .bool false := h2 _ (Frm.refl _ W)
        have e3 : val 3 = .int .i64 0 := h3 _ (Frm.refl _ W)
        try simp only [e3]
        try simp only [e2]
        try simp only [tupAt]
        refine OpOK.val (u := .bool false) (by rfl) ?_ (fun W' _ => rfl)
        try simp only [e3]
        try simp only [e2]
        try simp only [tupAt]
        first | (go_simp; done) | (go_simp; with_reducible rfl) | (go_simp; rfl)
      try simp only [Act.put, List.setIfInBounds_toArray, List.set_cons_zero, List.set_cons_succ]
      refine RelO.next (k' := 6) rfl (fun W gW hF => ?_) ?_
      focus
        obtain ⟨h2, h4, _⟩ := hF
        have e2 : val 2 = .bool false := h2 _ (Frm.refl _ W)
        have e4 : val 4 = .bool false := h4 _ (Frm.refl _ W)
        try simp only [e4]
        try simp only [e2]
        try simp only [tupAt]
        refine OpOK.val (u := .bool false) (by rfl) ?_ (fun W' _ => rfl)
        try simp only [e4]
        try simp only [e2]
        try simp only [tupAt]
        first | (go_simp; done) | (go_simp; with_reducible rfl) | (go_simp; rfl)
      try simp only [Act.put, List.setIfInBounds_toArray, List.set_cons_zero, List.set_cons_succ]
      exact RelO.nil
    intro val w13 gW hF
    obtain ⟨h0, h1, h2, h3, h4, h5, hT⟩ := hF
    have e0 : val 0 = .int .i64 0 := h0 _ (Frm.refl _ w13)
    have e1 : val 1 = .bool false := h1 _ (Frm.refl _ w13)
    have e2 : val 2 = .bool false := h2 _ (Frm.refl _ w13)
    have e3 : val 3 = .int .i64 0 := h3 _ (Frm.refl _ w13)
    have e4 : val 4 = .bool false := h4 _ (Frm.refl _ w13)
    have e5 : val 5 = .bool false := h5 _ (Frm.refl _ w13)
    clear hT h0 h1 h2 h3 h4 h5
    simp only [aO, Act.put, List.setIfInBounds_toArray, List.set_cons_zero, List.set_cons_succ, Nat.reduceAdd]
    try simp only [e5]
    try simp only [e4]
    try simp only [e3]
    try simp only [e2]
    try simp only [e1]
    try simp only [e0]
    try simp only [tupAt]
    refine wpTail.done ?_
    refine hK _ _ ?_
    have g13 := D.trans gW
    replace H7 := Hid.grow H7 g13
    replace H8 := Hid.grow H8 g13
    replace H9 := Hid.grow H9 g13
    replace H10 := Hid.grow H10 g13
    replace H12 := Hid.grow H12 g13
    replace H14 := Hid.grow H14 g13
    replace H16 := Hid.grow H16 g13
    replace GG := GG.trans g13
    clear gW D hK g13 e0 e1 e2 e3 e4 e5 
    obtain ⟨⟨hf1, hl1, hn1⟩, hf2, hl2, hn2⟩ := HR
    have HCK : Hid (chkS fab lab = 0) := Lib.hid (by rw [← hf1, ← hl1]; unfold chkS; rw [okR_join A0.out.2.1 A1.out.2.1 hn1]; rfl)
    have hag := ring_again A0.out.1 A1.out.1 A0.out.2.1 A1.out.2.1 hn1
    have has := ring_assoc A0.out.1 A1.out.1 A2.out.1 A0.out.2.1 A1.out.2.1 A2.out.2.1 hn1 hn2
    rw [hf1, hl1] at hag has
    rw [hf2, hl2] at has
    obtain ⟨⟨fl, ll, el⟩, hL⟩ : ∃ p, rjoinS fab h lab lc = p := ⟨_, rfl⟩
    have JL := Lib.hid (sjoinE HFab.out hh (by have := HLab.out; omega) A2.out.2.2 hL)
    have JR := Lib.hid (sjoinE hf HFbc.out A0.out.2.2 (by have := HLbc.out; omega) (has.symm.trans hL))
    have JG := Lib.hid (sjoinE HFab.out hg (by have := HLab.out; omega) A1.out.2.2 hag)
    clear hf1 hl1 hn1 hf2 hl2 hn2 hag has hL
    go_upto_region 12 with fail
    rename_i hK
    obtain ⟨K, hK0⟩ : ∃ K, w13.heap.size = K := ⟨_, rfl⟩
    have HN : Hid (∀ W, Frm (fun _ => False) w13 W → K ≤ W.heap.size) := Lib.hid fun W g => hK0 ▸ g.size
    have HE : Hid (w13.heap.size ≤ K) := Lib.hid (Nat.le_of_eq hK0)
    clear hK0
    have D : Frm (fun _ => False) w13 w13 := Frm.refl _ _
    refine wp_region_textR 7 2 [[], [], [0, 1], [2], [2, 3], [2, 3], []] ri12M (ri12R h fab fl ll K el v58 v62) rfl rfl rfl rfl (by kernel_rfl) (by kernel_rfl) (fun val => ?_) ?_
    · try simp only [Act.put, List.setIfInBounds_toArray, List.set_cons_zero, List.set_cons_succ]
      refine RelO.next (k' := 1) rfl (fun W gW hF => ?_) ?_
      focus
        exact OpOK.load (by rfl) _ rfl (by rfl) (load_reg (H10.out W (D.trans gW)).1) (fun W' _ => rfl)
      try simp only [Act.put, List.setIfInBounds_toArray, List.set_cons_zero, List.set_cons_succ]
      refine RelO.next (k' := 2) rfl (fun W gW hF => ?_) ?_
      focus
        exact OpOK.load (by rfl) _ rfl (by rfl) (load_reg (H9.out W (D.trans gW)).1) (fun W' _ => rfl)
      try simp only [Act.put, List.setIfInBounds_toArray, List.set_cons_zero, List.set_cons_succ]
      refine RelO.next (k' := 3) rfl (fun W gW hF => ?_) ?_
      focus
        obtain ⟨h0, h1, _⟩ := hF
        have e0 : val 0 = rg fab v62 := h0 _ (Frm.refl _ W)
        have e1 : val 1 = rg h v58 := h1 _ (Frm.refl _ W)
        try simp only [e1]
        try simp only [e0]
        try simp only [tupAt]
        refine OpOK.call (by rfl) ?_ ((JL.out W _ _ (H10.out W (D.trans gW)).2 (H9.out W (D.trans gW)).2).mono ?_)
        · first | (go_simp; done) | (go_simp; with_reducible rfl) | (go_simp; rfl)
        · rintro e W1 ⟨v', rfl, o', _, g'⟩
          exact ⟨_, rfl, g', fun W2 g2 => ⟨v', rfl, o'.keep g2 (fun _ _ h => h)⟩⟩
      try simp only [Act.put, List.setIfInBounds_toArray, List.set_cons_zero, List.set_cons_succ]
      refine RelO.next (k' := 4) rfl (fun W gW hF => ?_) ?_
      focus
        obtain ⟨h2, _⟩ := hF
        have q2 : ∃ v', (val 2) = .tuple #[rg fl v', .int .i64 (el : Int)] ∧ OwnL W v' ll := h2 _ (Frm.refl _ W)
        obtain ⟨v112, e2, o112⟩ := q2
        try simp only [e2]
        try simp only [tupAt]
        refine OpOK.val (u := (val 2)) (by rfl) ?_ (fun W' _ => rfl)
        try simp only [e2]
        try simp only [tupAt]
        first | (go_simp; done) | (go_simp; with_reducible rfl) | (go_simp; rfl)
      try simp only [Act.put, List.setIfInBounds_toArray, List.set_cons_zero, List.set_cons_succ]
      refine RelO.next (k' := 5) rfl (fun W gW hF => ?_) ?_
      focus
        obtain ⟨h2, h3, _⟩ := hF
        have q2 : ∃ v', (val 2) = .tuple #[rg fl v', .int .i64 (el : Int)] ∧ OwnL W v' ll := h2 _ (Frm.refl _ W)
        obtain ⟨v112, e2, o112⟩ := q2
        have e3 : val 3 = (val 2) := h3 _ (Frm.refl _ W)
        try simp only [e3]
        try simp only [e2]
        try simp only [tupAt]
        refine OpOK.val (u := tupAt (val 3) 0) (by rfl) ?_ (fun W' _ => rfl)
        try simp only [e3]
        try simp only [e2]
        try simp only [tupAt]
        first | (go_simp; done) | (go_simp; with_reducible rfl) | (go_simp; rfl)
      try simp only [Act.put, List.setIfInBounds_toArray, List.set_cons_zero, List.set_cons_succ]
      refine RelO.next (k' := 6) rfl (fun W gW hF => ?_) ?_
      focus
        obtain ⟨h2, h3, _⟩ := hF
        have q2 : ∃ v', (val 2) = .tuple #[rg fl v', .int .i64 (el : Int)] ∧ OwnL W v' ll := h2 _ (Frm.refl _ W)
        obtain ⟨v112, e2, o112⟩ := q2
        have e3 : val 3 = (val 2) := h3 _ (Frm.refl _ W)
        try simp only [e3]
        try simp only [e2]
        try simp only [tupAt]
        refine OpOK.val (u := tupAt (val 3) 1) (by rfl) ?_ (fun W' _ => rfl)
        try simp only [e3]
        try simp only [e2]
        try simp only [tupAt]
        first | (go_simp; done) | (go_simp; with_reducible rfl) | (go_simp; rfl)
      try simp only [Act.put, List.setIfInBounds_toArray, List.set_cons_zero, List.set_cons_succ]
      refine RelO.next (k' := 7) rfl (fun W gW hF => ?_) ?_
      focus
        have hlt := HN.out W (D.trans gW)
        refine OpOK.made (W' := W.alloc (.cells rz 39)) (u := .pointer (some ⟨W.heap.size, 0, none⟩)) (by rfl) ?_ ((Frm.refl _ W).alloc _) (fun W2 g2 => ⟨W.heap.size, rfl, hlt, (Blk.alloc W _ _).keep g2 (fun h => h)⟩)
        first | (go_simp; done) | (go_simp; with_reducible rfl) | (go_simp; rfl)
      try simp only [Act.put, List.setIfInBounds_toArray, List.set_cons_zero, List.set_cons_succ]
      exact RelO.nil
    intro val w14 gW hF
    obtain ⟨h0, h1, h2, h3, h4, h5, h6, hT⟩ := hF
    have e0 : val 0 = rg fab v62 := h0 _ (Frm.refl _ w14)
    have e1 : val 1 = rg h v58 := h1 _ (Frm.refl _ w14)
    have q2 : ∃ v', (val 2) = .tuple #[rg fl v', .int .i64 (el : Int)] ∧ OwnL w14 v' ll := h2 _ (Frm.refl _ w14)
    obtain ⟨v112, e2, o112⟩ := q2
    have e3 : val 3 = (val 2) := h3 _ (Frm.refl _ w14)
    have e4 : val 4 = tupAt (val 3) 0 := h4 _ (Frm.refl _ w14)
    have e5 : val 5 = tupAt (val 3) 1 := h5 _ (Frm.refl _ w14)
    have q6 : ∃ b, (val 6) = .pointer (some ⟨b, 0, none⟩) ∧ K ≤ b ∧ Blk w14 b 39 rz := h6 _ (Frm.refl _ w14)
    obtain ⟨B18, e6, hB18, bB18⟩ := q6
    clear hT h0 h1 h2 h3 h4 h5 h6
    simp only [aO, Act.put, List.setIfInBounds_toArray, List.set_cons_zero, List.set_cons_succ, Nat.reduceAdd]
    try simp only [e6]
    try simp only [e5]
    try simp only [e4]
    try simp only [e3]
    try simp only [e2]
    try simp only [e1]
    try simp only [e0]
    try simp only [tupAt]
    refine tail_reg1 (w := w13) fl v112 ll B18 (el : Int) rfl rfl rfl rfl rfl rfl rfl rfl rfl rfl rfl (D.trans gW) (Nat.le_trans HE.out hB18) o112 bB18 ?_
    intro w15 g14 H18
    try simp only [Act.put, List.setIfInBounds_toArray, List.set_cons_zero, List.set_cons_succ]
    refine hK _ _ ?_
    replace H7 := Hid.grow H7 g14
    replace H8 := Hid.grow H8 g14
    replace H9 := Hid.grow H9 g14
    replace H10 := Hid.grow H10 g14
    replace H12 := Hid.grow H12 g14
    replace H14 := Hid.grow H14 g14
    replace H16 := Hid.grow H16 g14
    replace GG := GG.trans g14
    clear gW D hK HN HE g14 e0 e1 e2 e3 e4 e5 e6 o112 hB18 bB18
    go_upto_region 13 with fail
    rename_i hK
    obtain ⟨K, hK0⟩ : ∃ K, w15.heap.size = K := ⟨_, rfl⟩
    have HN : Hid (∀ W, Frm (fun _ => False) w15 W → K ≤ W.heap.size) := Lib.hid fun W g => hK0 ▸ g.size
    have HE : Hid (w15.heap.size ≤ K) := Lib.hid (Nat.le_of_eq hK0)
    clear hK0
    have D : Frm (fun _ => False) w15 w15 := Frm.refl _ _
    refine wp_region_textR 7 2 [[], [], [0, 1], [2], [2, 3], [2, 3], []] ri13M (ri13R f fbc fl ll K el v54 v74) rfl rfl rfl rfl (by kernel_rfl) (by kernel_rfl) (fun val => ?_) ?_
    · try simp only [Act.put, List.setIfInBounds_toArray, List.set_cons_zero, List.set_cons_succ]
      refine RelO.next (k' := 1) rfl (fun W gW hF => ?_) ?_
      focus
        exact OpOK.load (by rfl) _ rfl (by rfl) (load_reg (H7.out W (D.trans gW)).1) (fun W' _ => rfl)
      try simp only [Act.put, List.setIfInBounds_toArray, List.set_cons_zero, List.set_cons_succ]
      refine RelO.next (k' := 2) rfl (fun W gW hF => ?_) ?_
      focus
        exact OpOK.load (by rfl) _ rfl (by rfl) (load_reg (H14.out W (D.trans gW)).1) (fun W' _ => rfl)
      try simp only [Act.put, List.setIfInBounds_toArray, List.set_cons_zero, List.set_cons_succ]
      refine RelO.next (k' := 3) rfl (fun W gW hF => ?_) ?_
      focus
        obtain ⟨h0, h1, _⟩ := hF
        have e0 : val 0 = rg f v54 := h0 _ (Frm.refl _ W)
        have e1 : val 1 = rg fbc v74 := h1 _ (Frm.refl _ W)
        try simp only [e1]
        try simp only [e0]
        try simp only [tupAt]
        refine OpOK.call (by rfl) ?_ ((JR.out W _ _ (H7.out W (D.trans gW)).2 (H14.out W (D.trans gW)).2).mono ?_)
        · first | (go_simp; done) | (go_simp; with_reducible rfl) | (go_simp; rfl)
        · rintro e W1 ⟨v', rfl, o', _, g'⟩
          exact ⟨_, rfl, g', fun W2 g2 => ⟨v', rfl, o'.keep g2 (fun _ _ h => h)⟩⟩
      try simp only [Act.put, List.setIfInBounds_toArray, List.set_cons_zero, List.set_cons_succ]
      refine RelO.next (k' := 4) rfl (fun W gW hF => ?_) ?_
      focus
        obtain ⟨h2, _⟩ := hF
        have q2 : ∃ v', (val 2) = .tuple #[rg fl v', .int .i64 (el : Int)] ∧ OwnL W v' ll := h2 _ (Frm.refl _ W)
        obtain ⟨v118, e2, o118⟩ := q2
        try simp only [e2]
        try simp only [tupAt]
        refine OpOK.val (u := (val 2)) (by rfl) ?_ (fun W' _ => rfl)
        try simp only [e2]
        try simp only [tupAt]
        first | (go_simp; done) | (go_simp; with_reducible rfl) | (go_simp; rfl)
      try simp only [Act.put, List.setIfInBounds_toArray, List.set_cons_zero, List.set_cons_succ]
      refine RelO.next (k' := 5) rfl (fun W gW hF => ?_) ?_
      focus
        obtain ⟨h2, h3, _⟩ := hF
        have q2 : ∃ v', (val 2) = .tuple #[rg fl v', .int .i64 (el : Int)] ∧ OwnL W v' ll := h2 _ (Frm.refl _ W)
        obtain ⟨v118, e2, o118⟩ := q2
        have e3 : val 3 = (val 2) := h3 _ (Frm.refl _ W)
        try simp only [e3]
        try simp only [e2]
        try simp only [tupAt]
        refine OpOK.val (u := tupAt (val 3) 0) (by rfl) ?_ (fun W' _ => rfl)
        try simp only [e3]
        try simp only [e2]
        try simp only [tupAt]
        first | (go_simp; done) | (go_simp; with_reducible rfl) | (go_simp; rfl)
      try simp only [Act.put, List.setIfInBounds_toArray, List.set_cons_zero, List.set_cons_succ]
      refine RelO.next (k' := 6) rfl (fun W gW hF => ?_) ?_
      focus
        obtain ⟨h2, h3, _⟩ := hF
        have q2 : ∃ v', (val 2) = .tuple #[rg fl v', .int .i64 (el : Int)] ∧ OwnL W v' ll := h2 _ (Frm.refl _ W)
        obtain ⟨v118, e2, o118⟩ := q2
        have e3 : val 3 = (val 2) := h3 _ (Frm.refl _ W)
        try simp only [e3]
        try simp only [e2]
        try simp only [tupAt]
        refine OpOK.val (u := tupAt (val 3) 1) (by rfl) ?_ (fun W' _ => rfl)
        try simp only [e3]
        try simp only [e2]
        try simp only [tupAt]
        first | (go_simp; done) | (go_simp; with_reducible rfl) | (go_simp; rfl)
      try simp only [Act.put, List.setIfInBounds_toArray, List.set_cons_zero, List.set_cons_succ]
      refine RelO.next (k' := 7) rfl (fun W gW hF => ?_) ?_
      focus
        have hlt := HN.out W (D.trans gW)
        refine OpOK.made (W' := W.alloc (.cells rz 39)) (u := .pointer (some ⟨W.heap.size, 0, none⟩)) (by rfl) ?_ ((Frm.refl _ W).alloc _) (fun W2 g2 => ⟨W.heap.size, rfl, hlt, (Blk.alloc W _ _).keep g2 (fun h => h)⟩)
        first | (go_simp; done) | (go_simp; with_reducible rfl) | (go_simp; rfl)
      try simp only [Act.put, List.setIfInBounds_toArray, List.set_cons_zero, List.set_cons_succ]
      exact RelO.nil
    intro val w16 gW hF
    obtain ⟨h0, h1, h2, h3, h4, h5, h6, hT⟩ := hF
    have e0 : val 0 = rg f v54 := h0 _ (Frm.refl _ w16)
    have e1 : val 1 = rg fbc v74 := h1 _ (Frm.refl _ w16)
    have q2 : ∃ v', (val 2) = .tuple #[rg fl v', .int .i64 (el : Int)] ∧ OwnL w16 v' ll := h2 _ (Frm.refl _ w16)
    obtain ⟨v118, e2, o118⟩ := q2
    have e3 : val 3 = (val 2) := h3 _ (Frm.refl _ w16)
    have e4 : val 4 = tupAt (val 3) 0 := h4 _ (Frm.refl _ w16)
    have e5 : val 5 = tupAt (val 3) 1 := h5 _ (Frm.refl _ w16)
    have q6 : ∃ b, (val 6) = .pointer (some ⟨b, 0, none⟩) ∧ K ≤ b ∧ Blk w16 b 39 rz := h6 _ (Frm.refl _ w16)
    obtain ⟨B20, e6, hB20, bB20⟩ := q6
    clear hT h0 h1 h2 h3 h4 h5 h6
    simp only [aO, Act.put, List.setIfInBounds_toArray, List.set_cons_zero, List.set_cons_succ, Nat.reduceAdd]
    try simp only [e6]
    try simp only [e5]
    try simp only [e4]
    try simp only [e3]
    try simp only [e2]
    try simp only [e1]
    try simp only [e0]
    try simp only [tupAt]
    refine tail_reg1 (w := w15) fl v118 ll B20 (el : Int) rfl rfl rfl rfl rfl rfl rfl rfl rfl rfl rfl (D.trans gW) (Nat.le_trans HE.out hB20) o118 bB20 ?_
    intro w17 g16 H20
    try simp only [Act.put, List.setIfInBounds_toArray, List.set_cons_zero, List.set_cons_succ]
    refine hK _ _ ?_
    replace H7 := Hid.grow H7 g16
    replace H8 := Hid.grow H8 g16
    replace H9 := Hid.grow H9 g16
    replace H10 := Hid.grow H10 g16
    replace H12 := Hid.grow H12 g16
    replace H14 := Hid.grow H14 g16
    replace H16 := Hid.grow H16 g16
    replace H18 := Hid.grow H18 g16
    replace GG := GG.trans g16
    clear gW D hK HN HE g16 e0 e1 e2 e3 e4 e5 e6 o118 hB20 bB20
    go_upto_region 14 with fail
    rename_i hK
    obtain ⟨K, hK0⟩ : ∃ K, w17.heap.size = K := ⟨_, rfl⟩
    have HN : Hid (∀ W, Frm (fun _ => False) w17 W → K ≤ W.heap.size) := Lib.hid fun W g => hK0 ▸ g.size
    have HE : Hid (w17.heap.size ≤ K) := Lib.hid (Nat.le_of_eq hK0)
    clear hK0
    have D : Frm (fun _ => False) w17 w17 := Frm.refl _ _
    refine wp_region_textR 7 2 [[], [], [0, 1], [2], [2, 3], [2, 3], []] ri14M (ri14R g fab lab K v56 v62) rfl rfl rfl rfl (by kernel_rfl) (by kernel_rfl) (fun val => ?_) ?_
    · try simp only [Act.put, List.setIfInBounds_toArray, List.set_cons_zero, List.set_cons_succ]
      refine RelO.next (k' := 1) rfl (fun W gW hF => ?_) ?_
      focus
        exact OpOK.load (by rfl) _ rfl (by rfl) (load_reg (H10.out W (D.trans gW)).1) (fun W' _ => rfl)
      try simp only [Act.put, List.setIfInBounds_toArray, List.set_cons_zero, List.set_cons_succ]
      refine RelO.next (k' := 2) rfl (fun W gW hF => ?_) ?_
      focus
        exact OpOK.load (by rfl) _ rfl (by rfl) (load_reg (H8.out W (D.trans gW)).1) (fun W' _ => rfl)
      try simp only [Act.put, List.setIfInBounds_toArray, List.set_cons_zero, List.set_cons_succ]
      refine RelO.next (k' := 3) rfl (fun W gW hF => ?_) ?_
      focus
        obtain ⟨h0, h1, _⟩ := hF
        have e0 : val 0 = rg fab v62 := h0 _ (Frm.refl _ W)
        have e1 : val 1 = rg g v56 := h1 _ (Frm.refl _ W)
        try simp only [e1]
        try simp only [e0]
        try simp only [tupAt]
        refine OpOK.call (by rfl) ?_ ((JG.out W _ _ (H10.out W (D.trans gW)).2 (H8.out W (D.trans gW)).2).mono ?_)
        · first | (go_simp; done) | (go_simp; with_reducible rfl) | (go_simp; rfl)
        · rintro e W1 ⟨v', rfl, o', _, g'⟩
          exact ⟨_, rfl, g', fun W2 g2 => ⟨v', rfl, o'.keep g2 (fun _ _ h => h)⟩⟩
      try simp only [Act.put, List.setIfInBounds_toArray, List.set_cons_zero, List.set_cons_succ]
      refine RelO.next (k' := 4) rfl (fun W gW hF => ?_) ?_
      focus
        obtain ⟨h2, _⟩ := hF
        have q2 : ∃ v', (val 2) = .tuple #[rg fab v', .int .i64 0] ∧ OwnL W v' lab := h2 _ (Frm.refl _ W)
        obtain ⟨v124, e2, o124⟩ := q2
        try simp only [e2]
        try simp only [tupAt]
        refine OpOK.val (u := (val 2)) (by rfl) ?_ (fun W' _ => rfl)
        try simp only [e2]
        try simp only [tupAt]
        first | (go_simp; done) | (go_simp; with_reducible rfl) | (go_simp; rfl)
      try simp only [Act.put, List.setIfInBounds_toArray, List.set_cons_zero, List.set_cons_succ]
      refine RelO.next (k' := 5) rfl (fun W gW hF => ?_) ?_
      focus
        obtain ⟨h2, h3, _⟩ := hF
        have q2 : ∃ v', (val 2) = .tuple #[rg fab v', .int .i64 0] ∧ OwnL W v' lab := h2 _ (Frm.refl _ W)
        obtain ⟨v124, e2, o124⟩ := q2
        have e3 : val 3 = (val 2) := h3 _ (Frm.refl _ W)
        try simp only [e3]
        try simp only [e2]
        try simp only [tupAt]
        refine OpOK.val (u := tupAt (val 3) 0) (by rfl) ?_ (fun W' _ => rfl)
        try simp only [e3]
        try simp only [e2]
        try simp only [tupAt]
        first | (go_simp; done) | (go_simp; with_reducible rfl) | (go_simp; rfl)
      try simp only [Act.put, List.setIfInBounds_toArray, List.set_cons_zero, List.set_cons_succ]
      refine RelO.next (k' := 6) rfl (fun W gW hF => ?_) ?_
      focus
        obtain ⟨h2, h3, _⟩ := hF
        have q2 : ∃ v', (val 2) = .tuple #[rg fab v', .int .i64 0] ∧ OwnL W v' lab := h2 _ (Frm.refl _ W)
        obtain ⟨v124, e2, o124⟩ := q2
        have e3 : val 3 = (val 2) := h3 _ (Frm.refl _ W)
        try simp only [e3]
        try simp only [e2]
        try simp only [tupAt]
        refine OpOK.val (u := tupAt (val 3) 1) (by rfl) ?_ (fun W' _ => rfl)
        try simp only [e3]
        try simp only [e2]
        try simp only [tupAt]
        first | (go_simp; done) | (go_simp; with_reducible rfl) | (go_simp; rfl)
      try simp only [Act.put, List.setIfInBounds_toArray, List.set_cons_zero, List.set_cons_succ]
      refine RelO.next (k' := 7) rfl (fun W gW hF => ?_) ?_
      focus
        have hlt := HN.out W (D.trans gW)
        refine OpOK.made (W' := W.alloc (.cells rz 39)) (u := .pointer (some ⟨W.heap.size, 0, none⟩)) (by rfl) ?_ ((Frm.refl _ W).alloc _) (fun W2 g2 => ⟨W.heap.size, rfl, hlt, (Blk.alloc W _ _).keep g2 (fun h => h)⟩)
        first | (go_simp; done) | (go_simp; with_reducible rfl) | (go_simp; rfl)
      try simp only [Act.put, List.setIfInBounds_toArray, List.set_cons_zero, List.set_cons_succ]
      exact RelO.nil
    intro val w18 gW hF
    obtain ⟨h0, h1, h2, h3, h4, h5, h6, hT⟩ := hF
    have e0 : val 0 = rg fab v62 := h0 _ (Frm.refl _ w18)
    have e1 : val 1 = rg g v56 := h1 _ (Frm.refl _ w18)
    have q2 : ∃ v', (val 2) = .tuple #[rg fab v', .int .i64 0] ∧ OwnL w18 v' lab := h2 _ (Frm.refl _ w18)
    obtain ⟨v124, e2, o124⟩ := q2
    have e3 : val 3 = (val 2) := h3 _ (Frm.refl _ w18)
    have e4 : val 4 = tupAt (val 3) 0 := h4 _ (Frm.refl _ w18)
    have e5 : val 5 = tupAt (val 3) 1 := h5 _ (Frm.refl _ w18)
    have q6 : ∃ b, (val 6) = .pointer (some ⟨b, 0, none⟩) ∧ K ≤ b ∧ Blk w18 b 39 rz := h6 _ (Frm.refl _ w18)
    obtain ⟨B22, e6, hB22, bB22⟩ := q6
    clear hT h0 h1 h2 h3 h4 h5 h6
    simp only [aO, Act.put, List.setIfInBounds_toArray, List.set_cons_zero, List.set_cons_succ, Nat.reduceAdd]
    try simp only [e6]
    try simp only [e5]
    try simp only [e4]
    try simp only [e3]
    try simp only [e2]
    try simp only [e1]
    try simp only [e0]
    try simp only [tupAt]
    refine tail_reg1 (w := w17) fab v124 lab B22 0 rfl rfl rfl rfl rfl rfl rfl rfl rfl rfl rfl (D.trans gW) (Nat.le_trans HE.out hB22) o124 bB22 ?_
    intro w19 g18 H22
    try simp only [Act.put, List.setIfInBounds_toArray, List.set_cons_zero, List.set_cons_succ]
    refine hK _ _ ?_
    replace H7 := Hid.grow H7 g18
    replace H8 := Hid.grow H8 g18
    replace H9 := Hid.grow H9 g18
    replace H10 := Hid.grow H10 g18
    replace H12 := Hid.grow H12 g18
    replace H14 := Hid.grow H14 g18
    replace H16 := Hid.grow H16 g18
    replace H18 := Hid.grow H18 g18
    replace H20 := Hid.grow H20 g18
    replace GG := GG.trans g18
    clear gW D hK HN HE g18 e0 e1 e2 e3 e4 e5 e6 o124 hB22 bB22
    go_upto_region 15 with fail
    rename_i hK
    have D : Frm (fun _ => False) w19 w19 := Frm.refl _ _
    refine wp_region_textR 26 0 [[], [], [0, 1], [2], [3], [3], [3, 4, 5], [3, 6], [7], [8], [8, 9], [8, 10], [11], [12], [12], [12, 13, 14], [12, 15], [16], [17], [17, 18], [17, 19], [17, 20], [21], [22], [22, 23], [24]] ri15M (ri15R fab fl el v62 v112 v118 v124) rfl rfl rfl rfl (by kernel_rfl) (by kernel_rfl) (fun val => ?_) ?_
    · try dsimp only
      refine RelO.next (k' := 1) rfl (fun W gW hF => ?_) ?_
      focus
        refine OpOK.val (u := .int .i64 (el : Int)) (by rfl) ?_ (fun W' _ => rfl)
        try simp only [tupAt]
        first | (go_simp; done) | (go_simp; with_reducible rfl) | (go_simp; rfl)
      try simp only [Act.put, List.setIfInBounds_toArray, List.set_cons_zero, List.set_cons_succ]
      refine RelO.next (k' := 2) rfl (fun W gW hF => ?_) ?_
      focus
        refine OpOK.val (u := .int .i64 (el : Int)) (by rfl) ?_ (fun W' _ => rfl)
        try simp only [tupAt]
        first | (go_simp; done) | (go_simp; with_reducible rfl) | (go_simp; rfl)
      try simp only [Act.put, List.setIfInBounds_toArray, List.set_cons_zero, List.set_cons_succ]
      refine RelO.next (k' := 3) rfl (fun W gW hF => ?_) ?_
      focus
        obtain ⟨h0, h1, _⟩ := hF
        have e0 : val 0 = .int .i64 (el : Int) := h0 _ (Frm.refl _ W)
        have e1 : val 1 = .int .i64 (el : Int) := h1 _ (Frm.refl _ W)
        try simp only [e1]
        try simp only [e0]
        try simp only [tupAt]
        refine OpOK.val (u := .bool true) (by rfl) ?_ (fun W' _ => rfl)
        try simp only [e1]
        try simp only [e0]
        try simp only [tupAt]
        first | (go_simp; done) | (go_simp; with_reducible rfl) | (go_simp; rfl)
      try simp only [Act.put, List.setIfInBounds_toArray, List.set_cons_zero, List.set_cons_succ]
      refine RelO.next (k' := 4) rfl (fun W gW hF => ?_) ?_
      focus
        obtain ⟨h2, _⟩ := hF
        have e2 : val 2 = .bool true := h2 _ (Frm.refl _ W)
        try simp only [e2]
        try simp only [tupAt]
        refine OpOK.val (u := .bool true) (by rfl) ?_ (fun W' _ => rfl)
        try simp only [e2]
        try simp only [tupAt]
        first | (go_simp; done) | (go_simp; with_reducible rfl) | (go_simp; rfl)
      try simp only [Act.put, List.setIfInBounds_toArray, List.set_cons_zero, List.set_cons_succ]
      refine RelO.next (k' := 5) rfl (fun W gW hF => ?_) ?_
      focus
        obtain ⟨h3, _⟩ := hF
        have e3 : val 3 = .bool true := h3 _ (Frm.refl _ W)
        try simp only [e3]
        try simp only [tupAt]
        exact OpOK.load (by rfl) _ rfl (by rfl) (load_reg (H18.out W (D.trans gW)).1) (fun W' _ => rfl)
      try simp only [Act.put, List.setIfInBounds_toArray, List.set_cons_zero, List.set_cons_succ]
      refine RelO.next (k' := 6) rfl (fun W gW hF => ?_) ?_
      focus
        obtain ⟨h3, _⟩ := hF
        have e3 : val 3 = .bool true := h3 _ (Frm.refl _ W)
        try simp only [e3]
        try simp only [tupAt]
        exact OpOK.load (by rfl) _ rfl (by rfl) (load_reg (H20.out W (D.trans gW)).1) (fun W' _ => rfl)
      try simp only [Act.put, List.setIfInBounds_toArray, List.set_cons_zero, List.set_cons_succ]
      refine RelO.next (k' := 7) rfl (fun W gW hF => ?_) ?_
      focus
        obtain ⟨h3, h4, h5, _⟩ := hF
        have e3 : val 3 = .bool true := h3 _ (Frm.refl _ W)
        have e4 : val 4 = rg fl v112 := h4 _ (Frm.refl _ W)
        have e5 : val 5 = rg fl v118 := h5 _ (Frm.refl _ W)
        try simp only [e5]
        try simp only [e4]
        try simp only [e3]
        try simp only [tupAt]
        refine OpOK.call (by rfl) ?_ ((equal_any fl fl v112 v118 ll ll W (H18.out W (D.trans gW)).2 (H20.out W (D.trans gW)).2).mono ?_)
        · first | (go_simp; done) | (go_simp; with_reducible rfl) | (go_simp; rfl)
        · rintro e W1 ⟨he, g1⟩
          rw [eq_selfR] at he
          subst he
          exact ⟨_, rfl, g1, fun W2 _ => rfl⟩
      try simp only [Act.put, List.setIfInBounds_toArray, List.set_cons_zero, List.set_cons_succ]
      refine RelO.next (k' := 8) rfl (fun W gW hF => ?_) ?_
      focus
        obtain ⟨h3, h6, _⟩ := hF
        have e3 : val 3 = .bool true := h3 _ (Frm.refl _ W)
        have e6 : val 6 = .bool true := h6 _ (Frm.refl _ W)
        try simp only [e6]
        try simp only [e3]
        try simp only [tupAt]
        refine OpOK.val (u := .bool true) (by rfl) ?_ (fun W' _ => rfl)
        try simp only [e6]
        try simp only [e3]
        try simp only [tupAt]
        first | (go_simp; done) | (go_simp; with_reducible rfl) | (go_simp; rfl)
      try simp only [Act.put, List.setIfInBounds_toArray, List.set_cons_zero, List.set_cons_succ]
      refine RelO.next (k' := 9) rfl (fun W gW hF => ?_) ?_
      focus
        obtain ⟨h7, _⟩ := hF
        have e7 : val 7 = .bool true := h7 _ (Frm.refl _ W)
        try simp only [e7]
        try simp only [tupAt]
        refine OpOK.val (u := .bool true) (by rfl) ?_ (fun W' _ => rfl)
        try simp only [e7]
        try simp only [tupAt]
        first | (go_simp; done) | (go_simp; with_reducible rfl) | (go_simp; rfl)
      try simp only [Act.put, List.setIfInBounds_toArray, List.set_cons_zero, List.set_cons_succ]
      refine RelO.next (k' := 10) rfl (fun W gW hF => ?_) ?_
      focus
        obtain ⟨h8, _⟩ := hF
        have e8 : val 8 = .bool true := h8 _ (Frm.refl _ W)
        try simp only [e8]
        try simp only [tupAt]
        refine OpOK.val (u := .int .i64 0) (by rfl) ?_ (fun W' _ => rfl)
        try simp only [e8]
        try simp only [tupAt]
        first | (go_simp; done) | (go_simp; with_reducible rfl) | (go_simp; rfl)
      try simp only [Act.put, List.setIfInBounds_toArray, List.set_cons_zero, List.set_cons_succ]
      refine RelO.next (k' := 11) rfl (fun W gW hF => ?_) ?_
      focus
        obtain ⟨h8, h9, _⟩ := hF
        have e8 : val 8 = .bool true := h8 _ (Frm.refl _ W)
        have e9 : val 9 = .int .i64 0 := h9 _ (Frm.refl _ W)
        try simp only [e9]
        try simp only [e8]
        try simp only [tupAt]
        refine OpOK.val (u := .bool true) (by rfl) ?_ (fun W' _ => rfl)
        try simp only [e9]
        try simp only [e8]
        try simp only [tupAt]
        first | (go_simp; done) | (go_simp; with_reducible rfl) | (go_simp; rfl)
      try simp only [Act.put, List.setIfInBounds_toArray, List.set_cons_zero, List.set_cons_succ]
      refine RelO.next (k' := 12) rfl (fun W gW hF => ?_) ?_
      focus
        obtain ⟨h8, h10, _⟩ := hF
        have e8 : val 8 = .bool true := h8 _ (Frm.refl _ W)
        have e10 : val 10 = .bool true := h10 _ (Frm.refl _ W)
        try simp only [e10]
        try simp only [e8]
        try simp only [tupAt]
        refine OpOK.val (u := .bool true) (by rfl) ?_ (fun W' _ => rfl)
        try simp only [e10]
        try simp only [e8]
        try simp only [tupAt]
        first | (go_simp; done) | (go_simp; with_reducible rfl) | (go_simp; rfl)
      try simp only [Act.put, List.setIfInBounds_toArray, List.set_cons_zero, List.set_cons_succ]
      refine RelO.next (k' := 13) rfl (fun W gW hF => ?_) ?_
      focus
        obtain ⟨h11, _⟩ := hF
        have e11 : val 11 = .bool true := h11 _ (Frm.refl _ W)
        try simp only [e11]
        try simp only [tupAt]
        refine OpOK.val (u := .bool true) (by rfl) ?_ (fun W' _ => rfl)
        try simp only [e11]
        try simp only [tupAt]
        first | (go_simp; done) | (go_simp; with_reducible rfl) | (go_simp; rfl)
      try simp only [Act.put, List.setIfInBounds_toArray, List.set_cons_zero, List.set_cons_succ]
      refine RelO.next (k' := 14) rfl (fun W gW hF => ?_) ?_
      focus
        obtain ⟨h12, _⟩ := hF
        have e12 : val 12 = .bool true := h12 _ (Frm.refl _ W)
        try simp only [e12]
        try simp only [tupAt]
        exact OpOK.load (by rfl) _ rfl (by rfl) (load_reg (H22.out W (D.trans gW)).1) (fun W' _ => rfl)
      try simp only [Act.put, List.setIfInBounds_toArray, List.set_cons_zero, List.set_cons_succ]
      refine RelO.next (k' := 15) rfl (fun W gW hF => ?_) ?_
      focus
        obtain ⟨h12, _⟩ := hF
        have e12 : val 12 = .bool true := h12 _ (Frm.refl _ W)
        try simp only [e12]
        try simp only [tupAt]
        exact OpOK.load (by rfl) _ rfl (by rfl) (load_reg (H10.out W (D.trans gW)).1) (fun W' _ => rfl)
      try simp only [Act.put, List.setIfInBounds_toArray, List.set_cons_zero, List.set_cons_succ]
      refine RelO.next (k' := 16) rfl (fun W gW hF => ?_) ?_
      focus
        obtain ⟨h12, h13, h14, _⟩ := hF
        have e12 : val 12 = .bool true := h12 _ (Frm.refl _ W)
        have e13 : val 13 = rg fab v124 := h13 _ (Frm.refl _ W)
        have e14 : val 14 = rg fab v62 := h14 _ (Frm.refl _ W)
        try simp only [e14]
        try simp only [e13]
        try simp only [e12]
        try simp only [tupAt]
        refine OpOK.call (by rfl) ?_ ((equal_any fab fab v124 v62 lab lab W (H22.out W (D.trans gW)).2 (H10.out W (D.trans gW)).2).mono ?_)
        · first | (go_simp; done) | (go_simp; with_reducible rfl) | (go_simp; rfl)
        · rintro e W1 ⟨he, g1⟩
          rw [eq_selfR] at he
          subst he
          exact ⟨_, rfl, g1, fun W2 _ => rfl⟩
      try simp only [Act.put, List.setIfInBounds_toArray, List.set_cons_zero, List.set_cons_succ]
      refine RelO.next (k' := 17) rfl (fun W gW hF => ?_) ?_
      focus
        obtain ⟨h12, h15, _⟩ := hF
        have e12 : val 12 = .bool true := h12 _ (Frm.refl _ W)
        have e15 : val 15 = .bool true := h15 _ (Frm.refl _ W)
        try simp only [e15]
        try simp only [e12]
        try simp only [tupAt]
        refine OpOK.val (u := .bool true) (by rfl) ?_ (fun W' _ => rfl)
        try simp only [e15]
        try simp only [e12]
        try simp only [tupAt]
        first | (go_simp; done) | (go_simp; with_reducible rfl) | (go_simp; rfl)
      try simp only [Act.put, List.setIfInBounds_toArray, List.set_cons_zero, List.set_cons_succ]
      refine RelO.next (k' := 18) rfl (fun W gW hF => ?_) ?_
      focus
        obtain ⟨h16, _⟩ := hF
        have e16 : val 16 = .bool true := h16 _ (Frm.refl _ W)
        try simp only [e16]
        try simp only [tupAt]
        refine OpOK.val (u := .bool true) (by rfl) ?_ (fun W' _ => rfl)
        try simp only [e16]
        try simp only [tupAt]
        first | (go_simp; done) | (go_simp; with_reducible rfl) | (go_simp; rfl)
      try simp only [Act.put, List.setIfInBounds_toArray, List.set_cons_zero, List.set_cons_succ]
      refine RelO.next (k' := 19) rfl (fun W gW hF => ?_) ?_
      focus
        obtain ⟨h17, _⟩ := hF
        have e17 : val 17 = .bool true := h17 _ (Frm.refl _ W)
        try simp only [e17]
        try simp only [tupAt]
        exact OpOK.load (by rfl) _ rfl (by rfl) (load_reg (H10.out W (D.trans gW)).1) (fun W' _ => rfl)
      try simp only [Act.put, List.setIfInBounds_toArray, List.set_cons_zero, List.set_cons_succ]
      refine RelO.next (k' := 20) rfl (fun W gW hF => ?_) ?_
      focus
        obtain ⟨h17, h18, _⟩ := hF
        have e17 : val 17 = .bool true := h17 _ (Frm.refl _ W)
        have e18 : val 18 = rg fab v62 := h18 _ (Frm.refl _ W)
        try simp only [e18]
        try simp only [e17]
        try simp only [tupAt]
        refine OpOK.call (by rfl) ?_ ((check_any fab v62 lab W HFab.out (H10.out W (D.trans gW)).2 (by have := HLab.out; omega)).mono ?_)
        · first | (go_simp; done) | (go_simp; with_reducible rfl) | (go_simp; rfl)
        · rintro e W1 ⟨he, g1⟩
          rw [HCK.out] at he
          subst he
          exact ⟨_, rfl, g1, fun W2 _ => rfl⟩
      try simp only [Act.put, List.setIfInBounds_toArray, List.set_cons_zero, List.set_cons_succ]
      refine RelO.next (k' := 21) rfl (fun W gW hF => ?_) ?_
      focus
        obtain ⟨h17, h19, _⟩ := hF
        have e17 : val 17 = .bool true := h17 _ (Frm.refl _ W)
        have e19 : val 19 = .int .i64 0 := h19 _ (Frm.refl _ W)
        try simp only [e19]
        try simp only [e17]
        try simp only [tupAt]
        refine OpOK.val (u := .bool true) (by rfl) ?_ (fun W' _ => rfl)
        try simp only [e19]
        try simp only [e17]
        try simp only [tupAt]
        first | (go_simp; done) | (go_simp; with_reducible rfl) | (go_simp; rfl)
      try simp only [Act.put, List.setIfInBounds_toArray, List.set_cons_zero, List.set_cons_succ]
      refine RelO.next (k' := 22) rfl (fun W gW hF => ?_) ?_
      focus
        obtain ⟨h17, h20, _⟩ := hF
        have e17 : val 17 = .bool true := h17 _ (Frm.refl _ W)
        have e20 : val 20 = .bool true := h20 _ (Frm.refl _ W)
        try simp only [e20]
        try simp only [e17]
        try simp only [tupAt]
        refine OpOK.val (u := .bool true) (by rfl) ?_ (fun W' _ => rfl)
        try simp only [e20]
        try simp only [e17]
        try simp only [tupAt]
        first | (go_simp; done) | (go_simp; with_reducible rfl) | (go_simp; rfl)
      try simp only [Act.put, List.setIfInBounds_toArray, List.set_cons_zero, List.set_cons_succ]
      refine RelO.next (k' := 23) rfl (fun W gW hF => ?_) ?_
      focus
        obtain ⟨h21, _⟩ := hF
        have e21 : val 21 = .bool true := h21 _ (Frm.refl _ W)
        try simp only [e21]
        try simp only [tupAt]
        refine OpOK.val (u := .bool true) (by rfl) ?_ (fun W' _ => rfl)
        try simp only [e21]
        try simp only [tupAt]
        first | (go_simp; done) | (go_simp; with_reducible rfl) | (go_simp; rfl)
      try simp only [Act.put, List.setIfInBounds_toArray, List.set_cons_zero, List.set_cons_succ]
      refine RelO.next (k' := 24) rfl (fun W gW hF => ?_) ?_
      focus
        obtain ⟨h22, _⟩ := hF
        have e22 : val 22 = .bool true := h22 _ (Frm.refl _ W)
        try simp only [e22]
        try simp only [tupAt]
        refine OpOK.call (by rfl) ?_ ((sworks_any W).mono ?_)
        · first | (go_simp; done) | (go_simp; with_reducible rfl) | (go_simp; rfl)
        · rintro e W1 ⟨he, g1⟩
          subst he
          exact ⟨_, rfl, g1, fun W2 _ => rfl⟩
      try simp only [Act.put, List.setIfInBounds_toArray, List.set_cons_zero, List.set_cons_succ]
      refine RelO.next (k' := 25) rfl (fun W gW hF => ?_) ?_
      focus
        obtain ⟨h22, h23, _⟩ := hF
        have e22 : val 22 = .bool true := h22 _ (Frm.refl _ W)
        have e23 : val 23 = .bool true := h23 _ (Frm.refl _ W)
        try simp only [e23]
        try simp only [e22]
        try simp only [tupAt]
        refine OpOK.val (u := .bool true) (by rfl) ?_ (fun W' _ => rfl)
        try simp only [e23]
        try simp only [e22]
        try simp only [tupAt]
        first | (go_simp; done) | (go_simp; with_reducible rfl) | (go_simp; rfl)
      try simp only [Act.put, List.setIfInBounds_toArray, List.set_cons_zero, List.set_cons_succ]
      refine RelO.next (k' := 26) rfl (fun W gW hF => ?_) ?_
      focus
        obtain ⟨h24, _⟩ := hF
        have e24 : val 24 = .bool true := h24 _ (Frm.refl _ W)
        try simp only [e24]
        try simp only [tupAt]
        refine OpOK.val (u := .bool true) (by rfl) ?_ (fun W' _ => rfl)
        try simp only [e24]
        try simp only [tupAt]
        first | (go_simp; done) | (go_simp; with_reducible rfl) | (go_simp; rfl)
      try simp only [Act.put, List.setIfInBounds_toArray, List.set_cons_zero, List.set_cons_succ]
      exact RelO.nil
    intro val w20 gW hF
    obtain ⟨h0, h1, h2, h3, h4, h5, h6, h7, h8, h9, h10, h11, h12, h13, h14, h15, h16, h17, h18, h19, h20, h21, h22, h23, h24, h25, hT⟩ := hF
    have e0 : val 0 = .int .i64 (el : Int) := h0 _ (Frm.refl _ w20)
    have e1 : val 1 = .int .i64 (el : Int) := h1 _ (Frm.refl _ w20)
    have e2 : val 2 = .bool true := h2 _ (Frm.refl _ w20)
    have e3 : val 3 = .bool true := h3 _ (Frm.refl _ w20)
    have e4 : val 4 = rg fl v112 := h4 _ (Frm.refl _ w20)
    have e5 : val 5 = rg fl v118 := h5 _ (Frm.refl _ w20)
    have e6 : val 6 = .bool true := h6 _ (Frm.refl _ w20)
    have e7 : val 7 = .bool true := h7 _ (Frm.refl _ w20)
    have e8 : val 8 = .bool true := h8 _ (Frm.refl _ w20)
    have e9 : val 9 = .int .i64 0 := h9 _ (Frm.refl _ w20)
    have e10 : val 10 = .bool true := h10 _ (Frm.refl _ w20)
    have e11 : val 11 = .bool true := h11 _ (Frm.refl _ w20)
    have e12 : val 12 = .bool true := h12 _ (Frm.refl _ w20)
    have e13 : val 13 = rg fab v124 := h13 _ (Frm.refl _ w20)
    have e14 : val 14 = rg fab v62 := h14 _ (Frm.refl _ w20)
    have e15 : val 15 = .bool true := h15 _ (Frm.refl _ w20)
    have e16 : val 16 = .bool true := h16 _ (Frm.refl _ w20)
    have e17 : val 17 = .bool true := h17 _ (Frm.refl _ w20)
    have e18 : val 18 = rg fab v62 := h18 _ (Frm.refl _ w20)
    have e19 : val 19 = .int .i64 0 := h19 _ (Frm.refl _ w20)
    have e20 : val 20 = .bool true := h20 _ (Frm.refl _ w20)
    have e21 : val 21 = .bool true := h21 _ (Frm.refl _ w20)
    have e22 : val 22 = .bool true := h22 _ (Frm.refl _ w20)
    have e23 : val 23 = .bool true := h23 _ (Frm.refl _ w20)
    have e24 : val 24 = .bool true := h24 _ (Frm.refl _ w20)
    have e25 : val 25 = .bool true := h25 _ (Frm.refl _ w20)
    clear hT h0 h1 h2 h3 h4 h5 h6 h7 h8 h9 h10 h11 h12 h13 h14 h15 h16 h17 h18 h19 h20 h21 h22 h23 h24 h25
    simp only [aO, Act.put, List.setIfInBounds_toArray, List.set_cons_zero, List.set_cons_succ, Nat.reduceAdd]
    try simp only [e25]
    try simp only [e24]
    try simp only [e23]
    try simp only [e22]
    try simp only [e21]
    try simp only [e20]
    try simp only [e19]
    try simp only [e18]
    try simp only [e17]
    try simp only [e16]
    try simp only [e15]
    try simp only [e14]
    try simp only [e13]
    try simp only [e12]
    try simp only [e11]
    try simp only [e10]
    try simp only [e9]
    try simp only [e8]
    try simp only [e7]
    try simp only [e6]
    try simp only [e5]
    try simp only [e4]
    try simp only [e3]
    try simp only [e2]
    try simp only [e1]
    try simp only [e0]
    try simp only [tupAt]
    refine wpTail.done ?_
    refine hK _ _ ?_
    have g20 := D.trans gW
    replace H7 := Hid.grow H7 g20
    replace H8 := Hid.grow H8 g20
    replace H9 := Hid.grow H9 g20
    replace H10 := Hid.grow H10 g20
    replace H12 := Hid.grow H12 g20
    replace H14 := Hid.grow H14 g20
    replace H16 := Hid.grow H16 g20
    replace H18 := Hid.grow H18 g20
    replace H20 := Hid.grow H20 g20
    replace H22 := Hid.grow H22 g20
    replace GG := GG.trans g20
    clear gW D hK g20 e0 e1 e2 e3 e4 e5 e6 e7 e8 e9 e10 e11 e12 e13 e14 e15 e16 e17 e18 e19 e20 e21 e22 e23 e24 e25 
    go_wp2_with fail
    go_ret
    exact ⟨rfl, GG⟩
end Go.Proofs.Ytmdmkcofafhlcaa

