/- A line as a function of its acts, and in memory: itself, its device. No condition. -/
import Derived.Test.YtdhnidmeeocajaaGreatDvF
import Derived.Test.YtdhnidmeeocajaaGreatDvI
import Derived.Test.YtdhnidmeeocajaaGreatDvJ
import Derived.LaidEqlPtr
import Derived.Lib.AppendZeros
section
namespace Go.Proofs.YtdhnidmeeocajaaGreat
open Go.RowKit

structure LV where
  D : DV
  cut : Int
  cs : List Int
  acts : Nat
  down : Bool
  /-- where its choices lie -/
  P : Nat → Prop
namespace LV
/-- Is the first choice odd? -/
def odd (L : LV) : Bool := decide (∃ q, L.cs.head? = some q ∧ q % 2 ≠ 0)
def fall (L : LV) : LV := { L with D := L.D.crash L.cs, down := true }
def count (L : LV) : LV := { L with acts := L.acts + 1 }
/-- What an act leaves, which makes the device D'. -/
def act (L : LV) (D' : DV) : LV := if L.down then L else if (L.acts : Int) ≠ L.cut then { L.count with D := D' } else if L.odd then ({ L.count with D := D' } : LV).fall else L.count.fall
/-- What it is told, if the device told code. -/
def code (L : LV) (c : Nat) : Nat := if L.down ∨ (L.acts : Int) = L.cut then 8 else c
def blow (L : LV) : LV := if L.down then L else L.fall
def new (D : DV) (cut : Int) (cs : List Int) (P : Nat → Prop := fun _ => True) : LV := ⟨D, cut, cs, 0, false, P⟩
structure ok (L : LV) : Prop where
  cut : Z64 L.cut
  cs : ∀ z ∈ L.cs, Z64 z
  few : L.cs.length ≤ 1000000
theorem act_cs (L : LV) (D' : DV) : (L.act D').cs = L.cs ∧ (L.act D').cut = L.cut := by
  unfold act
  split
  · exact ⟨rfl, rfl⟩
  split
  · exact ⟨rfl, rfl⟩
  split <;> exact ⟨rfl, rfl⟩
theorem ok.act {L : LV} (h : L.ok) (D' : DV) : (L.act D').ok := ⟨by rw [(act_cs L D').2]; exact h.cut, by rw [(act_cs L D').1]; exact h.cs, by rw [(act_cs L D').1]; exact h.few⟩
theorem ok.blow {L : LV} (h : L.ok) : L.blow.ok := by
  unfold LV.blow
  split
  · exact h
  · exact ⟨h.cut, h.cs, h.few⟩
theorem ok.count {L : LV} (h : L.ok) : L.count.ok := ⟨h.cut, h.cs, h.few⟩
end LV

/-- The line at block l: its device at b, with the maps f and x. -/
structure LnC (w : World) (l b f x : Nat) (cv : Value) (L : LV) : Prop where
  blk : Blk w l 80 #[.pointer (some ⟨l, 0, none⟩), .pointer (some ⟨b, 0, none⟩), .int .i64 L.cut, cv, .int .i64 (L.acts : Nat), .bool L.down]
  dev : DevM w b f x L.D
  lb : l ≠ b
  lf : l ≠ f
  lx : l ≠ x
  zs : L.down = false → Zs w cv L.cs
  za : L.down = false → L.cs.length = 0 ∨ ∀ g, blkOf cv = some g → g ≠ f ∧ g ≠ x ∧ g ≠ l ∧ L.P g
  ok : L.ok
def LnM (w : World) (l b f x : Nat) (L : LV) : Prop := ∃ cv, LnC w l b f x cv L
section
variable {w w' : World} {l b f x : Nat} {cv : Value} {L : LV}
theorem LnC.keep {X : Nat → Prop} (h : LnC w l b f x cv L) (hf : Frm X w w') (h0 : ¬ X l) (h1 : ¬ X b) (h2 : ¬ X f) (h3 : ¬ X x) (h4 : L.down = false → L.cs.length = 0 ∨ ∀ g, blkOf cv = some g → ¬ X g) : LnC w' l b f x cv L :=
  ⟨h.blk.keep hf h0, h.dev.keep hf h1 h2 h3, h.lb, h.lf, h.lx, fun e => (h.zs e).keepN hf (h4 e), h.za, h.ok⟩
theorem LnM.keepF (h : LnM w l b f x L) (hf : Frm (fun _ => False) w w') : LnM w' l b f x L := by
  obtain ⟨cv, h⟩ := h
  exact ⟨cv, h.keep hf (fun h => h) (fun h => h) (fun h => h) (fun h => h) fun _ => .inr fun _ _ h => h⟩
theorem LnM.lt (h : LnM w l b f x L) : l < w.heap.size ∧ b < w.heap.size ∧ f < w.heap.size ∧ x < w.heap.size := by
  obtain ⟨cv, h⟩ := h
  exact ⟨h.blk.lt, h.dev.lt⟩
theorem LnM.dev (h : LnM w l b f x L) : DevM w b f x L.D := by
  obtain ⟨cv, h⟩ := h
  exact h.dev
theorem LnM.ok (h : LnM w l b f x L) : L.ok := by
  obtain ⟨cv, h⟩ := h
  exact h.ok
theorem LnM.self (h : LnM w l b f x L) : w.cell? ⟨l, 0, none⟩ = some (.pointer (some ⟨l, 0, none⟩)) := by
  obtain ⟨cv, h⟩ := h
  exact h.blk.cell 0 rfl
theorem LnM.d (h : LnM w l b f x L) : w.cell? ⟨l, 1, none⟩ = some (.pointer (some ⟨b, 0, none⟩)) := by
  obtain ⟨cv, h⟩ := h
  exact h.blk.cell 1 rfl
theorem LnM.cut (h : LnM w l b f x L) : w.cell? ⟨l, 2, none⟩ = some (.int .i64 L.cut) := by
  obtain ⟨cv, h⟩ := h
  exact h.blk.cell 2 rfl
theorem LnM.acts (h : LnM w l b f x L) : w.cell? ⟨l, 4, none⟩ = some (.int .i64 (L.acts : Nat)) := by
  obtain ⟨cv, h⟩ := h
  exact h.blk.cell 4 rfl
theorem LnM.down (h : LnM w l b f x L) : w.cell? ⟨l, 5, none⟩ = some (.bool L.down) := by
  obtain ⟨cv, h⟩ := h
  exact h.blk.cell 5 rfl
theorem LnM.free (h : LnM w l b f x L) (i : Nat) : w.frozen? ⟨l, i, none⟩ = false := by
  obtain ⟨cv, h⟩ := h
  exact h.blk.free i
/-- The device did something. -/
theorem LnM.turn {D' : DV} (h : LnM w l b f x L) (hd : DevM w' b f x D') (hf : Frm (fun k => k = f ∨ k = x) w w') : LnM w' l b f x { L with D := D' } := by
  obtain ⟨cv, h⟩ := h
  exact ⟨cv, h.blk.keep hf (by have := h.lf; have := h.lx; omega), hd, h.lb, h.lf, h.lx, (fun e => (h.zs e).keepN hf ((h.za e).imp id fun q g hg hX => by have := q g hg; omega)), h.za, ⟨h.ok.cut, h.ok.cs, h.ok.few⟩⟩
/-- One act more. -/
theorem LnM.count (h : LnM w l b f x L) : LnM (w.setCell ⟨l, 4, none⟩ (.int .i64 ((L.acts + 1 : Nat) : Int))) l b f x L.count := by
  obtain ⟨cv, h⟩ := h
  have g : Frm (· = l) w (w.setCell ⟨l, 4, none⟩ (.int .i64 ((L.acts + 1 : Nat) : Int))) := (Frm.refl (· = l) w).setCell (fun _ => rfl) _
  have hb := h.blk.set 4 (.int .i64 ((L.acts + 1 : Nat) : Int))
  exact ⟨cv, hb, h.dev.keep g (Ne.symm h.lb) (Ne.symm h.lf) (Ne.symm h.lx), h.lb, h.lf, h.lx, (fun e => (h.zs e).keepN g ((h.za e).imp id fun q k hk hX => by have := q k hk; omega)), h.za, h.ok.count⟩
/-- It is cut. -/
theorem LnM.cutDown (h : LnM w l b f x L) : LnM ((w.setCell ⟨l, 5, none⟩ (.bool true)).setCell ⟨l, 3, none⟩ (.slice none 0 0)) l b f x { L with down := true } := by
  obtain ⟨cv, h⟩ := h
  have g : Frm (· = l) w ((w.setCell ⟨l, 5, none⟩ (.bool true)).setCell ⟨l, 3, none⟩ (.slice none 0 0)) := ((Frm.refl (· = l) w).setCell (fun _ => rfl) _).setCell (fun _ => rfl) _
  have hb := (h.blk.set 5 (.bool true)).set 3 (.slice none 0 0)
  exact ⟨_, hb, h.dev.keep g (Ne.symm h.lb) (Ne.symm h.lf) (Ne.symm h.lx), h.lb, h.lf, h.lx, nofun, nofun, ⟨h.ok.cut, h.ok.cs, h.ok.few⟩⟩
/-- Its choices lie where there was memory. -/
theorem LnM.low (h : LnM w l b f x L) : LnM w l b f x { L with P := fun g => L.P g ∧ g < w.heap.size } := by
  obtain ⟨cv, h⟩ := h
  refine ⟨cv, h.blk, h.dev, h.lb, h.lf, h.lx, h.zs, (fun e => ?_), ⟨h.ok.cut, h.ok.cs, h.ok.few⟩⟩
  rcases h.za e with h1 | h1
  · exact .inl h1
  rcases (h.zs e).low with h2 | h2
  · exact .inl h2
  · exact .inr fun g hg => ⟨(h1 g hg).1, (h1 g hg).2.1, (h1 g hg).2.2.1, (h1 g hg).2.2.2, h2 g hg⟩
/-- What others write is not there. -/
theorem LnM.keep {X : Nat → Prop} (h : LnM w l b f x L) (hf : Frm X w w') (h0 : ¬ X l) (h1 : ¬ X b) (h2 : ¬ X f) (h3 : ¬ X x) (h4 : L.cs.length = 0 ∨ ∀ g, L.P g → ¬ X g) : LnM w' l b f x L := by
  obtain ⟨cv, h⟩ := h
  refine ⟨cv, h.keep hf h0 h1 h2 h3 fun e => ?_⟩
  rcases h4 with h4 | h4
  · exact .inl h4
  · exact (h.za e).imp id fun q g hg => h4 g (q g hg).2.2.2
end
end Go.Proofs.YtdhnidmeeocajaaGreat
end
section
namespace Go.Proofs.YtdhnidmeeocajaaGreat
open Go.RowKit

theorem ln_same (w : World) (a : Addr) : (binOp .eql 32 (.pointer (some a)) (.pointer (some a))).run Tryz.prog w = .ok (.bool true) w := by
  obtain ⟨j, hj⟩ := Option.isSome_iff_exists.1 (show (Tryz.prog.info? 80).isSome = true by kernel_rfl)
  exact run_eql_ptr_same w a Tryz.underlying32 hj
/-- There is no line: nil, or one that New did not return. -/
def NoLn (p : Value) (w : World) : Prop := p = .pointer none ∨ ∃ b, p = .pointer (some ⟨b, 0, none⟩) ∧ w.cell? ⟨b, 0, none⟩ = some (.pointer none)

set_option maxHeartbeats 400000 in
theorem lmade_any (l b f x : Nat) (L : LV) (w : World) (h : LnM w l b f x L) :
    Calls Tryz.prog 112 #[.pointer (some ⟨l, 0, none⟩)] w fun e w' => e = .returned (.bool true) ∧ w = w' := by
  have c0 := h.self
  have hq := ln_same
  clear h
  go_enter Tryz.func112, Tryz.ntmps112
  go_wp2
  go_ret
  exact ⟨rfl, rfl⟩
set_option maxHeartbeats 1000000 in
theorem lcheck_any (l b f x : Nat) (L : LV) (w : World) (h : LnM w l b f x L) :
    Calls Tryz.prog 81 #[.pointer (some ⟨l, 0, none⟩)] w fun e w' => e = .returned (.int .i64 (if L.down then 8 else 0)) ∧ w = w' := by
  have c5 := h.down
  have HM := Lib.hid (lmade_any l b f x L w h)
  clear h
  cases hd : L.down with
  | true =>
    rw [hd] at c5
    clear hd
    go_enter Tryz.func81, Tryz.ntmps81
    go_wp2_with fail
    refine HM.out.mono ?_
    rintro e w1 ⟨rfl, rfl⟩
    go_wp2_with fail
    go_ret
    exact ⟨rfl, rfl⟩
  | false =>
    rw [hd] at c5
    clear hd
    go_enter Tryz.func81, Tryz.ntmps81
    go_wp2_with fail
    refine HM.out.mono ?_
    rintro e w1 ⟨rfl, rfl⟩
    go_wp2_with fail
    go_ret
    exact ⟨rfl, rfl⟩
set_option maxHeartbeats 1000000 in
theorem ldown_any (l b f x : Nat) (L : LV) (w : World) (h : LnM w l b f x L) :
    Calls Tryz.prog 53 #[.pointer (some ⟨l, 0, none⟩)] w fun e w' => e = .returned (.bool L.down) ∧ w = w' := by
  have HC := lcheck_any l b f x L w h
  clear h
  cases hd : L.down with
  | true =>
    rw [hd] at HC
    have HC := Lib.hid HC
    clear hd
    go_enter Tryz.func53, Tryz.ntmps53
    go_wp2_with fail
    refine HC.out.mono ?_
    rintro e w1 ⟨rfl, rfl⟩
    go_wp2_with fail
    go_ret
    exact ⟨rfl, rfl⟩
  | false =>
    rw [hd] at HC
    have HC := Lib.hid HC
    clear hd
    go_enter Tryz.func53, Tryz.ntmps53
    go_wp2_with fail
    refine HC.out.mono ?_
    rintro e w1 ⟨rfl, rfl⟩
    go_wp2_with fail
    go_ret
    exact ⟨rfl, rfl⟩
set_option maxHeartbeats 1000000 in
theorem ldev_any (l b f x : Nat) (L : LV) (w : World) (h : LnM w l b f x L) :
    Calls Tryz.prog 73 #[.pointer (some ⟨l, 0, none⟩)] w fun e w' => e = .returned (.pointer (some ⟨b, 0, none⟩)) ∧ w = w' := by
  have c1 := h.d
  have HM := Lib.hid (lmade_any l b f x L w h)
  clear h
  go_enter Tryz.func73, Tryz.ntmps73
  go_wp2_with fail
  refine HM.out.mono ?_
  rintro e w1 ⟨rfl, rfl⟩
  go_wp2_with fail
  go_ret
  exact ⟨rfl, rfl⟩
set_option maxHeartbeats 1000000 in
theorem lread_any (l b f x : Nat) (L : LV) (q : Int) (w : World) (h : LnM w l b f x L) (hq : Z64 q) :
    Calls Tryz.prog 98 #[.pointer (some ⟨l, 0, none⟩), .int .i64 q] w fun e w' => e = .returned (.tuple #[.string (bs (if L.down || L.D.bad q then [] else L.D.read q.toNat)), .int .i64 (if L.down then 8 else if L.D.bad q then 2 else 0)]) ∧ Frm (fun _ => False) w w' := by
  have c1 := h.d
  have HC := lcheck_any l b f x L w h
  have HR := read_any b f x L.D q w h.dev hq
  clear h hq
  cases hd : L.down with
  | true =>
    clear HR
    rw [hd] at HC
    have HC := Lib.hid HC
    clear hd
    go_enter Tryz.func98, Tryz.ntmps98
    go_wp2_with fail
    refine HC.out.mono ?_
    rintro e w1 ⟨rfl, rfl⟩
    go_wp2_with fail
    go_ret2
    exact ⟨rfl, Frm.refl _ _⟩
  | false =>
    simp only [Bool.false_or, Bool.false_eq_true, if_false]
    obtain ⟨r, hr⟩ : ∃ r, (if L.D.bad q = true then [] else L.D.read q.toNat) = r := ⟨_, rfl⟩
    obtain ⟨c, hc⟩ : ∃ c : Int, (if L.D.bad q = true then 2 else 0) = c := ⟨_, rfl⟩
    rw [hr, hc] at HR ⊢
    clear hr hc
    have HR := Lib.hid HR
    rw [hd] at HC
    have HC := Lib.hid HC
    clear hd
    go_enter Tryz.func98, Tryz.ntmps98
    go_wp2_with fail
    refine HC.out.mono ?_
    rintro e w1 ⟨rfl, rfl⟩
    go_wp2_with fail
    refine HR.out.mono ?_
    rintro e w1 ⟨rfl, g⟩
    have G := Lib.hid g
    clear g
    go_wp2_with fail
    go_ret2
    exact ⟨rfl, G.out⟩
/-- Of a first choice: is it odd? -/
theorem odd_tmod (q : Int) : decide (q % 2 ≠ 0) = (q.tmod 2 != 0) := by
  have e : (q.tmod 2 = 0) ↔ (q % 2 = 0) := ⟨fun h => by have := Int.dvd_of_tmod_eq_zero h; omega, fun h => Int.tmod_eq_zero_of_dvd (Int.dvd_of_emod_eq_zero h)⟩
  rw [Bool.eq_iff_iff]
  simp [e]
set_option maxRecDepth 100000 in
set_option maxHeartbeats 2000000 in
theorem llate_any (l b f x : Nat) (L : LV) (w : World) (h : LnM w l b f x L) (hd : L.down = false) :
    Calls Tryz.prog 82 #[.pointer (some ⟨l, 0, none⟩)] w fun e w' => e = .returned (.bool L.odd) ∧ w = w' := by
  obtain ⟨cv, h⟩ := h
  have hzs := h.zs hd
  obtain ⟨a, cap, rfl, hc1, hc2⟩ := hzs.slice
  have c3 := h.blk.cell 3 rfl
  unfold maxLen at hc2
  clear h hd
  cases hcs : L.cs with
  | nil =>
    have ho : L.odd = false := by
      unfold LV.odd
      rw [hcs]
      exact decide_eq_false (fun ⟨q, h, _⟩ => by cases h)
    rw [ho]
    rw [hcs] at c3 hc1
    simp only [List.length_nil] at c3 hc1
    clear ho hzs hcs
    go_enter Tryz.func82, Tryz.ntmps82
    go_wp2_with fail
    go_ret
    exact ⟨rfl, rfl⟩
  | cons q r =>
    have ho : L.odd = (q.tmod 2 != 0) := by
      rw [← odd_tmod q]
      unfold LV.odd
      rw [hcs]
      refine decide_eq_decide.2 ⟨fun ⟨z, h, h2⟩ => ?_, fun h => ⟨q, rfl, h⟩⟩
      cases h
      exact h2
    rw [ho]
    obtain ⟨g, off, rfl, hg, e0⟩ := Zs.at hzs 0 (by rw [hcs]; exact Nat.succ_pos _)
    rw [Nat.add_zero] at e0
    have e1 : w.cell? ⟨g, off, none⟩ = some (.int .i64 q) := by rw [e0]; simp only [hcs, List.getElem_cons_zero]
    have hn : L.cs.length ≠ 0 := by rw [hcs]; exact Nat.succ_ne_zero _
    obtain ⟨n, hn2⟩ : ∃ n, L.cs.length = n := ⟨_, rfl⟩
    rw [hn2] at c3 hc1 hn
    have hpos : 0 < n := by omega
    have hd1 : decide (0 < n) = true := decide_eq_true hpos
    have hd2 : decide (0 < (n : Int)) = true := decide_eq_true (by omega)
    clear ho hzs hcs e0 hn hn2
    go_enter Tryz.func82, Tryz.ntmps82
    go_wp2_with fail
    go_ret
    exact ⟨rfl, rfl⟩
end Go.Proofs.YtdhnidmeeocajaaGreat
end
section
namespace Go.Proofs.YtdhnidmeeocajaaGreat
open Go.RowKit

/-- The blocks of a line that change. -/
def LnX (l f x : Nat) (k : Nat) : Prop := k = l ∨ k = f ∨ k = x
theorem LnM.fallTo {w w1 : World} {l b f x : Nat} {L : LV} (h : LnM w l b f x L) (hd : DevM w1 b f x (L.D.crash L.cs)) (hf : Frm (fun k => k = f ∨ k = x) w w1) : LnM ((w1.setCell ⟨l, 5, none⟩ (.bool true)).setCell ⟨l, 3, none⟩ (.slice none 0 0)) l b f x L.fall ∧ Frm (LnX l f x) w ((w1.setCell ⟨l, 5, none⟩ (.bool true)).setCell ⟨l, 3, none⟩ (.slice none 0 0)) :=
  ⟨(h.turn hd hf).cutDown, ((hf.mono fun _ _ h => .inr h).setCell (fun _ => .inl rfl) _).setCell (fun _ => .inl rfl) _⟩
set_option maxRecDepth 100000 in
set_option maxHeartbeats 2000000 in
theorem lfall_any (l b f x : Nat) (L : LV) (w : World) (h : LnM w l b f x L) (hd : L.down = false) :
    Calls Tryz.prog 54 #[.pointer (some ⟨l, 0, none⟩), .func (.func 55) #[.pointer (some ⟨b, 0, none⟩)] #[]] w fun e w' => e = .returned (.tuple #[]) ∧ LnM w' l b f x L.fall ∧ Frm (LnX l f x) w w' := by
  obtain ⟨cv, hc⟩ := h
  have c3 := hc.blk.cell 3 rfl
  have HC := Lib.hid (crash_any b f x L.D cv L.cs w hc.dev (hc.zs hd) hc.ok.cs hc.ok.few ((hc.za hd).imp id fun q g hg => (q g hg).1))
  have H : LnM w l b f x L := ⟨cv, hc⟩
  have H := Lib.hid H
  clear hc hd
  go_enter Tryz.func54, Tryz.ntmps54
  go_wp2_with fail
  refine HC.out.mono ?_
  rintro e w1 ⟨rfl, hd1, g1⟩
  have HF := Lib.hid (H.out.fallTo hd1 g1)
  have h1 := H.out.turn hd1 g1
  have e5 := h1.down
  have f5 := h1.free 5
  have f3 := h1.free 3
  obtain ⟨cv1, hc1⟩ := h1
  have e3 := hc1.blk.cell 3 rfl
  clear hc1 hd1 g1 HC
  go_wp2_with fail
  go_end0
  exact ⟨rfl, HF.out⟩
set_option maxRecDepth 100000 in
set_option maxHeartbeats 2000000 in
theorem lblow_any (l b f x : Nat) (L : LV) (w : World) (h : LnM w l b f x L) :
    Calls Tryz.prog 23 #[.pointer (some ⟨l, 0, none⟩)] w fun e w' => e = .returned (.tuple #[]) ∧ LnM w' l b f x L.blow ∧ Frm (LnX l f x) w w' := by
  have HD := ldown_any l b f x L w h
  have c1 := h.d
  cases hd : L.down with
  | true =>
    have HB : LnM w l b f x L.blow := by unfold LV.blow; rw [if_pos hd]; exact h
    rw [hd] at HD
    have HD := Lib.hid HD
    have HB := Lib.hid HB
    clear hd h
    go_enter Tryz.func23, Tryz.ntmps23
    go_wp2_with fail
    refine HD.out.mono ?_
    rintro e w1 ⟨rfl, rfl⟩
    go_wp2_with fail
    go_end0
    exact ⟨rfl, HB.out, Frm.refl _ _⟩
  | false =>
    have HB := lfall_any l b f x L w h hd
    have eb : L.blow = L.fall := by unfold LV.blow; rw [hd]; rfl
    rw [eb]
    rw [hd] at HD
    have HD := Lib.hid HD
    have HB := Lib.hid HB
    clear hd h eb
    go_enter Tryz.func23, Tryz.ntmps23
    go_wp2_with fail
    refine HD.out.mono ?_
    rintro e w1 ⟨rfl, rfl⟩
    go_wp2_with fail
    refine HB.out.mono ?_
    rintro e w1 ⟨rfl, h1, g1⟩
    go_wp2_with fail
    go_end0
    exact ⟨rfl, h1, g1⟩
/-- What an act does to the device, as a function value. -/
def ActTo (l b f x : Nat) (L : LV) (D' : DV) (c : Nat) (F : FuncId) (args : Array Value) (w : World) : Prop :=
  ∀ W, Frm (LnX l f x) w W → LnM W l b f x L.count → Calls Tryz.prog F args W fun e W' => e = .returned (.int .i64 (c : Nat)) ∧ DevM W' b f x D' ∧ Frm (fun k => k = f ∨ k = x) W W'
set_option maxRecDepth 100000 in
set_option maxHeartbeats 4000000 in
theorem lreq_any (l b f x : Nat) (L : LV) (D' : DV) (c : Nat) (F : FuncId) (args : Array Value) (w : World) (h : LnM w l b f x L) (ha : L.acts ≤ 1000000) (hE : ∀ W, (callFunc F args).run Tryz.prog W = .ok (.enter F args) W) (hA : ActTo l b f x L D' c F args w) :
    Calls Tryz.prog 44 #[.pointer (some ⟨l, 0, none⟩), .func (.func F) #[] args] w fun e w' => e = .returned (.int .i64 (L.code c : Nat)) ∧ LnM w' l b f x (L.act D') ∧ Frm (LnX l f x) w w' := by
  have HC := lcheck_any l b f x L w h
  cases hd : L.down with
  | true =>
    have eb : L.act D' = L := by unfold LV.act; rw [if_pos hd]
    have ec : L.code c = 8 := by unfold LV.code; rw [if_pos (.inl hd)]
    rw [hd] at HC
    rw [eb, ec]
    have HC := Lib.hid HC
    have H := Lib.hid h
    clear hd h eb ec hA hE
    go_enter Tryz.func44, Tryz.ntmps44
    go_wp2_with fail
    refine HC.out.mono ?_
    rintro e w1 ⟨rfl, rfl⟩
    go_wp2_with fail
    go_ret
    exact ⟨rfl, H.out, Frm.refl _ _⟩
  | false =>
    have h1 := h.count
    rw [show (((L.acts + 1 : Nat) : Int)) = (L.acts : Int) + 1 from by omega] at h1
    have c4 := h.acts
    have f4 := h.free 4
    have c2 := h.cut
    have c1 := h.d
    have g1 : Frm (LnX l f x) w (w.setCell ⟨l, 4, none⟩ (.int .i64 ((L.acts : Int) + 1))) := (Frm.refl (LnX l f x) w).setCell (fun _ => .inl rfl) _
    have HA := Lib.hid (hA _ g1 h1)
    have hdc : L.count.down = false := hd
    rw [hd] at HC
    have HC := Lib.hid HC
    have HL := Lib.hid (llate_any l b f x L.count _ h1 hdc)
    have H1 := Lib.hid (And.intro h1 (And.intro g1 hdc))
    have HD := Lib.hid hd
    clear h h1 hA g1 hd hdc
    by_cases heq : (L.acts : Int) = L.cut
    · have ec : L.code c = 8 := by unfold LV.code; rw [if_pos (.inr heq)]
      rw [ec]
      have hb : ((L.acts : Int) == L.cut) = true := beq_iff_eq.2 heq
      have hb2 : ((L.acts : Int) != L.cut) = false := by rw [bne, hb]; rfl
      have HE := Lib.hid heq
      clear heq ec
      cases ho : L.odd with
      | false =>
        have eb : L.act D' = L.count.fall := by unfold LV.act; rw [if_neg (by rw [HD.out]; exact Bool.false_ne_true), if_neg (not_not_intro HE.out), if_neg (by rw [ho]; exact Bool.false_ne_true)]
        have ho2 : L.count.odd = false := ho
        rw [ho2] at HL
        have HF := Lib.hid (lfall_any l b f x L.count _ H1.out.1 H1.out.2.2)
        have EB := Lib.hid eb
        clear ho ho2 eb HD HE
        go_enter Tryz.func44, Tryz.ntmps44
        go_wp2_with fail
        refine HC.out.mono ?_
        rintro e w1 ⟨rfl, rfl⟩
        go_wp2_with fail
        refine HL.out.mono ?_
        rintro e w1 ⟨rfl, rfl⟩
        go_wp2_with fail
        refine HF.out.mono ?_
        rintro e w2 ⟨rfl, h2, g2⟩
        go_wp2_with fail
        go_ret
        exact ⟨rfl, by rw [EB.out]; exact h2, H1.out.2.1.trans g2⟩
      | true =>
        have eb : L.act D' = ({ L.count with D := D' } : LV).fall := by unfold LV.act; rw [if_neg (by rw [HD.out]; exact Bool.false_ne_true), if_neg (not_not_intro HE.out), if_pos ho]
        have ho2 : L.count.odd = true := ho
        rw [ho2] at HL
        have EB := Lib.hid eb
        clear ho ho2 eb HE
        go_enter Tryz.func44, Tryz.ntmps44
        go_wp2_with fail
        refine HC.out.mono ?_
        rintro e w1 ⟨rfl, rfl⟩
        go_wp2_with fail
        refine HL.out.mono ?_
        rintro e w1 ⟨rfl, rfl⟩
        go_wp2_with fail
        refine HA.out.mono ?_
        rintro e w2 ⟨rfl, hd2, gd2⟩
        have h2 := H1.out.1.turn hd2 gd2
        have e1 := h2.d
        have HF := Lib.hid (lfall_any l b f x _ _ h2 H1.out.2.2)
        have G2 := Lib.hid (H1.out.2.1.trans (gd2.mono fun _ _ h => .inr h : Frm (LnX l f x) _ w2))
        clear hd2 gd2 h2
        go_wp2_with fail
        refine HF.out.mono ?_
        rintro e w3 ⟨rfl, h3, g3⟩
        go_wp2_with fail
        go_ret
        exact ⟨rfl, by rw [EB.out]; exact h3, G2.out.trans g3⟩
    · have eb : L.act D' = { L.count with D := D' } := by unfold LV.act; rw [if_neg (by rw [HD.out]; exact Bool.false_ne_true), if_pos heq]
      have ec : L.code c = c := by unfold LV.code; rw [if_neg (by rw [HD.out]; rintro (h | h); exact Bool.false_ne_true h; exact heq h)]
      rw [ec]
      have hb : ((L.acts : Int) == L.cut) = false := beq_eq_false_iff_ne.2 heq
      have hb2 : ((L.acts : Int) != L.cut) = true := by rw [bne, hb]; rfl
      have EB := Lib.hid eb
      clear eb ec heq HD
      go_enter Tryz.func44, Tryz.ntmps44
      go_wp2_with fail
      refine HC.out.mono ?_
      rintro e w1 ⟨rfl, rfl⟩
      go_wp2_with fail
      refine HA.out.mono ?_
      rintro e w2 ⟨rfl, hd2, gd2⟩
      have H2 := Lib.hid (H1.out.1.turn hd2 gd2)
      have G2 := Lib.hid (H1.out.2.1.trans (gd2.mono fun _ _ h => .inr h : Frm (LnX l f x) _ w2))
      clear hd2 gd2
      go_wp2_with fail
      go_ret
      exact ⟨rfl, by rw [EB.out]; exact H2.out, G2.out⟩
end Go.Proofs.YtdhnidmeeocajaaGreat
end
