/- What made, check, Down, Acts, Device, late answer of a line, and of none. No condition. -/
import Derived.Test.YtdhngbfigklaoaaLnM
namespace Go.Proofs.Ytdhngbfigklaoaa
open Go.RowKit

theorem ln_same (w : World) (a : Addr) : (binOp .eql 28 (.pointer (some a)) (.pointer (some a))).run Try.prog w = .ok (.bool true) w := by
  obtain ⟨j, hj⟩ := Option.isSome_iff_exists.1 (show (Try.prog.info? 53).isSome = true by kernel_rfl)
  exact run_eql_ptr_same w a Try.underlying28 hj
/-- There is no line: nil, or one that New did not return. -/
def NoLn (p : Value) (w : World) : Prop := p = .pointer none ∨ ∃ b, p = .pointer (some ⟨b, 0, none⟩) ∧ w.cell? ⟨b, 0, none⟩ = some (.pointer none)

set_option maxHeartbeats 400000 in
theorem lmade_any (l b f x : Nat) (L : LV) (w : World) (h : LnM w l b f x L) :
    Calls Try.prog 30 #[.pointer (some ⟨l, 0, none⟩)] w fun e w' => e = .returned (.bool true) ∧ w = w' := by
  have c0 := h.self
  have hq := ln_same
  clear h
  go_enter Try.func30, Try.ntmps30
  go_wp2
  go_ret
  exact ⟨rfl, rfl⟩
set_option maxHeartbeats 1000000 in
theorem lcheck_any (l b f x : Nat) (L : LV) (w : World) (h : LnM w l b f x L) :
    Calls Try.prog 35 #[.pointer (some ⟨l, 0, none⟩)] w fun e w' => e = .returned (.int .i64 (if L.down then 8 else 0)) ∧ w = w' := by
  have c5 := h.down
  have HM := Lib.hid (lmade_any l b f x L w h)
  clear h
  cases hd : L.down with
  | true =>
    rw [hd] at c5
    clear hd
    go_enter Try.func35, Try.ntmps35
    go_wp2_with fail
    refine HM.out.mono ?_
    rintro e w1 ⟨rfl, rfl⟩
    go_wp2_with fail
    go_ret
    exact ⟨rfl, rfl⟩
  | false =>
    rw [hd] at c5
    clear hd
    go_enter Try.func35, Try.ntmps35
    go_wp2_with fail
    refine HM.out.mono ?_
    rintro e w1 ⟨rfl, rfl⟩
    go_wp2_with fail
    go_ret
    exact ⟨rfl, rfl⟩
set_option maxHeartbeats 1000000 in
theorem ldown_any (l b f x : Nat) (L : LV) (w : World) (h : LnM w l b f x L) :
    Calls Try.prog 14 #[.pointer (some ⟨l, 0, none⟩)] w fun e w' => e = .returned (.bool L.down) ∧ w = w' := by
  have HC := lcheck_any l b f x L w h
  clear h
  cases hd : L.down with
  | true =>
    rw [hd] at HC
    have HC := Lib.hid HC
    clear hd
    go_enter Try.func14, Try.ntmps14
    go_wp2_with fail
    refine HC.out.mono ?_
    rintro e w1 ⟨rfl, rfl⟩
    go_wp2_with fail
    go_ret
    exact ⟨rfl, rfl⟩
  | false =>
    rw [hd] at HC
    have HC := Lib.hid HC
    clear hd
    go_enter Try.func14, Try.ntmps14
    go_wp2_with fail
    refine HC.out.mono ?_
    rintro e w1 ⟨rfl, rfl⟩
    go_wp2_with fail
    go_ret
    exact ⟨rfl, rfl⟩
set_option maxHeartbeats 1000000 in
theorem lacts_any (l b f x : Nat) (L : LV) (w : World) (h : LnM w l b f x L) :
    Calls Try.prog 15 #[.pointer (some ⟨l, 0, none⟩)] w fun e w' => e = .returned (.int .i64 (L.acts : Nat)) ∧ w = w' := by
  have c4 := h.acts
  have HM := Lib.hid (lmade_any l b f x L w h)
  clear h
  go_enter Try.func15, Try.ntmps15
  go_wp2_with fail
  refine HM.out.mono ?_
  rintro e w1 ⟨rfl, rfl⟩
  go_wp2_with fail
  go_ret
  exact ⟨rfl, rfl⟩
set_option maxHeartbeats 1000000 in
theorem ldev_any (l b f x : Nat) (L : LV) (w : World) (h : LnM w l b f x L) :
    Calls Try.prog 11 #[.pointer (some ⟨l, 0, none⟩)] w fun e w' => e = .returned (.pointer (some ⟨b, 0, none⟩)) ∧ w = w' := by
  have c1 := h.d
  have HM := Lib.hid (lmade_any l b f x L w h)
  clear h
  go_enter Try.func11, Try.ntmps11
  go_wp2_with fail
  refine HM.out.mono ?_
  rintro e w1 ⟨rfl, rfl⟩
  go_wp2_with fail
  go_ret
  exact ⟨rfl, rfl⟩
set_option maxHeartbeats 1000000 in
theorem lread_any (l b f x : Nat) (L : LV) (q : Int) (w : World) (h : LnM w l b f x L) (hq : Z64 q) :
    Calls Try.prog 25 #[.pointer (some ⟨l, 0, none⟩), .int .i64 q] w fun e w' => e = .returned (.tuple #[.string (bs (if L.down || L.D.bad q then [] else L.D.read q.toNat)), .int .i64 (if L.down then 8 else if L.D.bad q then 2 else 0)]) ∧ Frm (fun _ => False) w w' := by
  have c1 := h.d
  have HC := lcheck_any l b f x L w h
  have HR := read_any b f x L.D q w h.dev hq
  clear h hq
  cases hd : L.down with
  | true =>
    clear HR
    rw [hd] at HC
    have HC := Lib.hid HC
    clear hd
    go_enter Try.func25, Try.ntmps25
    go_wp2_with fail
    refine HC.out.mono ?_
    rintro e w1 ⟨rfl, rfl⟩
    go_wp2_with fail
    go_ret2
    exact ⟨rfl, Frm.refl _ _⟩
  | false =>
    simp only [Bool.false_or, Bool.false_eq_true, if_false]
    obtain ⟨r, hr⟩ : ∃ r, (if L.D.bad q = true then [] else L.D.read q.toNat) = r := ⟨_, rfl⟩
    obtain ⟨c, hc⟩ : ∃ c : Int, (if L.D.bad q = true then 2 else 0) = c := ⟨_, rfl⟩
    rw [hr, hc] at HR ⊢
    clear hr hc
    have HR := Lib.hid HR
    rw [hd] at HC
    have HC := Lib.hid HC
    clear hd
    go_enter Try.func25, Try.ntmps25
    go_wp2_with fail
    refine HC.out.mono ?_
    rintro e w1 ⟨rfl, rfl⟩
    go_wp2_with fail
    refine HR.out.mono ?_
    rintro e w1 ⟨rfl, g⟩
    have G := Lib.hid g
    clear g
    go_wp2_with fail
    go_ret2
    exact ⟨rfl, G.out⟩
/-- Of a first choice: is it odd? -/
theorem odd_tmod (q : Int) : decide (q % 2 ≠ 0) = (q.tmod 2 != 0) := by
  have e : (q.tmod 2 = 0) ↔ (q % 2 = 0) := ⟨fun h => by have := Int.dvd_of_tmod_eq_zero h; omega, fun h => Int.tmod_eq_zero_of_dvd (Int.dvd_of_emod_eq_zero h)⟩
  rw [Bool.eq_iff_iff]
  simp [e]
set_option maxRecDepth 100000 in
set_option maxHeartbeats 2000000 in
theorem llate_any (l b f x : Nat) (L : LV) (w : World) (h : LnM w l b f x L) (hd : L.down = false) :
    Calls Try.prog 60 #[.pointer (some ⟨l, 0, none⟩)] w fun e w' => e = .returned (.bool L.odd) ∧ w = w' := by
  obtain ⟨cv, h⟩ := h
  have hzs := h.zs hd
  obtain ⟨a, cap, rfl, hc1, hc2⟩ := hzs.slice
  have c3 := h.blk.cell 3 rfl
  unfold maxLen at hc2
  clear h hd
  cases hcs : L.cs with
  | nil =>
    have ho : L.odd = false := by
      unfold LV.odd
      rw [hcs]
      exact decide_eq_false (fun ⟨q, h, _⟩ => by cases h)
    rw [ho]
    rw [hcs] at c3 hc1
    simp only [List.length_nil] at c3 hc1
    clear ho hzs hcs
    go_enter Try.func60, Try.ntmps60
    go_wp2_with fail
    go_ret
    exact ⟨rfl, rfl⟩
  | cons q r =>
    have ho : L.odd = (q.tmod 2 != 0) := by
      rw [← odd_tmod q]
      unfold LV.odd
      rw [hcs]
      refine decide_eq_decide.2 ⟨fun ⟨z, h, h2⟩ => ?_, fun h => ⟨q, rfl, h⟩⟩
      cases h
      exact h2
    rw [ho]
    obtain ⟨g, off, rfl, hg, e0⟩ := Zs.at hzs 0 (by rw [hcs]; exact Nat.succ_pos _)
    rw [Nat.add_zero] at e0
    have e1 : w.cell? ⟨g, off, none⟩ = some (.int .i64 q) := by rw [e0]; simp only [hcs, List.getElem_cons_zero]
    have hn : L.cs.length ≠ 0 := by rw [hcs]; exact Nat.succ_ne_zero _
    obtain ⟨n, hn2⟩ : ∃ n, L.cs.length = n := ⟨_, rfl⟩
    rw [hn2] at c3 hc1 hn
    have hpos : 0 < n := by omega
    have hd1 : decide (0 < n) = true := decide_eq_true hpos
    have hd2 : decide (0 < (n : Int)) = true := decide_eq_true (by omega)
    clear ho hzs hcs e0 hn hn2
    go_enter Try.func60, Try.ntmps60
    go_wp2_with fail
    go_ret
    exact ⟨rfl, rfl⟩
end Go.Proofs.Ytdhngbfigklaoaa

