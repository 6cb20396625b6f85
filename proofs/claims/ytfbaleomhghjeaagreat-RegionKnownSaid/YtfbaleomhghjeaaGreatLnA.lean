/- What made, check, Down, Acts, Device, late answer of a line, and of none. No condition. -/
import Derived.Test.YtfbaleomhghjeaaGreatLnM
namespace Go.Proofs.YtfbaleomhghjeaaGreat
open Go.RowKit

theorem ln_same (w : World) (a : Addr) : (binOp .eql 32 (.pointer (some a)) (.pointer (some a))).run Tryz.prog w = .ok (.bool true) w := by
  obtain ⟨j, hj⟩ := Option.isSome_iff_exists.1 (show (Tryz.prog.info? 80).isSome = true by kernel_rfl)
  exact run_eql_ptr_same w a Tryz.underlying32 hj
theorem ln_nil (w : World) (a : Addr) : (binOp .eql 32 (.pointer none) (.pointer (some a))).run Tryz.prog w = .ok (.bool false) w := by
  have h : ∀ d : Nat, (Op.equalIn (d + 1) 32 (.pointer none) (.pointer (some a))).run Tryz.prog w = .ok false w := fun d => by
    simp [Op.equalIn, run_underlying Tryz.underlying32]
  simp only [binOp]
  simp [Op.equal, Op.maxDepth, h 9999]
/-- There is no line: nil, or one that New did not return. -/
def NoLn (p : Value) (w : World) : Prop := p = .pointer none ∨ ∃ b, p = .pointer (some ⟨b, 0, none⟩) ∧ w.cell? ⟨b, 0, none⟩ = some (.pointer none)

set_option maxHeartbeats 400000 in
theorem lmade_any (l b f x : Nat) (L : LV) (w : World) (h : LnM w l b f x L) :
    Calls Tryz.prog 112 #[.pointer (some ⟨l, 0, none⟩)] w fun e w' => e = .returned (.bool true) ∧ w = w' := by
  have c0 := h.self
  have hq := ln_same
  clear h
  go_enter Tryz.func112, Tryz.ntmps112
  go_wp2
  go_ret
  exact ⟨rfl, rfl⟩
set_option maxHeartbeats 400000 in
theorem lmade_no (p : Value) (w : World) (h : NoLn p w) :
    Calls Tryz.prog 112 #[p] w fun e w' => e = .returned (.bool false) ∧ w = w' := by
  rcases h with rfl | ⟨b, rfl, c0⟩
  · go_enter Tryz.func112, Tryz.ntmps112
    go_wp2
    go_ret
    exact ⟨rfl, rfl⟩
  · have hq := ln_nil
    go_enter Tryz.func112, Tryz.ntmps112
    go_wp2
    go_ret
    exact ⟨rfl, rfl⟩
set_option maxHeartbeats 1000000 in
theorem lcheck_any (l b f x : Nat) (L : LV) (w : World) (h : LnM w l b f x L) :
    Calls Tryz.prog 81 #[.pointer (some ⟨l, 0, none⟩)] w fun e w' => e = .returned (.int .i64 (if L.down then 8 else 0)) ∧ w = w' := by
  have c5 := h.down
  have HM := Lib.hid (lmade_any l b f x L w h)
  clear h
  cases hd : L.down with
  | true =>
    rw [hd] at c5
    clear hd
    go_enter Tryz.func81, Tryz.ntmps81
    go_wp2_with fail
    refine HM.out.mono ?_
    rintro e w1 ⟨rfl, rfl⟩
    go_wp2_with fail
    go_ret
    exact ⟨rfl, rfl⟩
  | false =>
    rw [hd] at c5
    clear hd
    go_enter Tryz.func81, Tryz.ntmps81
    go_wp2_with fail
    refine HM.out.mono ?_
    rintro e w1 ⟨rfl, rfl⟩
    go_wp2_with fail
    go_ret
    exact ⟨rfl, rfl⟩
set_option maxHeartbeats 1000000 in
theorem ldown_any (l b f x : Nat) (L : LV) (w : World) (h : LnM w l b f x L) :
    Calls Tryz.prog 53 #[.pointer (some ⟨l, 0, none⟩)] w fun e w' => e = .returned (.bool L.down) ∧ w = w' := by
  have HC := lcheck_any l b f x L w h
  clear h
  cases hd : L.down with
  | true =>
    rw [hd] at HC
    have HC := Lib.hid HC
    clear hd
    go_enter Tryz.func53, Tryz.ntmps53
    go_wp2_with fail
    refine HC.out.mono ?_
    rintro e w1 ⟨rfl, rfl⟩
    go_wp2_with fail
    go_ret
    exact ⟨rfl, rfl⟩
  | false =>
    rw [hd] at HC
    have HC := Lib.hid HC
    clear hd
    go_enter Tryz.func53, Tryz.ntmps53
    go_wp2_with fail
    refine HC.out.mono ?_
    rintro e w1 ⟨rfl, rfl⟩
    go_wp2_with fail
    go_ret
    exact ⟨rfl, rfl⟩
set_option maxHeartbeats 1000000 in
theorem ldev_any (l b f x : Nat) (L : LV) (w : World) (h : LnM w l b f x L) :
    Calls Tryz.prog 73 #[.pointer (some ⟨l, 0, none⟩)] w fun e w' => e = .returned (.pointer (some ⟨b, 0, none⟩)) ∧ w = w' := by
  have c1 := h.d
  have HM := Lib.hid (lmade_any l b f x L w h)
  clear h
  go_enter Tryz.func73, Tryz.ntmps73
  go_wp2_with fail
  refine HM.out.mono ?_
  rintro e w1 ⟨rfl, rfl⟩
  go_wp2_with fail
  go_ret
  exact ⟨rfl, rfl⟩
set_option maxHeartbeats 1000000 in
theorem ldev_no (p : Value) (w : World) (h : NoLn p w) :
    Calls Tryz.prog 73 #[p] w fun e w' => e = .returned (.pointer none) ∧ w = w' := by
  have HM := Lib.hid (lmade_no p w h)
  clear h
  go_enter Tryz.func73, Tryz.ntmps73
  go_wp2_with fail
  refine HM.out.mono ?_
  rintro e w1 ⟨rfl, rfl⟩
  go_wp2_with fail
  go_ret
  exact ⟨rfl, rfl⟩
set_option maxHeartbeats 1000000 in
theorem lread_any (l b f x : Nat) (L : LV) (q : Int) (w : World) (h : LnM w l b f x L) (hq : Z64 q) :
    Calls Tryz.prog 98 #[.pointer (some ⟨l, 0, none⟩), .int .i64 q] w fun e w' => e = .returned (.tuple #[.string (bs (if L.down || L.D.bad q then [] else L.D.read q.toNat)), .int .i64 (if L.down then 8 else if L.D.bad q then 2 else 0)]) ∧ Frm (fun _ => False) w w' := by
  have c1 := h.d
  have HC := lcheck_any l b f x L w h
  have HR := read_any b f x L.D q w h.dev hq
  clear h hq
  cases hd : L.down with
  | true =>
    clear HR
    rw [hd] at HC
    have HC := Lib.hid HC
    clear hd
    go_enter Tryz.func98, Tryz.ntmps98
    go_wp2_with fail
    refine HC.out.mono ?_
    rintro e w1 ⟨rfl, rfl⟩
    go_wp2_with fail
    go_ret2
    exact ⟨rfl, Frm.refl _ _⟩
  | false =>
    simp only [Bool.false_or, Bool.false_eq_true, if_false]
    obtain ⟨r, hr⟩ : ∃ r, (if L.D.bad q = true then [] else L.D.read q.toNat) = r := ⟨_, rfl⟩
    obtain ⟨c, hc⟩ : ∃ c : Int, (if L.D.bad q = true then 2 else 0) = c := ⟨_, rfl⟩
    rw [hr, hc] at HR ⊢
    clear hr hc
    have HR := Lib.hid HR
    rw [hd] at HC
    have HC := Lib.hid HC
    clear hd
    go_enter Tryz.func98, Tryz.ntmps98
    go_wp2_with fail
    refine HC.out.mono ?_
    rintro e w1 ⟨rfl, rfl⟩
    go_wp2_with fail
    refine HR.out.mono ?_
    rintro e w1 ⟨rfl, g⟩
    have G := Lib.hid g
    clear g
    go_wp2_with fail
    go_ret2
    exact ⟨rfl, G.out⟩
/-- Of a first choice: is it odd? -/
theorem odd_tmod (q : Int) : decide (q % 2 ≠ 0) = (q.tmod 2 != 0) := by
  have e : (q.tmod 2 = 0) ↔ (q % 2 = 0) := ⟨fun h => by have := Int.dvd_of_tmod_eq_zero h; omega, fun h => Int.tmod_eq_zero_of_dvd (Int.dvd_of_emod_eq_zero h)⟩
  rw [Bool.eq_iff_iff]
  simp [e]
set_option maxRecDepth 100000 in
set_option maxHeartbeats 2000000 in
theorem llate_any (l b f x : Nat) (L : LV) (w : World) (h : LnM w l b f x L) (hd : L.down = false) :
    Calls Tryz.prog 82 #[.pointer (some ⟨l, 0, none⟩)] w fun e w' => e = .returned (.bool L.odd) ∧ w = w' := by
  obtain ⟨cv, h⟩ := h
  have hzs := h.zs hd
  obtain ⟨a, cap, rfl, hc1, hc2⟩ := hzs.slice
  have c3 := h.blk.cell 3 rfl
  unfold maxLen at hc2
  clear h hd
  cases hcs : L.cs with
  | nil =>
    have ho : L.odd = false := by
      unfold LV.odd
      rw [hcs]
      exact decide_eq_false (fun ⟨q, h, _⟩ => by cases h)
    rw [ho]
    rw [hcs] at c3 hc1
    simp only [List.length_nil] at c3 hc1
    clear ho hzs hcs
    go_enter Tryz.func82, Tryz.ntmps82
    go_wp2_with fail
    go_ret
    exact ⟨rfl, rfl⟩
  | cons q r =>
    have ho : L.odd = (q.tmod 2 != 0) := by
      rw [← odd_tmod q]
      unfold LV.odd
      rw [hcs]
      refine decide_eq_decide.2 ⟨fun ⟨z, h, h2⟩ => ?_, fun h => ⟨q, rfl, h⟩⟩
      cases h
      exact h2
    rw [ho]
    obtain ⟨g, off, rfl, hg, e0⟩ := Zs.at hzs 0 (by rw [hcs]; exact Nat.succ_pos _)
    rw [Nat.add_zero] at e0
    have e1 : w.cell? ⟨g, off, none⟩ = some (.int .i64 q) := by rw [e0]; simp only [hcs, List.getElem_cons_zero]
    have hn : L.cs.length ≠ 0 := by rw [hcs]; exact Nat.succ_ne_zero _
    obtain ⟨n, hn2⟩ : ∃ n, L.cs.length = n := ⟨_, rfl⟩
    rw [hn2] at c3 hc1 hn
    have hpos : 0 < n := by omega
    have hd1 : decide (0 < n) = true := decide_eq_true hpos
    have hd2 : decide (0 < (n : Int)) = true := decide_eq_true (by omega)
    clear ho hzs hcs e0 hn hn2
    go_enter Tryz.func82, Tryz.ntmps82
    go_wp2_with fail
    go_ret
    exact ⟨rfl, rfl⟩
end Go.Proofs.YtfbaleomhghjeaaGreat

