/- Whether dots are those of the document. No condition. -/
import Derived.Test.YtiokabhidjafeaaDoorRkN
import Derived.BigQuiet
import Derived.Deep.QuietTactic
namespace Go.Proofs.YtiokabhidjafeaaDoor
open Go.RowKit Go.Shelf

theorem run_eq_rdotd (d : Nat) (r n r' n' : Nat) (w : World) : (Op.equalIn (d + 2) 78 (.agg (dv r n)) (.agg (dv r' n'))).run Tryd.prog w = .ok (r == r' && n == n') w := by
  have u3 := Tryd.underlying22
  have a3 := Tryd.isAgg22
  have z3 := Tryd.sizeOf22
  have u5 := Tryd.underlying5
  have a5 := Tryd.isAgg5
  have z5 := Tryd.sizeOf5
  have hS : Tryd.prog.underlying 78 = some (.struct (Tryd.prog.fieldsOf 78)) := by kernel_rfl
  rw [run_equalIn_agg w (d + 1) 78 _ _ hS (by kernel_rfl)]
  simp only [Program.fieldsOf, Tryd.underlying78]
  go_simp
  simp only [Int.natCast_inj]
  by_cases h0 : r = r'
  case neg => simp [h0]
  by_cases h1 : n = n' <;> simp [h0, h1]
theorem run_eq_rdot (x y : DotI) (w : World) : (Op.equalIn 10000 78 (.agg (dv x.r x.n)) (.agg (dv y.r y.n))).run Tryd.prog w = .ok (decide (x = y)) w := by
  rw [show (10000 : Nat) = 9998 + 2 from rfl, run_eq_rdotd, dot_beq]
set_option maxRecDepth 100000 in
set_option maxHeartbeats 4000000 in
theorem dots8_any (a b : Value) (l m : List DotI) (w : World) (h1 : DL w a l) (h2 : DL w b m) : Calls Tryd.prog 13 #[a, b] w fun e w' => e = .returned (.bool (decide (l = m))) ∧ Frm (fun _ => False) w w' := by
  obtain ⟨a1, c1, rfl, k1, k2⟩ := h1.slice
  obtain ⟨a2, c2, rfl, k3, k4⟩ := h2.slice
  unfold maxLen at k2 k4
  by_cases hl : l.length = m.length
  rotate_left
  · have hli : ¬ ((l.length : Int) = (m.length : Int)) := by omega
    have HL : Hid (¬ l = m) := Lib.hid fun e => hl (by rw [e])
    clear hl
    go_enter Tryd.func13, Tryd.ntmps13
    go_wp2_with fail
    go_ret
    exact ⟨by rw [decide_eq_false HL.out]; rfl, Frm.refl _ _⟩
  obtain ⟨n, hn⟩ : ∃ n, l.length = n := ⟨_, rfl⟩
  have hm : m.length = n := by omega
  have H1 := Lib.hid h1
  have H2 := Lib.hid h2
  have HN := Lib.hid hn
  have HM := Lib.hid hm
  rw [hn] at k1 ⊢
  rw [hm] at k3 ⊢
  clear hl hn hm h1 h2
  go_enter Tryd.func13, Tryd.ntmps13
  go_wp2_with fail
  go_loopw [5] (fun i wr => ∃ k : Nat, k ≤ n ∧ i = .int .i64 k ∧ (∀ j (h : j < l.length) (h' : j < m.length), j < k → l[j] = m[j]) ∧ ∃ q, wr = w.drewN q) (fun i _ => n - (intOf i).toNat)
  case atStart => exact ⟨0, Nat.zero_le _, rfl, fun j _ _ h => absurd h (Nat.not_lt_zero _), 0, rfl⟩
  case round =>
    obtain ⟨k, hk, rfl, hbef, q, rfl⟩ := hrel
    have HBF := Lib.hid hbef
    clear hbef
    by_cases hlt : k < n
    · have hki : (k : Int) < (n : Int) := by omega
      have hk0 : (0 : Int) ≤ (k : Int) := by omega
      have e1 : k < l.length := by rw [HN.out]; exact hlt
      have e2 : k < m.length := by rw [HM.out]; exact hlt
      obtain ⟨g, off, hg, x0, x1⟩ := DL.load H1.out k e1
      obtain ⟨g2, off2, hg2, y0, y1⟩ := DL.load H2.out k e2
      subst hg hg2
      have hq := run_eq_rdot l[k] m[k]
      have a3 := Tryd.isAgg61
      have z3 := Tryd.sizeOf61
      have a4 := Tryd.isAgg78
      have z4 := Tryd.sizeOf78
      by_cases hd : l[k] = m[k]
      · have HD := Lib.hid hd
        have hde := decide_eq_true hd
        rw [hde] at hq
        clear hd
        go_wp2
        go_quiet (fail)
        go_wp2
        go_roundw
        case rel => exact ⟨k + 1, by omega, by go_num, fun j h h' hj => by
          by_cases e : j = k
          · subst e; exact HD.out
          · exact HBF.out j h h' (by omega), q + nq, rfl⟩
        case measure => simp [intOf]; omega
      · have HD : Hid (¬ l = m) := Lib.hid fun e => hd (by simp only [e])
        have hde := decide_eq_false hd
        rw [hde] at hq
        clear hd
        go_wp2
        go_quiet (fail)
        go_wp2
        go_ret
        exact ⟨by rw [decide_eq_false HD.out]; rfl, ((Frm.refl _ w).drewN _).drewN _⟩
    · obtain rfl : k = n := by omega
      have HE : Hid (l = m) := Lib.hid (List.ext_getElem (by rw [HN.out, HM.out]) fun j h h' => HBF.out j h h' (by rw [← HN.out]; exact h))
      go_wp2_with fail
      go_ret
      exact ⟨by rw [decide_eq_true HE.out]; rfl, (Frm.refl _ w).drewN _⟩
end Go.Proofs.YtiokabhidjafeaaDoor

