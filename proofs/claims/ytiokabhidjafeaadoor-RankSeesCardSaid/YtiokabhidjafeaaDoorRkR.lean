/- Whether dots are those of the document. No condition. -/
import Derived.Test.YtiokabhidjafeaaDoorRkN
import Derived.BigQuiet
import Derived.Deep.QuietTactic
section
namespace Go.Proofs.YtiokabhidjafeaaDoor
open Go.RowKit Go.Shelf

theorem run_eq_rdotd (d : Nat) (r n r' n' : Nat) (w : World) : (Op.equalIn (d + 2) 78 (.agg (dv r n)) (.agg (dv r' n'))).run Tryd.prog w = .ok (r == r' && n == n') w := by
  have u3 := Tryd.underlying22
  have a3 := Tryd.isAgg22
  have z3 := Tryd.sizeOf22
  have u5 := Tryd.underlying5
  have a5 := Tryd.isAgg5
  have z5 := Tryd.sizeOf5
  have hS : Tryd.prog.underlying 78 = some (.struct (Tryd.prog.fieldsOf 78)) := by kernel_rfl
  rw [run_equalIn_agg w (d + 1) 78 _ _ hS (by kernel_rfl)]
  simp only [Program.fieldsOf, Tryd.underlying78]
  go_simp
  simp only [Int.natCast_inj]
  by_cases h0 : r = r'
  case neg => simp [h0]
  by_cases h1 : n = n' <;> simp [h0, h1]
theorem run_eq_rdot (x y : DotI) (w : World) : (Op.equalIn 10000 78 (.agg (dv x.r x.n)) (.agg (dv y.r y.n))).run Tryd.prog w = .ok (decide (x = y)) w := by
  rw [show (10000 : Nat) = 9998 + 2 from rfl, run_eq_rdotd, dot_beq]
set_option maxRecDepth 100000 in
set_option maxHeartbeats 4000000 in
theorem dots8_any (a b : Value) (l m : List DotI) (w : World) (h1 : DL w a l) (h2 : DL w b m) : Calls Tryd.prog 13 #[a, b] w fun e w' => e = .returned (.bool (decide (l = m))) ∧ Frm (fun _ => False) w w' := by
  obtain ⟨a1, c1, rfl, k1, k2⟩ := h1.slice
  obtain ⟨a2, c2, rfl, k3, k4⟩ := h2.slice
  unfold maxLen at k2 k4
  by_cases hl : l.length = m.length
  rotate_left
  · have hli : ¬ ((l.length : Int) = (m.length : Int)) := by omega
    have HL : Hid (¬ l = m) := Lib.hid fun e => hl (by rw [e])
    clear hl
    go_enter Tryd.func13, Tryd.ntmps13
    go_wp2_with fail
    go_ret
    exact ⟨by rw [decide_eq_false HL.out]; rfl, Frm.refl _ _⟩
  obtain ⟨n, hn⟩ : ∃ n, l.length = n := ⟨_, rfl⟩
  have hm : m.length = n := by omega
  have H1 := Lib.hid h1
  have H2 := Lib.hid h2
  have HN := Lib.hid hn
  have HM := Lib.hid hm
  rw [hn] at k1 ⊢
  rw [hm] at k3 ⊢
  clear hl hn hm h1 h2
  go_enter Tryd.func13, Tryd.ntmps13
  go_wp2_with fail
  go_loopw [5] (fun i wr => ∃ k : Nat, k ≤ n ∧ i = .int .i64 k ∧ (∀ j (h : j < l.length) (h' : j < m.length), j < k → l[j] = m[j]) ∧ ∃ q, wr = w.drewN q) (fun i _ => n - (intOf i).toNat)
  case atStart => exact ⟨0, Nat.zero_le _, rfl, fun j _ _ h => absurd h (Nat.not_lt_zero _), 0, rfl⟩
  case round =>
    obtain ⟨k, hk, rfl, hbef, q, rfl⟩ := hrel
    have HBF := Lib.hid hbef
    clear hbef
    by_cases hlt : k < n
    · have hki : (k : Int) < (n : Int) := by omega
      have hk0 : (0 : Int) ≤ (k : Int) := by omega
      have e1 : k < l.length := by rw [HN.out]; exact hlt
      have e2 : k < m.length := by rw [HM.out]; exact hlt
      obtain ⟨g, off, hg, x0, x1⟩ := DL.load H1.out k e1
      obtain ⟨g2, off2, hg2, y0, y1⟩ := DL.load H2.out k e2
      subst hg hg2
      have hq := run_eq_rdot l[k] m[k]
      have a3 := Tryd.isAgg61
      have z3 := Tryd.sizeOf61
      have a4 := Tryd.isAgg78
      have z4 := Tryd.sizeOf78
      by_cases hd : l[k] = m[k]
      · have HD := Lib.hid hd
        have hde := decide_eq_true hd
        rw [hde] at hq
        clear hd
        go_wp2
        go_quiet (fail)
        go_wp2
        go_roundw
        case rel => exact ⟨k + 1, by omega, by go_num, fun j h h' hj => by
          by_cases e : j = k
          · subst e; exact HD.out
          · exact HBF.out j h h' (by omega), q + nq, rfl⟩
        case measure => simp [intOf]; omega
      · have HD : Hid (¬ l = m) := Lib.hid fun e => hd (by simp only [e])
        have hde := decide_eq_false hd
        rw [hde] at hq
        clear hd
        go_wp2
        go_quiet (fail)
        go_wp2
        go_ret
        exact ⟨by rw [decide_eq_false HD.out]; rfl, ((Frm.refl _ w).drewN _).drewN _⟩
    · obtain rfl : k = n := by omega
      have HE : Hid (l = m) := Lib.hid (List.ext_getElem (by rw [HN.out, HM.out]) fun j h h' => HBF.out j h h' (by rw [← HN.out]; exact h))
      go_wp2_with fail
      go_ret
      exact ⟨by rw [decide_eq_true HE.out]; rfl, (Frm.refl _ w).drewN _⟩
end Go.Proofs.YtiokabhidjafeaaDoor
end
section
namespace Go.Proofs.YtiokabhidjafeaaDoor
open Go.RowKit

set_option maxRecDepth 100000 in
set_option maxHeartbeats 1000000 in
theorem sib8_any (r n : Nat) (s : List UInt8) (w : World) : Calls Tryd.prog 22 #[.int .u8 r, .int .u32 n, .string (bs s)] w fun e w' => e = .returned (.agg #[.int .u8 r, .int .u32 n, .string (bs s)]) ∧ Frm (fun _ => False) w w' := by
  have g0 : Frm (fun _ => False) w (w.alloc (.cells #[.int .u8 0, .int .u32 0, .string ⟨#[]⟩] 63)) := (Frm.refl _ w).alloc _
  have b2 := Blk.alloc w 63 #[.int .u8 0, .int .u32 0, .string ⟨#[]⟩]
  go_enter Tryd.func22, Tryd.ntmps22
  go_upto_region 1 with fail
  generalize hw1 : w.alloc (.cells #[.int .u8 0, .int .u32 0, .string ⟨#[]⟩] 63) = w1 at *
  obtain ⟨M, hM⟩ : ∃ M, w.heap.size = M := ⟨_, rfl⟩
  have HM := Lib.hid hM
  rw [hM] at b2 ⊢
  clear hM hw1
  go_wp2_with ((with_reducible refine wpl_store_blk rfl 63 _ _ rfl M #[.int .u8 r, .int .u32 n, .string (bs s)] #[.int .u8 0, .int .u32 0, .string ⟨#[]⟩] ?_ ?_ b2 ?_ ?_ ?_ ?_); (focus rfl); (focus rfl); (focus rfl); (focus (show _ = some 3; kernel_rfl)); (focus (simp [Value.oneCell'])); intro w3 e3 g3 z3; have c0 := e3.cell 0 rfl; have c1 := e3.cell 1 rfl; have c2 := e3.cell 2 rfl)
  refine bodyPost_ret (v := .agg #[.int .u8 r, .int .u32 n, .string (bs s)]) (by simp [results, Tryd.results22, go_sem, c0, c1, c2]) rfl ?_
  exact ⟨rfl, g0.next g3 (fun k hk h => by have := HM.out; omega)⟩

/-- The chapter's siblings, and their context. -/
def given8 : List SibI := [⟨0, 1, [97], by decide, by decide, by decide⟩, ⟨1, 2, [98], by decide, by decide, by decide⟩, ⟨2, 2, [97], by decide, by decide, by decide⟩]
def f122 : Nat → Nat := fun k => if k = 0 then 1 else if k = 1 then 2 else if k = 2 then 2 else 0
theorem own_given8 (w : World) : OwnL (w.alloc (.cells #[.int .u8 0, .int .u32 1, .string (bs [97]), .int .u8 1, .int .u32 2, .string (bs [98]), .int .u8 2, .int .u32 2, .string (bs [97])] 63)) (.slice (some ⟨w.heap.size, 0, none⟩) 3 3) given8 :=
  Row.made w 63 3 3 3 (flat sibc given8) (flat sibc given8).toArray rfl (Nat.le_refl _) (by decide) rfl rfl
set_option maxRecDepth 100000 in
set_option maxHeartbeats 1000000 in
theorem given8_any (w : World) : Calls Tryd.prog 21 #[] w fun e w' => ∃ v', e = .returned (rg f122 v') ∧ OwnL w' v' given8 ∧ Frm (fun _ => False) w w' ∧ ∀ g, v'.ownBlock = some g → w.heap.size ≤ g := by
  have g0 : Frm (fun _ => False) w (w.alloc (.cells rz 27)) := (Frm.refl _ w).alloc _
  have b0 := Blk.alloc w 27 rz
  have HA := Lib.hid (fun W => sib8_any 0 1 [97] W)
  have HB := Lib.hid (fun W => sib8_any 1 2 [98] W)
  have HC := Lib.hid (fun W => sib8_any 2 2 [97] W)
  go_enter Tryd.func21, Tryd.ntmps21
  go_upto_region 1 with fail
  generalize hw1 : w.alloc (.cells rz 27) = w1 at *
  obtain ⟨M, hM⟩ : ∃ M, w.heap.size = M := ⟨_, rfl⟩
  have HM := Lib.hid hM
  rw [hM] at b0 ⊢
  clear hM hw1
  go_wp2_with fail
  refine (HA.out _).mono ?_
  rintro e w2 ⟨rfl, g2⟩
  go_wp2_with fail
  refine (HB.out _).mono ?_
  rintro e w3 ⟨rfl, g3⟩
  go_wp2_with fail
  refine (HC.out _).mono ?_
  rintro e w4 ⟨rfl, g4⟩
  have g14 := (g2.trans g3).trans g4
  have b2 := b0.keep g14 (fun h => h)
  clear b0 g2 g3 g4
  have o3 := own_given8 w4
  have hm2 := b2.lt
  have hm3 := g14.size
  have hm4 := g0.size
  have g5 : Frm (fun _ => False) w4 (w4.alloc (.cells #[.int .u8 0, .int .u32 1, .string (bs [97]), .int .u8 1, .int .u32 2, .string (bs [98]), .int .u8 2, .int .u32 2, .string (bs [97])] 63)) := (Frm.refl _ w4).alloc _
  have b3 := b2.keep g5 (fun h => h)
  go_wp2_with ((with_reducible refine wpl_store_blk rfl 27 _ _ rfl M (rgc f122 (.slice (some ⟨w4.heap.size, 0, none⟩) 3 3)) rz ?_ ?_ b3 ?_ ?_ ?_ ?_); (focus rfl); (focus rfl); (focus rfl); (focus (show _ = some 9; kernel_rfl)); (focus (exact rg_one _ _ _ _)); intro w6 e6 g6 z6; have c8 := e6.cell 8 rfl; have h2' := rcells9 e6)
  refine bodyPost_ret (v := rg f122 (.slice (some ⟨w4.heap.size, 0, none⟩) 3 3)) (by simp [results, Tryd.results21, go_sem, h2', c8]) rfl ?_
  refine ⟨_, rfl, o3.keep g6 (fun q hq h => ?_), ((g0.trans g14).trans g5).next g6 (fun k hk h => by have := HM.out; omega), fun q hq => ?_⟩
  · have e : w4.heap.size = q := Option.some.inj hq
    omega
  · have e : w4.heap.size = q := Option.some.inj hq
    omega
end Go.Proofs.YtiokabhidjafeaaDoor
end
