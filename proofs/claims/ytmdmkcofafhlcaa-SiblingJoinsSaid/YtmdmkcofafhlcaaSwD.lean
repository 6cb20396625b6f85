/- The document's own Less, Has, In: of any dots, any context. No condition but that the numbers have their bits. -/
import Derived.Test.YtmdmkcofafhlcaaSwA
namespace Go.Proofs.Ytmdmkcofafhlcaa
open Go.RowKit

theorem run_eq_rdotd (d : Nat) (r n r' n' : Nat) (w : World) : (Op.equalIn (d + 2) 48 (.agg (dv r n)) (.agg (dv r' n'))).run Try.prog w = .ok (r == r' && n == n') w := by
  have u3 := Try.underlying22
  have a3 := Try.isAgg22
  have z3 := Try.sizeOf22
  have u5 := Try.underlying5
  have a5 := Try.isAgg5
  have z5 := Try.sizeOf5
  have hS : Try.prog.underlying 48 = some (.struct (Try.prog.fieldsOf 48)) := by kernel_rfl
  rw [run_equalIn_agg w (d + 1) 48 _ _ hS (by kernel_rfl)]
  simp only [Program.fieldsOf, Try.underlying48]
  go_simp
  simp only [Int.natCast_inj]
  by_cases h0 : r = r'
  case neg => simp [h0]
  by_cases h1 : n = n' <;> simp [h0, h1]
theorem run_eq_rdot (x y : DotI) (w : World) : (Op.equalIn 10000 48 (.agg (dv x.r x.n)) (.agg (dv y.r y.n))).run Try.prog w = .ok (decide (x = y)) w := by
  rw [show (10000 : Nat) = 9998 + 2 from rfl, run_eq_rdotd, dot_beq]
theorem run_eq_rsib (x y : SibI) (w : World) : (Op.equalIn 10000 105 (.agg #[.int .u8 x.r, .int .u32 x.n, .string (bs x.s)]) (.agg #[.int .u8 y.r, .int .u32 y.n, .string (bs y.s)])).run Try.prog w = .ok (x.r == y.r && x.n == y.n && (bs x.s).toList == (bs y.s).toList) w := by
  have u9 := Try.underlying9
  have a9 := Try.isAgg9
  have z9 := Try.sizeOf9
  have ad := Try.isAgg48
  have zd := Try.sizeOf48
  have hS : Try.prog.underlying 105 = some (.struct (Try.prog.fieldsOf 105)) := by kernel_rfl
  have hd := fun W => run_eq_rdotd 9997 x.r x.n y.r y.n W
  rw [show (10000 : Nat) = 9999 + 1 from rfl, run_equalIn_agg w 9999 105 _ _ hS (by kernel_rfl)]
  simp only [Program.fieldsOf, Try.underlying105]
  clear hS
  rw [show (9997 : Nat) + 2 = 9999 from rfl] at hd
  generalize hX : Op.equalIn 9999 48 = E at hd
  unfold Op.eqFields
  simp only [hX]
  have hd' : ∀ W, (E (.agg #[.int .u8 x.r, .int .u32 x.n]) (.agg #[.int .u8 y.r, .int .u32 y.n])).run Try.prog W = .ok (x.r == y.r && x.n == y.n) W := hd
  clear hd
  generalize (x.r == y.r && x.n == y.n) = p at *
  cases p
  · go_simp
  · go_simp
    by_cases h : (bs x.s).toList = (bs y.s).toList <;> simp [h]

theorem run_eq_rsibI (x y : SibI) (w : World) : (Op.equalIn 10000 105 (.agg #[.int .u8 x.r, .int .u32 x.n, .string (bs x.s)]) (.agg #[.int .u8 y.r, .int .u32 y.n, .string (bs y.s)])).run Try.prog w = .ok (decide (x = y)) w := by
  rw [run_eq_rsib, bs_toList, bs_toList]
  congr 1
  rw [Bool.eq_iff_iff]
  simp only [Bool.and_eq_true, beq_iff_eq, decide_eq_true_eq]
  exact ⟨fun h => SibI.ext' h.1.1 h.1.2 h.2, fun h => by subst h; exact ⟨⟨rfl, rfl⟩, rfl⟩⟩

set_option maxRecDepth 100000 in
set_option maxHeartbeats 1000000 in
theorem rless_any (r n r' n' : Nat) (w : World) :
    Calls Try.prog 57 #[.agg (dv r n), .agg (dv r' n')] w fun e w' => e = .returned (.bool (decide (n < n' ∨ n = n' ∧ r < r'))) ∧ Frm (fun _ => False) w w' := by
  have g0 : Frm (fun _ => False) w ((w.alloc (.cells (dv r n) 48)).alloc (.cells (dv r' n') 48)) := ((Frm.refl _ w).alloc _).alloc _
  have b0 : Blk ((w.alloc (.cells (dv r n) 48)).alloc (.cells (dv r' n') 48)) w.heap.size 48 (dv r n) := (Blk.alloc w _ _).old _
  have b1 : Blk ((w.alloc (.cells (dv r n) 48)).alloc (.cells (dv r' n') 48)) (w.heap.size + 1) 48 (dv r' n') := Blk.at1 w _ _ _
  go_enter Try.func57, Try.ntmps57
  go_upto_region 1 with fail
  generalize (w.alloc (.cells (dv r n) 48)).alloc (.cells (dv r' n') 48) = w1 at *
  generalize w.heap.size = N at *
  have c0 := b0.cell 0 rfl
  have c1 := b0.cell 1 rfl
  have d0 := b1.cell 0 rfl
  have d1 := b1.cell 1 rfl
  by_cases h1 : n < n'
  · have h1d : ¬ n' ≤ n := by omega
    have HA := Lib.hid (show decide (n < n' ∨ n = n' ∧ r < r') = true by rw [decide_eq_true_eq]; exact .inl h1)
    clear h1
    go_wp2
    go_ret
    exact ⟨by rw [HA.out]; rfl, g0⟩
  · by_cases h2 : n = n'
    · subst h2
      clear h1
      go_wp2
      go_ret
      exact ⟨rfl, g0⟩
    · have h2d : ((n : Int) == (n' : Int)) = false := by rw [beq_eq_false_iff_ne]; omega
      have h1d : n' ≤ n := by omega
      have HA := Lib.hid (show decide (n < n' ∨ n = n' ∧ r < r') = false by rw [decide_eq_false_iff_not]; omega)
      clear h1 h2
      go_wp2
      go_ret
      exact ⟨by rw [HA.out]; simp; omega, g0⟩

set_option maxRecDepth 100000 in
set_option maxHeartbeats 2000000 in
theorem rhas6_any (f : Nat → Nat) (r n : Nat) (w : World) :
    Calls Try.prog 56 #[.agg (vv f), .agg (dv r n)] w fun e w' => e = .returned (.bool (has8 f r n)) ∧ Frm (fun _ => False) w w' := by
  have b0 : Blk ((w.alloc (Obj.cells (vv f) 23)).alloc (Obj.cells (dv r n) 48)) w.heap.size 23 (vv f) := (Blk.alloc w _ _).old _
  have b1 : Blk ((w.alloc (Obj.cells (vv f) 23)).alloc (Obj.cells (dv r n) 48)) (w.heap.size + 1) 48 (dv r n) := Blk.at1 w _ _ _
  have g0 : Frm (fun _ => False) w ((w.alloc (Obj.cells (vv f) 23)).alloc (Obj.cells (dv r n) 48)) := ((Frm.refl _ w).alloc _).alloc _
  go_enter Try.func56, Try.ntmps56
  go_upto_region 1 with fail
  generalize (w.alloc (Obj.cells (vv f) 23)).alloc (Obj.cells (dv r n) 48) = w1 at *
  generalize w.heap.size = N at *
  have c0 := b1.cell 0 rfl
  have c1 := b1.cell 1 rfl
  have HH : has8 f r n = (decide (r < 8) && decide (1 ≤ n) && decide (n ≤ 65535) && decide (n ≤ f r)) := rfl
  by_cases h1 : r < 8
  · have h1d : decide ((r : Int) < 8) = true := by rw [decide_eq_true_eq]; omega
    have hr0 : (0 : Int) ≤ (r : Int) := by omega
    have c2 : w1.cell? ⟨N, r, none⟩ = some (.int .u32 (f r)) := by
      rcases lt8 h1 with rfl | rfl | rfl | rfl | rfl | rfl | rfl | rfl <;> exact b0.cell _ rfl
    by_cases h2 : 1 ≤ n
    · have h2d : decide ((1 : Int) ≤ (n : Int)) = true := by rw [decide_eq_true_eq]; omega
      by_cases h3 : n ≤ 65535
      · have h3d : decide ((n : Int) ≤ 65535) = true := by rw [decide_eq_true_eq]; omega
        have HE := Lib.hid (show has8 f r n = decide (n ≤ f r) by rw [HH, decide_eq_true h1, decide_eq_true h2, decide_eq_true h3]; rfl)
        have hi : (r : Int) < 8 := by omega
        clear HH h1 h2 h3 b0 b1
        go_quiet (fail)
        go_wp2_with fail
        go_ret
        exact ⟨by rw [HE.out]; simp, g0.trans ((Frm.refl _ w1).drewN _)⟩
      · have h3d : decide ((n : Int) ≤ 65535) = false := by rw [decide_eq_false_iff_not]; omega
        have HE := Lib.hid (show has8 f r n = false by rw [HH, decide_eq_true h1, decide_eq_true h2, decide_eq_false h3]; rfl)
        clear HH h1 h2 h3 b0 b1 c2
        go_quiet (fail)
        go_wp2_with fail
        go_ret
        exact ⟨by rw [HE.out]; rfl, g0.trans ((Frm.refl _ w1).drewN _)⟩
    · have h2d : decide ((1 : Int) ≤ (n : Int)) = false := by rw [decide_eq_false_iff_not]; omega
      have HE := Lib.hid (show has8 f r n = false by rw [HH, decide_eq_true h1, decide_eq_false h2]; rfl)
      clear HH h1 h2 b0 b1 c2
      go_quiet (fail)
      go_wp2_with fail
      go_ret
      exact ⟨by rw [HE.out]; rfl, g0.trans ((Frm.refl _ w1).drewN _)⟩
  · have h1d : decide ((r : Int) < 8) = false := by rw [decide_eq_false_iff_not]; omega
    have HE := Lib.hid (show has8 f r n = false by rw [HH, decide_eq_false h1]; rfl)
    clear HH h1 b0 b1
    go_quiet (fail)
    go_wp2_with fail
    go_ret
    exact ⟨by rw [HE.out]; rfl, g0.trans ((Frm.refl _ w1).drewN _)⟩

set_option maxRecDepth 100000 in
set_option maxHeartbeats 1000000 in
theorem rin_any (v : Value) (l : List DotI) (x : DotI) (w : World) (h : DL w v l) :
    Calls Try.prog 62 #[v, .agg (dv x.r x.n)] w fun e w' => e = .returned (.bool (decide (x ∈ l))) ∧ Frm (fun _ => False) w w' := by
  obtain ⟨a, cap, rfl, hc1, hc2⟩ := h.slice
  unfold maxLen at hc2
  have g0 : Frm (fun _ => False) w (w.alloc (.cells (dv x.r x.n) 48)) := (Frm.refl _ w).alloc _
  have b0 := Blk.alloc w 48 (dv x.r x.n)
  have h1 := h.keepF g0
  go_enter Try.func62, Try.ntmps62
  go_upto_region 2 with fail
  generalize w.alloc (.cells (dv x.r x.n) 48) = w1 at *
  generalize w.heap.size = A at *
  go_loopw [5] (fun i wr => ∃ k : Nat, k ≤ l.length ∧ i = .int .i64 k ∧ (∀ j (hj : j < l.length), j < k → l[j] ≠ x) ∧ Frm (fun _ => False) w1 wr) (fun i _ => l.length - (intOf i).toNat)
  case atStart => exact ⟨0, Nat.zero_le _, rfl, fun j _ h => by omega, Frm.refl _ _⟩
  case round =>
    obtain ⟨k, hk, rfl, hbef, f1⟩ := hrel
    have HB := Lib.hid hbef
    clear hbef
    by_cases hlt : k < l.length
    · have hk0 : (0 : Int) ≤ (k : Int) := by omega
      have hki : (k : Int) < (l.length : Int) := by omega
      obtain ⟨g, off, rfl, c0, c1⟩ := (h1.keepF f1).load k hlt
      have b1 := b0.keep f1 (fun h => h)
      have d0 := b1.cell 0 rfl
      have d1 := b1.cell 1 rfl
      have E : ∀ W, (Op.equalIn 10000 48 (.agg (dv l[k].r l[k].n)) (.agg (dv x.r x.n))).run Try.prog W = .ok (decide (l[k] = x)) W := fun W => run_eq_rdot _ _ W
      generalize hq : decide (l[k] = x) = q at *
      have HQ := Lib.hid hq
      clear hq b1
      go_upto_region 4 with fail
      go_quiet (fail)
      have f2 : Frm (fun _ => False) w1 (wr.drewN nq) := f1.trans ((Frm.refl _ wr).drewN nq)
      cases q with
      | true =>
        go_wp2_with fail
        go_ret
        have hx := of_decide_eq_true HQ.out
        have hin : decide (x ∈ l) = true := decide_eq_true (by rw [← hx]; exact List.getElem_mem hlt)
        exact ⟨by rw [hin]; rfl, g0.trans f2⟩
      | false =>
        go_wp2_with fail
        go_roundw
        case rel =>
          refine ⟨k + 1, by omega, by go_num, fun j hj hjk => ?_, f2⟩
          by_cases e : j = k
          · subst e; exact of_decide_eq_false HQ.out
          · exact HB.out j hj (by omega)
        case measure => simp [intOf]; omega
    · obtain rfl : k = l.length := by omega
      have hn : x ∉ l := fun h => by
        obtain ⟨j, hj, e⟩ := List.getElem_of_mem h
        exact absurd e (HB.out j hj hj)
      have HN := Lib.hid hn
      clear hn
      go_wp2_with fail
      go_ret
      exact ⟨by rw [decide_eq_false HN.out]; rfl, g0.trans f1⟩
end Go.Proofs.Ytmdmkcofafhlcaa

