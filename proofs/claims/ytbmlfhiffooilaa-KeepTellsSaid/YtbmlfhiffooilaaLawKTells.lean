/- KeepTells answers true: of any two versions, any policy, any tick. No condition. -/
import Derived.Test.YtbmlfhiffooilaaKpI
import Derived.Test.YtbmlfhiffooilaaStep
import Derived.Deep.DeepCutAuto
import Derived.Deep.RegionHeld
import Derived.Deep.RegionHeld3
namespace Go.Proofs.Ytbmlfhiffooilaa
open Go.RowKit Go.Shelf

theorem alloc_stepS {ops : Array Oper} {Q : Exit → Act → World → Prop} {K : Act → World → Prop} {i : Nat} {o : Oper} {a : Act} {w : World} (hi : ops[i]? = some o) (hg : o.guard = none) (ho : o.op = .alloc 24)
    (h : K (a.put o.dst (.pointer (some ⟨w.heap.size, 0, none⟩))) (w.alloc (.cells (stv zSt) 24))) : wpOp Try.prog ops Q i K a w := by
  unfold wpOp
  simp only [hi]
  rw [if_pos (by unfold Region.wanted; rw [hg])]
  refine .inl ?_
  unfold Oper.wp execOp
  simp only [ho]
  go_simp
  exact h

set_option maxRecDepth 100000 in
set_option maxHeartbeats 8000000 in
theorem keepTells_any (x y : StI) (k a : Nat) (q : Int) (now : Nat) (w : World) (hk : k ≤ 255) (ha : a ≤ 4294967295) (hq1 : -9223372036854775808 ≤ q) (hq2 : q ≤ 9223372036854775807) (hnow : now ≤ 4294967295) :
    Calls Try.prog 3 #[.agg #[.int .u32 (x.id : Int), .int .u32 (x.tick : Int), .int .u32 (y.id : Int), .int .u32 (y.tick : Int)], .agg (pv k a q), .int .u32 (now : Int)] w fun e w' => e = .returned (.bool true) ∧ Frm (fun _ => False) w w' := by
  have g0 : Frm (fun _ => False) w ((w.alloc (.cells #[.int .u32 (x.id : Int), .int .u32 (x.tick : Int), .int .u32 (y.id : Int), .int .u32 (y.tick : Int)] 25)).alloc (.cells (pv k a q) 27)) := ((Frm.refl _ w).alloc _).alloc _
  have b0 : Blk ((w.alloc (.cells #[.int .u32 (x.id : Int), .int .u32 (x.tick : Int), .int .u32 (y.id : Int), .int .u32 (y.tick : Int)] 25)).alloc (.cells (pv k a q) 27)) w.heap.size 25 #[.int .u32 (x.id : Int), .int .u32 (x.tick : Int), .int .u32 (y.id : Int), .int .u32 (y.tick : Int)] := (Blk.alloc w _ _).old _
  have b1 := Blk.atS w 25 27 #[.int .u32 (x.id : Int), .int .u32 (x.tick : Int), .int .u32 (y.id : Int), .int .u32 (y.tick : Int)] (pv k a q)
  go_enter Try.func3, Try.ntmps3
  go_upto_region 1 with fail
  generalize ((w.alloc (.cells #[.int .u32 (x.id : Int), .int .u32 (x.tick : Int), .int .u32 (y.id : Int), .int .u32 (y.tick : Int)] 25)).alloc (.cells (pv k a q) 27)) = w1 at *
  obtain ⟨A, hA⟩ : ∃ A, w.heap.size = A := ⟨_, rfl⟩
  have HA := Lib.hid hA
  rw [hA] at b0 b1 ⊢
  have HG := Lib.hid g0
  have c0 : w1.cell? ⟨A, 0, none⟩ = some (.int .u32 (x.id : Int)) := b0.cell 0 rfl
  have c1 : w1.cell? ⟨A, 1, none⟩ = some (.int .u32 (x.tick : Int)) := b0.cell 1 rfl
  have c2 : w1.cell? ⟨A, 2, none⟩ = some (.int .u32 (y.id : Int)) := b0.cell 2 rfl
  have c3 : w1.cell? ⟨A, 3, none⟩ = some (.int .u32 (y.tick : Int)) := b0.cell 3 rfl
  have HP := Lib.hid b1
  clear b0 b1 g0 hA
  go_cut [7, 8] (fun p7 p8 wr => ∃ s t : Nat, p7 = .pointer (some ⟨s, 0, none⟩) ∧ p8 = .pointer (some ⟨t, 0, none⟩) ∧ Blk wr s 24 (stv x) ∧ Blk wr t 24 (stv y) ∧ Frm (fun _ => False) w1 wr)
  case first =>
    refine wp_region_held_drew (S := fun w' : World => w'.cell? ⟨A, 0, none⟩ = some (.int .u32 (x.id : Int)) ∧ w'.cell? ⟨A, 1, none⟩ = some (.int .u32 (x.tick : Int)) ∧ w'.cell? ⟨A, 2, none⟩ = some (.int .u32 (y.id : Int)) ∧ w'.cell? ⟨A, 3, none⟩ = some (.int .u32 (y.tick : Int)) ∧ Frm (fun _ => False) w1 w') (by kernel_rfl) ⟨c0, c1, c2, c3, (Frm.refl _ w1).drew⟩ (fun hHeld => ?_)
    refine wpAnyH_take (i := 0) (v := ?_) rfl (by kernel_rfl) (by kernel_rfl) (by kernel_rfl) (fun _ _ _ h => h) (Or.inl ⟨by rfl, ?z0⟩) (by assumption) ?_
    case z0 =>
      intro w hSw
      obtain ⟨s0, s1, s2, s3, _⟩ := hSw
      go_simp
      try (with_reducible rfl)
    try simp only [Act.put, List.getElem_toArray, List.getElem_cons_zero, List.setIfInBounds_toArray, List.set_cons_zero, List.set_cons_succ]
    refine wpAnyH_take (i := 1) (v := ?_) rfl (by kernel_rfl) (by kernel_rfl) (by kernel_rfl) (fun _ _ _ h => h) (Or.inl ⟨by rfl, ?z1⟩) (by assumption) ?_
    case z1 =>
      intro w hSw
      obtain ⟨s0, s1, s2, s3, _⟩ := hSw
      go_simp
      try (with_reducible rfl)
    try simp only [Act.put, List.getElem_toArray, List.getElem_cons_zero, List.getElem_cons_succ, List.setIfInBounds_toArray, List.set_cons_zero, List.set_cons_succ]
    refine wpAnyH_take (i := 2) (v := ?_) rfl (by kernel_rfl) (by kernel_rfl) (by kernel_rfl) (fun _ _ _ h => h) (Or.inl ⟨by rfl, ?z2⟩) (by assumption) ?_
    case z2 =>
      intro w hSw
      obtain ⟨s0, s1, s2, s3, _⟩ := hSw
      go_simp
      try (with_reducible rfl)
    try simp only [Act.put, List.getElem_toArray, List.getElem_cons_zero, List.getElem_cons_succ, List.setIfInBounds_toArray, List.set_cons_zero, List.set_cons_succ]
    refine wpAnyH_take (i := 3) (v := ?_) rfl (by kernel_rfl) (by kernel_rfl) (by kernel_rfl) (fun _ _ _ h => h) (Or.inl ⟨by rfl, ?z3⟩) (by assumption) ?_
    case z3 =>
      intro w hSw
      obtain ⟨s0, s1, s2, s3, _⟩ := hSw
      go_simp
      try (with_reducible rfl)
    try simp only [Act.put, List.getElem_toArray, List.getElem_cons_zero, List.getElem_cons_succ, List.setIfInBounds_toArray, List.set_cons_zero, List.set_cons_succ]
    clear hHeld
    have f0 : Frm (fun _ => False) w1 w1.drew := (Frm.refl _ w1).drew
    obtain ⟨v0, hv0⟩ : ∃ v0, w1.drew = v0 := ⟨_, rfl⟩
    rw [hv0] at f0 ⊢
    clear hv0
    have f1 := f0.alloc (.cells (stv zSt) 24)
    have f2 := f1.alloc (.cells (stv zSt) 24)
    have n0 : Blk ((v0.alloc (.cells (stv zSt) 24)).alloc (.cells (stv zSt) 24)) v0.heap.size 24 (stv zSt) := (Blk.alloc v0 _ _).old _
    have n1 : Blk ((v0.alloc (.cells (stv zSt) 24)).alloc (.cells (stv zSt) 24)) (v0.alloc (.cells (stv zSt) 24)).heap.size 24 (stv zSt) := Blk.alloc (v0.alloc (.cells (stv zSt) 24)) _ _
    have hx1 : (v0.alloc (.cells (stv zSt) 24)).heap.size = v0.heap.size + 1 := by simp
    have hvw := f0.size
    refine wpAnyH_all (rs := [4, 5]) (by kernel_rfl) (by simp) ?_
    intro i hi
    simp only [List.mem_cons, List.not_mem_nil, or_false] at hi
    rcases hi with rfl | rfl
    · refine alloc_stepS rfl rfl rfl ⟨⟨f1.cellF c0, f1.cellF c1, f1.cellF c2, f1.cellF c3, f1⟩, ?_⟩
      try simp only [Act.put, List.getElem_toArray, List.getElem_cons_zero, List.getElem_cons_succ, List.setIfInBounds_toArray, List.set_cons_zero, List.set_cons_succ]
      refine wpAnyH_all (rs := [5]) (by kernel_rfl) (by simp) ?_
      intro i hi
      obtain rfl : i = 5 := by simpa using hi
      refine alloc_stepS rfl rfl rfl ⟨⟨f2.cellF c0, f2.cellF c1, f2.cellF c2, f2.cellF c3, f2⟩, ?_⟩
      try simp only [Act.put, List.getElem_toArray, List.getElem_cons_zero, List.getElem_cons_succ, List.setIfInBounds_toArray, List.set_cons_zero, List.set_cons_succ]
      refine wpAnyH_all (rs := [6]) (by kernel_rfl) (by simp) ?_
      intro i hi
      obtain rfl : i = 6 := by simpa using hi
      refine row_step rfl rfl rfl 24 _ _ rfl v0.heap.size (stv x) (stv zSt) rfl rfl n0 rfl (show _ = some 2 by kernel_rfl) (by simp [Value.oneCell']) ?_
      intro w4 e4 g4 z4
      have q4 := f2.next (X := fun _ => False) g4 (fun k hk h => by omega)
      refine ⟨⟨q4.cellF c0, q4.cellF c1, q4.cellF c2, q4.cellF c3, q4⟩, ?_⟩
      try simp only [Act.put]
      have y5 := n1.keep g4 (by omega)
      refine wpAnyH_all (rs := [7]) (by kernel_rfl) (by simp) ?_
      intro i hi
      obtain rfl : i = 7 := by simpa using hi
      refine row_step rfl rfl rfl 24 _ _ rfl (v0.alloc (.cells (stv zSt) 24)).heap.size (stv y) (stv zSt) rfl rfl y5 rfl (show _ = some 2 by kernel_rfl) (by simp [Value.oneCell']) ?_
      intro w5 e5 g5 z5
      have q5 := q4.next (X := fun _ => False) g5 (fun k hk h => by omega)
      refine ⟨⟨q5.cellF c0, q5.cellF c1, q5.cellF c2, q5.cellF c3, q5⟩, ?_⟩
      try simp only [Act.put]
      have y4 := e4.keep g5 (by omega)
      refine wpAnyH_done (by kernel_rfl) ?_ _
      go_wp2_with fail
      go_meet
      exact ⟨v0.heap.size, (v0.alloc (.cells (stv zSt) 24)).heap.size, rfl, rfl, y4, e5, q5⟩
    · refine alloc_stepS rfl rfl rfl ⟨⟨f1.cellF c0, f1.cellF c1, f1.cellF c2, f1.cellF c3, f1⟩, ?_⟩
      try simp only [Act.put, List.getElem_toArray, List.getElem_cons_zero, List.getElem_cons_succ, List.setIfInBounds_toArray, List.set_cons_zero, List.set_cons_succ]
      refine wpAnyH_all (rs := [4]) (by kernel_rfl) (by simp) ?_
      intro i hi
      obtain rfl : i = 4 := by simpa using hi
      refine alloc_stepS rfl rfl rfl ⟨⟨f2.cellF c0, f2.cellF c1, f2.cellF c2, f2.cellF c3, f2⟩, ?_⟩
      try simp only [Act.put, List.getElem_toArray, List.getElem_cons_zero, List.getElem_cons_succ, List.setIfInBounds_toArray, List.set_cons_zero, List.set_cons_succ]
      refine wpAnyH_all (rs := [6]) (by kernel_rfl) (by simp) ?_
      intro i hi
      obtain rfl : i = 6 := by simpa using hi
      refine row_step rfl rfl rfl 24 _ _ rfl (v0.alloc (.cells (stv zSt) 24)).heap.size (stv x) (stv zSt) rfl rfl n1 rfl (show _ = some 2 by kernel_rfl) (by simp [Value.oneCell']) ?_
      intro w4 e4 g4 z4
      have q4 := f2.next (X := fun _ => False) g4 (fun k hk h => by omega)
      refine ⟨⟨q4.cellF c0, q4.cellF c1, q4.cellF c2, q4.cellF c3, q4⟩, ?_⟩
      try simp only [Act.put]
      have y5 := n0.keep g4 (by omega)
      refine wpAnyH_all (rs := [7]) (by kernel_rfl) (by simp) ?_
      intro i hi
      obtain rfl : i = 7 := by simpa using hi
      refine row_step rfl rfl rfl 24 _ _ rfl v0.heap.size (stv y) (stv zSt) rfl rfl y5 rfl (show _ = some 2 by kernel_rfl) (by simp [Value.oneCell']) ?_
      intro w5 e5 g5 z5
      have q5 := q4.next (X := fun _ => False) g5 (fun k hk h => by omega)
      refine ⟨⟨q5.cellF c0, q5.cellF c1, q5.cellF c2, q5.cellF c3, q5⟩, ?_⟩
      try simp only [Act.put]
      have y4 := e4.keep g5 (by omega)
      refine wpAnyH_done (by kernel_rfl) ?_ _
      go_wp2_with fail
      go_meet
      exact ⟨(v0.alloc (.cells (stv zSt) 24)).heap.size, v0.heap.size, rfl, rfl, y4, e5, q5⟩
  case rest =>
    obtain ⟨s, t, rfl, rfl, bx, by_, F⟩ := hcut
    have x0 := bx.cell 0 rfl
    have x1 := bx.cell 1 rfl
    have y0 := by_.cell 0 rfl
    have y1 := by_.cell 1 rfl
    have bp := HP.out.keep F (fun h => h)
    have p0 := bp.cell 0 rfl
    have p1 := bp.cell 1 rfl
    have p2 := bp.cell 2 rfl
    have FF := HG.out.trans F
    have HN := Lib.hid (fun W => newer_any x y W)
    have HRN := Lib.hid (fun W => rnewer_any x y W)
    have HAG := Lib.hid (fun W => age_any x now W hnow)
    have HRA := Lib.hid (fun W => rage_any x now W hnow)
    have HW := Lib.hid awake9_any
    go_upto_region 2 with fail
    rcases (show check9 k a q = 0 ∨ check9 k a q = 4 by unfold check9; (repeat' split) <;> simp) with hc | hc
    · have HC := Lib.hid (show ∀ W, Calls Try.prog 13 #[.agg (pv k a q)] W (fun e w' => e = .returned (.int .i64 0) ∧ Frm (fun _ => False) W w') from fun W => (check9_any k a q W hk ha hq1 hq2).mono fun e w' h => ⟨by rw [h.1, hc]; rfl, h.2⟩)
      have HM := Lib.hid (show ∀ W, Calls Try.prog 14 #[.agg (pv k a q)] W (fun e w' => e = .returned (.bool true) ∧ Frm (fun _ => False) W w') from fun W => (may9_any k a q W hk ha hq1 hq2).mono fun e w' h => ⟨by rw [h.1, hc]; rfl, h.2⟩)
      clear hc
      refine wp_region_canon (fun w' => w'.cell? ⟨s, 0, none⟩ = some (.int .u32 (x.id : Int)) ∧ w'.cell? ⟨s, 1, none⟩ = some (.int .u32 (x.tick : Int)) ∧ w'.cell? ⟨t, 0, none⟩ = some (.int .u32 (y.id : Int)) ∧ w'.cell? ⟨t, 1, none⟩ = some (.int .u32 (y.tick : Int)) ∧ w'.cell? ⟨A + 1, 0, none⟩ = some (.int .u8 (k : Int)) ∧ w'.cell? ⟨A + 1, 1, none⟩ = some (.int .u32 (a : Int)) ∧ w'.cell? ⟨A + 1, 2, none⟩ = some (.int .i64 q) ∧ Frm (fun _ => False) w w') (by kernel_rfl) rfl (by kernel_rfl) (by kernel_rfl) (⟨x0, x1, y0, y1, p0, p1, p2, FF.drew⟩) ?_
      repeat' first
        | (refine CanonL.skip (by rfl) ?_; (try simp only [Act.put, List.setIfInBounds_toArray, List.set_cons_zero, List.set_cons_succ]))
        | (refine CanonL.callQ (by rfl) (by rfl) ?_ HN ?_ ?_; (focus (intro w; go_simp; (try (with_reducible rfl)); done)); (focus (rintro w ww hs gg; exact ⟨gg.cellF hs.1, gg.cellF hs.2.1, gg.cellF hs.2.2.1, gg.cellF hs.2.2.2.1, gg.cellF hs.2.2.2.2.1, gg.cellF hs.2.2.2.2.2.1, gg.cellF hs.2.2.2.2.2.2.1, hs.2.2.2.2.2.2.2.trans gg⟩)); (try simp only [Act.put, List.setIfInBounds_toArray, List.set_cons_zero, List.set_cons_succ]))
        | (refine CanonL.callQ (by rfl) (by rfl) ?_ HRN ?_ ?_; (focus (intro w; go_simp; (try (with_reducible rfl)); done)); (focus (rintro w ww hs gg; exact ⟨gg.cellF hs.1, gg.cellF hs.2.1, gg.cellF hs.2.2.1, gg.cellF hs.2.2.2.1, gg.cellF hs.2.2.2.2.1, gg.cellF hs.2.2.2.2.2.1, gg.cellF hs.2.2.2.2.2.2.1, hs.2.2.2.2.2.2.2.trans gg⟩)); (try simp only [Act.put, List.setIfInBounds_toArray, List.set_cons_zero, List.set_cons_succ]))
        | (refine CanonL.callQ (by rfl) (by rfl) ?_ HAG ?_ ?_; (focus (intro w; go_simp; (try (with_reducible rfl)); done)); (focus (rintro w ww hs gg; exact ⟨gg.cellF hs.1, gg.cellF hs.2.1, gg.cellF hs.2.2.1, gg.cellF hs.2.2.2.1, gg.cellF hs.2.2.2.2.1, gg.cellF hs.2.2.2.2.2.1, gg.cellF hs.2.2.2.2.2.2.1, hs.2.2.2.2.2.2.2.trans gg⟩)); (try simp only [Act.put, List.setIfInBounds_toArray, List.set_cons_zero, List.set_cons_succ]))
        | (refine CanonL.callQ (by rfl) (by rfl) ?_ HRA ?_ ?_; (focus (intro w; go_simp; (try (with_reducible rfl)); done)); (focus (rintro w ww hs gg; exact ⟨gg.cellF hs.1, gg.cellF hs.2.1, gg.cellF hs.2.2.1, gg.cellF hs.2.2.2.1, gg.cellF hs.2.2.2.2.1, gg.cellF hs.2.2.2.2.2.1, gg.cellF hs.2.2.2.2.2.2.1, hs.2.2.2.2.2.2.2.trans gg⟩)); (try simp only [Act.put, List.setIfInBounds_toArray, List.set_cons_zero, List.set_cons_succ]))
        | (refine CanonL.callQ (by rfl) (by rfl) ?_ HC ?_ ?_; (focus (intro w; go_simp; (try (with_reducible rfl)); done)); (focus (rintro w ww hs gg; exact ⟨gg.cellF hs.1, gg.cellF hs.2.1, gg.cellF hs.2.2.1, gg.cellF hs.2.2.2.1, gg.cellF hs.2.2.2.2.1, gg.cellF hs.2.2.2.2.2.1, gg.cellF hs.2.2.2.2.2.2.1, hs.2.2.2.2.2.2.2.trans gg⟩)); (try simp only [Act.put, List.setIfInBounds_toArray, List.set_cons_zero, List.set_cons_succ]))
        | (refine CanonL.callQ (by rfl) (by rfl) ?_ HM ?_ ?_; (focus (intro w; go_simp; (try (with_reducible rfl)); done)); (focus (rintro w ww hs gg; exact ⟨gg.cellF hs.1, gg.cellF hs.2.1, gg.cellF hs.2.2.1, gg.cellF hs.2.2.2.1, gg.cellF hs.2.2.2.2.1, gg.cellF hs.2.2.2.2.2.1, gg.cellF hs.2.2.2.2.2.2.1, hs.2.2.2.2.2.2.2.trans gg⟩)); (try simp only [Act.put, List.setIfInBounds_toArray, List.set_cons_zero, List.set_cons_succ]))
        | (refine CanonL.callQ (by rfl) (by rfl) ?_ HW ?_ ?_; (focus (intro w; go_simp; (try (with_reducible rfl)); done)); (focus (rintro w ww hs gg; exact ⟨gg.cellF hs.1, gg.cellF hs.2.1, gg.cellF hs.2.2.1, gg.cellF hs.2.2.2.1, gg.cellF hs.2.2.2.2.1, gg.cellF hs.2.2.2.2.2.1, gg.cellF hs.2.2.2.2.2.2.1, hs.2.2.2.2.2.2.2.trans gg⟩)); (try simp only [Act.put, List.setIfInBounds_toArray, List.set_cons_zero, List.set_cons_succ]))
        | (refine CanonL.val (v := ?_) (by rfl) ?_ ?_; rotate_left 1; (focus (intro w hSw; (try dsimp only at hSw); go_simp; (try (with_reducible rfl)); done)); (try simp only [Act.put, List.setIfInBounds_toArray, List.set_cons_zero, List.set_cons_succ]))
      refine CanonL.done ?_
      intro w9 hS9
      obtain ⟨_, _, _, _, _, _, _, ff⟩ := hS9
      go_wp2_with fail
      go_ret
      exact ⟨rfl, ff⟩
    · have HC := Lib.hid (show ∀ W, Calls Try.prog 13 #[.agg (pv k a q)] W (fun e w' => e = .returned (.int .i64 4) ∧ Frm (fun _ => False) W w') from fun W => (check9_any k a q W hk ha hq1 hq2).mono fun e w' h => ⟨by rw [h.1, hc]; rfl, h.2⟩)
      have HM := Lib.hid (show ∀ W, Calls Try.prog 14 #[.agg (pv k a q)] W (fun e w' => e = .returned (.bool false) ∧ Frm (fun _ => False) W w') from fun W => (may9_any k a q W hk ha hq1 hq2).mono fun e w' h => ⟨by rw [h.1, hc]; rfl, h.2⟩)
      clear hc
      refine wp_region_canon (fun w' => w'.cell? ⟨s, 0, none⟩ = some (.int .u32 (x.id : Int)) ∧ w'.cell? ⟨s, 1, none⟩ = some (.int .u32 (x.tick : Int)) ∧ w'.cell? ⟨t, 0, none⟩ = some (.int .u32 (y.id : Int)) ∧ w'.cell? ⟨t, 1, none⟩ = some (.int .u32 (y.tick : Int)) ∧ w'.cell? ⟨A + 1, 0, none⟩ = some (.int .u8 (k : Int)) ∧ w'.cell? ⟨A + 1, 1, none⟩ = some (.int .u32 (a : Int)) ∧ w'.cell? ⟨A + 1, 2, none⟩ = some (.int .i64 q) ∧ Frm (fun _ => False) w w') (by kernel_rfl) rfl (by kernel_rfl) (by kernel_rfl) (⟨x0, x1, y0, y1, p0, p1, p2, FF.drew⟩) ?_
      repeat' first
        | (refine CanonL.skip (by rfl) ?_; (try simp only [Act.put, List.setIfInBounds_toArray, List.set_cons_zero, List.set_cons_succ]))
        | (refine CanonL.callQ (by rfl) (by rfl) ?_ HN ?_ ?_; (focus (intro w; go_simp; (try (with_reducible rfl)); done)); (focus (rintro w ww hs gg; exact ⟨gg.cellF hs.1, gg.cellF hs.2.1, gg.cellF hs.2.2.1, gg.cellF hs.2.2.2.1, gg.cellF hs.2.2.2.2.1, gg.cellF hs.2.2.2.2.2.1, gg.cellF hs.2.2.2.2.2.2.1, hs.2.2.2.2.2.2.2.trans gg⟩)); (try simp only [Act.put, List.setIfInBounds_toArray, List.set_cons_zero, List.set_cons_succ]))
        | (refine CanonL.callQ (by rfl) (by rfl) ?_ HRN ?_ ?_; (focus (intro w; go_simp; (try (with_reducible rfl)); done)); (focus (rintro w ww hs gg; exact ⟨gg.cellF hs.1, gg.cellF hs.2.1, gg.cellF hs.2.2.1, gg.cellF hs.2.2.2.1, gg.cellF hs.2.2.2.2.1, gg.cellF hs.2.2.2.2.2.1, gg.cellF hs.2.2.2.2.2.2.1, hs.2.2.2.2.2.2.2.trans gg⟩)); (try simp only [Act.put, List.setIfInBounds_toArray, List.set_cons_zero, List.set_cons_succ]))
        | (refine CanonL.callQ (by rfl) (by rfl) ?_ HAG ?_ ?_; (focus (intro w; go_simp; (try (with_reducible rfl)); done)); (focus (rintro w ww hs gg; exact ⟨gg.cellF hs.1, gg.cellF hs.2.1, gg.cellF hs.2.2.1, gg.cellF hs.2.2.2.1, gg.cellF hs.2.2.2.2.1, gg.cellF hs.2.2.2.2.2.1, gg.cellF hs.2.2.2.2.2.2.1, hs.2.2.2.2.2.2.2.trans gg⟩)); (try simp only [Act.put, List.setIfInBounds_toArray, List.set_cons_zero, List.set_cons_succ]))
        | (refine CanonL.callQ (by rfl) (by rfl) ?_ HRA ?_ ?_; (focus (intro w; go_simp; (try (with_reducible rfl)); done)); (focus (rintro w ww hs gg; exact ⟨gg.cellF hs.1, gg.cellF hs.2.1, gg.cellF hs.2.2.1, gg.cellF hs.2.2.2.1, gg.cellF hs.2.2.2.2.1, gg.cellF hs.2.2.2.2.2.1, gg.cellF hs.2.2.2.2.2.2.1, hs.2.2.2.2.2.2.2.trans gg⟩)); (try simp only [Act.put, List.setIfInBounds_toArray, List.set_cons_zero, List.set_cons_succ]))
        | (refine CanonL.callQ (by rfl) (by rfl) ?_ HC ?_ ?_; (focus (intro w; go_simp; (try (with_reducible rfl)); done)); (focus (rintro w ww hs gg; exact ⟨gg.cellF hs.1, gg.cellF hs.2.1, gg.cellF hs.2.2.1, gg.cellF hs.2.2.2.1, gg.cellF hs.2.2.2.2.1, gg.cellF hs.2.2.2.2.2.1, gg.cellF hs.2.2.2.2.2.2.1, hs.2.2.2.2.2.2.2.trans gg⟩)); (try simp only [Act.put, List.setIfInBounds_toArray, List.set_cons_zero, List.set_cons_succ]))
        | (refine CanonL.callQ (by rfl) (by rfl) ?_ HM ?_ ?_; (focus (intro w; go_simp; (try (with_reducible rfl)); done)); (focus (rintro w ww hs gg; exact ⟨gg.cellF hs.1, gg.cellF hs.2.1, gg.cellF hs.2.2.1, gg.cellF hs.2.2.2.1, gg.cellF hs.2.2.2.2.1, gg.cellF hs.2.2.2.2.2.1, gg.cellF hs.2.2.2.2.2.2.1, hs.2.2.2.2.2.2.2.trans gg⟩)); (try simp only [Act.put, List.setIfInBounds_toArray, List.set_cons_zero, List.set_cons_succ]))
        | (refine CanonL.callQ (by rfl) (by rfl) ?_ HW ?_ ?_; (focus (intro w; go_simp; (try (with_reducible rfl)); done)); (focus (rintro w ww hs gg; exact ⟨gg.cellF hs.1, gg.cellF hs.2.1, gg.cellF hs.2.2.1, gg.cellF hs.2.2.2.1, gg.cellF hs.2.2.2.2.1, gg.cellF hs.2.2.2.2.2.1, gg.cellF hs.2.2.2.2.2.2.1, hs.2.2.2.2.2.2.2.trans gg⟩)); (try simp only [Act.put, List.setIfInBounds_toArray, List.set_cons_zero, List.set_cons_succ]))
        | (refine CanonL.val (v := ?_) (by rfl) ?_ ?_; rotate_left 1; (focus (intro w hSw; (try dsimp only at hSw); go_simp; (try (with_reducible rfl)); done)); (try simp only [Act.put, List.setIfInBounds_toArray, List.set_cons_zero, List.set_cons_succ]))
      refine CanonL.done ?_
      intro w9 hS9
      obtain ⟨_, _, _, _, _, _, _, ff⟩ := hS9
      go_wp2_with fail
      go_ret
      exact ⟨rfl, ff⟩
end Go.Proofs.Ytbmlfhiffooilaa
