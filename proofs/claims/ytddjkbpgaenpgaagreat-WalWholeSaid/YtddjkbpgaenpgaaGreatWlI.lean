/- What change answers and leaves: steps, and the log is dead behind an error. No condition. -/
import Derived.Test.YtddjkbpgaenpgaaGreatWlG
import Derived.Defers
import Derived.Test.YtddjkbpgaenpgaaGreatCanonP
section
namespace Go.Proofs.YtddjkbpgaenpgaaGreat
open Go.RowKit Go.Shelf

set_option maxHeartbeats 1000000 in
/-- The deferred closure of change. -/
theorem change1_any (C B q c : Nat) (u : FrameMode) (w : World) (d : Bool) (h0 : w.cell? ⟨C, 0, none⟩ = some (.int .i64 (c : Nat))) (h1 : w.cell? ⟨B, 0, none⟩ = some (.pointer (some ⟨q, 0, none⟩))) (h6 : w.cell? ⟨q, 6, none⟩ = some (.bool d)) (f6 : w.frozen? ⟨q, 6, none⟩ = false) :
    CallsD Tryz.prog 147 #[.pointer (some ⟨C, 0, none⟩), .pointer (some ⟨B, 0, none⟩)] u w fun e u' w' => u' = u ∧ (e = .returned (.tuple #[]) ∧ w' = w.setCell ⟨q, 6, none⟩ (.bool (errB c))) := by
  cases hc : errB c with
  | true =>
    have hq : ((c : Int) != 0) = true := by unfold errB at hc; simp at hc ⊢; omega
    clear hc
    go_enter_d Tryz.func147, Tryz.ntmps147
    go_wp2
    go_end0
    exact ⟨rfl, rfl⟩
  | false =>
    have hq : ((c : Int) != 0) = false := by unfold errB at hc; simp at hc ⊢; omega
    clear hc
    go_enter_d Tryz.func147, Tryz.ntmps147
    go_wp2
    go_end0
    exact ⟨rfl, rfl⟩
set_option maxRecDepth 100000 in
set_option maxHeartbeats 4000000 in
/-- change: what perform answers; the log at q is noted dead, or not. -/
theorem change_any (q : Nat) (v : Value) (w : World) (X : Nat → Prop) (J : Nat → World → Prop) (hX : ∀ k, w.heap.size ≤ k → ¬ X k) (hq : q < w.heap.size)
    (hp : ∀ W, Frm (fun _ => False) w W → W.heap.size = w.heap.size + 2 → Calls Tryz.prog 90 #[v] W fun e w' => ∃ c : Nat, e = .returned (.int .i64 (c : Nat)) ∧ Frm X W w' ∧ (∃ d, w'.cell? ⟨q, 6, none⟩ = some (.bool d)) ∧ w'.frozen? ⟨q, 6, none⟩ = false ∧ J c w') :
    Calls Tryz.prog 101 #[.pointer (some ⟨q, 0, none⟩), v] w fun e w' => ∃ (c : Nat) (w1 w2 : World), e = .returned (.int .i64 (c : Nat)) ∧ J c w1 ∧ Frm X w w1 ∧ w.heap.size + 2 ≤ w1.heap.size ∧ Frm (· = w.heap.size + 1) w1 w2 ∧ w' = w2.setCell ⟨q, 6, none⟩ (.bool (errB c)) := by
  have hmf : ∀ (fn : Fn) (first cap : Array Value) (w : World), (Instr.makeFunc fn first cap).run Tryz.prog w = .ok (.func fn first cap) w := fun _ _ _ _ => rfl
  obtain ⟨w1, hw1⟩ : ∃ w1, (w.alloc (.cells #[.pointer (some ⟨q, 0, none⟩)] 73)).alloc (.cells #[.int .i64 0] 38) = w1 := ⟨_, rfl⟩
  have g1 : Frm (fun _ => False) w w1 := by rw [← hw1]; exact ((Frm.refl _ w).alloc _).alloc _
  have z1 : w1.heap.size = w.heap.size + 2 := by rw [← hw1]; simp
  have b0 : Blk w1 w.heap.size 73 #[.pointer (some ⟨q, 0, none⟩)] := by rw [← hw1]; exact (Blk.alloc w _ _).old _
  have b1 : Blk w1 (w.heap.size + 1) 38 #[.int .i64 0] := by
    have := Blk.alloc (w.alloc (.cells #[.pointer (some ⟨q, 0, none⟩)] 73)) 38 #[.int .i64 0]
    rw [World.size_alloc, hw1] at this
    exact this
  have HP := Lib.hid (hp w1 g1 z1)
  have HW := Lib.hid (And.intro g1 (And.intro z1 (And.intro b0 b1)))
  have HX := Lib.hid (And.intro hX hq)
  clear hp g1 z1 b0 b1 hX hq
  go_enter_defers Tryz.func101, Tryz.ntmps101
  go_wp2_with fail
  clear hw1
  refine HP.out.mono ?_
  rintro e w2 ⟨c, rfl, g2, ⟨d, k6⟩, f6, hj⟩
  have b0 := HW.out.2.2.1.keep g2 (HX.out.1 _ (Nat.le_refl _))
  have b1 := HW.out.2.2.2.keep g2 (HX.out.1 _ (Nat.le_succ _))
  have kC := b1.cell 0 rfl
  have fC := b1.free 0
  have b1' := b1.set 0 (.int .i64 (c : Nat))
  obtain ⟨w3, hw3⟩ : ∃ w3, w2.setCell ⟨w.heap.size + 1, 0, none⟩ (.int .i64 (c : Nat)) = w3 := ⟨_, rfl⟩
  have g3 : Frm (· = w.heap.size + 1) w2 w3 := by rw [← hw3]; exact (Frm.refl (· = w.heap.size + 1) w2).setCell (fun _ => rfl) _
  have hql := HX.out.2
  have hqw : q < w2.heap.size := by have := g2.size; have := HW.out.2.1; omega
  have e6 : w3.heap[q]? = w2.heap[q]? := g3.block q hqw (by omega)
  have k6' : w3.cell? ⟨q, 6, none⟩ = some (.bool d) := (World.cell?_of_block (a := ⟨q, 6, none⟩) e6).trans k6
  have f6' : w3.frozen? ⟨q, 6, none⟩ = false := by
    have : w3.frozen? ⟨q, 6, none⟩ = w2.frozen? ⟨q, 6, none⟩ := World.frozen?_of_block (a := ⟨q, 6, none⟩) e6
    rw [this]; exact f6
  have b03 := b0.keep g3 (by omega)
  rw [hw3] at b1'
  have kB3 := b03.cell 0 rfl
  have kC3 : w3.cell? ⟨w.heap.size + 1, 0, none⟩ = some (.int .i64 (c : Nat)) := b1'.cell 0 rfl
  have HD := Lib.hid (change1_any (w.heap.size + 1) w.heap.size q c .returning w3 d kC3 kB3 k6' f6')
  have gq : Frm (· = q) w3 (w3.setCell ⟨q, 6, none⟩ (.bool (errB c))) := (Frm.refl (· = q) w3).setCell (fun _ => rfl) _
  have kCf : (w3.setCell ⟨q, 6, none⟩ (.bool (errB c))).cell? ⟨w.heap.size + 1, 0, none⟩ = some (.int .i64 (c : Nat)) := (b1'.keep gq (by omega)).cell 0 rfl
  have HF := Lib.hid (And.intro kCf (And.intro hj (And.intro g2 g3)))
  clear g2 k6 f6 hj b0 b1 b1' g3 hql hqw e6 k6' f6' b03 kB3 kC3 gq kCf HP
  go_wp2_with fail
  refine leaves_cons (f := 147) (args := #[.pointer (some ⟨w.heap.size + 1, 0, none⟩), .pointer (some ⟨w.heap.size, 0, none⟩)]) (by simp) (by simp [go_sem]) ?_
  clear hw3 kC fC
  refine HD.out.mono ?_
  rintro e u' w4 ⟨rfl, rfl, rfl⟩
  obtain ⟨kCf, hj, g2, g3⟩ := HF.out
  have z1 := HW.out.2.1
  exact ⟨.int .i64 (c : Nat), by simp [results, Tryz.results101, go_sem, kCf], c, w2, w3, rfl, hj, (HW.out.1.mono fun _ _ h => h.elim).trans g2, by have := g2.size; omega, g3, rfl⟩
end Go.Proofs.YtddjkbpgaenpgaaGreat
end
section
namespace Go.Proofs.YtddjkbpgaenpgaaGreat
open Go.RowKit Go.Shelf

section
variable {P : Program} {ops : Array Oper}
theorem OpOK.valK {o : Oper} {a : Act} {W W' : World} {u : Value} {K : Value → World → Prop} (hw : Region.wanted o (yielded ops a.tmps) = true)
    (h : (execOp a.eval o).run P W = .ok (.value u) W') (hK : K u W') : OpOK P ops o a W K := .inl ⟨hw, by rw [h]; exact hK⟩
end
set_option maxRecDepth 100000 in
set_option maxHeartbeats 4000000 in
theorem wfits_any (q l b f x g : Nat) (V : WV) (R : RV) (L : LV) (z : Int) (w : World) (h : Wlk w q l V (some ⟨g, 0, none⟩)) (hr : RgM w g l b f x R L) (hd : V.dead = false) (hz : Z64 z) :
    Calls Tryz.prog 47 #[.pointer (some ⟨q, 0, none⟩), .int .i64 z] w fun e w' => e = .returned (.bool (decide (needs z.toNat ≤ R.left))) ∧ Frm (fun _ => False) w w' := by
  have c5 := Blk.cell h 5 rfl
  have HG := fun (W : World) (hW : Wlk W q l V (some ⟨g, 0, none⟩)) => wwrit_any q l V (some ⟨g, 0, none⟩) W hW
  have hw : wrB V (some ⟨g, 0, none⟩) = true := by unfold wrB; rw [hd]; rfl
  rw [hw] at HG
  have HG := Lib.hid (fun W (gW : Frm (fun _ => False) w W) => (HG W (h.keepF gW)))
  have HG : Hid (∀ W, Frm (fun _ => False) w W → Calls Tryz.prog 100 #[.pointer (some ⟨q, 0, none⟩)] W fun e w' => e = .returned (.bool true) ∧ Frm (fun _ => False) W w') := Lib.hid fun W gW => (HG.out W gW).mono fun e w' ⟨h1, h2⟩ => ⟨h1, by rw [← h2]; exact Frm.refl _ _⟩
  have HL : Hid (∀ W, Frm (fun _ => False) w W → Calls Tryz.prog 22 #[.pointer (some ⟨g, 0, none⟩)] W fun e w' => e = .returned (.int .i64 (R.left : Nat)) ∧ Frm (fun _ => False) W w') := Lib.hid fun W gW => rleft_any g l b f x R L W (hr.keepF gW)
  have HN : Hid (∀ W, Frm (fun _ => False) w W → Calls Tryz.prog 24 #[.int .i64 z] W fun e w' => e = .returned (.int .i64 (needs z.toNat : Nat)) ∧ Frm (fun _ => False) W w') := Lib.hid fun W _ => (needs_any z W hz).mono fun e w' ⟨h1, h2⟩ => ⟨h1, by rw [← h2]; exact Frm.refl _ _⟩
  obtain ⟨n, hn⟩ : ∃ n, needs z.toNat = n := ⟨_, rfl⟩
  obtain ⟨m, hm⟩ : ∃ m, R.left = m := ⟨_, rfl⟩
  rw [hn] at HN ⊢
  rw [hm] at HL ⊢
  clear h hr hd hz hw hn hm
  have HG' : ∀ w', (w'.cell? ⟨q, 5, none⟩ = some (.pointer (some ⟨g, 0, none⟩)) ∧ Frm (fun _ => False) w w') → Calls Tryz.prog 100 #[.pointer (some ⟨q, 0, none⟩)] w' fun e w'' => e = .returned (.bool true) ∧ Frm (fun _ => False) w' w'' := fun w' hw' => HG.out w' hw'.2
  have HL' : ∀ w', (w'.cell? ⟨q, 5, none⟩ = some (.pointer (some ⟨g, 0, none⟩)) ∧ Frm (fun _ => False) w w') → Calls Tryz.prog 22 #[.pointer (some ⟨g, 0, none⟩)] w' fun e w'' => e = .returned (.int .i64 (m : Nat)) ∧ Frm (fun _ => False) w' w'' := fun w' hw' => HL.out w' hw'.2
  have HN' : ∀ w', (w'.cell? ⟨q, 5, none⟩ = some (.pointer (some ⟨g, 0, none⟩)) ∧ Frm (fun _ => False) w w') → Calls Tryz.prog 24 #[.int .i64 z] w' fun e w'' => e = .returned (.int .i64 (n : Nat)) ∧ Frm (fun _ => False) w' w'' := fun w' hw' => HN.out w' hw'.2
  by_cases hle : n ≤ m
  · have hi : (n : Int) ≤ (m : Int) := by omega
    rw [decide_eq_true hle]
    clear hle
    go_enter Tryz.func47, Tryz.ntmps47
    go_upto_region 1 with fail
    refine wp_region_canon (fun w' => w'.cell? ⟨q, 5, none⟩ = some (.pointer (some ⟨g, 0, none⟩)) ∧ Frm (fun _ => False) w w') (by kernel_rfl) rfl (by kernel_rfl) (by kernel_rfl) (⟨c5, (Frm.refl _ w).drew⟩) ?_
    repeat' first
      | (refine CanonL.skip (by rfl) ?_; (try simp only [Act.put, List.setIfInBounds_toArray, List.set_cons_zero, List.set_cons_succ]))
      | (refine CanonL.callS (by rfl) (by rfl) ?_ HG' ?_ ?_; (focus (intro w; go_simp; (try (with_reducible rfl)); done)); (focus (rintro w ww hs gg; exact ⟨dFrm_cell gg hs.1, hs.2.trans gg⟩)); (try simp only [Act.put, List.setIfInBounds_toArray, List.set_cons_zero, List.set_cons_succ]))
      | (refine CanonL.callS (by rfl) (by rfl) ?_ HL' ?_ ?_; (focus (intro w; go_simp; (try (with_reducible rfl)); done)); (focus (rintro w ww hs gg; exact ⟨dFrm_cell gg hs.1, hs.2.trans gg⟩)); (try simp only [Act.put, List.setIfInBounds_toArray, List.set_cons_zero, List.set_cons_succ]))
      | (refine CanonL.callS (by rfl) (by rfl) ?_ HN' ?_ ?_; (focus (intro w; go_simp; (try (with_reducible rfl)); done)); (focus (rintro w ww hs gg; exact ⟨dFrm_cell gg hs.1, hs.2.trans gg⟩)); (try simp only [Act.put, List.setIfInBounds_toArray, List.set_cons_zero, List.set_cons_succ]))
      | (refine CanonL.val (v := ?_) (by rfl) ?_ ?_; rotate_left 1; (focus (intro w hSw; (try dsimp only at hSw); go_simp; (try (with_reducible rfl)); done)); (try simp only [Act.put, List.setIfInBounds_toArray, List.set_cons_zero, List.set_cons_succ]))
    refine CanonL.done ?_
    intro w9 hS9
    have G9 := Lib.hid hS9.2
    clear hS9 hi HG' HL' HN'
    go_wp2_with fail
    go_ret
    exact ⟨rfl, G9.out⟩
  · have hi : ¬ (n : Int) ≤ (m : Int) := by omega
    rw [decide_eq_false hle]
    clear hle
    go_enter Tryz.func47, Tryz.ntmps47
    go_upto_region 1 with fail
    refine wp_region_canon (fun w' => w'.cell? ⟨q, 5, none⟩ = some (.pointer (some ⟨g, 0, none⟩)) ∧ Frm (fun _ => False) w w') (by kernel_rfl) rfl (by kernel_rfl) (by kernel_rfl) (⟨c5, (Frm.refl _ w).drew⟩) ?_
    repeat' first
      | (refine CanonL.skip (by rfl) ?_; (try simp only [Act.put, List.setIfInBounds_toArray, List.set_cons_zero, List.set_cons_succ]))
      | (refine CanonL.callS (by rfl) (by rfl) ?_ HG' ?_ ?_; (focus (intro w; go_simp; (try (with_reducible rfl)); done)); (focus (rintro w ww hs gg; exact ⟨dFrm_cell gg hs.1, hs.2.trans gg⟩)); (try simp only [Act.put, List.setIfInBounds_toArray, List.set_cons_zero, List.set_cons_succ]))
      | (refine CanonL.callS (by rfl) (by rfl) ?_ HL' ?_ ?_; (focus (intro w; go_simp; (try (with_reducible rfl)); done)); (focus (rintro w ww hs gg; exact ⟨dFrm_cell gg hs.1, hs.2.trans gg⟩)); (try simp only [Act.put, List.setIfInBounds_toArray, List.set_cons_zero, List.set_cons_succ]))
      | (refine CanonL.callS (by rfl) (by rfl) ?_ HN' ?_ ?_; (focus (intro w; go_simp; (try (with_reducible rfl)); done)); (focus (rintro w ww hs gg; exact ⟨dFrm_cell gg hs.1, hs.2.trans gg⟩)); (try simp only [Act.put, List.setIfInBounds_toArray, List.set_cons_zero, List.set_cons_succ]))
      | (refine CanonL.val (v := ?_) (by rfl) ?_ ?_; rotate_left 1; (focus (intro w hSw; (try dsimp only at hSw); go_simp; (try (with_reducible rfl)); done)); (try simp only [Act.put, List.setIfInBounds_toArray, List.set_cons_zero, List.set_cons_succ]))
    refine CanonL.done ?_
    intro w9 hS9
    have G9 := Lib.hid hS9.2
    clear hS9 hi HG' HL' HN'
    go_wp2_with fail
    go_ret
    exact ⟨rfl, G9.out⟩
set_option maxRecDepth 100000 in
set_option maxHeartbeats 4000000 in
/-- The closure of Commit. -/
theorem commit1_any (B C q l g b f x : Nat) (V : WV) (R : RV) (L : LV) (s : List UInt8) (w : World) (h : Wlk w q l V (some ⟨g, 0, none⟩)) (hr : RgM w g l b f x R L) (c0 : w.cell? ⟨B, 0, none⟩ = some (.pointer (some ⟨q, 0, none⟩))) (c1 : w.cell? ⟨C, 0, none⟩ = some (.string (bs s))) (ha : L.acts ≤ 900000) (hs : s.length ≤ 1000000) (hP : L.cs.length = 0 ∨ ∀ k, L.P k → k < w.heap.size) :
    Calls Tryz.prog 102 #[.pointer (some ⟨B, 0, none⟩), .pointer (some ⟨C, 0, none⟩)] w (RgTo g l b f x (apR R L s) w) := by
  have c5 := Blk.cell h 5 rfl
  have HA := Lib.hid (fun W (gW : Frm (fun _ => False) w W) => rappend_any g l b f x R L s W (hr.keepF gW) ha hs (hP.imp id fun u k hk => by have := u k hk; have := gW.size; omega))
  clear h hr hP
  go_enter Tryz.func102, Tryz.ntmps102
  go_upto_region 1 with fail
  refine wp_region_tail 5 1 (fun w' => w'.cell? ⟨B, 0, none⟩ = some (.pointer (some ⟨q, 0, none⟩)) ∧ w'.cell? ⟨C, 0, none⟩ = some (.string (bs s)) ∧ w'.cell? ⟨q, 5, none⟩ = some (.pointer (some ⟨g, 0, none⟩)) ∧ Frm (fun _ => False) w w') (by kernel_rfl) rfl rfl (by kernel_rfl) (by kernel_rfl) (by kernel_rfl) (by kernel_rfl) (⟨c0, c1, c5, (Frm.refl _ w).drew⟩) ?_
  repeat' first
    | (refine CanonL.skip (by rfl) ?_; (try simp only [Act.put, List.setIfInBounds_toArray, List.set_cons_zero, List.set_cons_succ]))
    | (refine CanonL.val (v := ?_) (by rfl) ?_ ?_; rotate_left 1; (focus (intro w hSw; (try dsimp only at hSw); go_simp; (try (with_reducible rfl)); done)); (try simp only [Act.put, List.setIfInBounds_toArray, List.set_cons_zero, List.set_cons_succ]))
  refine CanonL.done ?_
  intro w9 hS9
  obtain ⟨_, _, _, g9⟩ := hS9
  have HA9 := Lib.hid (HA.out w9 g9)
  have G9 := Lib.hid g9
  clear g9 HA c0 c1 c5
  refine wpTail.cons rfl rfl (fun K hK => ?_)
  unfold Oper.wp execOp
  go_simp
  with_reducible refine HA9.out.mono ?_
  rintro e w10 ⟨rfl, h1, h2⟩
  have H1 := Lib.hid (And.intro h1 ((G9.out.mono fun _ _ h => h.elim : Frm (RgX g l f x) w w9).trans h2))
  clear h1 h2 HA9
  refine hK _ _ ?_
  clear hK K
  try simp only [Act.put, List.setIfInBounds_toArray, List.set_cons_zero, List.set_cons_succ]
  refine wpTail.cons rfl rfl (fun K hK => ?_)
  unfold Oper.wp execOp
  go_simp
  refine hK _ _ ?_
  clear hK K
  try simp only [Act.put, List.setIfInBounds_toArray, List.set_cons_zero, List.set_cons_succ]
  refine wpTail.done ?_
  go_wp2_with fail
  go_ret
  exact ⟨rfl, H1.out⟩
theorem AnTo.from {q l b f x : Nat} {V : WV} {rp : Option Addr} {s gen : Nat} {fin : RV × LV × Nat} {w w1 w' : World} {e : Ending} (h : AnTo q l b f x V rp s gen fin w1 e w') (g : Frm (fun _ => False) w w1) : AnTo q l b f x V rp s gen fin w e w' :=
  ⟨h.1, (g.mono fun _ _ h => h.elim).trans h.2.1, fun hc => by
    obtain ⟨g', e1, e2⟩ := h.2.2.1 hc
    exact ⟨g', Nat.le_trans g.size e1, e2⟩, h.2.2.2⟩
set_option maxRecDepth 100000 in
set_option maxHeartbeats 4000000 in
/-- The closure of Checkpoint. -/
theorem check1_any (B C q l b f x : Nat) (V : WV) (rp : Option Addr) (L : LV) (s : List UInt8) (w : World) (h : WlM w q l b f x V rp L) (c0 : w.cell? ⟨B, 0, none⟩ = some (.pointer (some ⟨q, 0, none⟩))) (c1 : w.cell? ⟨C, 0, none⟩ = some (.string (bs s))) (ha : L.acts ≤ 800000) (hs : s.length ≤ 1000000) (hP : L.cs.length = 0 ∨ ∀ k, L.P k → k < w.heap.size) (hg : V.gen + 1 < 4294967296) :
    Calls Tryz.prog 103 #[.pointer (some ⟨B, 0, none⟩), .pointer (some ⟨C, 0, none⟩)] w (AnTo q l b f x V rp (1 - V.side) (V.gen + 1) (anR L ((1 - V.side) * V.n) V.n (V.gen + 1) s) w) := by
  have c4 := Blk.cell h.blk 4 rfl
  have HA := Lib.hid (fun W (gW : Frm (fun _ => False) w W) => anew_any q l b f x V rp L (1 - V.side) (V.gen + 1) s W (h.keepF gW) (by omega) hg hs ha (hP.imp id fun u k hk => by have := u k hk; have := gW.size; omega))
  have HO : ∀ w', (w'.cell? ⟨B, 0, none⟩ = some (.pointer (some ⟨q, 0, none⟩)) ∧ w'.cell? ⟨C, 0, none⟩ = some (.string (bs s)) ∧ w'.cell? ⟨q, 4, none⟩ = some (.int .u32 (V.gen : Nat)) ∧ Frm (fun _ => False) w w') → Calls Tryz.prog 104 #[.pointer (some ⟨q, 0, none⟩)] w' fun e w'' => e = .returned (.int .i64 ((1 - V.side : Nat) : Int)) ∧ Frm (fun _ => False) w' w'' := fun w' hw => (wother_any q l V rp w' (h.blk.keepF hw.2.2.2) h.ok.s1).mono fun e w'' ⟨h1, h2⟩ => ⟨h1, by rw [← h2]; exact Frm.refl _ _⟩
  obtain ⟨fin, hfin⟩ : ∃ fin, anR L ((1 - V.side) * V.n) V.n (V.gen + 1) s = fin := ⟨_, rfl⟩
  rw [hfin] at HA ⊢
  obtain ⟨sd, hsd⟩ : ∃ sd, 1 - V.side = sd := ⟨_, rfl⟩
  rw [hsd] at HA HO ⊢
  obtain ⟨gn, hgn⟩ : ∃ gn, V.gen = gn := ⟨_, rfl⟩
  rw [hgn] at HA HO c4 hg ⊢
  have hw32 : IntKind.u32.wrap ((gn : Int) + 1) = ((gn + 1 : Nat) : Int) := by rw [IntKind.wrap_u32]; omega
  have HH := Lib.hid h
  clear h hP hfin hsd hgn
  go_enter Tryz.func103, Tryz.ntmps103
  go_upto_region 1 with fail
  refine wp_region_tail 9 1 (fun w' => w'.cell? ⟨B, 0, none⟩ = some (.pointer (some ⟨q, 0, none⟩)) ∧ w'.cell? ⟨C, 0, none⟩ = some (.string (bs s)) ∧ w'.cell? ⟨q, 4, none⟩ = some (.int .u32 (gn : Nat)) ∧ Frm (fun _ => False) w w') (by kernel_rfl) rfl rfl (by kernel_rfl) (by kernel_rfl) (by kernel_rfl) (by kernel_rfl) (⟨c0, c1, c4, (Frm.refl _ w).drew⟩) ?_
  repeat' first
    | (refine CanonL.skip (by rfl) ?_; (try simp only [Act.put, List.setIfInBounds_toArray, List.set_cons_zero, List.set_cons_succ]))
    | (refine CanonL.callS (by rfl) (by rfl) ?_ HO ?_ ?_; (focus (intro w; go_simp; (try (with_reducible rfl)); done)); (focus (rintro w ww hs gg; exact ⟨dFrm_cell gg hs.1, dFrm_cell gg hs.2.1, dFrm_cell gg hs.2.2.1, hs.2.2.2.trans gg⟩)); (try simp only [Act.put, List.setIfInBounds_toArray, List.set_cons_zero, List.set_cons_succ]))
    | (refine CanonL.val (v := ?_) (by rfl) ?_ ?_; rotate_left 1; (focus (intro w hSw; (try dsimp only at hSw); go_simp; (try (with_reducible rfl)); done)); (try simp only [Act.put, List.setIfInBounds_toArray, List.set_cons_zero, List.set_cons_succ]))
  refine CanonL.done ?_
  intro w9 hS9
  obtain ⟨_, _, _, g9⟩ := hS9
  have hA9 := HA.out w9 g9
  rw [show ((gn + 1 : Nat) : Int) = (gn : Int) + 1 by omega] at hA9
  have HA9 := Lib.hid hA9
  clear hA9
  have G9 := Lib.hid g9
  clear g9 HA c0 c1 c4 HO
  refine wpTail.cons rfl rfl (fun K hK => ?_)
  unfold Oper.wp execOp
  go_simp
  with_reducible refine HA9.out.mono ?_
  intro e w10 h10
  have h11 := h10.from G9.out
  obtain ⟨rfl, h12⟩ := h11
  have H1 := Lib.hid h12
  clear h10 h12 HA9
  refine hK _ _ ?_
  clear hK K
  try simp only [Act.put, List.setIfInBounds_toArray, List.set_cons_zero, List.set_cons_succ]
  refine wpTail.cons rfl rfl (fun K hK => ?_)
  unfold Oper.wp execOp
  go_simp
  refine hK _ _ ?_
  clear hK K
  try simp only [Act.put, List.setIfInBounds_toArray, List.set_cons_zero, List.set_cons_succ]
  refine wpTail.done ?_
  go_wp2_with fail
  go_ret
  exact ⟨rfl, H1.out⟩
end Go.Proofs.YtddjkbpgaenpgaaGreat
end
