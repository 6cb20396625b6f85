/- What the document's own TakeDot answers: the same. Of any reader. No condition but the reader's own. -/
import Derived.Test.YtdoeogfjbcannaaVecK
namespace Go.Proofs.Ytdoeogfjbcannaa
open Go.RowKit

/-- A store of a whole dot, in a region that asks for its order, under an S that it keeps. -/
theorem CanonL.storeD {ops : Array Oper} {S : World → Prop} {F : Act → Prop} {os : List Oper} {a : Act} {o : Oper} (hw : Region.wanted o (yielded ops a.tmps) = true) (x y : Operand) (ho : o.op = .store 26 x y)
    (b r n : Nat) (hx : a.eval x = .pointer (some ⟨b, 0, none⟩)) (hy : a.eval y = .agg (dv r n)) (hS : ∀ w, S w → ∃ old, Blk w b 26 old ∧ old.size = 2)
    (hS2 : ∀ w w', S w → Blk w' b 26 (dv r n) → Frm (· = b) w w' → S w') (hK : CanonL Try.prog ops S F os (a.put o.dst undef)) : CanonL Try.prog ops S F (o :: os) a := by
  refine ⟨undef, .inl ⟨hw, fun w hs => ?_⟩, hK⟩
  obtain ⟨old, h1, h2⟩ := hS w hs
  have hr := run_storeVar_row (P := Try.prog) w b 26 26 old (dv r n) h1 (by show _ = some 2; kernel_rfl) (by rw [h2]; rfl) (by simp [Value.oneCell'])
  have hb : Blk (w.setRow b (dv r n)) b 26 (dv r n) := by
    simp only [Blk] at h1
    simp only [Blk, World.setRow, Array.getElem?_modify]
    simp [h1]
  have hfr : Frm (· = b) w (w.setRow b (dv r n)) := by
    refine ⟨rfl, rfl, rfl, by simp [World.setRow], fun k _ hk => ?_⟩
    simp only [World.setRow, Array.getElem?_modify]
    rw [if_neg (fun e => hk e.symm)]
  have hs2 := hS2 w _ hs hb hfr
  unfold execOp
  simp only [ho, hx, hy, Instr.storeAt, Instr.sureAddr, Sem.run_bind, Sem.run_pure, Result.andThen_ok, hr]
  first | exact ⟨rfl, hs2⟩ | exact hs2
theorem dz_eq : dz = dv 0 0 := rfl

set_option maxRecDepth 100000 in
set_option maxHeartbeats 2000000 in
theorem rtakeDot_any (b : Nat) (t l : List UInt8) (e : Nat) (w : World) (h : Rq w b t l e) : Calls Try.prog 26 #[.pointer (some ⟨b, 0, none⟩)] w (fun r w' =>
    r = .returned (.tuple #[.agg (dv (takeDS l e).1.1 (takeDS l e).1.2), .int .i64 (takeDS l e).2]) ∧ Rq w' b t (readD l e).2.1 (readD l e).2.2 ∧ Frm (· = b) w w') := by
  have hbl := h.lt
  have g0 : Frm (fun _ => False) w ((w.alloc (Obj.cells dz 26)).alloc (Obj.cells dz 26)) := ((Frm.refl _ w).alloc _).alloc _
  have b0 : Blk ((w.alloc (Obj.cells dz 26)).alloc (Obj.cells dz 26)) w.heap.size 26 dz := (Blk.alloc w _ _).old _
  have b1 : Blk ((w.alloc (Obj.cells dz 26)).alloc (Obj.cells dz 26)) (w.heap.size + 1) 26 dz := Blk.at1 w _ _ _
  have r0 := h.keep g0 (fun h => h)
  have hm : (numS 1 l e).1 < 256 := beN_lt 1 _ (nextS_len 1 l e)
  have HT := Lib.hid (show takeDS l e = judgeD (readD l e) from rfl)
  have HR := Lib.hid (show readD l e = (((numS 1 l e).1, (varS (numS 1 l e).2.1 (numS 1 l e).2.2).1), (varS (numS 1 l e).2.1 (numS 1 l e).2.2).2) from rfl)
  generalize takeDS l e = TS at *
  generalize readD l e = RS at *
  go_enter Try.func26, Try.ntmps26
  go_wp2_with ((with_reducible refine wpl_store_dot rfl _ _ rfl (w.heap.size + 1) 0 0 dz ?_ ?_ b1 rfl ?_); (focus rfl); (focus rfl); intro w5 e5 g5 z5)
  have r1 := r0.keep g5 (by omega)
  have d0 := b0.keep g5 (by omega)
  have k0 := (g0.mono (Y := (· = b)) (fun _ _ h => h.elim)).next g5 (fun j hj h => by omega)
  clear b0 b1 r0 g0 g5 z5 h
  refine (q_number 1 b t l e _ r1 (by omega)).mono ?_
  rintro e1 w1 ⟨rfl, r2, g1⟩
  have c0 := d0.keep g1 (by omega)
  have c1 := e5.keep g1 (by omega)
  have k1 := k0.trans g1
  clear d0 e5 r1 k0 g1
  generalize (numS 1 l e).1 = m at *
  generalize (numS 1 l e).2.1 = l1 at *
  generalize (numS 1 l e).2.2 = e1 at *
  have hm8 : ((m : Int) % 256) = (m : Int) := by omega
  have x1 := c1.cell 0 rfl
  have f1 := c1.free 0
  go_wp2_with fail
  obtain ⟨w2, hw2⟩ : ∃ w2, w1.setCell ⟨w.heap.size + 1, 0, none⟩ (.int .u8 m) = w2 := ⟨_, rfl⟩
  have y1 : Blk w2 (w.heap.size + 1) 26 (#[.int .u8 m, .int .u32 (0 : Nat)]) := by rw [← hw2]; exact c1.set 0 (.int .u8 m)
  have y0 := c0.other (p := ⟨w.heap.size + 1, 0, none⟩) (by simp only; omega) (.int .u8 m)
  have yr := r2.keep (Frm.one (w.heap.size + 1) 0 (.int .u8 m) w1) (by omega)
  have yk := k1.setCell (p := ⟨w.heap.size + 1, 0, none⟩) (fun h => by simp only at h; omega) (.int .u8 m)
  rw [hw2] at y0 yr yk ⊢
  clear hw2 c0 c1 r2 k1 x1 f1
  refine (q_var b t l1 e1 _ yr).mono ?_
  rintro e3 w3 ⟨rfl, r3, g3⟩
  have d0 := y0.keep g3 (by omega)
  have d1 := y1.keep g3 (by omega)
  have k3 := yk.trans g3
  have hn : (varS l1 e1).1 < 4294967296 := varS_lt _ _
  generalize (varS l1 e1).1 = n at *
  generalize (varS l1 e1).2 = s at *
  clear y0 y1 yr yk g3
  have x1 := d1.cell 1 rfl
  have f1 := d1.free 1
  have z1 : Blk (w3.setCell ⟨w.heap.size + 1, 1, none⟩ (.int .u32 n)) (w.heap.size + 1) 26 (dv m n) := d1.set 1 (.int .u32 n)
  have z0 := d0.other (p := ⟨w.heap.size + 1, 1, none⟩) (by simp only; omega) (.int .u32 n)
  have zr := r3.keep (Frm.one (w.heap.size + 1) 1 (.int .u32 n) w3) (by omega)
  have zk := k3.setCell (p := ⟨w.heap.size + 1, 1, none⟩) (fun h => by simp only at h; omega) (.int .u32 n)
  have z2 := zr.c2
  have zd := z0
  rw [dz_eq] at zd
  have q0 := z1.cell 0 rfl
  have q1 := z1.cell 1 rfl
  clear d0 d1 r3 k3
  by_cases he : s.2 = 0
  · have hed : ((s.2 : Int) != 0) = false := by rw [he]; rfl
    have V := fun w => rmayDot_any m n w
    cases hok : okD m n with
    | true =>
      have HJ := Lib.hid (show judgeD ((m, n), s) = ((m, n), 0) by simp [judgeD, he, hok])
      rw [hok] at V
      have HV := Lib.hid V
      clear V hok he
      go_wp2_with fail
      refine (HV.out _).mono ?_
      rintro e6 w6 ⟨rfl, g6⟩
      have dd := z0.keep g6 (fun h => h)
      have rr := zr.keep g6 (fun h => h)
      have kk := zk.trans (g6.mono (fun _ _ h => h.elim))
      have dx := z1.keep g6 (fun h => h)
      clear q0 q1 x1 f1 z2
      have c0 := dx.cell 0 rfl
      have c1 := dx.cell 1 rfl
      go_wp2_with ((with_reducible refine wpl_store_dot rfl _ _ rfl w.heap.size m n dz ?_ ?_ dd rfl ?_); (focus rfl); (focus rfl); intro w7 e7 g7 z7; have h0 := e7.cell 0 rfl; have h1 := e7.cell 1 rfl)
      refine bodyPost_ret (v := .tuple #[.agg (dv m n), .int .i64 0]) (by simp [results, Try.results26, go_sem, h0, h1]) rfl ?_
      rw [HT.out, HR.out, HJ.out]
      exact ⟨rfl, rr.keep g7 (by omega), kk.next g7 (fun j hj h => by omega)⟩
    | false =>
      have HJ := Lib.hid (show judgeD ((m, n), s) = ((0, 0), 4) by simp [judgeD, he, hok])
      rw [hok] at V
      have HV := Lib.hid V
      clear V hok he
      go_wp2_with fail
      refine (HV.out _).mono ?_
      rintro e6 w6 ⟨rfl, g6⟩
      have dd := z0.keep g6 (fun h => h)
      have rr := zr.keep g6 (fun h => h)
      have kk := zk.trans (g6.mono (fun _ _ h => h.elim))
      clear q0 q1 x1 f1 z2
      go_wp2_with ((with_reducible refine wpl_store_dot rfl _ _ rfl w.heap.size 0 0 dz ?_ ?_ dd rfl ?_); (focus rfl); (focus rfl); intro w7 e7 g7 z7; have h0 := e7.cell 0 rfl; have h1 := e7.cell 1 rfl)
      refine bodyPost_ret (v := .tuple #[.agg (dv 0 0), .int .i64 4]) (by simp [results, Try.results26, go_sem, h0, h1]) rfl ?_
      rw [HT.out, HR.out, HJ.out]
      exact ⟨rfl, rr.keep g7 (by omega), kk.next g7 (fun j hj h => by omega)⟩
  · have hed : ((s.2 : Int) != 0) = true := by simpa using he
    have HJ := Lib.hid (show judgeD ((m, n), s) = ((0, 0), s.2) by simp [judgeD, he])
    clear he
    go_wp2_with fail
    refine wp_region_canon (fun w' => w'.cell? ⟨b, 2, none⟩ = some (.int .i64 s.2) ∧ Blk w' w.heap.size 26 (dv 0 0) ∧ Rq w' b t s.1 s.2 ∧ Frm (· = b) w w') (by kernel_rfl) rfl (by kernel_rfl) (by kernel_rfl) ⟨z2, zd, zr, zk.drew⟩ ?_
    repeat' first
      | (refine CanonL.skip (by rfl) ?_; (try simp only [Act.put, List.setIfInBounds_toArray, List.set_cons_zero, List.set_cons_succ]))
      | (refine CanonL.storeD (by rfl) _ _ rfl w.heap.size 0 0 ?_ ?_ ?_ ?_ ?_; (focus rfl); (focus rfl); (focus (intro w4 h4; exact ⟨_, h4.2.1, rfl⟩)); (focus (intro w4 w6 h4 hb4 hg4; exact ⟨(h4.2.2.1.keep hg4 (by omega)).c2, hb4, h4.2.2.1.keep hg4 (by omega), h4.2.2.2.next hg4 (fun j hj h => by omega)⟩)); (try simp only [Act.put]))
      | (refine CanonL.val (v := ?_) (by rfl) ?_ ?_; rotate_left 1; (focus (intro w hSw; (try dsimp only at hSw); go_simp; (try (with_reducible rfl)); done)); (try simp only [Act.put, List.setIfInBounds_toArray, List.set_cons_zero, List.set_cons_succ]))
    refine CanonL.done ?_
    intro w9 hS9
    obtain ⟨_, e9, r9, k9⟩ := hS9
    have h0 := e9.cell 0 rfl
    have h1 := e9.cell 1 rfl
    go_wp2_with fail
    refine bodyPost_ret (v := .tuple #[.agg (dv 0 0), .int .i64 s.2]) (by simp [results, Try.results26, go_sem, h0, h1]) rfl ?_
    rw [HT.out, HR.out, HJ.out]
    exact ⟨rfl, r9, k9⟩
end Go.Proofs.Ytdoeogfjbcannaa
