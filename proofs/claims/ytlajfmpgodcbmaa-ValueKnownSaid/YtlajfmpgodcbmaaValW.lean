/- What Take answers, the program's and the document's. Of any reader. -/
import Derived.Test.YtlajfmpgodcbmaaValV
import Derived.Deep.Cut
namespace Go.Proofs.Ytlajfmpgodcbmaa
open Go.RowKit

set_option maxRecDepth 100000 in
set_option maxHeartbeats 8000000 in
theorem take_any7 (b : Nat) (l : List UInt8) (e : Nat) (w : World) (h : Rd w b l e) :
    Calls Try.prog 24 #[.pointer (some ⟨b, 0, none⟩)] w fun r w' => ∃ v, r = .returned (.tuple #[.agg (av (takeV l e).1.1 (takeV l e).1.2.1 v), .int .i64 (takeV l e).1.2.2.2]) ∧ Own w' v (takeV l e).1.2.2.1 ∧ (∀ g, v.ownBlock = some g → w.heap.size ≤ g) ∧ Rd w' b (takeV l e).2.1 (takeV l e).2.2 ∧ Frm (· = b) w w' := by
  have hb := h.lt
  have g0 : Frm (· = b) w (w.alloc (.cells av0 24)) := (Frm.refl _ w).alloc _
  have b0 : Blk (w.alloc (.cells av0 24)) w.heap.size 24 av0 := Blk.alloc w _ _
  have r0 := h.keep (X := fun _ => False) ((Frm.refl _ w).alloc (.cells av0 24)) (fun h => h)
  have hz0 : (w.alloc (.cells av0 24)).heap.size = w.heap.size + 1 := by simp
  have H1 := Lib.hid (thead_any b l e _ r0)
  have hlt : (headS l e).1.2.1 ≤ 256 := by
    unfold headS
    dsimp only
    split <;> split <;> (try split) <;> simp <;> omega
  unfold takeV
  obtain ⟨d, n, x, l1, e1, hx⟩ : ∃ d n x l1 e1, headS l e = ((d, n, x), l1, e1) := ⟨_, _, _, _, _, rfl⟩
  simp only [hx] at H1 hlt ⊢
  clear hx
  by_cases hx : x ≠ 0
  · rw [if_pos hx]
    have hx' : ((x : Int) != 0) = true := by rw [bne_iff_ne]; omega
    clear hx hz0
    go_enter Try.func24, Try.ntmps24
    go_wp2_with fail
    refine H1.out.mono ?_
    rintro r w1 ⟨rfl, r1, g1⟩
    have b1 := b0.keep g1 (by omega)
    have m0 := b1.free 0
    have m1 := b1.free 1
    have m2 := b1.free 2
    have p0 := b1.cell 0 rfl
    have p1 := b1.cell 1 rfl
    have p2 := b1.cell 2 rfl
    have b9 := ((b1.set 0 (.bool false)).set 1 (.int .i64 0)).set 2 (.slice none 0 0)
    have q0 := b9.cell 0 rfl
    have q1 := b9.cell 1 rfl
    have q2 := b9.cell 2 rfl
    go_wp2_with fail
    refine bodyPost_ret (v := .tuple #[.agg av0, .int .i64 x]) (by simp [results, Try.results24, go_sem, q0, q1, q2]) rfl ?_
    exact ⟨.slice none 0 0, rfl, Own.nil_ _, fun g hg => (by cases hg), (r1.keep (((((Frm.refl (fun k => k = w.heap.size) w1).setCell (p := ⟨w.heap.size, 0, none⟩) (fun _ => rfl) _).setCell (p := ⟨w.heap.size, 1, none⟩) (fun _ => rfl) _).setCell (p := ⟨w.heap.size, 2, none⟩) (fun _ => rfl) _)) (by omega)), ((((g0.trans g1).setCell (p := ⟨w.heap.size, 0, none⟩) (fun h => absurd h (by simp; try omega)) _).setCell (p := ⟨w.heap.size, 1, none⟩) (fun h => absurd h (by simp; try omega)) _).setCell (p := ⟨w.heap.size, 2, none⟩) (fun h => absurd h (by simp; try omega)) _)⟩
  · rw [if_neg hx]
    obtain rfl : x = 0 := by omega
    clear hx
    have hcl : count (n : Int) ≤ 4 := count_le (by omega)
    have hI64 : I64 (n : Int) := by unfold I64; omega
    have HCN := Lib.hid (fun W => count_any (n : Int) W hI64)
    obtain ⟨c, hc⟩ : ∃ c, count (n : Int) = c := ⟨_, rfl⟩
    simp only [hc] at HCN hcl ⊢
    have hcb : (c : Int) ≤ 4 := by omega
    clear hc
    obtain ⟨I, l2, e2, hI⟩ : ∃ I l2 e2, idsS c l1 e1 = (I, l2, e2) := ⟨_, _, _, rfl⟩
    simp only [hI]
    have HI := Lib.hid hI
    clear hI
    obtain ⟨y, hy⟩ : ∃ y, (if okV d n I then 0 else 4) = y := ⟨_, rfl⟩
    have hval : (if e2 ≠ 0 then ((false, 0, [], e2), l2, e2) else if okV d n I = true then ((d, n, I, 0), l2, e2) else ((false, 0, [], 4), l2, e2)) = (if orN e2 y ≠ 0 then ((false, 0, ([] : List Nat), orN e2 y), l2, e2) else ((d, n, I, 0), l2, e2)) := by
      rw [← hy]
      unfold orN
      by_cases h1 : e2 = 0
      · subst h1; cases okV d n I <;> simp
      · simp [h1]
    rw [hval]
    have HY := Lib.hid hy
    clear hval hy
    obtain ⟨z, hz⟩ : ∃ z, orN e2 y = z := ⟨_, rfl⟩
    rw [hz]
    have HZ := Lib.hid hz
    clear hz
    obtain ⟨tv, htv⟩ : ∃ tv, (if z ≠ 0 then ((false, 0, ([] : List Nat), z), l2, e2) else ((d, n, I, 0), l2, e2)) = tv := ⟨_, rfl⟩
    rw [htv]
    have HTV := Lib.hid htv
    clear htv
    go_enter Try.func24, Try.ntmps24
    go_wp2_with fail
    refine H1.out.mono ?_
    rintro r w1 ⟨rfl, r1, g1⟩
    have hsz1 := g1.size
    have b1 := (b0.keep g1 (by omega)).old (.cells (av d n (.slice none 0 0)) 24)
    have bV := Blk.alloc w1 24 (av d n (.slice none 0 0))
    have k1 := (g0.trans g1).alloc (.cells (av d n (.slice none 0 0)) 24)
    have r2 := r1.keep (X := fun _ => False) ((Frm.refl _ w1).alloc (.cells (av d n (.slice none 0 0)) 24)) (fun h => h)
    have hVlt : w.heap.size < w1.heap.size := by rw [hz0] at hsz1; omega
    clear hz0 hsz1 H1 b0 r0 g0 g1 r1
    go_upto_region 5 with fail
    obtain ⟨V, hV⟩ : ∃ V, w1.heap.size = V := ⟨_, rfl⟩
    rw [hV] at bV hVlt ⊢
    have T0 : TkI (fun W l e => Rd W b l e) w b V d n l1 e1 0 (.slice none 0 0) (w1.alloc (.cells (av d n (.slice none 0 0)) 24)) := ⟨r2, bV, Own.nil_ _, b1, k1, fun g hg => by cases hg⟩
    generalize w1.alloc (.cells (av d n (.slice none 0 0)) 24) = w2 at *
    clear hV b1 bV k1 r2
    have hR : ∀ W W' l e, (fun W l e => Rd W b l e) W l e → Frm (fun j => j ≠ b) W W' → (fun W l e => Rd W b l e) W' l e := fun W W' l e hr hf => hr.keep hf (fun h => h rfl)
    go_wp2_with fail
    refine (HCN.out _).mono ?_
    rintro r w3 ⟨rfl, rfl⟩
    go_wp2_with fail
    go_loopw [24] (fun i wr => ∃ (k : Nat) (v : Value), k ≤ c ∧ i = .int .i64 k ∧ TkI (fun W l e => Rd W b l e) w b V d n l1 e1 k v wr) (fun i _ => c - (intOf i).toNat)
    case atStart => exact ⟨0, _, Nat.zero_le _, rfl, T0⟩
    case round =>
      clear T0
      obtain ⟨k, v, hk, rfl, T⟩ := hrel
      have y2 := T.blk.cell 2 rfl
      have hkc : (k : Int) ≤ 4 := by omega
      by_cases hlt : k < c
      · have hx := fun (ww : World) (hf : Frm (· = b) wr ww) (hr : Rd ww b (idsS (k + 1) l1 e1).2.1 (idsS (k + 1) l1 e1).2.2) => tk_step (ww := ww) hR T (by omega) hb hVlt hf hr _ rfl
        have HU0 := ru32_any b _ _ wr.drew (T.rd.keep (X := fun _ => False) ((Frm.refl _ wr).drew) (fun h => h))
        have e4 : numS 4 (idsS k l1 e1).2.1 (idsS k l1 e1).2.2 = ((numS 4 (idsS k l1 e1).2.1 (idsS k l1 e1).2.2).1, (idsS (k + 1) l1 e1).2) := rfl
        rw [e4] at HU0
        clear e4
        obtain ⟨x, hxx⟩ : ∃ x, (numS 4 (idsS k l1 e1).2.1 (idsS k l1 e1).2.2).1 = x := ⟨_, rfl⟩
        simp only [hxx] at HU0 hx
        have HU := Lib.hid HU0
        have HCALL := Lib.hid hx
        clear hx hxx HU0
        have fr0 : Frm (· = b) wr wr.drew := (Frm.refl _ wr).drew
        have HF0 := Lib.hid fr0
        clear T fr0
        go_wp2_with fail
        go_region_law (first
          | (refine step_append_run rfl (.tmp 27) (.tmp 30) 22 22 rfl v (.slice (some ⟨ww.heap.size, 0, none⟩) 1 1) ?h1 ?h2 _ _ Hrun.out ?_; (case h1 => go_simp); (case h2 => go_simp))
          | (go_simp; go_at_call 46; (with_reducible refine HU.out.mono ?_); rintro e ww ⟨rfl, rr, gg⟩; obtain ⟨a', n', c', w6, hrun, hT, d0, d1, d2, d3⟩ := HCALL.out ww (HF0.out.trans gg) rr; have Hrun := Lib.hid hrun; clear hrun))
        all_goals
          go_wp2_with fail
          go_roundw
          case rel => exact ⟨k + 1, _, by omega, by go_num, hT⟩
          case measure => simp [intOf]; omega
      · obtain rfl : k = c := by omega
        have fit := idsS_fit k l1 e1
        obtain ⟨rr, bV, ow, bA, kf, hne⟩ := T
        simp only [HI.out] at rr ow
        clear fit y2 HCN
        have hy := HY.out
        have HE := fun (W : World) (hs : W.cell? ⟨V, 0, none⟩ = some (.bool d) ∧ W.cell? ⟨V, 1, none⟩ = some (.int .i64 n) ∧ W.cell? ⟨V, 2, none⟩ = some v ∧ Frm (fun _ => False) wr W) => (err_any b l2 e2 W (rr.keep hs.2.2.2 (fun h => h))).mono fun r w' hh => (⟨hh.1, hh.2 ▸ Frm.refl _ _⟩ : r = .returned (.int .i64 e2) ∧ Frm (fun _ => False) W w')
        have HK0 := fun (W : World) (hs : W.cell? ⟨V, 0, none⟩ = some (.bool d) ∧ W.cell? ⟨V, 1, none⟩ = some (.int .i64 n) ∧ W.cell? ⟨V, 2, none⟩ = some v ∧ Frm (fun _ => False) wr W) => check_any d n v I W hI64 (ow.keep hs.2.2.2 (fun _ _ h => h)).ids
        have HK : ∀ (W : World) (_ : W.cell? ⟨V, 0, none⟩ = some (.bool d) ∧ W.cell? ⟨V, 1, none⟩ = some (.int .i64 n) ∧ W.cell? ⟨V, 2, none⟩ = some v ∧ Frm (fun _ => False) wr W), Calls Try.prog 14 #[.agg (av d n v)] W fun e w' => e = .returned (.int .i64 y) ∧ Frm (fun _ => False) W w' := fun W hs => by
          have := HK0 W hs
          have e : ((if okV d n I then 0 else 4 : Int)) = (y : Int) := by rw [← hy]; cases okV d n I <;> rfl
          rw [e] at this; exact this
        clear HK0 hy
        have c0 := bV.cell 0 rfl
        have c1 := bV.cell 1 rfl
        have c2 := bV.cell 2 rfl
        go_wp2_with fail
        refine wp_region_tail 4 2 (fun W => W.cell? ⟨V, 0, none⟩ = some (.bool d) ∧ W.cell? ⟨V, 1, none⟩ = some (.int .i64 n) ∧ W.cell? ⟨V, 2, none⟩ = some v ∧ Frm (fun _ => False) wr W) (by kernel_rfl) rfl rfl (by kernel_rfl) (by kernel_rfl) (by kernel_rfl) (by kernel_rfl) (⟨c0, c1, c2, (Frm.refl _ wr).drew⟩) ?_
        repeat' first
          | (refine CanonL.skip (by rfl) ?_; (try simp only [Act.put, List.setIfInBounds_toArray, List.set_cons_zero, List.set_cons_succ]))
          | (refine CanonL.callS (by rfl) (by rfl) ?_ HE ?_ ?_; (focus (intro w; go_simp; (try (with_reducible rfl)); done)); (focus (rintro w ww hs gg; exact ⟨gg.cellF' hs.1, gg.cellF' hs.2.1, gg.cellF' hs.2.2.1, hs.2.2.2.trans gg⟩)); (try simp only [Act.put, List.setIfInBounds_toArray, List.set_cons_zero, List.set_cons_succ]))
          | (refine CanonL.callS (by rfl) (by rfl) ?_ HK ?_ ?_; (focus (intro w; go_simp; (try (with_reducible rfl)); done)); (focus (rintro w ww hs gg; exact ⟨gg.cellF' hs.1, gg.cellF' hs.2.1, gg.cellF' hs.2.2.1, hs.2.2.2.trans gg⟩)); (try simp only [Act.put, List.setIfInBounds_toArray, List.set_cons_zero, List.set_cons_succ]))
          | (refine CanonL.val (v := ?_) (by rfl) ?_ ?_; rotate_left 1; (focus (intro w hSw; (try dsimp only at hSw); go_simp; (try (with_reducible rfl)); done)); (try simp only [Act.put, List.setIfInBounds_toArray, List.set_cons_zero, List.set_cons_succ]))
        refine CanonL.done ?_
        intro w9 hS9
        obtain ⟨_, _, _, f1⟩ := hS9
        have hbk := Blk.alloc w9 31 #[.int .i64 e2, .int .i64 y]
        have f2 := f1.alloc (.cells #[.int .i64 e2, .int .i64 y] 31)
        refine wpTail.cons rfl rfl (fun K hK => ?_)
        unfold Oper.wp execOp
        go_simp
        refine hK _ _ ?_
        clear hK K
        generalize w9.alloc (.cells #[.int .i64 e2, .int .i64 y] 31) = w5 at *
        generalize w9.heap.size = g at *
        try simp only [Act.put, List.setIfInBounds_toArray, List.set_cons_zero, List.set_cons_succ]
        refine wpTail.cons rfl rfl (fun K hK => ?_)
        unfold Oper.wp execOp
        go_simp
        refine (cmpOr g e2 y _ hbk).mono ?_
        rintro e w6 ⟨rfl, rfl⟩
        refine hK _ _ ?_
        clear hK K
        try simp only [Act.put, List.setIfInBounds_toArray, List.set_cons_zero, List.set_cons_succ]
        refine wpTail.cons rfl rfl (fun K hK => ?_)
        unfold Oper.wp execOp
        go_simp
        refine hK _ _ ?_
        clear hK K
        try simp only [Act.put, List.setIfInBounds_toArray, List.set_cons_zero, List.set_cons_succ]
        refine wpTail.done ?_
        rw [HZ.out]
        have b5 := bA.keep f2 (fun h => h)
        have V5 := bV.keep f2 (fun h => h)
        have r5 := rr.keep f2 (fun h => h)
        have o5 := ow.keep f2 (fun _ _ h => h)
        have k5 := kf.trans (f2.mono (fun _ _ h => h.elim))
        have i0 := V5.cell 0 rfl
        have i1 := V5.cell 1 rfl
        have i2 := V5.cell 2 rfl
        clear HE HK c0 c1 c2 hbk f1
        by_cases hz : z ≠ 0
        · have htv : tv = ((false, 0, [], z), l2, e2) := by rw [← HTV.out, if_pos hz]
          subst htv
          have hz' : ((z : Int) != 0) = true := by rw [bne_iff_ne]; omega
          clear hz
          have m0 := b5.free 0
          have m1 := b5.free 1
          have m2 := b5.free 2
          have p0 := b5.cell 0 rfl
          have p1 := b5.cell 1 rfl
          have p2 := b5.cell 2 rfl
          have b9 := ((b5.set 0 (.bool false)).set 1 (.int .i64 0)).set 2 (.slice none 0 0)
          have q0 := b9.cell 0 rfl
          have q1 := b9.cell 1 rfl
          have q2 := b9.cell 2 rfl
          go_wp2_with fail
          refine bodyPost_ret (v := .tuple #[.agg av0, .int .i64 z]) (by simp [results, Try.results24, go_sem, q0, q1, q2]) rfl ?_
          exact ⟨.slice none 0 0, rfl, Own.nil_ _, fun g hg => (by cases hg), (r5.keep (((((Frm.refl (fun k => k = w.heap.size) w5).setCell (p := ⟨w.heap.size, 0, none⟩) (fun _ => rfl) _).setCell (p := ⟨w.heap.size, 1, none⟩) (fun _ => rfl) _).setCell (p := ⟨w.heap.size, 2, none⟩) (fun _ => rfl) _)) (by omega)), ((((k5).setCell (p := ⟨w.heap.size, 0, none⟩) (fun h => absurd h (by simp; try omega)) _).setCell (p := ⟨w.heap.size, 1, none⟩) (fun h => absurd h (by simp; try omega)) _).setCell (p := ⟨w.heap.size, 2, none⟩) (fun h => absurd h (by simp; try omega)) _)⟩
        · have htv : tv = ((d, n, I, 0), l2, e2) := by rw [← HTV.out, if_neg hz]
          subst htv
          obtain rfl : z = 0 := by omega
          clear hz
          obtain ⟨a5, c5, rfl, _, _⟩ := Row.slice ow
          have m0 := b5.free 0
          have m1 := b5.free 1
          have m2 := b5.free 2
          have p0 := b5.cell 0 rfl
          have p1 := b5.cell 1 rfl
          have p2 := b5.cell 2 rfl
          have b9 := ((b5.set 0 (.bool d)).set 1 (.int .i64 n)).set 2 (.slice a5 I.length c5)
          have q0 := b9.cell 0 rfl
          have q1 := b9.cell 1 rfl
          have q2 := b9.cell 2 rfl
          go_wp2_with fail
          refine bodyPost_ret (v := .tuple #[.agg (av d n (.slice a5 I.length c5)), .int .i64 0]) (by simp [results, Try.results24, go_sem, q0, q1, q2]) rfl ?_
          exact ⟨_, rfl, ((o5.setOther (p := ⟨w.heap.size, 0, none⟩) (fun e => Nat.lt_irrefl _ (hne _ e).1) _).setOther (p := ⟨w.heap.size, 1, none⟩) (fun e => Nat.lt_irrefl _ (hne _ e).1) _).setOther (p := ⟨w.heap.size, 2, none⟩) (fun e => Nat.lt_irrefl _ (hne _ e).1) _, fun g hg => Nat.le_of_lt (hne g hg).1, (r5.keep (((((Frm.refl (fun k => k = w.heap.size) w5).setCell (p := ⟨w.heap.size, 0, none⟩) (fun _ => rfl) _).setCell (p := ⟨w.heap.size, 1, none⟩) (fun _ => rfl) _).setCell (p := ⟨w.heap.size, 2, none⟩) (fun _ => rfl) _)) (by omega)), ((((k5).setCell (p := ⟨w.heap.size, 0, none⟩) (fun h => absurd h (by simp; try omega)) _).setCell (p := ⟨w.heap.size, 1, none⟩) (fun h => absurd h (by simp; try omega)) _).setCell (p := ⟨w.heap.size, 2, none⟩) (fun h => absurd h (by simp; try omega)) _)⟩
set_option maxRecDepth 100000 in
set_option maxHeartbeats 8000000 in
theorem rtake_any7 (b : Nat) (s l : List UInt8) (e : Nat) (w : World) (h : Rq w b s l e) :
    Calls Try.prog 25 #[.pointer (some ⟨b, 0, none⟩)] w fun r w' => ∃ v, r = .returned (.tuple #[.agg (av (takeV l e).1.1 (takeV l e).1.2.1 v), .int .i64 (takeV l e).1.2.2.2]) ∧ Own w' v (takeV l e).1.2.2.1 ∧ (∀ g, v.ownBlock = some g → w.heap.size ≤ g) ∧ Rq w' b s (takeV l e).2.1 (takeV l e).2.2 ∧ Frm (· = b) w w' := by
  have hb := h.lt
  have g0 : Frm (· = b) w (w.alloc (.cells av0 24)) := (Frm.refl _ w).alloc _
  have b0 : Blk (w.alloc (.cells av0 24)) w.heap.size 24 av0 := Blk.alloc w _ _
  have r0 := h.keep (X := fun _ => False) ((Frm.refl _ w).alloc (.cells av0 24)) (fun h => h)
  have hz0 : (w.alloc (.cells av0 24)).heap.size = w.heap.size + 1 := by simp
  have H1 := Lib.hid (rhead_any b s l e _ r0)
  have hlt : (headS l e).1.2.1 ≤ 256 := by
    unfold headS
    dsimp only
    split <;> split <;> (try split) <;> simp <;> omega
  unfold takeV
  obtain ⟨d, n, x, l1, e1, hx⟩ : ∃ d n x l1 e1, headS l e = ((d, n, x), l1, e1) := ⟨_, _, _, _, _, rfl⟩
  simp only [hx] at H1 hlt ⊢
  clear hx
  by_cases hx : x ≠ 0
  · rw [if_pos hx]
    have hx' : ((x : Int) != 0) = true := by rw [bne_iff_ne]; omega
    clear hx hz0
    go_enter Try.func25, Try.ntmps25
    go_wp2_with fail
    refine H1.out.mono ?_
    rintro r w1 ⟨rfl, r1, g1⟩
    have b1 := b0.keep g1 (by omega)
    have m0 := b1.free 0
    have m1 := b1.free 1
    have m2 := b1.free 2
    have p0 := b1.cell 0 rfl
    have p1 := b1.cell 1 rfl
    have p2 := b1.cell 2 rfl
    have b9 := ((b1.set 0 (.bool false)).set 1 (.int .i64 0)).set 2 (.slice none 0 0)
    have q0 := b9.cell 0 rfl
    have q1 := b9.cell 1 rfl
    have q2 := b9.cell 2 rfl
    go_wp2_with fail
    refine bodyPost_ret (v := .tuple #[.agg av0, .int .i64 x]) (by simp [results, Try.results25, go_sem, q0, q1, q2]) rfl ?_
    exact ⟨.slice none 0 0, rfl, Own.nil_ _, fun g hg => (by cases hg), (r1.keep (((((Frm.refl (fun k => k = w.heap.size) w1).setCell (p := ⟨w.heap.size, 0, none⟩) (fun _ => rfl) _).setCell (p := ⟨w.heap.size, 1, none⟩) (fun _ => rfl) _).setCell (p := ⟨w.heap.size, 2, none⟩) (fun _ => rfl) _)) (by omega)), ((((g0.trans g1).setCell (p := ⟨w.heap.size, 0, none⟩) (fun h => absurd h (by simp; try omega)) _).setCell (p := ⟨w.heap.size, 1, none⟩) (fun h => absurd h (by simp; try omega)) _).setCell (p := ⟨w.heap.size, 2, none⟩) (fun h => absurd h (by simp; try omega)) _)⟩
  · rw [if_neg hx]
    obtain rfl : x = 0 := by omega
    clear hx
    have hcl : count (n : Int) ≤ 4 := count_le (by omega)
    have hI64 : I64 (n : Int) := by unfold I64; omega
    obtain ⟨c, hc⟩ : ∃ c, count (n : Int) = c := ⟨_, rfl⟩
    simp only [hc] at hcl ⊢
    have hcn : ∀ k : Nat, k < c ↔ 64 * k < n := fun k => by rw [← hc]; unfold count; omega
    clear hc
    obtain ⟨I, l2, e2, hI⟩ : ∃ I l2 e2, idsS c l1 e1 = (I, l2, e2) := ⟨_, _, _, rfl⟩
    simp only [hI]
    have HI := Lib.hid hI
    clear hI
    obtain ⟨tv, htv⟩ : ∃ tv, (if e2 ≠ 0 then ((false, 0, ([] : List Nat), e2), l2, e2) else if okV d n I = true then ((d, n, I, 0), l2, e2) else ((false, 0, [], 4), l2, e2)) = tv := ⟨_, rfl⟩
    rw [htv]
    have HTV := Lib.hid htv
    clear htv
    go_enter Try.func25, Try.ntmps25
    go_wp2_with fail
    refine H1.out.mono ?_
    rintro r w1 ⟨rfl, r1, g1⟩
    have hsz1 := g1.size
    have b1 := (b0.keep g1 (by omega)).old (.cells (av d n (.slice none 0 0)) 24)
    have bV := Blk.alloc w1 24 (av d n (.slice none 0 0))
    have k1 := (g0.trans g1).alloc (.cells (av d n (.slice none 0 0)) 24)
    have r2 := r1.keep (X := fun _ => False) ((Frm.refl _ w1).alloc (.cells (av d n (.slice none 0 0)) 24)) (fun h => h)
    have hVlt : w.heap.size < w1.heap.size := by rw [hz0] at hsz1; omega
    clear hz0 hsz1 H1 b0 r0 g0 g1 r1
    go_upto_region 5 with fail
    obtain ⟨V, hV⟩ : ∃ V, w1.heap.size = V := ⟨_, rfl⟩
    rw [hV] at bV hVlt ⊢
    have T0 : TkI (fun W l e => Rq W b s l e) w b V d n l1 e1 0 (.slice none 0 0) (w1.alloc (.cells (av d n (.slice none 0 0)) 24)) := ⟨r2, bV, Own.nil_ _, b1, k1, fun g hg => by cases hg⟩
    generalize w1.alloc (.cells (av d n (.slice none 0 0)) 24) = w2 at *
    clear hV b1 bV k1 r2
    have hR : ∀ W W' l e, (fun W l e => Rq W b s l e) W l e → Frm (fun j => j ≠ b) W W' → (fun W l e => Rq W b s l e) W' l e := fun W W' l e hr hf => hr.keep hf (fun h => h rfl)
    go_wp2_with fail
    go_loopw [8] (fun i wr => ∃ (k : Nat) (v : Value), k ≤ c ∧ i = .int .i64 (64 * k : Nat) ∧ TkI (fun W l e => Rq W b s l e) w b V d n l1 e1 k v wr) (fun i _ => 64 * c - (intOf i).toNat)
    case atStart => exact ⟨0, _, Nat.zero_le _, rfl, T0⟩
    case round =>
      clear T0
      obtain ⟨k, v, hk, rfl, T⟩ := hrel
      have y2 := T.blk.cell 2 rfl
      by_cases hlt : k < c
      · have hx := fun (ww : World) (hf : Frm (· = b) wr ww) (hr : Rq ww b s (idsS (k + 1) l1 e1).2.1 (idsS (k + 1) l1 e1).2.2) => tk_step (ww := ww) hR T (by omega) hb hVlt hf hr _ rfl
        have HU0 := q_number 4 b s _ _ wr T.rd (by decide)
        have e4 : numS 4 (idsS k l1 e1).2.1 (idsS k l1 e1).2.2 = ((numS 4 (idsS k l1 e1).2.1 (idsS k l1 e1).2.2).1, (idsS (k + 1) l1 e1).2) := rfl
        rw [e4] at HU0
        clear e4
        obtain ⟨x, hxx⟩ : ∃ x, (numS 4 (idsS k l1 e1).2.1 (idsS k l1 e1).2.2).1 = x := ⟨_, rfl⟩
        simp only [hxx] at HU0 hx
        have HU := Lib.hid HU0
        have HCALL := Lib.hid hx
        clear hx hxx HU0
        clear T
        have hkn : ((64 * k : Nat) : Int) < n := by have := (hcn k).1 hlt; omega
        have hk4 : k ≤ 4 := by omega
        go_wp2_with fail
        refine HU.out.mono ?_
        rintro r ww ⟨rfl, rr, gg⟩
        obtain ⟨a', n', c', w6, hrun, hT, d0, d1, d2, d3⟩ := HCALL.out ww gg rr
        have Hrun := Lib.hid hrun
        clear hrun
        go_wp2_with (at_builtin; refine Lib.wpList_append_run _ rfl _ _ _ _ rfl _ _ rfl rfl _ _ Hrun.out ?_)
        go_roundw
        case rel => exact ⟨k + 1, _, by omega, by first | rfl | (congr 1; omega), hT⟩
        case measure => simp [intOf]; omega
      · obtain rfl : k = c := by omega
        obtain ⟨rr, bV, ow, bA, kf, hne⟩ := T
        simp only [HI.out] at rr ow
        have hkn : (n : Int) ≤ ((64 * k : Nat) : Int) := by have := (hcn k).2; omega
        clear y2
        have i0 := bV.cell 0 rfl
        have i1 := bV.cell 1 rfl
        have i2 := bV.cell 2 rfl
        have j2 := rr.c2
        by_cases he : e2 ≠ 0
        · have htv : tv = ((false, 0, [], e2), l2, e2) := by rw [← HTV.out, if_pos he]
          subst htv
          have he' : ((e2 : Int) != 0) = true := by rw [bne_iff_ne]; omega
          clear he
          have m0 := bA.free 0
          have m1 := bA.free 1
          have m2 := bA.free 2
          have p0 := bA.cell 0 rfl
          have p1 := bA.cell 1 rfl
          have p2 := bA.cell 2 rfl
          have b9 := ((bA.set 0 (.bool false)).set 1 (.int .i64 0)).set 2 (.slice none 0 0)
          have q0 := b9.cell 0 rfl
          have q1 := b9.cell 1 rfl
          have q2 := b9.cell 2 rfl
          go_wp2_with fail
          go_region
          go_wp2_with fail
          refine bodyPost_ret (v := .tuple #[.agg av0, .int .i64 e2]) (by simp [results, Try.results25, go_sem, q0, q1, q2]) rfl ?_
          exact ⟨.slice none 0 0, rfl, Own.nil_ _, fun g hg => (by cases hg), (rr.keep (((((Frm.refl (fun k => k = w.heap.size) wr).setCell (p := ⟨w.heap.size, 0, none⟩) (fun _ => rfl) _).setCell (p := ⟨w.heap.size, 1, none⟩) (fun _ => rfl) _).setCell (p := ⟨w.heap.size, 2, none⟩) (fun _ => rfl) _).drew) (by omega)), ((((kf).setCell (p := ⟨w.heap.size, 0, none⟩) (fun h => absurd h (by simp; try omega)) _).setCell (p := ⟨w.heap.size, 1, none⟩) (fun h => absurd h (by simp; try omega)) _).setCell (p := ⟨w.heap.size, 2, none⟩) (fun h => absurd h (by simp; try omega)) _).drew⟩
        · obtain rfl : e2 = 0 := by omega
          have hmay := may_any d n v I wr hI64 ow.ids
          cases hok : okV d n I with
          | false =>
            have htv : tv = ((false, 0, [], 4), l2, 0) := by rw [← HTV.out, if_neg he, hok]; rfl
            subst htv
            rw [hok] at hmay
            have HM := Lib.hid hmay
            clear hmay
            go_wp2_with fail
            refine HM.out.mono ?_
            rintro r w5 ⟨rfl, f2⟩
            have b5 := bA.keep f2 (fun h => h)
            have r5 := rr.keep f2 (fun h => h)
            have k5 := kf.trans (f2.mono (fun _ _ h => h.elim))
            have m0 := b5.free 0
            have m1 := b5.free 1
            have m2 := b5.free 2
            have p0 := b5.cell 0 rfl
            have p1 := b5.cell 1 rfl
            have p2 := b5.cell 2 rfl
            have b9 := ((b5.set 0 (.bool false)).set 1 (.int .i64 0)).set 2 (.slice none 0 0)
            have q0 := b9.cell 0 rfl
            have q1 := b9.cell 1 rfl
            have q2 := b9.cell 2 rfl
            go_wp2_with fail
            refine bodyPost_ret (v := .tuple #[.agg av0, .int .i64 4]) (by simp [results, Try.results25, go_sem, q0, q1, q2]) rfl ?_
            exact ⟨.slice none 0 0, rfl, Own.nil_ _, fun g hg => (by cases hg), (r5.keep (((((Frm.refl (fun k => k = w.heap.size) w5).setCell (p := ⟨w.heap.size, 0, none⟩) (fun _ => rfl) _).setCell (p := ⟨w.heap.size, 1, none⟩) (fun _ => rfl) _).setCell (p := ⟨w.heap.size, 2, none⟩) (fun _ => rfl) _)) (by omega)), ((((k5).setCell (p := ⟨w.heap.size, 0, none⟩) (fun h => absurd h (by simp; try omega)) _).setCell (p := ⟨w.heap.size, 1, none⟩) (fun h => absurd h (by simp; try omega)) _).setCell (p := ⟨w.heap.size, 2, none⟩) (fun h => absurd h (by simp; try omega)) _)⟩
          | true =>
            have htv : tv = ((d, n, I, 0), l2, 0) := by rw [← HTV.out, if_neg he, hok]; rfl
            subst htv
            rw [hok] at hmay
            have HM := Lib.hid hmay
            clear hmay
            go_wp2_with fail
            refine HM.out.mono ?_
            rintro r w5 ⟨rfl, f2⟩
            obtain ⟨a5, c5, rfl, _, _⟩ := Row.slice ow
            have b5 := bA.keep f2 (fun h => h)
            have V5 := bV.keep f2 (fun h => h)
            have r5 := rr.keep f2 (fun h => h)
            have o5 := ow.keep f2 (fun _ _ h => h)
            have k5 := kf.trans (f2.mono (fun _ _ h => h.elim))
            have i0 := V5.cell 0 rfl
            have i1 := V5.cell 1 rfl
            have i2 := V5.cell 2 rfl
            have m0 := b5.free 0
            have m1 := b5.free 1
            have m2 := b5.free 2
            have p0 := b5.cell 0 rfl
            have p1 := b5.cell 1 rfl
            have p2 := b5.cell 2 rfl
            have b9 := ((b5.set 0 (.bool d)).set 1 (.int .i64 n)).set 2 (.slice a5 I.length c5)
            have q0 := b9.cell 0 rfl
            have q1 := b9.cell 1 rfl
            have q2 := b9.cell 2 rfl
            go_wp2_with fail
            refine bodyPost_ret (v := .tuple #[.agg (av d n (.slice a5 I.length c5)), .int .i64 0]) (by simp [results, Try.results25, go_sem, q0, q1, q2]) rfl ?_
            exact ⟨_, rfl, ((o5.setOther (p := ⟨w.heap.size, 0, none⟩) (fun e => Nat.lt_irrefl _ (hne _ e).1) _).setOther (p := ⟨w.heap.size, 1, none⟩) (fun e => Nat.lt_irrefl _ (hne _ e).1) _).setOther (p := ⟨w.heap.size, 2, none⟩) (fun e => Nat.lt_irrefl _ (hne _ e).1) _, fun g hg => Nat.le_of_lt (hne g hg).1, (r5.keep (((((Frm.refl (fun k => k = w.heap.size) w5).setCell (p := ⟨w.heap.size, 0, none⟩) (fun _ => rfl) _).setCell (p := ⟨w.heap.size, 1, none⟩) (fun _ => rfl) _).setCell (p := ⟨w.heap.size, 2, none⟩) (fun _ => rfl) _)) (by omega)), ((((k5).setCell (p := ⟨w.heap.size, 0, none⟩) (fun h => absurd h (by simp; try omega)) _).setCell (p := ⟨w.heap.size, 1, none⟩) (fun h => absurd h (by simp; try omega)) _).setCell (p := ⟨w.heap.size, 2, none⟩) (fun h => absurd h (by simp; try omega)) _)⟩
end Go.Proofs.Ytlajfmpgodcbmaa
