/- Contents that are read, by the program and by the document. Of any reader. -/
import Derived.Test.YtlajfmpgodcbmaaValT
import Derived.RegionTactic
namespace Go.Proofs.Ytlajfmpgodcbmaa
open Go.RowKit

set_option maxRecDepth 100000 in
set_option maxHeartbeats 4000000 in
theorem takec_any (b : Nat) (l : List UInt8) (e : Nat) (w : World) (h : Rd w b l e) :
    Calls Try.prog 26 #[.pointer (some ⟨b, 0, none⟩)] w fun r w' => r = .returned (.tuple #[.agg #[.bool (takeC l e).1.1, .string (bs (takeC l e).1.2.1)], .int .i64 (takeC l e).1.2.2]) ∧ Rd w' b (takeC l e).2.1 (takeC l e).2.2 ∧ Frm (· = b) w w' := by
  have hb := h.lt
  have g0 : Frm (· = b) w (w.alloc (.cells #[.bool false, .string ⟨#[]⟩] 38)) := (Frm.refl _ w).alloc _
  have b0 : Blk (w.alloc (.cells #[.bool false, .string ⟨#[]⟩] 38)) w.heap.size 38 #[.bool false, .string ⟨#[]⟩] := Blk.alloc w _ _
  have r0 := h.keep (X := fun _ => False) ((Frm.refl _ w).alloc (.cells #[.bool false, .string ⟨#[]⟩] 38)) (fun h => h)
  have H1 := Lib.hid (thead_any b l e _ r0)
  have hlt : (headS l e).1.2.1 ≤ 256 := by
    unfold headS
    dsimp only
    split <;> split <;> (try split) <;> simp <;> omega
  unfold takeC
  obtain ⟨d, n, x, l1, e1, hx⟩ : ∃ d n x l1 e1, headS l e = ((d, n, x), l1, e1) := ⟨_, _, _, _, _, rfl⟩
  simp only [hx] at H1 hlt ⊢
  clear hx
  by_cases hx : x ≠ 0
  · rw [if_pos hx]
    have hx' : ((x : Int) != 0) = true := by rw [bne_iff_ne]; omega
    clear hx
    go_enter Try.func26, Try.ntmps26
    go_wp2_with fail
    refine H1.out.mono ?_
    rintro r w1 ⟨rfl, r1, g1⟩
    have b1 := b0.keep g1 (by omega)
    have m0 := b1.free 0
    have m1 := b1.free 1
    have p0 := b1.cell 0 rfl
    have p1 := b1.cell 1 rfl
    have b2 := (b1.set 0 (.bool false)).set 1 (.string ⟨#[]⟩)
    have q0 := b2.cell 0 rfl
    have q1 := b2.cell 1 rfl
    go_wp2_with fail
    refine bodyPost_ret (v := .tuple #[.agg #[.bool false, .string ⟨#[]⟩], .int .i64 x]) (by simp [results, Try.results26, go_sem, q0, q1]) rfl ?_
    refine ⟨rfl, (r1.keep (((Frm.refl (fun k => k = w.heap.size) w1).setCell (p := ⟨w.heap.size, 0, none⟩) (fun _ => rfl) _).setCell (p := ⟨w.heap.size, 1, none⟩) (fun _ => rfl) _) (by omega)), ((g0.trans g1).setCell (p := ⟨w.heap.size, 0, none⟩) (fun h => absurd h (by simp)) _).setCell (p := ⟨w.heap.size, 1, none⟩) (fun h => absurd h (by simp)) _⟩
  · rw [if_neg hx]
    obtain rfl : x = 0 := by omega
    clear hx
    obtain ⟨t, l2, e2, hy⟩ : ∃ t l2 e2, nextS n l1 e1 = (t, l2, e2) := ⟨_, _, _, rfl⟩
    have H2 := Lib.hid (fun W (hr : Rd W b l1 e1) => fixed_pos b l1 e1 n W hr (by omega))
    simp only [hy] at H2 ⊢
    clear hy
    by_cases he : e2 ≠ 0
    · rw [if_pos he]
      have he' : ((e2 : Int) != 0) = true := by rw [bne_iff_ne]; omega
      clear he
      go_enter Try.func26, Try.ntmps26
      go_wp2_with fail
      refine H1.out.mono ?_
      rintro r w1 ⟨rfl, r1, g1⟩
      have b1 := b0.keep g1 (by omega)
      go_wp2_with fail
      refine (H2.out _ r1).mono ?_
      rintro r w2 ⟨rfl, r2, g2⟩
      have b2 := b1.keep g2 (by omega)
      have p0 := b2.cell 0 rfl
      have p1 := b2.cell 1 rfl
      have m0 := b2.free 0
      have m1 := b2.free 1
      have b3 := (b2.set 0 (.bool false)).set 1 (.string ⟨#[]⟩)
      have q0 := b3.cell 0 rfl
      have q1 := b3.cell 1 rfl
      go_wp2_with fail
      refine (err_any _ _ _ _ r2).mono ?_
      rintro r w3 ⟨rfl, rfl⟩
      go_wp2_with fail
      refine bodyPost_ret (v := .tuple #[.agg #[.bool false, .string ⟨#[]⟩], .int .i64 e2]) (by simp [results, Try.results26, go_sem, q0, q1]) rfl ?_
      refine ⟨rfl, (r2.keep (((Frm.refl (fun k => k = w.heap.size) w2).setCell (p := ⟨w.heap.size, 0, none⟩) (fun _ => rfl) _).setCell (p := ⟨w.heap.size, 1, none⟩) (fun _ => rfl) _) (by omega)), (((g0.trans g1).trans g2).setCell (p := ⟨w.heap.size, 0, none⟩) (fun h => absurd h (by simp)) _).setCell (p := ⟨w.heap.size, 1, none⟩) (fun h => absurd h (by simp)) _⟩
    · rw [if_neg he]
      obtain rfl : e2 = 0 := by omega
      clear he
      go_enter Try.func26, Try.ntmps26
      go_wp2_with fail
      refine H1.out.mono ?_
      rintro r w1 ⟨rfl, r1, g1⟩
      have b1 := b0.keep g1 (by omega)
      go_wp2_with fail
      refine (H2.out _ r1).mono ?_
      rintro r w2 ⟨rfl, r2, g2⟩
      have b2 := b1.keep g2 (by omega)
      have p0 := b2.cell 0 rfl
      have p1 := b2.cell 1 rfl
      have m0 := b2.free 0
      have m1 := b2.free 1
      have b3 := (b2.set 0 (.bool d)).set 1 (.string (bs t))
      have q0 := b3.cell 0 rfl
      have q1 := b3.cell 1 rfl
      go_wp2_with fail
      refine (err_any _ _ _ _ r2).mono ?_
      rintro r w3 ⟨rfl, rfl⟩
      go_wp2_with fail
      refine bodyPost_ret (v := .tuple #[.agg #[.bool d, .string (bs t)], .int .i64 0]) (by simp [results, Try.results26, go_sem, q0, q1]) rfl ?_
      refine ⟨rfl, (r2.keep (((Frm.refl (fun k => k = w.heap.size) w2).setCell (p := ⟨w.heap.size, 0, none⟩) (fun _ => rfl) _).setCell (p := ⟨w.heap.size, 1, none⟩) (fun _ => rfl) _) (by omega)), (((g0.trans g1).trans g2).setCell (p := ⟨w.heap.size, 0, none⟩) (fun h => absurd h (by simp)) _).setCell (p := ⟨w.heap.size, 1, none⟩) (fun h => absurd h (by simp)) _⟩

set_option maxRecDepth 100000 in
set_option maxHeartbeats 4000000 in
theorem rtakec_any (b : Nat) (s l : List UInt8) (e : Nat) (w : World) (h : Rq w b s l e) :
    Calls Try.prog 27 #[.pointer (some ⟨b, 0, none⟩)] w fun r w' => r = .returned (.tuple #[.agg #[.bool (takeC l e).1.1, .string (bs (takeC l e).1.2.1)], .int .i64 (takeC l e).1.2.2]) ∧ Rq w' b s (takeC l e).2.1 (takeC l e).2.2 ∧ Frm (· = b) w w' := by
  have hb := h.lt
  have g0 : Frm (· = b) w (w.alloc (.cells #[.bool false, .string ⟨#[]⟩] 45)) := (Frm.refl _ w).alloc _
  have b0 : Blk (w.alloc (.cells #[.bool false, .string ⟨#[]⟩] 45)) w.heap.size 45 #[.bool false, .string ⟨#[]⟩] := Blk.alloc w _ _
  have r0 := h.keep (X := fun _ => False) ((Frm.refl _ w).alloc (.cells #[.bool false, .string ⟨#[]⟩] 45)) (fun h => h)
  have H1 := Lib.hid (rhead_any b s l e _ r0)
  have hlt : (headS l e).1.2.1 ≤ 256 := by
    unfold headS
    dsimp only
    split <;> split <;> (try split) <;> simp <;> omega
  unfold takeC
  obtain ⟨d, n, x, l1, e1, hx⟩ : ∃ d n x l1 e1, headS l e = ((d, n, x), l1, e1) := ⟨_, _, _, _, _, rfl⟩
  simp only [hx] at H1 hlt ⊢
  clear hx
  by_cases hx : x ≠ 0
  · rw [if_pos hx]
    have hx' : ((x : Int) != 0) = true := by rw [bne_iff_ne]; omega
    clear hx
    go_enter Try.func27, Try.ntmps27
    go_wp2_with fail
    refine H1.out.mono ?_
    rintro r w1 ⟨rfl, r1, g1⟩
    have b1 := b0.keep g1 (by omega)
    have m0 := b1.free 0
    have m1 := b1.free 1
    have p0 := b1.cell 0 rfl
    have p1 := b1.cell 1 rfl
    have b2 := (b1.set 0 (.bool false)).set 1 (.string ⟨#[]⟩)
    have q0 := b2.cell 0 rfl
    have q1 := b2.cell 1 rfl
    go_wp2_with fail
    refine bodyPost_ret (v := .tuple #[.agg #[.bool false, .string ⟨#[]⟩], .int .i64 x]) (by simp [results, Try.results27, go_sem, q0, q1]) rfl ?_
    refine ⟨rfl, (r1.keep (((Frm.refl (fun k => k = w.heap.size) w1).setCell (p := ⟨w.heap.size, 0, none⟩) (fun _ => rfl) _).setCell (p := ⟨w.heap.size, 1, none⟩) (fun _ => rfl) _) (by omega)), ((g0.trans g1).setCell (p := ⟨w.heap.size, 0, none⟩) (fun h => absurd h (by simp)) _).setCell (p := ⟨w.heap.size, 1, none⟩) (fun h => absurd h (by simp)) _⟩
  · rw [if_neg hx]
    obtain rfl : x = 0 := by omega
    clear hx
    obtain ⟨t, l2, e2, hy⟩ : ∃ t l2 e2, nextS n l1 e1 = (t, l2, e2) := ⟨_, _, _, rfl⟩
    have H2 := Lib.hid (fun W (hr : Rq W b s l1 e1) => q_fixed b s l1 e1 n W hr (by omega))
    simp only [hy] at H2 ⊢
    clear hy
    by_cases he : e2 ≠ 0
    · rw [if_pos he]
      have he' : ((e2 : Int) != 0) = true := by rw [bne_iff_ne]; omega
      clear he
      go_enter Try.func27, Try.ntmps27
      go_wp2_with fail
      refine H1.out.mono ?_
      rintro r w1 ⟨rfl, r1, g1⟩
      have b1 := b0.keep g1 (by omega)
      go_wp2_with fail
      refine (H2.out _ r1).mono ?_
      rintro r w2 ⟨rfl, r2, g2⟩
      have c2 := r2.c2
      have b2 := b1.keep g2 (by omega)
      have p0 := b2.cell 0 rfl
      have p1 := b2.cell 1 rfl
      have m0 := b2.free 0
      have m1 := b2.free 1
      have b3 := (b2.set 0 (.bool false)).set 1 (.string ⟨#[]⟩)
      have q0 := b3.cell 0 rfl
      have q1 := b3.cell 1 rfl
      go_wp2_with fail
      go_region
      go_wp2_with fail
      refine bodyPost_ret (v := .tuple #[.agg #[.bool false, .string ⟨#[]⟩], .int .i64 e2]) (by simp [results, Try.results27, go_sem, q0, q1]) rfl ?_
      refine ⟨rfl, (r2.keep ((((Frm.refl (fun k => k = w.heap.size) w2).setCell (p := ⟨w.heap.size, 0, none⟩) (fun _ => rfl) _).setCell (p := ⟨w.heap.size, 1, none⟩) (fun _ => rfl) _).drew) (by omega)), ((((g0.trans g1).trans g2).setCell (p := ⟨w.heap.size, 0, none⟩) (fun h => absurd h (by simp)) _).setCell (p := ⟨w.heap.size, 1, none⟩) (fun h => absurd h (by simp)) _).drew⟩
    · rw [if_neg he]
      obtain rfl : e2 = 0 := by omega
      clear he
      go_enter Try.func27, Try.ntmps27
      go_wp2_with fail
      refine H1.out.mono ?_
      rintro r w1 ⟨rfl, r1, g1⟩
      have b1 := b0.keep g1 (by omega)
      go_wp2_with fail
      refine (H2.out _ r1).mono ?_
      rintro r w2 ⟨rfl, r2, g2⟩
      have c2 := r2.c2
      have b2 := b1.keep g2 (by omega)
      have p0 := b2.cell 0 rfl
      have p1 := b2.cell 1 rfl
      have m0 := b2.free 0
      have m1 := b2.free 1
      have b3 := (b2.set 0 (.bool d)).set 1 (.string (bs t))
      have q0 := b3.cell 0 rfl
      have q1 := b3.cell 1 rfl
      go_wp2_with fail
      refine bodyPost_ret (v := .tuple #[.agg #[.bool d, .string (bs t)], .int .i64 0]) (by simp [results, Try.results27, go_sem, q0, q1]) rfl ?_
      refine ⟨rfl, (r2.keep (((Frm.refl (fun k => k = w.heap.size) w2).setCell (p := ⟨w.heap.size, 0, none⟩) (fun _ => rfl) _).setCell (p := ⟨w.heap.size, 1, none⟩) (fun _ => rfl) _) (by omega)), (((g0.trans g1).trans g2).setCell (p := ⟨w.heap.size, 0, none⟩) (fun h => absurd h (by simp)) _).setCell (p := ⟨w.heap.size, 1, none⟩) (fun h => absurd h (by simp)) _⟩

end Go.Proofs.Ytlajfmpgodcbmaa
