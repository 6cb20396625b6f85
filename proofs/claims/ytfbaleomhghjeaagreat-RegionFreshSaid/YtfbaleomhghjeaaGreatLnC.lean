/- What Write and Flush of a line answer and leave. No condition. -/
import Derived.Test.YtfbaleomhghjeaaGreatLnB
import Derived.Deep.DeepCutAuto
namespace Go.Proofs.YtfbaleomhghjeaaGreat
open Go.RowKit Go.Shelf

set_option maxRecDepth 100000 in
set_option maxHeartbeats 2000000 in
theorem lwrite1_any (l b f x a0 a1 a2 : Nat) (L : LV) (q : Int) (s : List UInt8) (w : World) (h : LnM w l b f x L) (hq : Z64 q) (hs : s.length ≤ 9223372036854775807)
    (c0 : w.cell? ⟨a0, 0, none⟩ = some (.pointer (some ⟨l, 0, none⟩))) (c1 : w.cell? ⟨a1, 0, none⟩ = some (.int .i64 q)) (c2 : w.cell? ⟨a2, 0, none⟩ = some (.string (bs s))) :
    Calls Tryz.prog 45 #[.pointer (some ⟨a0, 0, none⟩), .pointer (some ⟨a1, 0, none⟩), .pointer (some ⟨a2, 0, none⟩)] w fun e w' => e = .returned (.int .i64 (L.D.writeE q s : Nat)) ∧ DevM w' b f x (L.D.writeTo q s) ∧ Frm (fun k => k = f ∨ k = x) w w' := by
  have cd := h.d
  have HW : Hid (∀ W, Frm (fun _ => False) w W → Calls Tryz.prog 32 #[.pointer (some ⟨b, 0, none⟩), .int .i64 q, .string (bs s)] W fun e w' => e = .returned (.int .i64 (L.D.writeE q s : Nat)) ∧ DevM w' b f x (L.D.writeTo q s) ∧ Frm (· = x) W w') := Lib.hid fun W g => write_any b f x L.D q s W (h.dev.keepF g) hq hs
  clear h hq hs
  go_enter Tryz.func45, Tryz.ntmps45
  go_upto_region 1 with fail
  refine wp_region_tail 6 1 (fun w' => w'.cell? ⟨a0, 0, none⟩ = some (.pointer (some ⟨l, 0, none⟩)) ∧ w'.cell? ⟨a1, 0, none⟩ = some (.int .i64 q) ∧ w'.cell? ⟨a2, 0, none⟩ = some (.string (bs s)) ∧ w'.cell? ⟨l, 1, none⟩ = some (.pointer (some ⟨b, 0, none⟩)) ∧ Frm (fun _ => False) w w') (by kernel_rfl) rfl rfl (by kernel_rfl) (by kernel_rfl) (by kernel_rfl) (by kernel_rfl) (⟨c0, c1, c2, cd, (Frm.refl _ w).drew⟩) ?_
  repeat' first
    | (refine CanonL.skip (by rfl) ?_; (try simp only [Act.put, List.setIfInBounds_toArray, List.set_cons_zero, List.set_cons_succ]))
    | (refine CanonL.val (v := ?_) (by rfl) ?_ ?_; rotate_left 1; (focus (intro w hSw; (try dsimp only at hSw); go_simp; (try (with_reducible rfl)); done)); (try simp only [Act.put, List.setIfInBounds_toArray, List.set_cons_zero, List.set_cons_succ]))
  refine CanonL.done ?_
  intro w9 hS9
  obtain ⟨_, _, _, _, g9⟩ := hS9
  have HW9 := Lib.hid (HW.out w9 g9)
  have G9 := Lib.hid g9
  clear g9 HW
  refine wpTail.cons rfl rfl (fun K hK => ?_)
  unfold Oper.wp execOp
  go_simp
  with_reducible refine HW9.out.mono ?_
  rintro e w1 ⟨rfl, hd1, g1⟩
  refine hK _ _ ?_
  clear hK K
  try simp only [Act.put, List.setIfInBounds_toArray, List.set_cons_zero, List.set_cons_succ]
  refine wpTail.cons rfl rfl (fun K hK => ?_)
  unfold Oper.wp execOp
  go_simp
  refine hK _ _ ?_
  clear hK K
  try simp only [Act.put, List.setIfInBounds_toArray, List.set_cons_zero, List.set_cons_succ]
  refine wpTail.done ?_
  go_wp2_with fail
  go_ret
  exact ⟨rfl, hd1, (G9.out.mono fun _ _ h => h.elim).trans (g1.mono fun _ _ h => .inr h)⟩
set_option maxRecDepth 100000 in
set_option maxHeartbeats 2000000 in
theorem lflush1_any (l b f x a0 : Nat) (L : LV) (w : World) (h : LnM w l b f x L) (c0 : w.cell? ⟨a0, 0, none⟩ = some (.pointer (some ⟨l, 0, none⟩))) :
    Calls Tryz.prog 74 #[.pointer (some ⟨a0, 0, none⟩)] w fun e w' => e = .returned (.int .i64 (0 : Nat)) ∧ DevM w' b f x L.D.flush ∧ Frm (fun k => k = f ∨ k = x) w w' := by
  have cd := h.d
  have HW := Lib.hid (flush_any b f x L.D w h.dev)
  clear h
  go_enter Tryz.func74, Tryz.ntmps74
  go_wp2_with fail
  refine HW.out.mono ?_
  rintro e w1 ⟨rfl, hd1, g1⟩
  go_wp2_with fail
  go_ret
  exact ⟨rfl, hd1, g1⟩
theorem LnM.actTo_low {w w1 : World} {l b f x : Nat} {L : LV} (h : LnM w l b f x L) (g1 : Frm (fun _ => False) w w1) {W : World} (g : Frm (LnX l f x) w1 W) (k : Nat) (hk : w.heap.size ≤ k) (hk1 : k < w1.heap.size) (o : Nat) : W.cell? ⟨k, o, none⟩ = w1.cell? ⟨k, o, none⟩ :=
  World.cell?_of_block (a := ⟨k, o, none⟩) (g.block k hk1 (by have := h.lt; have := g1.size; unfold LnX; omega))
set_option maxRecDepth 100000 in
set_option maxHeartbeats 4000000 in
theorem lwrite_any (l b f x : Nat) (L : LV) (q : Int) (s : List UInt8) (w : World) (h : LnM w l b f x L) (ha : L.acts ≤ 1000000) (hq : Z64 q) (hs : s.length ≤ 9223372036854775807) :
    Calls Tryz.prog 16 #[.pointer (some ⟨l, 0, none⟩), .int .i64 q, .string (bs s)] w fun e w' => e = .returned (.int .i64 (L.code (L.D.writeE q s) : Nat)) ∧ LnM w' l b f x (L.act (L.D.writeTo q s)) ∧ Frm (LnX l f x) w w' := by
  obtain ⟨w3, hw3⟩ : ∃ w3, ((w.alloc (.cells #[.pointer (some ⟨l, 0, none⟩)] 32)).alloc (.cells #[.int .i64 q] 3)).alloc (.cells #[.string (bs s)] 9) = w3 := ⟨_, rfl⟩
  have g3 : Frm (fun _ => False) w w3 := by
    subst hw3
    exact (((Frm.refl _ w).alloc _).alloc _).alloc _
  have hz3 : w3.heap.size = w.heap.size + 3 := by subst hw3; simp
  have k0 : w3.cell? ⟨w.heap.size, 0, none⟩ = some (.pointer (some ⟨l, 0, none⟩)) := by subst hw3; exact (((Blk.alloc w _ _).old _).old _).cell 0 rfl
  have k1 : w3.cell? ⟨w.heap.size + 1, 0, none⟩ = some (.int .i64 q) := by
    subst hw3
    have := ((Blk.alloc (w.alloc (.cells #[.pointer (some ⟨l, 0, none⟩)] 32)) 3 #[.int .i64 q]).old (.cells #[.string (bs s)] 9)).cell 0 rfl
    simpa using this
  have k2 : w3.cell? ⟨w.heap.size + 1 + 1, 0, none⟩ = some (.string (bs s)) := by
    subst hw3
    have := (Blk.alloc ((w.alloc (.cells #[.pointer (some ⟨l, 0, none⟩)] 32)).alloc (.cells #[.int .i64 q] 3)) 9 #[.string (bs s)]).cell 0 rfl
    simpa using this
  have HR := Lib.hid (lreq_any l b f x L (L.D.writeTo q s) (L.D.writeE q s) 45 #[.pointer (some ⟨w.heap.size, 0, none⟩), .pointer (some ⟨w.heap.size + 1, 0, none⟩), .pointer (some ⟨w.heap.size + 1 + 1, 0, none⟩)] w3 (h.keepF g3) ha (fun W => by go_simp) (fun W g hL => by
    have := lwrite1_any l b f x w.heap.size (w.heap.size + 1) (w.heap.size + 1 + 1) L.count q s W hL hq hs (by rw [h.actTo_low g3 g _ (by omega) (by omega)]; exact k0) (by rw [h.actTo_low g3 g _ (by omega) (by omega)]; exact k1) (by rw [h.actTo_low g3 g _ (by omega) (by omega)]; exact k2)
    exact this))
  have G3 := Lib.hid (And.intro g3 (h.lt))
  clear h g3 k1 k2 hz3 hq hs ha
  go_enter Tryz.func16, Tryz.ntmps16
  go_wp2_with fail
  refine HR.out.mono ?_
  rintro e w4 ⟨rfl, h4, g4⟩
  have G4 := Lib.hid (G3.out.1.mono (fun _ _ h => h.elim : ∀ k, k < w.heap.size → False → LnX l f x k) |>.trans g4)
  clear hw3 g4 HR k0
  go_wp2_with fail
  go_ret
  exact ⟨rfl, h4, G4.out⟩
set_option maxRecDepth 100000 in
set_option maxHeartbeats 4000000 in
theorem lnflush_any (l b f x : Nat) (L : LV) (w : World) (h : LnM w l b f x L) (ha : L.acts ≤ 1000000) :
    Calls Tryz.prog 39 #[.pointer (some ⟨l, 0, none⟩)] w fun e w' => e = .returned (.int .i64 (L.code 0 : Nat)) ∧ LnM w' l b f x (L.act L.D.flush) ∧ Frm (LnX l f x) w w' := by
  obtain ⟨w3, hw3⟩ : ∃ w3, w.alloc (.cells #[.pointer (some ⟨l, 0, none⟩)] 32) = w3 := ⟨_, rfl⟩
  have g3 : Frm (fun _ => False) w w3 := by
    subst hw3
    exact (Frm.refl _ w).alloc _
  have hz3 : w3.heap.size = w.heap.size + 1 := by subst hw3; simp
  have k0 : w3.cell? ⟨w.heap.size, 0, none⟩ = some (.pointer (some ⟨l, 0, none⟩)) := by subst hw3; exact (Blk.alloc w _ _).cell 0 rfl
  have HR := Lib.hid (lreq_any l b f x L L.D.flush 0 74 #[.pointer (some ⟨w.heap.size, 0, none⟩)] w3 (h.keepF g3) ha (fun W => by go_simp) (fun W g hL => by
    have := lflush1_any l b f x w.heap.size L.count W hL (by rw [h.actTo_low g3 g _ (by omega) (by omega)]; exact k0)
    exact this))
  have G3 := Lib.hid (And.intro g3 (h.lt))
  clear h g3 hz3 ha
  go_enter Tryz.func39, Tryz.ntmps39
  go_wp2_with fail
  refine HR.out.mono ?_
  rintro e w4 ⟨rfl, h4, g4⟩
  have G4 := Lib.hid (G3.out.1.mono (fun _ _ h => h.elim : ∀ k, k < w.heap.size → False → LnX l f x k) |>.trans g4)
  clear hw3 g4 HR k0
  go_wp2_with fail
  go_ret
  exact ⟨rfl, h4, G4.out⟩
theorem NoLn.keepF {p : Value} {w w' : World} (h : NoLn p w) (g : Frm (fun _ => False) w w') : NoLn p w' :=
  h.imp id fun ⟨b, e, c⟩ => ⟨b, e, by rw [World.cell?_of_block (a := ⟨b, 0, none⟩) (g.block b (World.block_lt_of_cell? w _ c) (fun h => h))]; exact c⟩
end Go.Proofs.YtfbaleomhghjeaaGreat

