/- The law's own small calls: some of the chapter's answers. -/
import Derived.Test.YtiokabhidjafeaaDoorCodecX
import Derived.Test.YtiokabhidjafeaaDoorSibM
import Derived.Test.YtiokabhidjafeaaDoorRkM
import Derived.Test.YtiokabhidjafeaaDoorSibE
import Derived.Test.YtiokabhidjafeaaDoorSibD
import Derived.Test.YtiokabhidjafeaaDoorVecG
import Derived.Deep.RegionWith
import Derived.Deep.RegionHeld3
import Derived.Deep.QuietTactic
import Derived.BigQuiet
import Derived.IntWalk
import Derived.Deep.Cut
section
namespace Go.Proofs.YtiokabhidjafeaaDoor
open Go.RowKit

theorem Frm.new {w w1 w2 : World} {X Y : Nat → Prop} (h : Frm X w w1) (h' : Frm Y w1 w2) (hy : ∀ k, Y k → w.heap.size ≤ k) : Frm X w w2 := h.next h' fun k hk hY => by have := hy k hY; omega

end Go.Proofs.YtiokabhidjafeaaDoor
end
section
namespace Go.Proofs.YtiokabhidjafeaaDoor
open Go.RowKit
/-- Something that is written, or read. -/
structure Item where
  k : Nat
  n : Nat
  s : List UInt8
/-- The slice value v reads as these items. -/
def It (w : World) (v : Value) (L : List Item) : Prop :=
  ∃ a cap, v = .slice a L.length cap ∧ L.length ≤ cap ∧ cap ≤ maxLen ∧ ∀ i (h : i < L.length), ∃ b off, a = some ⟨b, off, none⟩ ∧ b < w.heap.size ∧
    w.cell? ⟨b, off + i * 3, none⟩ = some (.int .u8 L[i].k) ∧ w.cell? ⟨b, off + i * 3 + 1, none⟩ = some (.int .u32 L[i].n) ∧ w.cell? ⟨b, off + i * 3 + 2, none⟩ = some (.string (bs L[i].s)) ∧
    L[i].k < 256 ∧ L[i].n < 4294967296 ∧ L[i].s.length ≤ 9223372036854775807
theorem It.keep {X : Nat → Prop} {w w' : World} {v : Value} {L : List Item} (h : It w v L) (hf : Frm X w w') (hn : ∀ k, k < w.heap.size → ¬ X k) : It w' v L := by
  obtain ⟨a, cap, hv, h1, h2, h3⟩ := h
  refine ⟨a, cap, hv, h1, h2, fun i hi => ?_⟩
  obtain ⟨b, off, ha, hb, c0, c1, c2, r⟩ := h3 i hi
  have e := hf.block b hb (hn b hb)
  have ec : ∀ j, w'.cell? ⟨b, j, none⟩ = w.cell? ⟨b, j, none⟩ := fun j => World.cell?_of_block (a := ⟨b, j, none⟩) e
  exact ⟨b, off, ha, Nat.lt_of_lt_of_le hb hf.size, by rw [ec]; exact c0, by rw [ec]; exact c1, by rw [ec]; exact c2, r⟩

end Go.Proofs.YtiokabhidjafeaaDoor
end
section
namespace Go.Proofs.YtiokabhidjafeaaDoor
open Go.RowKit

set_option maxRecDepth 100000 in
set_option maxHeartbeats 1000000 in
/-- What wants a dot that a register's context doesn't have. -/
theorem join2_any (b : Nat) (f : Nat → Nat) (v : Value) (x : SibI) (w : World) (hb : Blk w b 27 (rgc f v)) :
    Calls Tryd.prog 42 (#[.agg (dv x.r x.n)] ++ #[.pointer (some ⟨b, 0, none⟩)]) w fun e w' => e = .returned (.bool (!has8 f x.r x.n)) ∧ Frm (fun _ => False) w w' := by
  have g0 : Frm (fun _ => False) w (w.alloc (.cells (dv x.r x.n) 61)) := (Frm.refl _ w).alloc _
  have b0 := Blk.alloc w 61 (dv x.r x.n)
  have d0 := b0.cell 0 rfl
  have d1 := b0.cell 1 rfl
  have lC := load_ctx (hb.keep g0 (fun h => h))
  have HX := Lib.hid (fun W => has_any f x.r x.n W x.hr x.hn)
  generalize has8 f x.r x.n = q at *
  clear b0 hb
  show Calls Tryd.prog 42 #[.agg (dv x.r x.n), .pointer (some ⟨b, 0, none⟩)] w _
  go_enter Tryd.func42, Tryd.ntmps42
  go_wp2_with ((with_reducible refine wpl_load rfl _ rfl ?_ lC ?_); (focus rfl))
  refine (HX.out _).mono ?_
  rintro e w2 ⟨rfl, f2⟩
  clear lC
  cases q
  all_goals
    go_wp2_with fail
    go_ret
    exact ⟨rfl, g0.trans f2⟩

theorem zeroUnit (w : World) : (zeroValue 100).run Tryd.prog w = .ok (.agg #[]) w := Tryd.zeroValue100 w
set_option maxRecDepth 100000 in
set_option maxHeartbeats 2000000 in
/-- What wants a dot that is in a set, or that a register's context doesn't have. -/
theorem join1_any (bm bs' b : Nat) (f : Nat → Nat) (v : Value) (l : List SibI) (x : SibI) (w : World) (hm : Blk w bm 97 #[.map (some bs')]) (hs : DM w bs' l) (hb : Blk w b 27 (rgc f v)) :
    Calls Tryd.prog 41 (#[.agg (dv x.r x.n)] ++ #[.pointer (some ⟨bm, 0, none⟩), .pointer (some ⟨b, 0, none⟩)]) w fun e w' => e = .returned (.bool (decide (x.d ∈ l.map SibI.d) || !has8 f x.r x.n)) ∧ Frm (fun _ => False) w w' := by
  have g0 : Frm (fun _ => False) w (w.alloc (.cells (dv x.r x.n) 61)) := (Frm.refl _ w).alloc _
  have b0 := Blk.alloc w 61 (dv x.r x.n)
  have d0 := b0.cell 0 rfl
  have d1 := b0.cell 1 rfl
  have m0 := (hm.keep g0 (fun h => h)).cell 0 rfl
  have hbr := hb.keep g0 (fun h => h)
  have HX := Lib.hid (fun W => has_any f x.r x.n W x.hr x.hn)
  obtain ⟨n, D, hown, hn, hmap, hhas⟩ := hs.keep g0 (fun h => h)
  have hkey : keyOf Tryd.prog 61 (.agg (dv x.r x.n)) = some (keyL x.d) := keyL_eq x.d
  have hh := hhas x.d
  generalize has8 f x.r x.n = q at *
  generalize decide (x.d ∈ l.map SibI.d) = p at *
  have HH := Lib.hid hh
  clear b0 hb hm hs hhas hh hmap
  show Calls Tryd.prog 41 #[.agg (dv x.r x.n), .pointer (some ⟨bm, 0, none⟩), .pointer (some ⟨b, 0, none⟩)] w _
  go_enter Tryd.func41, Tryd.ntmps41
  go_upto_region 2 with (at_lookup; refine wpList_lookup_own_unit _ rfl _ _ 97 rfl 61 100 dotKeyed Tryd.underlying97 (zeroUnit _) bs' n D rfl hown _ _ rfl hkey ?_)
  rw [HH.out]
  have g1 : Frm (fun _ => False) w ((w.alloc (.cells (dv x.r x.n) 61)).alloc (.cells #[] 100)) := g0.alloc _
  have hbr := hbr.old (.cells #[] 100)
  have c := rcells hbr
  have e0 := ((Blk.alloc w 61 (dv x.r x.n)).old (.cells #[] 100)).cell 0 rfl
  have e1 := ((Blk.alloc w 61 (dv x.r x.n)).old (.cells #[] 100)).cell 1 rfl
  generalize (w.alloc (.cells (dv x.r x.n) 61)).alloc (.cells #[] 100) = w2 at *
  clear hown hkey HH hbr d0 d1 m0 g0
  cases p with
  | true =>
    go_wp2_with fail
    go_ret
    exact ⟨rfl, g1⟩
  | false =>
    go_wp2_with fail
    refine (HX.out _).mono ?_
    rintro e w3 ⟨rfl, f3⟩
    clear c e0 e1
    cases q
    all_goals
      go_wp2_with fail
      go_ret
      exact ⟨rfl, g1.trans f3⟩
end Go.Proofs.YtiokabhidjafeaaDoor
end
section
namespace Go.Proofs.YtiokabhidjafeaaDoor
open Go.RowKit

set_option maxRecDepth 100000 in
set_option maxHeartbeats 2000000 in
theorem compare_lays (r n r' n' : Nat) (w : World) : Calls Tryd.prog 33 #[.agg (dv r n), .agg (dv r' n')] w fun e w' => e = .returned (.int .i64 (cmpD r n r' n')) ∧ w' = (((w.alloc (.cells (dv r n) 61)).alloc (.cells (dv r' n') 61)).drew).alloc (.cells #[.int .i64 (cmpN n n'), .int .i64 (cmpN r r')] 3) := by
  have g0 : Frm (fun _ => False) w ((w.alloc (.cells (dv r n) 61)).alloc (.cells (dv r' n') 61)) := ((Frm.refl _ w).alloc _).alloc _
  have b0 : Blk ((w.alloc (.cells (dv r n) 61)).alloc (.cells (dv r' n') 61)) w.heap.size 61 (dv r n) := (Blk.alloc w _ _).old _
  have b1 : Blk ((w.alloc (.cells (dv r n) 61)).alloc (.cells (dv r' n') 61)) (w.heap.size + 1) 61 (dv r' n') := Blk.at1 w _ _ _
  have h1 := fun W => cmp32 n n' W
  have h2 := fun W => cmp8_ r r' W
  have h3 := fun g W hb => cmpOr g (cmpN n n') (cmpN r r') W hb
  have H1 := Lib.hid h1
  have H2 := Lib.hid h2
  have H3 := Lib.hid h3
  have hc : orI (cmpN n n') (cmpN r r') = cmpD r n r' n' := rfl
  rw [hc] at H3
  clear h1 h2 h3 hc
  generalize cmpN n n' = x at *
  generalize cmpN r r' = y at *
  generalize cmpD r n r' n' = c at *
  have c0 := b0.cell 0 rfl
  have c1 := b0.cell 1 rfl
  have c2 := b1.cell 0 rfl
  have c3 := b1.cell 1 rfl
  go_enter Tryd.func33, Tryd.ntmps33
  go_upto_region 1 with fail
  generalize hw1 : (w.alloc (.cells (dv r n) 61)).alloc (.cells (dv r' n') 61) = w1 at *
  have HW1 := Lib.hid hw1
  clear hw1
  clear b0 b1
  have K1 : Hid (∀ W, Calls Tryd.prog 62 #[.int .u32 n, .int .u32 n'] W fun e w' => e = .returned (.int .i64 x) ∧ W = w') := H1
  have K2 : Hid (∀ W, Calls Tryd.prog 63 #[.int .u8 r, .int .u8 r'] W fun e w' => e = .returned (.int .i64 y) ∧ W = w') := H2
  obtain ⟨A, hA⟩ : ∃ A, w.heap.size = A := ⟨_, rfl⟩
  rw [hA] at c0 c1 c2 c3 ⊢
  clear hA H1 H2
  refine wp_region_tail 10 2 (fun w' => w'.cell? ⟨A, 0, none⟩ = some (.int .u8 r) ∧ w'.cell? ⟨A, 1, none⟩ = some (.int .u32 n) ∧ w'.cell? ⟨A + 1, 0, none⟩ = some (.int .u8 r') ∧ w'.cell? ⟨A + 1, 1, none⟩ = some (.int .u32 n') ∧ w1.drew = w') (by kernel_rfl) rfl rfl (by kernel_rfl) (by kernel_rfl) (by kernel_rfl) (by kernel_rfl) (⟨c0, c1, c2, c3, rfl⟩) ?_
  repeat' first
    | (refine CanonL.skip (by rfl) ?_; (try simp only [Act.put, List.setIfInBounds_toArray, List.set_cons_zero, List.set_cons_succ]))
    | (refine CanonL.callQ (by rfl) (by rfl) ?_ K1 ?_ ?_; (focus (intro w; go_simp; (try (with_reducible rfl)); done)); (focus (rintro w ww hs gg; exact (by rw [← gg]; exact hs))); (try simp only [Act.put, List.setIfInBounds_toArray, List.set_cons_zero, List.set_cons_succ]))
    | (refine CanonL.callQ (by rfl) (by rfl) ?_ K2 ?_ ?_; (focus (intro w; go_simp; (try (with_reducible rfl)); done)); (focus (rintro w ww hs gg; exact (by rw [← gg]; exact hs))); (try simp only [Act.put, List.setIfInBounds_toArray, List.set_cons_zero, List.set_cons_succ]))
    | (refine CanonL.val (v := ?_) (by rfl) ?_ ?_; rotate_left 1; (focus (intro w hSw; (try dsimp only at hSw); go_simp; (try (with_reducible rfl)); done)); (try simp only [Act.put, List.setIfInBounds_toArray, List.set_cons_zero, List.set_cons_succ]))
  refine CanonL.done ?_
  intro w9 hS9
  obtain ⟨_, _, _, _, hw9⟩ := hS9
  have HW9 := Lib.hid hw9
  clear hw9
  have hbk := Blk.alloc w9 3 #[.int .i64 x, .int .i64 y]
  refine wpTail.cons rfl rfl (fun K hK => ?_)
  unfold Oper.wp execOp
  go_simp
  refine hK _ _ ?_
  clear hK K
  obtain ⟨w2, hw2⟩ : ∃ w2, w9.alloc (.cells #[.int .i64 x, .int .i64 y] 3) = w2 := ⟨_, rfl⟩
  have HW2 := Lib.hid hw2
  rw [hw2] at hbk ⊢
  clear hw2
  obtain ⟨g, hg⟩ : ∃ g, w9.heap.size = g := ⟨_, rfl⟩
  rw [hg] at hbk ⊢
  clear hg
  try simp only [Act.put, List.setIfInBounds_toArray, List.set_cons_zero, List.set_cons_succ]
  refine wpTail.cons rfl rfl (fun K hK => ?_)
  unfold Oper.wp execOp
  go_simp
  refine (H3.out _ _ hbk).mono ?_
  rintro e w3 ⟨rfl, rfl⟩
  refine hK _ _ ?_
  clear hK K
  try simp only [Act.put, List.setIfInBounds_toArray, List.set_cons_zero, List.set_cons_succ]
  refine wpTail.cons rfl rfl (fun K hK => ?_)
  unfold Oper.wp execOp
  go_simp
  refine hK _ _ ?_
  clear hK K
  try simp only [Act.put, List.setIfInBounds_toArray, List.set_cons_zero, List.set_cons_succ]
  refine wpTail.done ?_
  go_wp2_with fail
  go_ret
  exact ⟨rfl, by rw [← HW2.out, ← HW9.out, ← HW1.out]⟩


set_option maxRecDepth 100000 in
set_option maxHeartbeats 1000000 in
/-- What Join sorts by. -/
theorem join3_lays (x y : SibI) (w : World) : Calls Tryd.prog 44 #[.agg #[.int .u8 x.r, .int .u32 x.n, .string (bs x.s)], .agg #[.int .u8 y.r, .int .u32 y.n, .string (bs y.s)]] w fun e w' => e = .returned (.int .i64 (cmpD x.r x.n y.r y.n)) ∧
    ∃ o1 o2 o3 o4 o5, w' = ((((w.alloc o1).alloc o2).alloc o3).alloc o4).drew.alloc o5 := by
  have HC := Lib.hid (fun W => compare_lays x.r x.n y.r y.n W)
  generalize cmpD x.r x.n y.r y.n = c at *
  go_enter Tryd.func44, Tryd.ntmps44
  go_wp2_with fail
  refine (HC.out _).mono ?_
  rintro e w2 ⟨rfl, rfl⟩
  go_wp2_with fail
  go_ret
  exact ⟨rfl, _, _, _, _, _, rfl⟩
end Go.Proofs.YtiokabhidjafeaaDoor
end
