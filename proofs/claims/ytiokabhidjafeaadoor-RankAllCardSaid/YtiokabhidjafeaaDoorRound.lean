/- What the calls of package vector answer: Cmp, Has. Of any vectors and dots. No condition but that the numbers have their bits. -/
import Derived.Test.YtiokabhidjafeaaDoorVecA
import Derived.Deep.RegionHeld3
import Derived.Test.YtiokabhidjafeaaDoorCanon
import Derived.Test.YtiokabhidjafeaaDoorConv
import Derived.RangeFuncNested
import Derived.RangeFuncBound
import Derived.RangeFuncCalls
import Derived.RangeFuncLeaves
import Derived.Shelf.Abstract
import Derived.Shelf.RegionOpen
import Derived.OwnWalkIn
import Derived.TacticsInMore
import Derived.LoopNIn
import Derived.LoopIn
section
namespace Go.Proofs.YtiokabhidjafeaaDoor
open Go.RowKit

/-- May a dot be? -/
def okD (r n : Nat) : Bool := decide (r < 8) && decide (1 ≤ n) && decide (n ≤ 65535)

set_option maxRecDepth 100000 in
set_option maxHeartbeats 1000000 in
theorem validDot_any (r n : Nat) (w : World) (hr : r < 256) (hn : n < 4294967296) :
    Calls Tryd.prog 64 #[.agg (dv r n)] w fun e w' => e = .returned (.bool (okD r n)) ∧ Frm (fun _ => False) w w' := by
  have g0 : Frm (fun _ => False) w (w.alloc (Obj.cells (dv r n) 61)) := (Frm.refl _ w).alloc _
  have c0 : (w.alloc (Obj.cells (dv r n) 61)).cell? ⟨w.heap.size, 0, none⟩ = some (.int .u8 r) := (Blk.alloc w _ _).cell 0 rfl
  have c1 : (w.alloc (Obj.cells (dv r n) 61)).cell? ⟨w.heap.size, 1, none⟩ = some (.int .u32 n) := (Blk.alloc w _ _).cell 1 rfl
  unfold okD
  by_cases h1 : r < 8
  · have h1i : (r : Int) < 8 := by omega
    by_cases h2 : 1 ≤ n
    · have h2i : (1 : Int) ≤ n := by omega
      by_cases h3 : n ≤ 65535
      · have h3i : (n : Int) ≤ 65535 := by omega
        go_enter Tryd.func64, Tryd.ntmps64
        go_wp2_with fail
        go_ret
        exact ⟨by first | rfl | simp [*], g0⟩
      · have h3i : ¬ (n : Int) ≤ 65535 := by omega
        go_enter Tryd.func64, Tryd.ntmps64
        go_wp2_with fail
        go_ret
        exact ⟨by first | rfl | simp [*], g0⟩
    · have h2i : ¬ (1 : Int) ≤ n := by omega
      go_enter Tryd.func64, Tryd.ntmps64
      go_wp2_with fail
      go_ret
      exact ⟨by first | rfl | simp [*], g0⟩
  · have h1i : ¬ (r : Int) < 8 := by omega
    go_enter Tryd.func64, Tryd.ntmps64
    go_wp2_with fail
    go_ret
    exact ⟨by first | rfl | simp [*], g0⟩

/-- Has f the dot? -/
def has8 (f : Nat → Nat) (r n : Nat) : Bool := okD r n && decide (n ≤ f r)
theorem okD_lt {r n : Nat} (h : okD r n = true) : r < 8 := by
  simp only [okD, Bool.and_eq_true, decide_eq_true_eq] at h
  exact h.1.1

set_option maxRecDepth 100000 in
set_option maxHeartbeats 1000000 in
theorem has_any (f : Nat → Nat) (r n : Nat) (w : World) (hr : r < 256) (hn : n < 4294967296) :
    Calls Tryd.prog 34 #[.agg (vv f), .agg (dv r n)] w fun e w' => e = .returned (.bool (has8 f r n)) ∧ Frm (fun _ => False) w w' := by
  have b0 : Blk ((w.alloc (Obj.cells (vv f) 24)).alloc (Obj.cells (dv r n) 61)) w.heap.size 24 (vv f) := (Blk.alloc w _ _).old _
  have b1 : Blk ((w.alloc (Obj.cells (vv f) 24)).alloc (Obj.cells (dv r n) 61)) (w.heap.size + 1) 61 (dv r n) := Blk.at1 w _ _ _
  have g0 : Frm (fun _ => False) w ((w.alloc (Obj.cells (vv f) 24)).alloc (Obj.cells (dv r n) 61)) := ((Frm.refl _ w).alloc _).alloc _
  have c0 := b1.cell 0 rfl
  have c1 := b1.cell 1 rfl
  have H : ∀ w, Calls Tryd.prog 64 #[.agg (dv r n)] w fun e w' => e = .returned (.bool (okD r n)) ∧ Frm (fun _ => False) w w' := fun w => validDot_any r n w hr hn
  unfold has8
  cases hok : okD r n with
  | false =>
    rw [hok] at H
    have HH := Lib.hid H
    clear H hok
    go_enter Tryd.func34, Tryd.ntmps34
    go_wp2_with fail
    refine wp_region_canon (fun w' => w'.cell? ⟨w.heap.size + 1, 0, none⟩ = some (.int .u8 r) ∧ w'.cell? ⟨w.heap.size + 1, 1, none⟩ = some (.int .u32 n) ∧ Frm (fun _ => False) w w') (by kernel_rfl) rfl (by kernel_rfl) (by kernel_rfl) (⟨c0, c1, g0.drew⟩) ?_
    repeat' first
      | (refine CanonL.skip (by rfl) ?_; (try simp only [Act.put, List.setIfInBounds_toArray, List.set_cons_zero, List.set_cons_succ]))
      | (refine CanonL.callT (by rfl) ?_ HH ?_ ?_; (focus (intro w; go_simp; (try (with_reducible rfl)); done)); (focus (rintro w ww hs gg; exact ⟨gg.cellF hs.1, gg.cellF hs.2.1, hs.2.2.trans gg⟩)); (try simp only [Act.put, List.setIfInBounds_toArray, List.set_cons_zero, List.set_cons_succ]))
      | (refine CanonL.val (v := ?_) (by rfl) ?_ ?_; rotate_left 1; (focus (intro w hSw; (try dsimp only at hSw); go_simp; (try (with_reducible rfl)); done)); (try simp only [Act.put, List.setIfInBounds_toArray, List.set_cons_zero, List.set_cons_succ]))
    refine CanonL.done ?_
    intro w9 hS9
    obtain ⟨_, _, ff⟩ := hS9
    go_wp2_with fail
    go_ret
    exact ⟨rfl, ff⟩
  | true =>
    have hr8 := okD_lt hok
    rw [hok] at H
    have HH := Lib.hid H
    clear H hok
    have c2 := vblk_cell b0 hr8
    have hri : (r : Int) < 8 := by omega
    have hr0 : (0 : Int) ≤ (r : Int) := by omega
    have hq : ((n : Int) ≤ (f r : Int)) ↔ n ≤ f r := by omega
    go_enter Tryd.func34, Tryd.ntmps34
    go_wp2_with fail
    refine wp_region_canon (fun w' => w'.cell? ⟨w.heap.size + 1, 0, none⟩ = some (.int .u8 r) ∧ w'.cell? ⟨w.heap.size + 1, 1, none⟩ = some (.int .u32 n) ∧ w'.cell? ⟨w.heap.size, r, none⟩ = some (.int .u32 (f r)) ∧ Frm (fun _ => False) w w') (by kernel_rfl) rfl (by kernel_rfl) (by kernel_rfl) (⟨c0, c1, c2, g0.drew⟩) ?_
    repeat' first
      | (refine CanonL.skip (by rfl) ?_; (try simp only [Act.put, List.setIfInBounds_toArray, List.set_cons_zero, List.set_cons_succ]))
      | (refine CanonL.callT (by rfl) ?_ HH ?_ ?_; (focus (intro w; go_simp; (try (with_reducible rfl)); done)); (focus (rintro w ww hs gg; exact ⟨gg.cellF hs.1, gg.cellF hs.2.1, gg.cellF hs.2.2.1, hs.2.2.2.trans gg⟩)); (try simp only [Act.put, List.setIfInBounds_toArray, List.set_cons_zero, List.set_cons_succ]))
      | (refine CanonL.val (v := ?_) (by rfl) ?_ ?_; rotate_left 1; (focus (intro w hSw; (try dsimp only at hSw); go_simp; (try (with_reducible rfl)); done)); (try simp only [Act.put, List.setIfInBounds_toArray, List.set_cons_zero, List.set_cons_succ]))
    refine CanonL.done ?_
    intro w9 hS9
    obtain ⟨_, _, _, ff⟩ := hS9
    go_wp2_with fail
    go_ret
    exact ⟨rfl, ff⟩

end Go.Proofs.YtiokabhidjafeaaDoor
end
section
namespace Go.Proofs.YtiokabhidjafeaaDoor
open Go.RowKit
def noDefer (o : Oper) : Bool := match o.op with
  | .defer _ => false
  | _ => true
section
variable {F : Fence} {n : Nat} {P : Program} {ops : Array Oper} {Q : Exit → Act → World → Prop}
theorem wpIn_round {o : Oper} (l : Nat) (hro : F.round = none) (hd : noDefer o = true) {a : Act} {w : World} {K : Act → World → Prop} (h : o.wpIn F n P a w K Q) : o.wpIn (F.inRound l) n P a w K Q := by
  unfold Oper.wpIn at *
  have hs : o.semAt (F.inRound l).round a.eval = o.semAt F.round a.eval := by
    rw [hro, Fence.inRound_round, Oper.semAt_some l _ _ (fun c hc => by simp [noDefer, hc] at hd), Oper.semAt_none]
  rw [hs]
  refine ⟨h.1, ?_⟩
  have h2 := h.2
  generalize (o.semAt F.round a.eval).run P w = r at *
  cases r with
  | ok x w' => cases x <;> exact h2
  | halt x w' => cases x <;> exact h2
theorem wpOpIn_round (l : Nat) (hro : F.round = none) (hd : ops.all noDefer = true) {i : Nat} {a : Act} {w : World} {K : Act → World → Prop} (h : wpOpIn F n P ops Q i K a w) : wpOpIn (F.inRound l) n P ops Q i K a w := by
  unfold wpOpIn at *
  split
  · simpa [*] using h
  · rename_i o ho
    simp only [ho] at h
    have hdo : noDefer o = true := by
      obtain ⟨hlt, rfl⟩ := Array.getElem?_eq_some_iff.1 ho
      exact Array.all_eq_true.1 hd i hlt
    split
    · rename_i hw
      simp only [hw, if_true] at h
      exact wpIn_round l hro hdo h
    · rename_i hw
      simp only [hw] at h
      exact h
theorem wpAnyIn_round (l : Nat) (hro : F.round = none) (hd : ops.all noDefer = true) {md : Region.Mode} : ∀ (fuel : Nat) (listed : Array Bool) (a : Act) (w : World), wpAnyIn F n P md ops Q fuel listed a w → wpAnyIn (F.inRound l) n P md ops Q fuel listed a w := by
  intro fuel
  induction fuel with
  | zero => intro listed a w h; exact h
  | succ fuel ih =>
    intro listed a w h
    exact ⟨h.1, fun i hi => wpOpIn_mono (fun a w => ih _ a w) (wpOpIn_round l hro hd (h.2 i hi))⟩
/-- THE RULE: walk the region as if it stood outside of the round. -/
theorem wpIn_region_round {l id : Nat} {a : Act} {w : World} (hro : F.round = none) (hm : P.follows .mixedOrders = true) (hd : ops.all noDefer = true)
    (h : wpAnyIn F n P .any ops Q ops.size (Array.replicate ops.size false) a w.drew) : (Code.region id ops true).wpIn (F.inRound l) n P Q a w :=
  wpIn_region_any hm (wpAnyIn_round l hro hd _ _ _ _ h)
end
end Go.Proofs.YtiokabhidjafeaaDoor
end
