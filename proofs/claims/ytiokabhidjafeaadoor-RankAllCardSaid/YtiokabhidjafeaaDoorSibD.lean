/- How dots are compared, and found among others; what wants a dot. No condition. -/
import Derived.Test.YtiokabhidjafeaaDoorCanonQ
import Derived.Test.YtiokabhidjafeaaDoorCanonT
import Derived.Deep.RegionHeld
import Derived.Deep.RegionWith
import Derived.Deep.DeepCutAuto
import Derived.Deep.RegionHeld3
import Derived.Deep.QuietTactic
namespace Go.Proofs.YtiokabhidjafeaaDoor
open Go.RowKit

/-- How numbers are compared. -/
def cmpN (a b : Nat) : Int := if a < b then -1 else if b < a then 1 else 0
theorem cmpN_lt {a b : Nat} (h : a < b) : cmpN a b = -1 := by unfold cmpN; rw [if_pos h]
theorem cmpN_gt {a b : Nat} (h : b < a) : cmpN a b = 1 := by unfold cmpN; rw [if_neg (by omega), if_pos h]
theorem cmpN_eq (a : Nat) : cmpN a a = 0 := by unfold cmpN; simp

set_option maxHeartbeats 400000 in
theorem nan32 (a : Nat) (w : World) : Calls Tryd.prog 80 #[.int .u32 a] w fun e w' => e = .returned (.bool false) ∧ w = w' := by
  go_enter Tryd.func80, Tryd.ntmps80
  go_wp2
  go_ret
  exact ⟨by simp, rfl⟩
set_option maxHeartbeats 400000 in
theorem nan8 (a : Nat) (w : World) : Calls Tryd.prog 81 #[.int .u8 a] w fun e w' => e = .returned (.bool false) ∧ w = w' := by
  go_enter Tryd.func81, Tryd.ntmps81
  go_wp2
  go_ret
  exact ⟨by simp, rfl⟩
set_option maxHeartbeats 1000000 in
theorem cmp32 (a b : Nat) (w : World) : Calls Tryd.prog 62 #[.int .u32 a, .int .u32 b] w fun e w' => e = .returned (.int .i64 (cmpN a b)) ∧ w = w' := by
  have hn := nan32
  have HN := Lib.hid hn
  clear hn
  obtain ⟨c, hc⟩ : ∃ c, cmpN a b = c := ⟨_, rfl⟩
  rw [hc]
  go_enter Tryd.func62, Tryd.ntmps62
  rcases Nat.lt_trichotomy a b with h | h | h
  · have h1 : (a : Int) < (b : Int) := by omega
    go_wp2_with (go_at_call 80; refine (HN.out _ _).mono ?_; rintro e w1 ⟨rfl, rfl⟩)
    go_ret
    exact ⟨by rw [← hc, cmpN_lt h]; rfl, rfl⟩
  · subst h
    go_wp2_with (go_at_call 80; refine (HN.out _ _).mono ?_; rintro e w1 ⟨rfl, rfl⟩)
    go_ret
    exact ⟨by rw [← hc, cmpN_eq]; rfl, rfl⟩
  · have h1 : (b : Int) < (a : Int) := by omega
    have h2 : ¬ ((a : Int) < (b : Int)) := by omega
    go_wp2_with (go_at_call 80; refine (HN.out _ _).mono ?_; rintro e w1 ⟨rfl, rfl⟩)
    go_ret
    exact ⟨by rw [← hc, cmpN_gt h]; rfl, rfl⟩
set_option maxHeartbeats 1000000 in
theorem cmp8_ (a b : Nat) (w : World) : Calls Tryd.prog 63 #[.int .u8 a, .int .u8 b] w fun e w' => e = .returned (.int .i64 (cmpN a b)) ∧ w = w' := by
  have hn := nan8
  have HN := Lib.hid hn
  clear hn
  obtain ⟨c, hc⟩ : ∃ c, cmpN a b = c := ⟨_, rfl⟩
  rw [hc]
  go_enter Tryd.func63, Tryd.ntmps63
  rcases Nat.lt_trichotomy a b with h | h | h
  · have h1 : (a : Int) < (b : Int) := by omega
    go_wp2_with (go_at_call 81; refine (HN.out _ _).mono ?_; rintro e w1 ⟨rfl, rfl⟩)
    go_ret
    exact ⟨by rw [← hc, cmpN_lt h]; rfl, rfl⟩
  · subst h
    go_wp2_with (go_at_call 81; refine (HN.out _ _).mono ?_; rintro e w1 ⟨rfl, rfl⟩)
    go_ret
    exact ⟨by rw [← hc, cmpN_eq]; rfl, rfl⟩
  · have h1 : (b : Int) < (a : Int) := by omega
    have h2 : ¬ ((a : Int) < (b : Int)) := by omega
    go_wp2_with (go_at_call 81; refine (HN.out _ _).mono ?_; rintro e w1 ⟨rfl, rfl⟩)
    go_ret
    exact ⟨by rw [← hc, cmpN_gt h]; rfl, rfl⟩

/-- The first one that is not 0. -/
def orI (x y : Int) : Int := if x = 0 then y else x
set_option maxHeartbeats 1000000 in
theorem cmpOr (g : Nat) (x y : Int) (w : World) (h : Blk w g 3 #[.int .i64 x, .int .i64 y]) : Calls Tryd.prog 61 #[.slice (some ⟨g, 0, none⟩) 2 2] w fun e w' => e = .returned (.int .i64 (orI x y)) ∧ w = w' := by
  have c0 := h.cell 0 rfl
  have c1 := h.cell 1 rfl
  obtain ⟨c, hc⟩ : ∃ c, orI x y = c := ⟨_, rfl⟩
  rw [hc]
  have HC := Lib.hid hc
  clear hc h
  go_enter Tryd.func61, Tryd.ntmps61
  go_wp2
  go_loop [8] (fun i => ∃ k : Nat, k ≤ 2 ∧ i = .int .i64 k ∧ (1 ≤ k → x = 0) ∧ (2 ≤ k → y = 0)) (fun i => 2 - (intOf i).toNat)
  case atStart => exact ⟨0, by omega, rfl, fun h => by omega, fun h => by omega⟩
  case round =>
    obtain ⟨k, hk, rfl, h1, h2⟩ := hrel
    have H1 := Lib.hid h1
    have H2 := Lib.hid h2
    clear h1 h2
    rcases (show k = 0 ∨ k = 1 ∨ k = 2 by omega) with rfl | rfl | rfl
    · by_cases hx : x = 0
      · subst hx
        go_wp2
        go_round
        case rel => exact ⟨1, by omega, rfl, fun _ => by simp, fun h => by omega⟩
        case measure => simp [intOf]
      · have hq : (x != 0) = true := by simp; exact hx
        have hq2 : (x == 0) = false := by simp; exact hx
        have HX := Lib.hid hx
        clear hx
        go_wp2
        go_ret
        exact ⟨by rw [← HC.out]; unfold orI; rw [if_neg HX.out]; rfl, rfl⟩
    · have hx := H1.out (Nat.le_refl _)
      subst hx
      by_cases hy : y = 0
      · subst hy
        go_wp2
        go_round
        case rel => exact ⟨2, by omega, rfl, fun _ => by simp, fun _ => by simp⟩
        case measure => simp [intOf]
      · have hq : (y != 0) = true := by simp; exact hy
        have hq2 : (y == 0) = false := by simp; exact hy
        clear hy
        go_wp2
        go_ret
        exact ⟨by rw [← HC.out]; rfl, rfl⟩
    · have hx := H1.out (by omega)
      have hy := H2.out (by omega)
      subst hx hy
      go_wp2
      go_ret
      exact ⟨by rw [← HC.out]; rfl, rfl⟩

/-- How dots are compared. -/
def cmpD (r n r' n' : Nat) : Int := orI (cmpN n n') (cmpN r r')
set_option maxRecDepth 100000 in
set_option maxHeartbeats 2000000 in
theorem compare_any (r n r' n' : Nat) (w : World) : Calls Tryd.prog 33 #[.agg (dv r n), .agg (dv r' n')] w fun e w' => e = .returned (.int .i64 (cmpD r n r' n')) ∧ Frm (fun _ => False) w w' := by
  have g0 : Frm (fun _ => False) w ((w.alloc (.cells (dv r n) 61)).alloc (.cells (dv r' n') 61)) := ((Frm.refl _ w).alloc _).alloc _
  have b0 : Blk ((w.alloc (.cells (dv r n) 61)).alloc (.cells (dv r' n') 61)) w.heap.size 61 (dv r n) := (Blk.alloc w _ _).old _
  have b1 : Blk ((w.alloc (.cells (dv r n) 61)).alloc (.cells (dv r' n') 61)) (w.heap.size + 1) 61 (dv r' n') := Blk.at1 w _ _ _
  have h1 := fun W => cmp32 n n' W
  have h2 := fun W => cmp8_ r r' W
  have h3 := fun g W hb => cmpOr g (cmpN n n') (cmpN r r') W hb
  have H1 := Lib.hid h1
  have H2 := Lib.hid h2
  have H3 := Lib.hid h3
  have hc : orI (cmpN n n') (cmpN r r') = cmpD r n r' n' := rfl
  rw [hc] at H3
  clear h1 h2 h3 hc
  generalize cmpN n n' = x at *
  generalize cmpN r r' = y at *
  generalize cmpD r n r' n' = c at *
  have c0 := b0.cell 0 rfl
  have c1 := b0.cell 1 rfl
  have c2 := b1.cell 0 rfl
  have c3 := b1.cell 1 rfl
  go_enter Tryd.func33, Tryd.ntmps33
  go_upto_region 1 with fail
  generalize (w.alloc (.cells (dv r n) 61)).alloc (.cells (dv r' n') 61) = w1 at *
  clear b0 b1
  have K1 : Hid (∀ W, Calls Tryd.prog 62 #[.int .u32 n, .int .u32 n'] W fun e w' => e = .returned (.int .i64 x) ∧ Frm (fun _ => False) W w') := Lib.hid fun W => (H1.out W).mono fun e w' ⟨h1, h2⟩ => ⟨h1, h2 ▸ Frm.refl _ _⟩
  have K2 : Hid (∀ W, Calls Tryd.prog 63 #[.int .u8 r, .int .u8 r'] W fun e w' => e = .returned (.int .i64 y) ∧ Frm (fun _ => False) W w') := Lib.hid fun W => (H2.out W).mono fun e w' ⟨h1, h2⟩ => ⟨h1, h2 ▸ Frm.refl _ _⟩
  obtain ⟨A, hA⟩ : ∃ A, w.heap.size = A := ⟨_, rfl⟩
  rw [hA] at c0 c1 c2 c3 ⊢
  clear hA H1 H2
  refine wp_region_tail 10 2 (fun w' => w'.cell? ⟨A, 0, none⟩ = some (.int .u8 r) ∧ w'.cell? ⟨A, 1, none⟩ = some (.int .u32 n) ∧ w'.cell? ⟨A + 1, 0, none⟩ = some (.int .u8 r') ∧ w'.cell? ⟨A + 1, 1, none⟩ = some (.int .u32 n') ∧ Frm (fun _ => False) w1 w') (by kernel_rfl) rfl rfl (by kernel_rfl) (by kernel_rfl) (by kernel_rfl) (by kernel_rfl) (⟨c0, c1, c2, c3, (Frm.refl _ w1).drew⟩) ?_
  repeat' first
    | (refine CanonL.skip (by rfl) ?_; (try simp only [Act.put, List.setIfInBounds_toArray, List.set_cons_zero, List.set_cons_succ]))
    | (refine CanonL.callQ (by rfl) (by rfl) ?_ K1 ?_ ?_; (focus (intro w; go_simp; (try (with_reducible rfl)); done)); (focus (rintro w ww hs gg; exact (by obtain ⟨h1, h2, h3, h4, h5⟩ := hs; exact ⟨gg.cellF h1, gg.cellF h2, gg.cellF h3, gg.cellF h4, h5.trans gg⟩))); (try simp only [Act.put, List.setIfInBounds_toArray, List.set_cons_zero, List.set_cons_succ]))
    | (refine CanonL.callQ (by rfl) (by rfl) ?_ K2 ?_ ?_; (focus (intro w; go_simp; (try (with_reducible rfl)); done)); (focus (rintro w ww hs gg; exact (by obtain ⟨h1, h2, h3, h4, h5⟩ := hs; exact ⟨gg.cellF h1, gg.cellF h2, gg.cellF h3, gg.cellF h4, h5.trans gg⟩))); (try simp only [Act.put, List.setIfInBounds_toArray, List.set_cons_zero, List.set_cons_succ]))
    | (refine CanonL.val (v := ?_) (by rfl) ?_ ?_; rotate_left 1; (focus (intro w hSw; (try dsimp only at hSw); go_simp; (try (with_reducible rfl)); done)); (try simp only [Act.put, List.setIfInBounds_toArray, List.set_cons_zero, List.set_cons_succ]))
  refine CanonL.done ?_
  intro w9 hS9
  obtain ⟨_, _, _, _, f1⟩ := hS9
  have hbk := Blk.alloc w9 3 #[.int .i64 x, .int .i64 y]
  have f2 := f1.alloc (.cells #[.int .i64 x, .int .i64 y] 3)
  refine wpTail.cons rfl rfl (fun K hK => ?_)
  unfold Oper.wp execOp
  go_simp
  refine hK _ _ ?_
  clear hK K
  generalize w9.alloc (.cells #[.int .i64 x, .int .i64 y] 3) = w2 at *
  generalize w9.heap.size = g at *
  try simp only [Act.put, List.setIfInBounds_toArray, List.set_cons_zero, List.set_cons_succ]
  refine wpTail.cons rfl rfl (fun K hK => ?_)
  unfold Oper.wp execOp
  go_simp
  refine (H3.out _ _ hbk).mono ?_
  rintro e w3 ⟨rfl, rfl⟩
  refine hK _ _ ?_
  clear hK K
  try simp only [Act.put, List.setIfInBounds_toArray, List.set_cons_zero, List.set_cons_succ]
  refine wpTail.cons rfl rfl (fun K hK => ?_)
  unfold Oper.wp execOp
  go_simp
  refine hK _ _ ?_
  clear hK K
  try simp only [Act.put, List.setIfInBounds_toArray, List.set_cons_zero, List.set_cons_succ]
  refine wpTail.done ?_
  go_wp2_with fail
  go_ret
  exact ⟨rfl, g0.trans f2⟩

/-- A register, out of a block that holds it. -/
theorem load_reg {w : World} {b : Nat} {f : Nat → Nat} {v : Value} (h : Blk w b 27 (rgc f v)) : (Instr.loadAt 27 (.pointer (some ⟨b, 0, none⟩))).run Tryd.prog w = .ok (rg f v) w :=
  run_loadAt_mid w b 0 27 (rgc f v).toList _ (fun j u hu => by rw [Nat.zero_add]; exact h.cell j (by rw [← Array.getElem?_toList]; exact hu)) Tryd.underlying27 rfl (by show _ = some 9; kernel_rfl)
/-- Its context. -/
theorem load_ctx {w : World} {b : Nat} {f : Nat → Nat} {v : Value} (h : Blk w b 27 (rgc f v)) : (Instr.loadAt 24 (.pointer (some ⟨b, 0, none⟩))).run Tryd.prog w = .ok (.agg (vv f)) w :=
  run_loadAt_mid w b 0 24 (vv f).toList _ (fun j u hu => by
    have hj : j < 8 := by
      rcases Nat.lt_or_ge j 8 with h | h
      · exact h
      · rw [List.getElem?_eq_none (by simp; omega)] at hu; cases hu
    rw [Array.getElem?_toList] at hu
    rw [Nat.zero_add]
    refine h.cell j (?_ : (rgc f v)[j]? = some u)
    rcases lt8 hj with rfl | rfl | rfl | rfl | rfl | rfl | rfl | rfl <;> exact hu) Tryd.underlying24 rfl (by show _ = some 8; kernel_rfl)
/-- A dot. -/
structure DotI where
  r : Nat
  n : Nat
  hr : r < 256
  hn : n < 4294967296
instance : Inhabited DotI := ⟨⟨0, 0, by decide, by decide⟩⟩
theorem DotI.ext' {x y : DotI} (h1 : x.r = y.r) (h2 : x.n = y.n) : x = y := by
  cases x; cases y; simp only at h1 h2; subst h1 h2; rfl
instance : DecidableEq DotI := fun x y =>
  if h : x.r = y.r ∧ x.n = y.n then isTrue (DotI.ext' h.1 h.2) else isFalse fun e => h (by subst e; exact ⟨rfl, rfl⟩)
/-- A sibling's dot. -/
def SibI.d (x : SibI) : DotI := ⟨x.r, x.n, x.hr, x.hn⟩
def dotc (x : DotI) : List Value := [.int .u8 x.r, .int .u32 x.n]
theorem dotc_len (x : DotI) : (dotc x).length = 2 := rfl
theorem dotc_one (x : DotI) : ∀ u ∈ dotc x, u.oneCell' = true := fun u hu => by
  simp [dotc] at hu
  rcases hu with rfl | rfl <;> rfl
/-- A slice of dots that is only read. -/
def DL (w : World) (v : Value) (l : List DotI) : Prop := Sl w 2 v l.length (flat dotc l)
theorem DL.keepF {w w' : World} {v : Value} {l : List DotI} (h : DL w v l) (hf : Frm (fun _ => False) w w') : DL w' v l := Sl.keepF h hf
theorem DL.slice {w : World} {v : Value} {l : List DotI} (h : DL w v l) : ∃ a cap, v = .slice a l.length cap ∧ l.length ≤ cap ∧ cap ≤ maxLen := Sl.slice h
theorem DL.load {w : World} {a : Option Addr} {cap : Nat} {l : List DotI} (h : DL w (.slice a l.length cap) l) (k : Nat) (hk : k < l.length) :
    ∃ g off, a = some ⟨g, off, none⟩ ∧ w.cell? ⟨g, off + k * 2, none⟩ = some (.int .u8 l[k].r) ∧ w.cell? ⟨g, off + k * 2 + 1, none⟩ = some (.int .u32 l[k].n) := by
  obtain ⟨g, off, rfl, _, hc⟩ := Sl.elem dotc dotc_len h k hk (by omega)
  exact ⟨g, off, rfl, hc 0 (by omega), by rw [Nat.add_assoc]; exact hc 1 (by omega)⟩

theorem dot_beq (x y : DotI) : (x.r == y.r && x.n == y.n) = decide (x = y) := by
  rw [Bool.eq_iff_iff]
  simp only [Bool.and_eq_true, beq_iff_eq, decide_eq_true_eq]
  exact ⟨fun h => DotI.ext' h.1 h.2, fun h => by subst h; exact ⟨rfl, rfl⟩⟩
end Go.Proofs.YtiokabhidjafeaaDoor

