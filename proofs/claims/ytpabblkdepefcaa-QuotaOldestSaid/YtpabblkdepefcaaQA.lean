/- How items compare; what a size counts as; the stable sort at this program. No condition but that there are fewer than forty items. -/
import Derived.Test.YtpabblkdepefcaaStG
import Derived.Test.YtpabblkdepefcaaQM
import Derived.Test.YtpabblkdepefcaaSortK
import Derived.Test.YtpabblkdepefcaaShelf
import Derived.Test.YtpabblkdepefcaaCanonT
import Derived.WalkKit
import Derived.Deep.RegionHeld
import Derived.Deep.RegionWith
import Derived.Deep.DeepCutAuto
import Derived.Deep.RegionHeld3
import Derived.Deep.QuietTactic
namespace Go.Proofs.Ytpabblkdepefcaa
open Go.RowKit

theorem Blk.atQ1 (w : World) (o : Obj) (t : TypeId) (cs : Array Value) : Blk ((w.alloc o).alloc (.cells cs t)) (w.heap.size + 1) t cs := by
  have h := Blk.alloc (w.alloc o) t cs
  simpa using h
theorem Blk.atQ2 (w : World) (o o2 : Obj) (t : TypeId) (cs : Array Value) : Blk (((w.alloc o).alloc o2).alloc (.cells cs t)) (w.heap.size + 1 + 1) t cs := by
  have h := Blk.alloc ((w.alloc o).alloc o2) t cs
  simpa using h
/-- An item's cells. -/
def qic (x : QI) : List Value := [.string (bs x.path), .int .u32 (x.id : Int), .int .u32 (x.tick : Int), .int .i64 x.size]
theorem qic_len (x : QI) : (qic x).length = 4 := rfl
theorem qic_one (x : QI) : ∀ u ∈ qic x, u.oneCell' = true := fun u hu => by
  simp only [qic, List.mem_cons, List.not_mem_nil, or_false] at hu
  rcases hu with rfl | rfl | rfl | rfl <;> rfl
abbrev qiv (x : QI) : Array Value := #[.string (bs x.path), .int .u32 (x.id : Int), .int .u32 (x.tick : Int), .int .i64 x.size]
/-- .. of one that bears its place. -/
def qgc (x : QG) : List Value := qic x.1
theorem qgc_len (x : QG) : (qgc x).length = 4 := rfl
theorem qgc_one (x : QG) : ∀ u ∈ qgc x, u.oneCell' = true := qic_one x.1

theorem cmpN_lt {a b : Nat} (h : a < b) : cmpN a b = -1 := by unfold cmpN; rw [if_pos h]
theorem cmpN_gt {a b : Nat} (h : b < a) : cmpN a b = 1 := by unfold cmpN; rw [if_neg (by omega), if_pos h]
theorem cmpN_eq (a : Nat) : cmpN a a = 0 := by unfold cmpN; simp
set_option maxHeartbeats 400000 in
theorem qnan32 (a : Nat) (w : World) : Calls Try.prog 36 #[.int .u32 a] w fun e w' => e = .returned (.bool false) ∧ w = w' := by
  go_enter Try.func36, Try.ntmps36
  go_wp2
  go_ret
  exact ⟨by simp, rfl⟩
set_option maxHeartbeats 1000000 in
theorem qcmp32 (a b : Nat) (w : World) : Calls Try.prog 33 #[.int .u32 a, .int .u32 b] w fun e w' => e = .returned (.int .i64 (cmpN a b)) ∧ w = w' := by
  have hn := qnan32
  have HN := Lib.hid hn
  clear hn
  obtain ⟨c, hc⟩ : ∃ c, cmpN a b = c := ⟨_, rfl⟩
  rw [hc]
  go_enter Try.func33, Try.ntmps33
  rcases Nat.lt_trichotomy a b with h | h | h
  · have h1 : (a : Int) < (b : Int) := by omega
    go_wp2_with (go_at_call 36; refine (HN.out _ _).mono ?_; rintro e w1 ⟨rfl, rfl⟩)
    go_ret
    exact ⟨by rw [← hc, cmpN_lt h]; rfl, rfl⟩
  · subst h
    go_wp2_with (go_at_call 36; refine (HN.out _ _).mono ?_; rintro e w1 ⟨rfl, rfl⟩)
    go_ret
    exact ⟨by rw [← hc, cmpN_eq]; rfl, rfl⟩
  · have h1 : (b : Int) < (a : Int) := by omega
    have h2 : ¬ ((a : Int) < (b : Int)) := by omega
    go_wp2_with (go_at_call 36; refine (HN.out _ _).mono ?_; rintro e w1 ⟨rfl, rfl⟩)
    go_ret
    exact ⟨by rw [← hc, cmpN_gt h]; rfl, rfl⟩
/-- The first one that is not 0. -/
def qorI (x y : Int) : Int := if x = 0 then y else x
set_option maxHeartbeats 1000000 in
theorem qOr (g : Nat) (x y : Int) (w : World) (h : Blk w g 3 #[.int .i64 x, .int .i64 y]) : Calls Try.prog 32 #[.slice (some ⟨g, 0, none⟩) 2 2] w fun e w' => e = .returned (.int .i64 (qorI x y)) ∧ w = w' := by
  have c0 := h.cell 0 rfl
  have c1 := h.cell 1 rfl
  obtain ⟨c, hc⟩ : ∃ c, qorI x y = c := ⟨_, rfl⟩
  rw [hc]
  have HC := Lib.hid hc
  clear hc h
  go_enter Try.func32, Try.ntmps32
  go_wp2
  go_loop [8] (fun i => ∃ k : Nat, k ≤ 2 ∧ i = .int .i64 k ∧ (1 ≤ k → x = 0) ∧ (2 ≤ k → y = 0)) (fun i => 2 - (intOf i).toNat)
  case atStart => exact ⟨0, by omega, rfl, fun h => by omega, fun h => by omega⟩
  case round =>
    obtain ⟨k, hk, rfl, h1, h2⟩ := hrel
    have H1 := Lib.hid h1
    have H2 := Lib.hid h2
    clear h1 h2
    rcases (show k = 0 ∨ k = 1 ∨ k = 2 by omega) with rfl | rfl | rfl
    · by_cases hx : x = 0
      · subst hx
        go_wp2
        go_round
        case rel => exact ⟨1, by omega, rfl, fun _ => by simp, fun h => by omega⟩
        case measure => simp [intOf]
      · have hq : (x != 0) = true := by simp; exact hx
        have hq2 : (x == 0) = false := by simp; exact hx
        have HX := Lib.hid hx
        clear hx
        go_wp2
        go_ret
        exact ⟨by rw [← HC.out]; unfold qorI; rw [if_neg HX.out]; rfl, rfl⟩
    · have hx := H1.out (Nat.le_refl _)
      subst hx
      by_cases hy : y = 0
      · subst hy
        go_wp2
        go_round
        case rel => exact ⟨2, by omega, rfl, fun _ => by simp, fun _ => by simp⟩
        case measure => simp [intOf]
      · have hq : (y != 0) = true := by simp; exact hy
        have hq2 : (y == 0) = false := by simp; exact hy
        clear hy
        go_wp2
        go_ret
        exact ⟨by rw [← HC.out]; rfl, rfl⟩
    · have hx := H1.out (by omega)
      have hy := H2.out (by omega)
      subst hx hy
      go_wp2
      go_ret
      exact ⟨by rw [← HC.out]; rfl, rfl⟩

set_option maxRecDepth 100000 in
set_option maxHeartbeats 4000000 in
theorem qcompare_lays (a b : QI) (w : World) : Calls Try.prog 28 #[.agg (qiv a), .agg (qiv b)] w fun e w' => e = .returned (.int .i64 (cmpQ a b)) ∧ w' = (((w.alloc (.cells (qiv a) 36)).alloc (.cells (qiv b) 36)).drew).alloc (.cells #[.int .i64 (cmpN a.tick b.tick), .int .i64 (cmpN a.id b.id)] 3) := by
  have b0 : Blk ((w.alloc (.cells (qiv a) 36)).alloc (.cells (qiv b) 36)) w.heap.size 36 (qiv a) := (Blk.alloc w _ _).old _
  have b1 : Blk ((w.alloc (.cells (qiv a) 36)).alloc (.cells (qiv b) 36)) (w.heap.size + 1) 36 (qiv b) := Blk.atQ1 w _ _ _
  have h1 := fun W => qcmp32 a.tick b.tick W
  have h2 := fun W => qcmp32 a.id b.id W
  have h3 := fun g W hb => qOr g (cmpN a.tick b.tick) (cmpN a.id b.id) W hb
  have H1 := Lib.hid h1
  have H2 := Lib.hid h2
  have H3 := Lib.hid h3
  have hc : qorI (cmpN a.tick b.tick) (cmpN a.id b.id) = cmpQ a b := rfl
  rw [hc] at H3
  clear h1 h2 h3 hc
  generalize cmpN a.tick b.tick = x at *
  generalize cmpN a.id b.id = y at *
  generalize cmpQ a b = c at *
  have c0 := b0.cell 1 rfl
  have c1 := b0.cell 2 rfl
  have c2 := b1.cell 1 rfl
  have c3 := b1.cell 2 rfl
  go_enter Try.func28, Try.ntmps28
  go_upto_region 1 with fail
  generalize hw1 : (w.alloc (.cells (qiv a) 36)).alloc (.cells (qiv b) 36) = w1 at *
  have HW1 := Lib.hid hw1
  clear hw1
  clear b0 b1
  have K1 : Hid (∀ W, Calls Try.prog 33 #[.int .u32 a.tick, .int .u32 b.tick] W fun e w' => e = .returned (.int .i64 x) ∧ W = w') := H1
  have K2 : Hid (∀ W, Calls Try.prog 33 #[.int .u32 a.id, .int .u32 b.id] W fun e w' => e = .returned (.int .i64 y) ∧ W = w') := H2
  obtain ⟨A, hA⟩ : ∃ A, w.heap.size = A := ⟨_, rfl⟩
  rw [hA] at c0 c1 c2 c3 ⊢
  clear hA H1 H2
  refine wp_region_tail 10 2 (fun w' => w'.cell? ⟨A, 1, none⟩ = some (.int .u32 (a.id : Int)) ∧ w'.cell? ⟨A, 2, none⟩ = some (.int .u32 (a.tick : Int)) ∧ w'.cell? ⟨A + 1, 1, none⟩ = some (.int .u32 (b.id : Int)) ∧ w'.cell? ⟨A + 1, 2, none⟩ = some (.int .u32 (b.tick : Int)) ∧ w1.drew = w') (by kernel_rfl) rfl rfl (by kernel_rfl) (by kernel_rfl) (by kernel_rfl) (by kernel_rfl) (⟨c0, c1, c2, c3, rfl⟩) ?_
  repeat' first
    | (refine CanonL.skip (by rfl) ?_; (try simp only [Act.put, List.setIfInBounds_toArray, List.set_cons_zero, List.set_cons_succ]))
    | (refine CanonL.callQ (by rfl) (by rfl) ?_ K1 ?_ ?_; (focus (intro w; go_simp; (try (with_reducible rfl)); done)); (focus (rintro w ww hs gg; exact (by rw [← gg]; exact hs))); (try simp only [Act.put, List.setIfInBounds_toArray, List.set_cons_zero, List.set_cons_succ]))
    | (refine CanonL.callQ (by rfl) (by rfl) ?_ K2 ?_ ?_; (focus (intro w; go_simp; (try (with_reducible rfl)); done)); (focus (rintro w ww hs gg; exact (by rw [← gg]; exact hs))); (try simp only [Act.put, List.setIfInBounds_toArray, List.set_cons_zero, List.set_cons_succ]))
    | (refine CanonL.val (v := ?_) (by rfl) ?_ ?_; rotate_left 1; (focus (intro w hSw; (try dsimp only at hSw); go_simp; (try (with_reducible rfl)); done)); (try simp only [Act.put, List.setIfInBounds_toArray, List.set_cons_zero, List.set_cons_succ]))
  refine CanonL.done ?_
  intro w9 hS9
  obtain ⟨_, _, _, _, hw9⟩ := hS9
  have HW9 := Lib.hid hw9
  clear hw9
  have hbk := Blk.alloc w9 3 #[.int .i64 x, .int .i64 y]
  refine wpTail.cons rfl rfl (fun K hK => ?_)
  unfold Oper.wp execOp
  go_simp
  refine hK _ _ ?_
  clear hK K
  obtain ⟨w2, hw2⟩ : ∃ w2, w9.alloc (.cells #[.int .i64 x, .int .i64 y] 3) = w2 := ⟨_, rfl⟩
  have HW2 := Lib.hid hw2
  rw [hw2] at hbk ⊢
  clear hw2
  obtain ⟨g, hg⟩ : ∃ g, w9.heap.size = g := ⟨_, rfl⟩
  rw [hg] at hbk ⊢
  clear hg
  try simp only [Act.put, List.setIfInBounds_toArray, List.set_cons_zero, List.set_cons_succ]
  refine wpTail.cons rfl rfl (fun K hK => ?_)
  unfold Oper.wp execOp
  go_simp
  refine (H3.out _ _ hbk).mono ?_
  rintro e w3 ⟨rfl, rfl⟩
  refine hK _ _ ?_
  clear hK K
  try simp only [Act.put, List.setIfInBounds_toArray, List.set_cons_zero, List.set_cons_succ]
  refine wpTail.cons rfl rfl (fun K hK => ?_)
  unfold Oper.wp execOp
  go_simp
  refine hK _ _ ?_
  clear hK K
  try simp only [Act.put, List.setIfInBounds_toArray, List.set_cons_zero, List.set_cons_succ]
  refine wpTail.done ?_
  go_wp2_with fail
  go_ret
  exact ⟨rfl, by rw [← HW2.out, ← HW9.out, ← HW1.out]⟩


theorem three_grow (w : World) (o1 o2 o3 : Obj) : ((w.alloc o1).alloc o2).drew.alloc o3 = Go.Sort.grow (w.drewN 1) #[o1, o2, o3] := by
  simp only [Go.Sort.alloc_eq_grow, Go.Sort.grow_grow]
  rw [show ∀ os, (Go.Sort.grow w os).drew = Go.Sort.grow w.drew os from fun _ => rfl, Go.Sort.grow_grow]
  rfl
theorem qcmpLays (blk off size : Nat) (w : World) : CmpLays Try.prog 28 #[] qgc 4 cmpG blk off size w := fun m os dk _ x y =>
  (qcompare_lays x.1 y.1 (sortWorldK qgc 4 w blk off m dk os)).mono fun _ _ ⟨h1, h2⟩ => ⟨h1, 1, #[_, _, _], h2.trans (three_grow _ _ _ _)⟩
theorem stL : StL Try.prog 4 where
  mixed := by kernel_rfl
  f38 := Try.func38
  f37 := Try.func37
  f35 := Try.func35
  f31 := Try.func31
  f27 := Try.func27
  e34 := enters_of Try.func34 (by kernel_rfl) rfl
  t0 := Try.underlying0
  a0 := Try.isAgg0
  z0 := Try.sizeOf0
  v0 := Try.zeroValue0
  t3 := Try.underlying3
  a3 := Try.isAgg3
  z3 := Try.sizeOf3
  v3 := Try.zeroValue3
  t4 := Try.underlying4
  a4 := Try.isAgg4
  z4 := Try.sizeOf4
  v4 := Try.zeroValue4
  t22 := Try.underlying22
  a22 := Try.isAgg22
  z22 := Try.sizeOf22
  v22 := Try.zeroValue22
  t25 := Try.underlying52
  a25 := Try.isAgg52
  z25 := Try.sizeOf52
  v25 := Try.zeroValue52
  t63 := Try.underlying63
  a63 := Try.isAgg63
  z63 := Try.sizeOf63
  v63 := Try.zeroValue63
  aE := Try.isAgg36
  zE := Try.sizeOf36
/-- A slice of items of the call's own. -/
def QOwn (w : World) (v : Value) (l : List QI) : Prop := Row w 4 v l.length (flat qic l)
/-- .. that is only read. -/
def QL (w : World) (v : Value) (l : List QI) : Prop := Sl w 4 v l.length (flat qic l)
theorem flat_qgc (l : List QG) : flat qgc l = flat qic (l.map (·.1)) := by
  induction l with
  | nil => rfl
  | cons x l ih =>
    show qgc x ++ flat qgc l = qic x.1 ++ flat qic (l.map (·.1))
    rw [ih]; rfl
theorem zip_came (l : List QI) : Came ogQ 0 l.zipIdx.toArray.size l.zipIdx.toArray := fun p q _ hpq hq => by
  have hq' : q < l.zipIdx.toArray.size := hq
  rw [getElem!_pos _ p (by omega), getElem!_pos _ q hq']
  unfold ogQ
  simp
  exact hpq
/-- The block of a slice bears items. -/
def QTag (w : World) (v : Value) : Prop := ∀ g, v.ownBlock = some g → ∃ cs fr, w.heap[g]? = some (.cells cs 36 fr)
theorem qsort_any (g cap : Nat) (l : List QI) (w : World) (h : QOwn w (.slice (some ⟨g, 0, none⟩) l.length cap) l) (ht : QTag w (.slice (some ⟨g, 0, none⟩) l.length cap)) (h40 : l.length < 40) :
    Calls Try.prog 27 #[.slice (some ⟨g, 0, none⟩) l.length cap, .func (.func 28) #[] #[]] w fun e w' => e = .returned (.tuple #[]) ∧
      QOwn w' (.slice (some ⟨g, 0, none⟩) l.length cap) ((srtQ l.zipIdx).map (·.1)) ∧ QTag w' (.slice (some ⟨g, 0, none⟩) l.length cap) ∧ Frm (· = g) w w' := by
  have eg : ∀ args w, (callFunc 28 args).run Try.prog w = .ok (.enter 28 args) w := enters_of Try.func28 (by kernel_rfl) rfl
  have hr : Row w 4 (.slice (some ⟨g, 0, none⟩) l.zipIdx.length cap) l.zipIdx.length (flat qgc l.zipIdx) := by
    rw [flat_qgc, zip_fst, List.length_zipIdx]; exact h
  have R : RowK qgc 4 w g 0 l.zipIdx.toArray := ⟨qgc_len, qgc_one, row_holds qgc qgc_len (by omega) hr, Row.blk h g rfl⟩
  have hsz : l.zipIdx.toArray.size = l.length := by simp
  have hO : Go.Sort.SWO (ltOf cmpG) := {
    irrefl := fun x => by unfold ltOf; rw [decide_eq_false_iff_not]; unfold cmpG; rw [cmpQ_neg]; omega
    trans := fun x y z h1 h2 => by unfold ltOf at *; rw [decide_eq_true_eq] at *; unfold cmpG at *; rw [cmpQ_neg] at *; omega
    ntrans := fun x y z h1 h2 => by unfold ltOf at *; rw [decide_eq_false_iff_not] at *; unfold cmpG at *; rw [cmpQ_neg] at *; omega }
  have hcon := sortStable_any stL qgc cmpG oldQ ogQ oldQ_swo cmpG_old 28 #[] g 0 cap l.zipIdx.toArray w eg (qcmpLays g 0 _ w) R (by rw [hsz]; exact h40) (zip_came l) (fun a b dx wx hs S hab hb => by
    have hs' : (Go.Sort.insertionSort (ltOf cmpG) dx a b).size = dx.size := (Go.Sort.insertionSort_holds hO dx a b hab hb).1.1
    refine (AnyQ.insertionSortCmpFunc Try.insQ 4 Try.isAgg36 Try.sizeOf36 qgc qgc_len qgc_one cmpG 28 #[] g 0 cap a b dx wx eg (qcmpLays g 0 _ wx) (S.holds R.hblk R.hH hs.symm) (S.lt R.hblk) hab hb (by omega)).mono ?_
    rintro e w' ⟨rfl, n, os, rfl⟩
    exact ⟨rfl, S.on R.hblk n _ os hs'⟩)
  rw [hsz] at hcon
  refine hcon.mono fun e w' ⟨h1, d', hso, hp, n, os, hw⟩ => ⟨h1, ?_, ?_, ?_⟩
  · have hps : d'.size = l.length := by rw [hp.1, hsz]
    have e1 : d'.toList = srtQ l.zipIdx := by
      have := srtQ_sorted (d := l.zipIdx.toArray) (d' := d') (zip_Apt l 0) (by rw [hsz]; exact hp) (by rw [hsz]; exact hso)
      simpa using this
    have hrow := sortK_row qgc qgc_len (by omega) (l' := d'.toList) n os hr (by simpa using hps)
    rw [hw]
    unfold QOwn
    rw [← e1, List.length_map, ← flat_qgc]
    simpa using hrow
  · intro q hq
    obtain ⟨cs, fr, hh⟩ := ht q hq
    cases hq
    obtain ⟨cs', h'⟩ := sortK_tag qgc (c := 4) n d' os hh
    exact ⟨cs', fr, by rw [hw]; exact h'⟩
  · rw [hw]; exact sortK_frm qgc w g n d' os
end Go.Proofs.Ytpabblkdepefcaa
