/- How often a dot stands among some. No condition. -/
import Derived.Test.YtiokabhidjafeaaDoorRkN
import Derived.BigQuiet
import Derived.Deep.QuietTactic
section
namespace Go.Proofs.YtiokabhidjafeaaDoor
open Go.RowKit Go.Shelf

/-- How often a dot stands among some. -/
def tims (l : List DotI) (d : DotI) : Nat := (l.filter (fun x => decide (x = d))).length
theorem tims_succ {l : List DotI} {d : DotI} {k : Nat} (h : k < l.length) : tims (l.take (k + 1)) d = tims (l.take k) d + (if l[k] = d then 1 else 0) := by
  unfold tims
  rw [List.take_succ_eq_append_getElem h, List.filter_append, List.length_append]
  by_cases e : l[k] = d <;> simp [e]
theorem tims_le (l : List DotI) (d : DotI) : tims l d ≤ l.length := List.length_filter_le _ _
set_option maxRecDepth 100000 in
set_option maxHeartbeats 4000000 in
theorem times8_any (a : Value) (l : List DotI) (d : DotI) (w : World) (h : DL w a l) : Calls Tryd.prog 18 #[a, .agg (dv d.r d.n)] w fun e w' => e = .returned (.int .i64 (tims l d : Int)) ∧ Frm (fun _ => False) w w' := by
  obtain ⟨a1, c1, rfl, k1, k2⟩ := h.slice
  unfold maxLen at k2
  have g0 : Frm (fun _ => False) w (w.alloc (.cells (dv d.r d.n) 61)) := (Frm.refl _ w).alloc _
  have b0 : Blk (w.alloc (.cells (dv d.r d.n) 61)) w.heap.size 61 (dv d.r d.n) := Blk.alloc w _ _
  have hs := h.keepF g0
  go_enter Tryd.func18, Tryd.ntmps18
  go_upto_region 1 with fail
  generalize w.alloc (.cells (dv d.r d.n) 61) = w1 at *
  generalize w.heap.size = N at *
  have c0 := b0.cell 0 rfl
  have c9 := b0.cell 1 rfl
  have a3 := Tryd.isAgg61
  have z3 := Tryd.sizeOf61
  go_wp2_with fail
  go_loopw [5, 6] (fun n i wr => ∃ k q : Nat, k ≤ l.length ∧ i = .int .i64 k ∧ n = .int .i64 (tims (l.take k) d : Int) ∧ wr = w1.drewN q) (fun _ i _ => l.length - (intOf i).toNat)
  case atStart => exact ⟨0, 0, Nat.zero_le _, rfl, by rw [List.take_zero]; rfl, rfl⟩
  case round =>
    obtain ⟨k, q, hk, rfl, rfl, rfl⟩ := hrel
    by_cases hlt : k < l.length
    · have hki : (k : Int) < (l.length : Int) := by omega
      have hk0 : (0 : Int) ≤ (k : Int) := by omega
      obtain ⟨g, off, hg, x0, x1⟩ := DL.load hs k hlt
      subst hg
      have hsu := tims_succ (d := d) hlt
      have hle := tims_le (l.take k) d
      rw [List.length_take] at hle
      have hq := run_eq_dot l[k].r l[k].n d.r d.n
      rw [dot_beq] at hq
      obtain ⟨t, ht⟩ : ∃ t, tims (l.take k) d = t := ⟨_, rfl⟩
      rw [ht] at hsu hle ⊢
      have HSU := Lib.hid hsu
      clear hsu ht
      by_cases hd : l[k] = d
      · have HD := Lib.hid hd
        have hde := decide_eq_true hd
        rw [hde] at hq
        clear hd
        go_wp2
        go_quiet (fail)
        go_wp2
        go_roundw
        case rel => exact ⟨k + 1, q + nq, by omega, by go_num, by rw [HSU.out, if_pos HD.out]; go_num, rfl⟩
        case measure => simp [intOf]; omega
      · have HD := Lib.hid hd
        have hde := decide_eq_false hd
        rw [hde] at hq
        clear hd
        go_wp2
        go_quiet (fail)
        go_wp2
        go_roundw
        case rel => exact ⟨k + 1, q + nq, by omega, by go_num, by rw [HSU.out, if_neg HD.out]; rfl, rfl⟩
        case measure => simp [intOf]; omega
    · obtain rfl : k = l.length := by omega
      rw [List.take_length]
      go_wp2_with fail
      go_ret
      exact ⟨rfl, g0.drewN _⟩
end Go.Proofs.YtiokabhidjafeaaDoor
end
section
namespace Go.Proofs.YtiokabhidjafeaaDoor
open Go.RowKit

set_option maxRecDepth 100000 in
set_option maxHeartbeats 1000000 in
theorem sib8_any (r n : Nat) (s : List UInt8) (w : World) : Calls Tryd.prog 22 #[.int .u8 r, .int .u32 n, .string (bs s)] w fun e w' => e = .returned (.agg #[.int .u8 r, .int .u32 n, .string (bs s)]) ∧ Frm (fun _ => False) w w' := by
  have g0 : Frm (fun _ => False) w (w.alloc (.cells #[.int .u8 0, .int .u32 0, .string ⟨#[]⟩] 63)) := (Frm.refl _ w).alloc _
  have b2 := Blk.alloc w 63 #[.int .u8 0, .int .u32 0, .string ⟨#[]⟩]
  go_enter Tryd.func22, Tryd.ntmps22
  go_upto_region 1 with fail
  generalize hw1 : w.alloc (.cells #[.int .u8 0, .int .u32 0, .string ⟨#[]⟩] 63) = w1 at *
  obtain ⟨M, hM⟩ : ∃ M, w.heap.size = M := ⟨_, rfl⟩
  have HM := Lib.hid hM
  rw [hM] at b2 ⊢
  clear hM hw1
  go_wp2_with ((with_reducible refine wpl_store_blk rfl 63 _ _ rfl M #[.int .u8 r, .int .u32 n, .string (bs s)] #[.int .u8 0, .int .u32 0, .string ⟨#[]⟩] ?_ ?_ b2 ?_ ?_ ?_ ?_); (focus rfl); (focus rfl); (focus rfl); (focus (show _ = some 3; kernel_rfl)); (focus (simp [Value.oneCell'])); intro w3 e3 g3 z3; have c0 := e3.cell 0 rfl; have c1 := e3.cell 1 rfl; have c2 := e3.cell 2 rfl)
  refine bodyPost_ret (v := .agg #[.int .u8 r, .int .u32 n, .string (bs s)]) (by simp [results, Tryd.results22, go_sem, c0, c1, c2]) rfl ?_
  exact ⟨rfl, g0.next g3 (fun k hk h => by have := HM.out; omega)⟩

/-- The chapter's siblings, and their context. -/
def given8 : List SibI := [⟨0, 1, [97], by decide, by decide, by decide⟩, ⟨1, 2, [98], by decide, by decide, by decide⟩, ⟨2, 2, [97], by decide, by decide, by decide⟩]
def f122 : Nat → Nat := fun k => if k = 0 then 1 else if k = 1 then 2 else if k = 2 then 2 else 0
theorem own_given8 (w : World) : OwnL (w.alloc (.cells #[.int .u8 0, .int .u32 1, .string (bs [97]), .int .u8 1, .int .u32 2, .string (bs [98]), .int .u8 2, .int .u32 2, .string (bs [97])] 63)) (.slice (some ⟨w.heap.size, 0, none⟩) 3 3) given8 :=
  Row.made w 63 3 3 3 (flat sibc given8) (flat sibc given8).toArray rfl (Nat.le_refl _) (by decide) rfl rfl
set_option maxRecDepth 100000 in
set_option maxHeartbeats 1000000 in
theorem given8_any (w : World) : Calls Tryd.prog 21 #[] w fun e w' => ∃ v', e = .returned (rg f122 v') ∧ OwnL w' v' given8 ∧ Frm (fun _ => False) w w' ∧ ∀ g, v'.ownBlock = some g → w.heap.size ≤ g := by
  have g0 : Frm (fun _ => False) w (w.alloc (.cells rz 27)) := (Frm.refl _ w).alloc _
  have b0 := Blk.alloc w 27 rz
  have HA := Lib.hid (fun W => sib8_any 0 1 [97] W)
  have HB := Lib.hid (fun W => sib8_any 1 2 [98] W)
  have HC := Lib.hid (fun W => sib8_any 2 2 [97] W)
  go_enter Tryd.func21, Tryd.ntmps21
  go_upto_region 1 with fail
  generalize hw1 : w.alloc (.cells rz 27) = w1 at *
  obtain ⟨M, hM⟩ : ∃ M, w.heap.size = M := ⟨_, rfl⟩
  have HM := Lib.hid hM
  rw [hM] at b0 ⊢
  clear hM hw1
  go_wp2_with fail
  refine (HA.out _).mono ?_
  rintro e w2 ⟨rfl, g2⟩
  go_wp2_with fail
  refine (HB.out _).mono ?_
  rintro e w3 ⟨rfl, g3⟩
  go_wp2_with fail
  refine (HC.out _).mono ?_
  rintro e w4 ⟨rfl, g4⟩
  have g14 := (g2.trans g3).trans g4
  have b2 := b0.keep g14 (fun h => h)
  clear b0 g2 g3 g4
  have o3 := own_given8 w4
  have hm2 := b2.lt
  have hm3 := g14.size
  have hm4 := g0.size
  have g5 : Frm (fun _ => False) w4 (w4.alloc (.cells #[.int .u8 0, .int .u32 1, .string (bs [97]), .int .u8 1, .int .u32 2, .string (bs [98]), .int .u8 2, .int .u32 2, .string (bs [97])] 63)) := (Frm.refl _ w4).alloc _
  have b3 := b2.keep g5 (fun h => h)
  go_wp2_with ((with_reducible refine wpl_store_blk rfl 27 _ _ rfl M (rgc f122 (.slice (some ⟨w4.heap.size, 0, none⟩) 3 3)) rz ?_ ?_ b3 ?_ ?_ ?_ ?_); (focus rfl); (focus rfl); (focus rfl); (focus (show _ = some 9; kernel_rfl)); (focus (exact rg_one _ _ _ _)); intro w6 e6 g6 z6; have c8 := e6.cell 8 rfl; have h2' := rcells9 e6)
  refine bodyPost_ret (v := rg f122 (.slice (some ⟨w4.heap.size, 0, none⟩) 3 3)) (by simp [results, Tryd.results21, go_sem, h2', c8]) rfl ?_
  refine ⟨_, rfl, o3.keep g6 (fun q hq h => ?_), ((g0.trans g14).trans g5).next g6 (fun k hk h => by have := HM.out; omega), fun q hq => ?_⟩
  · have e : w4.heap.size = q := Option.some.inj hq
    omega
  · have e : w4.heap.size = q := Option.some.inj hq
    omega
end Go.Proofs.YtiokabhidjafeaaDoor
end
