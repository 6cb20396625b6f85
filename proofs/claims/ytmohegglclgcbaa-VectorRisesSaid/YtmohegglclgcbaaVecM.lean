/- The laws' own small calls: of, text, takes; some of the chapter's answers. No condition. -/
import Derived.Test.YtmohegglclgcbaaVecL
import Derived.Test.YtmohegglclgcbaaLawA
import Derived.Deep.Cut
namespace Go.Proofs.Ytmohegglclgcbaa
open Go.RowKit

/-- A vector of two numbers. -/
def of2 (a b : Nat) : Nat → Nat := fun j => if j = 0 then a else if j = 1 then b else 0
theorem of2_fit {a b : Nat} (ha : a < 4294967296) (hb : b < 4294967296) : Fit8 (of2 a b) := fun k _ => by
  simp only [of2]
  split
  · exact ha
  · split
    · exact hb
    · omega

set_option maxRecDepth 100000 in
set_option maxHeartbeats 1000000 in
theorem of_any (a b : Nat) (w : World) : Calls Try.prog 51 #[.int .u32 a, .int .u32 b] w fun e w' => e = .returned (.agg (vv (of2 a b))) ∧ Frm (fun _ => False) w w' := by
  have b0 : Blk (w.alloc (Obj.cells vz 24)) w.heap.size 24 vz := Blk.alloc w _ _
  have g0 : Frm (fun _ => False) w (w.alloc (Obj.cells vz 24)) := (Frm.refl _ w).alloc _
  go_enter Try.func51, Try.ntmps51
  go_wp2_with ((with_reducible refine wpl_store_vec rfl _ _ rfl w.heap.size (of2 a b) vz ?_ ?_ b0 rfl ?_); (focus rfl); (focus rfl); intro w5 e5 g5 z5; have h5 := vcells e5)
  refine bodyPost_ret (v := .agg (vv (of2 a b))) (by simp [results, Try.results51, go_sem, h5]) rfl ?_
  exact ⟨rfl, g0.next g5 (fun j hj h => by omega)⟩

set_option maxRecDepth 100000 in
set_option maxHeartbeats 1000000 in
theorem text_true (f : Nat → Nat) (l : List UInt8) (w : World) (hf : Fit8 f) (h : putS f = (l, 0)) : Calls Try.prog 52 #[.agg (vv f), .string (bs l)] w fun e w' => e = .returned (.bool true) ∧ Frm (fun _ => False) w w' := by
  have b0 : Blk (w.alloc (Obj.cells (vv f) 24)) w.heap.size 24 (vv f) := Blk.alloc w _ _
  have g0 : Frm (fun _ => False) w (w.alloc (Obj.cells (vv f) 24)) := (Frm.refl _ w).alloc _
  have hl := vcells b0
  have P := fun w => put_any8 f w hf
  unfold PutVTo at P
  rw [h] at P
  have HP := Lib.hid P
  clear P h
  have hq : ((bs l).toList == (bs l).toList) = true := beq_self_eq_true _
  go_enter Try.func52, Try.ntmps52
  go_wp2_with fail
  refine (HP.out _).mono ?_
  rintro e w1 ⟨rfl, g1⟩
  go_wp2_with fail
  go_ret
  exact ⟨rfl, g0.trans g1⟩

theorem take_hand (b : Nat) (l : List UInt8) (e : Nat) (g : Nat → Nat) (x : Nat) (w : World) (h : Rd w b l e) (hi : e ≠ 0 → l = []) (hS : takeS l e = (g, x)) :
    Calls Try.prog 77 #[.pointer (some ⟨b, 0, none⟩)] w fun r w' => r = .returned (.tuple #[.agg (vv g), .int .i64 x]) ∧ Frm (· = b) w w' :=
  (take_any8 b l e w h hi).mono fun _ _ ht => ⟨by rw [ht.1, hS], ht.2.2⟩

set_option maxRecDepth 100000 in
set_option maxHeartbeats 1000000 in
theorem takes_true (l : List UInt8) (f g : Nat → Nat) (x : Nat) (w : World) (hl : l.length ≤ 140737488355328) (h : takeS l 0 = (g, x)) (hg : eq8 g f = true) :
    Calls Try.prog 53 #[.string (bs l), .agg (vv f), .int .i64 x] w fun e w' => e = .returned (.bool true) ∧ Frm (fun _ => False) w w' := by
  have b0 : Blk (w.alloc (Obj.cells (vv f) 24)) w.heap.size 24 (vv f) := Blk.alloc w _ _
  have g0 : Frm (fun _ => False) w (w.alloc (Obj.cells (vv f) 24)) := (Frm.refl _ w).alloc _
  have hq := fun w => run_eq_vec g f w
  rw [hg] at hq
  have hxx : ((x : Int) == (x : Int)) = true := beq_self_eq_true _
  go_enter Try.func53, Try.ntmps53
  go_wp2_with fail
  refine (read_any l _ hl).mono ?_
  rintro e w1 ⟨rfl, r1, g1⟩
  have hsz : (w.alloc (Obj.cells (vv f) 24)).heap.size = w.heap.size + 1 := by simp
  rw [hsz] at r1
  clear hsz
  have k1 := g0.trans g1
  have b1 := b0.keep g1 (fun h => h)
  have hb1 := b0.lt
  have hlt := r1.lt
  have h01 := g0.size
  go_wp2_with fail
  have T := take_hand _ l 0 g x w1 r1 (fun h => absurd rfl h) h
  clear h
  refine T.mono ?_
  rintro e w2 ⟨rfl, g2⟩
  have k2 := k1.new g2 (fun j h => by omega)
  have b2 := b1.keep g2 (by omega)
  clear T r1 g1 k1 b1 b0 g0 g2
  have b3 := Blk.alloc w2 24 vz
  have b4 := b2.old (.cells vz 24)
  have k4 := k2.alloc (.cells vz 24)
  have hlt2 := b2.lt
  go_wp2_with ((with_reducible refine wpl_store_vec rfl _ _ rfl w2.heap.size g vz ?_ ?_ b3 rfl ?_); (focus rfl); (focus rfl); intro w5 e5 g5 z5; have h5 := vcells e5; have h6 := vcells (b4.keep g5 (by omega)))
  go_ret
  exact ⟨rfl, k4.next g5 (fun j hj h => by have := k2.size; omega)⟩
end Go.Proofs.Ytmohegglclgcbaa
