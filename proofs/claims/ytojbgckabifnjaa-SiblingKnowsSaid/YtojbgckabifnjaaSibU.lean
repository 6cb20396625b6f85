/- The functions of the statements' file: a dot, a sibling, what is given, whether a register is. -/
import Derived.Test.YtojbgckabifnjaaSibQ
import Derived.Test.YtojbgckabifnjaaSibG
import Derived.Test.YtojbgckabifnjaaSibO
namespace Go.Proofs.Ytojbgckabifnjaa
open Go.RowKit

set_option maxRecDepth 100000 in
set_option maxHeartbeats 1000000 in
theorem dot_any (r n : Nat) (w : World) : Calls Try.prog 45 #[.int .u8 r, .int .u32 n] w fun e w' => e = .returned (.agg (dv r n)) ∧ Frm (fun _ => False) w w' := by
  have g0 : Frm (fun _ => False) w (w.alloc (.cells dz 27)) := (Frm.refl _ w).alloc _
  have b0 := Blk.alloc w 27 dz
  go_enter Try.func45, Try.ntmps45
  go_upto_region 1 with fail
  generalize hw1 : w.alloc (.cells dz 27) = w1 at *
  obtain ⟨M, hM⟩ : ∃ M, w.heap.size = M := ⟨_, rfl⟩
  have HM := Lib.hid hM
  rw [hM] at b0 ⊢
  clear hM hw1
  go_wp2_with ((with_reducible refine wpl_store_blk rfl 27 _ _ rfl M (dv r n) dz ?_ ?_ b0 rfl ?_ ?_ ?_); (focus rfl); (focus rfl); (focus (show _ = some 2; kernel_rfl)); (focus (simp [Value.oneCell'])); intro w2 e2 g2 z2; have c0 := e2.cell 0 rfl; have c1 := e2.cell 1 rfl)
  refine bodyPost_ret (v := .agg (dv r n)) (by simp [results, Try.results45, go_sem, c0, c1]) rfl ?_
  exact ⟨rfl, g0.next g2 (fun k hk h => by have := HM.out; omega)⟩

set_option maxRecDepth 100000 in
set_option maxHeartbeats 1000000 in
theorem sib_any (r n : Nat) (s : List UInt8) (w : World) : Calls Try.prog 47 #[.int .u8 r, .int .u32 n, .string (bs s)] w fun e w' => e = .returned (.agg #[.int .u8 r, .int .u32 n, .string (bs s)]) ∧ Frm (fun _ => False) w w' := by
  have g0 : Frm (fun _ => False) w (w.alloc (.cells #[.int .u8 0, .int .u32 0, .string ⟨#[]⟩] 76)) := (Frm.refl _ w).alloc _
  have b0 := Blk.alloc w 76 #[.int .u8 0, .int .u32 0, .string ⟨#[]⟩]
  have HD := Lib.hid (fun W => dot_any r n W)
  go_enter Try.func47, Try.ntmps47
  go_upto_region 1 with fail
  generalize hw1 : w.alloc (.cells #[.int .u8 0, .int .u32 0, .string ⟨#[]⟩] 76) = w1 at *
  obtain ⟨M, hM⟩ : ∃ M, w.heap.size = M := ⟨_, rfl⟩
  have HM := Lib.hid hM
  rw [hM] at b0 ⊢
  clear hM hw1
  go_wp2_with fail
  refine (HD.out _).mono ?_
  rintro e w2 ⟨rfl, g2⟩
  have b2 := b0.keep g2 (fun h => h)
  clear b0
  go_wp2_with ((with_reducible refine wpl_store_blk rfl 76 _ _ rfl M #[.int .u8 r, .int .u32 n, .string (bs s)] #[.int .u8 0, .int .u32 0, .string ⟨#[]⟩] ?_ ?_ b2 ?_ ?_ ?_ ?_); (focus rfl); (focus rfl); (focus rfl); (focus (show _ = some 3; kernel_rfl)); (focus (simp [Value.oneCell'])); intro w3 e3 g3 z3; have c0 := e3.cell 0 rfl; have c1 := e3.cell 1 rfl; have c2 := e3.cell 2 rfl)
  refine bodyPost_ret (v := .agg #[.int .u8 r, .int .u32 n, .string (bs s)]) (by simp [results, Try.results47, go_sem, c0, c1, c2]) rfl ?_
  exact ⟨rfl, (g0.trans g2).next g3 (fun k hk h => by have := HM.out; omega)⟩

/-- The sibling "a" by replica 0, and the vector that has it alone. -/
def sA : SibI := ⟨0, 1, [97], by decide, by decide, by decide⟩
def f1 : Nat → Nat := fun k => if k = 0 then 1 else 0
theorem OwnL.one (w : World) (x : SibI) : OwnL (w.alloc (.cells #[.int .u8 x.r, .int .u32 x.n, .string (bs x.s)] 76)) (.slice (some ⟨w.heap.size, 0, none⟩) 1 1) [x] :=
  Row.made w 76 3 1 1 (sibc x) (sibc x).toArray rfl (Nat.le_refl _) (by decide) rfl rfl

set_option maxRecDepth 100000 in
set_option maxHeartbeats 1000000 in
theorem given_any (w : World) : Calls Try.prog 44 #[] w fun e w' => ∃ v', e = .returned (rg f1 v') ∧ OwnL w' v' [sA] ∧ Frm (fun _ => False) w w' ∧ ∀ g, v'.ownBlock = some g → w.heap.size ≤ g := by
  have g0 : Frm (fun _ => False) w (w.alloc (.cells rz 39)) := (Frm.refl _ w).alloc _
  have b0 := Blk.alloc w 39 rz
  have HD := Lib.hid (fun W => dot_any 0 1 W)
  go_enter Try.func44, Try.ntmps44
  go_upto_region 1 with fail
  generalize hw1 : w.alloc (.cells rz 39) = w1 at *
  obtain ⟨M, hM⟩ : ∃ M, w.heap.size = M := ⟨_, rfl⟩
  have HM := Lib.hid hM
  rw [hM] at b0 ⊢
  clear hM hw1
  go_wp2_with fail
  refine (HD.out _).mono ?_
  rintro e w2 ⟨rfl, g2⟩
  have b2 := b0.keep g2 (fun h => h)
  clear b0
  have o3 : OwnL (w2.alloc (.cells #[.int .u8 0, .int .u32 1, .string ⟨#[97]⟩] 76)) (.slice (some ⟨w2.heap.size, 0, none⟩) 1 1) [sA] := OwnL.one w2 sA
  have hm2 := b2.lt
  have hm3 := g2.size
  have hm4 := g0.size
  have g3 : Frm (fun _ => False) w2 (w2.alloc (.cells #[.int .u8 0, .int .u32 1, .string ⟨#[97]⟩] 76)) := (Frm.refl _ w2).alloc _
  have b3 : Blk (w2.alloc (.cells #[.int .u8 0, .int .u32 1, .string ⟨#[97]⟩] 76)) M 39 rz := b2.keep g3 (fun h => h)
  go_wp2_with ((with_reducible refine wpl_store_blk rfl 39 _ _ rfl M (rgc f1 (.slice (some ⟨w2.heap.size, 0, none⟩) 1 1)) rz ?_ ?_ b3 ?_ ?_ ?_ ?_); (focus rfl); (focus rfl); (focus rfl); (focus (show _ = some 9; kernel_rfl)); (focus (exact rg_one _ _ _ _)); intro w4 e4 g4 z4; have c8 := e4.cell 8 rfl; have h2' := rcells e4)
  refine bodyPost_ret (v := rg f1 (.slice (some ⟨w2.heap.size, 0, none⟩) 1 1)) (by simp [results, Try.results44, go_sem, h2', c8]) rfl ?_
  refine ⟨_, rfl, o3.keep g4 (fun q hq h => ?_), ((g0.trans g2).trans g3).next g4 (fun k hk h => by have := HM.out; omega), fun q hq => ?_⟩
  · have e : w2.heap.size = q := Option.some.inj hq
    omega
  · have e : w2.heap.size = q := Option.some.inj hq
    omega
end Go.Proofs.Ytojbgckabifnjaa

