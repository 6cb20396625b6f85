/- Lost: what an old register's siblings have lost. Of any two registers. No condition but that they aren't too long. -/
import Derived.Test.YtmdmkcofafhlcaaSibO
import Derived.Test.YtmdmkcofafhlcaaSibQ
import Derived.Test.YtmdmkcofafhlcaaSibG
section
namespace Go.Proofs.Ytmdmkcofafhlcaa
open Go.RowKit

set_option maxRecDepth 100000 in
set_option maxHeartbeats 2000000 in
/-- What wants a dot that isn't in a set. -/
theorem lost1_any (bm bs' : Nat) (l : List SibI) (x : SibI) (w : World) (hm : Blk w bm 119 #[.map (some bs')]) (hs : DM w bs' l) :
    Calls Try.prog 70 (#[.agg (dv x.r x.n)] ++ #[.pointer (some ⟨bm, 0, none⟩)]) w fun e w' => e = .returned (.bool (!decide (x.d ∈ l.map SibI.d))) ∧ Frm (fun _ => False) w w' := by
  have g0 : Frm (fun _ => False) w (w.alloc (.cells (dv x.r x.n) 27)) := (Frm.refl _ w).alloc _
  have b0 := Blk.alloc w 27 (dv x.r x.n)
  have d0 := b0.cell 0 rfl
  have d1 := b0.cell 1 rfl
  have m0 := (hm.keep g0 (fun h => h)).cell 0 rfl
  obtain ⟨n, D, hown, hn, hmap, hhas⟩ := hs.keep g0 (fun h => h)
  have hkey : keyOf Try.prog 27 (.agg (dv x.r x.n)) = some (keyL x.d) := keyL_eq x.d
  have hh := hhas x.d
  generalize decide (x.d ∈ l.map SibI.d) = p at *
  have HH := Lib.hid hh
  clear b0 hm hs hhas hh hmap
  show Calls Try.prog 70 #[.agg (dv x.r x.n), .pointer (some ⟨bm, 0, none⟩)] w _
  go_enter Try.func70, Try.ntmps70
  go_upto_region 2 with (at_lookup; refine wpList_lookup_own_unit _ rfl _ _ 119 rfl 27 121 dotKeyed Try.underlying119 (zeroUnit _) bs' n D rfl hown _ _ rfl hkey ?_)
  rw [HH.out]
  have g1 : Frm (fun _ => False) w ((w.alloc (.cells (dv x.r x.n) 27)).alloc (.cells #[] 121)) := g0.alloc _
  generalize (w.alloc (.cells (dv x.r x.n) 27)).alloc (.cells #[] 121) = w2 at *
  clear hown hkey HH d0 d1 m0 g0
  cases p
  all_goals
    go_wp2_with fail
    go_ret
    exact ⟨rfl, g1⟩

set_option maxRecDepth 100000 in
set_option maxHeartbeats 8000000 in
theorem lost_any (f g : Nat → Nat) (v1 v2 : Value) (l m : List SibI) (w : World) (h1 : SL w v1 l) (h2 : SL w v2 m) (hb1 : l.length ≤ 400000) (hb2 : m.length ≤ 400000) :
    Calls Try.prog 30 #[rg f v1, rg g v2] w (NewL (l.filter (fun x => !decide (x.d ∈ m.map SibI.d))) w) := by
  obtain ⟨a1, cap1, rfl, hc1, hc2⟩ := h1.slice
  obtain ⟨a2, cap2, rfl, hd1, hd2⟩ := h2.slice
  have g0 : Frm (fun _ => False) w ((w.alloc (.cells (rgc f (.slice a1 l.length cap1)) 39)).alloc (.cells (rgc g (.slice a2 m.length cap2)) 39)) := ((Frm.refl _ w).alloc _).alloc _
  have b0 : Blk ((w.alloc (.cells (rgc f (.slice a1 l.length cap1)) 39)).alloc (.cells (rgc g (.slice a2 m.length cap2)) 39)) w.heap.size 39 (rgc f (.slice a1 l.length cap1)) := (Blk.alloc w _ _).old _
  have b1 : Blk ((w.alloc (.cells (rgc f (.slice a1 l.length cap1)) 39)).alloc (.cells (rgc g (.slice a2 m.length cap2)) 39)) (w.heap.size + 1) 39 (rgc g (.slice a2 m.length cap2)) := Blk.at1 w _ _ _
  go_enter Try.func30, Try.ntmps30
  go_upto_region 1 with fail
  generalize (w.alloc (.cells (rgc f (.slice a1 l.length cap1)) 39)).alloc (.cells (rgc g (.slice a2 m.length cap2)) 39) = w0 at *
  obtain ⟨N, hN⟩ : ∃ N, w.heap.size = N := ⟨_, rfl⟩
  have HN := Lib.hid hN
  rw [hN] at b0 b1 ⊢
  clear hN
  have lB := load_reg b1
  have HDT := Lib.hid (fun W (hW : Frm (fun _ => False) w W) => dots_any g _ m W (h2.keepF hW) (by omega))
  go_wp2_with ((with_reducible refine wpl_load rfl _ rfl ?_ lB ?_); (focus rfl))
  refine (HDT.out w0 g0).mono ?_
  rintro e w3 ⟨bm, rfl, hbm, dm, g3⟩
  clear lB HDT
  have b0 := b0.keep g3 (fun h => h)
  have k3 := g0.trans g3
  clear g0 g3 b1
  have c6 := Blk.alloc w3 119 #[.map (some bm)]
  have g4 : Frm (fun _ => False) w3 (w3.alloc (.cells #[.map (some bm)] 119)) := (Frm.refl _ w3).alloc _
  have b0 := b0.keep g4 (fun h => h)
  have dm := dm.keep g4 (fun h => h)
  have k4 := k3.trans g4
  go_upto_region 2 with fail
  generalize hw4 : w3.alloc (.cells #[.map (some bm)] 119) = w4 at *
  clear hw4
  obtain ⟨M, hM⟩ : ∃ M, w3.heap.size = M := ⟨_, rfl⟩
  rw [hM] at c6 ⊢
  clear hM g4 k3
  have hw1 := fun (x : SibI) (W : World) (hW : Frm (fun _ => False) w4 W) => lost1_any M bm m x W (c6.keep hW (fun h => h)) (dm.keep hW (fun h => h))
  have HT1 := Lib.hid (those_any f _ l 70 #[.pointer (some ⟨M, 0, none⟩)] (fun x => !decide (x.d ∈ m.map SibI.d)) w4 (h1.keepF k4) (by omega) (enters_of Try.func70 (by kernel_rfl) rfl) hw1)
  have lA := load_reg b0
  generalize hL1 : l.filter (fun x => !decide (x.d ∈ m.map SibI.d)) = L1 at *
  have HE := Lib.hid hL1
  clear hw1 dm c6 hL1
  go_wp2_with ((with_reducible refine wpl_load rfl _ rfl ?_ lA ?_); (focus rfl))
  refine HT1.out.mono ?_
  rintro e w5 ⟨v5, rfl, o5, g5, n5⟩
  obtain ⟨a5, cp5, rfl, _, _⟩ := Row.slice o5
  clear lA HT1
  have hs4 := k4.size
  go_wp2_with fail
  go_ret
  exact ⟨Value.slice a5 L1.length cp5, rfl, by rw [HE.out]; exact o5, k4.trans g5, fun q e => by have := n5 q e; omega⟩
end Go.Proofs.Ytmdmkcofafhlcaa
end
section
namespace Go.Proofs.Ytmdmkcofafhlcaa
open Go.RowKit

set_option maxRecDepth 100000 in
set_option maxHeartbeats 1000000 in
theorem dot_any (r n : Nat) (w : World) : Calls Try.prog 45 #[.int .u8 r, .int .u32 n] w fun e w' => e = .returned (.agg (dv r n)) ∧ Frm (fun _ => False) w w' := by
  have g0 : Frm (fun _ => False) w (w.alloc (.cells dz 27)) := (Frm.refl _ w).alloc _
  have b0 := Blk.alloc w 27 dz
  go_enter Try.func45, Try.ntmps45
  go_upto_region 1 with fail
  generalize hw1 : w.alloc (.cells dz 27) = w1 at *
  obtain ⟨M, hM⟩ : ∃ M, w.heap.size = M := ⟨_, rfl⟩
  have HM := Lib.hid hM
  rw [hM] at b0 ⊢
  clear hM hw1
  go_wp2_with ((with_reducible refine wpl_store_blk rfl 27 _ _ rfl M (dv r n) dz ?_ ?_ b0 rfl ?_ ?_ ?_); (focus rfl); (focus rfl); (focus (show _ = some 2; kernel_rfl)); (focus (simp [Value.oneCell'])); intro w2 e2 g2 z2; have c0 := e2.cell 0 rfl; have c1 := e2.cell 1 rfl)
  refine bodyPost_ret (v := .agg (dv r n)) (by simp [results, Try.results45, go_sem, c0, c1]) rfl ?_
  exact ⟨rfl, g0.next g2 (fun k hk h => by have := HM.out; omega)⟩

set_option maxRecDepth 100000 in
set_option maxHeartbeats 1000000 in
theorem sib_any (r n : Nat) (s : List UInt8) (w : World) : Calls Try.prog 47 #[.int .u8 r, .int .u32 n, .string (bs s)] w fun e w' => e = .returned (.agg #[.int .u8 r, .int .u32 n, .string (bs s)]) ∧ Frm (fun _ => False) w w' := by
  have g0 : Frm (fun _ => False) w (w.alloc (.cells #[.int .u8 0, .int .u32 0, .string ⟨#[]⟩] 76)) := (Frm.refl _ w).alloc _
  have b0 := Blk.alloc w 76 #[.int .u8 0, .int .u32 0, .string ⟨#[]⟩]
  have HD := Lib.hid (fun W => dot_any r n W)
  go_enter Try.func47, Try.ntmps47
  go_upto_region 1 with fail
  generalize hw1 : w.alloc (.cells #[.int .u8 0, .int .u32 0, .string ⟨#[]⟩] 76) = w1 at *
  obtain ⟨M, hM⟩ : ∃ M, w.heap.size = M := ⟨_, rfl⟩
  have HM := Lib.hid hM
  rw [hM] at b0 ⊢
  clear hM hw1
  go_wp2_with fail
  refine (HD.out _).mono ?_
  rintro e w2 ⟨rfl, g2⟩
  have b2 := b0.keep g2 (fun h => h)
  clear b0
  go_wp2_with ((with_reducible refine wpl_store_blk rfl 76 _ _ rfl M #[.int .u8 r, .int .u32 n, .string (bs s)] #[.int .u8 0, .int .u32 0, .string ⟨#[]⟩] ?_ ?_ b2 ?_ ?_ ?_ ?_); (focus rfl); (focus rfl); (focus rfl); (focus (show _ = some 3; kernel_rfl)); (focus (simp [Value.oneCell'])); intro w3 e3 g3 z3; have c0 := e3.cell 0 rfl; have c1 := e3.cell 1 rfl; have c2 := e3.cell 2 rfl)
  refine bodyPost_ret (v := .agg #[.int .u8 r, .int .u32 n, .string (bs s)]) (by simp [results, Try.results47, go_sem, c0, c1, c2]) rfl ?_
  exact ⟨rfl, (g0.trans g2).next g3 (fun k hk h => by have := HM.out; omega)⟩

/-- The sibling "a" by replica 0, and the vector that has it alone. -/
def sA : SibI := ⟨0, 1, [97], by decide, by decide, by decide⟩
def f1 : Nat → Nat := fun k => if k = 0 then 1 else 0
theorem OwnL.one (w : World) (x : SibI) : OwnL (w.alloc (.cells #[.int .u8 x.r, .int .u32 x.n, .string (bs x.s)] 76)) (.slice (some ⟨w.heap.size, 0, none⟩) 1 1) [x] :=
  Row.made w 76 3 1 1 (sibc x) (sibc x).toArray rfl (Nat.le_refl _) (by decide) rfl rfl

set_option maxRecDepth 100000 in
set_option maxHeartbeats 1000000 in
theorem given_any (w : World) : Calls Try.prog 44 #[] w fun e w' => ∃ v', e = .returned (rg f1 v') ∧ OwnL w' v' [sA] ∧ Frm (fun _ => False) w w' ∧ ∀ g, v'.ownBlock = some g → w.heap.size ≤ g := by
  have g0 : Frm (fun _ => False) w (w.alloc (.cells rz 39)) := (Frm.refl _ w).alloc _
  have b0 := Blk.alloc w 39 rz
  have HD := Lib.hid (fun W => dot_any 0 1 W)
  go_enter Try.func44, Try.ntmps44
  go_upto_region 1 with fail
  generalize hw1 : w.alloc (.cells rz 39) = w1 at *
  obtain ⟨M, hM⟩ : ∃ M, w.heap.size = M := ⟨_, rfl⟩
  have HM := Lib.hid hM
  rw [hM] at b0 ⊢
  clear hM hw1
  go_wp2_with fail
  refine (HD.out _).mono ?_
  rintro e w2 ⟨rfl, g2⟩
  have b2 := b0.keep g2 (fun h => h)
  clear b0
  have o3 : OwnL (w2.alloc (.cells #[.int .u8 0, .int .u32 1, .string ⟨#[97]⟩] 76)) (.slice (some ⟨w2.heap.size, 0, none⟩) 1 1) [sA] := OwnL.one w2 sA
  have hm2 := b2.lt
  have hm3 := g2.size
  have hm4 := g0.size
  have g3 : Frm (fun _ => False) w2 (w2.alloc (.cells #[.int .u8 0, .int .u32 1, .string ⟨#[97]⟩] 76)) := (Frm.refl _ w2).alloc _
  have b3 : Blk (w2.alloc (.cells #[.int .u8 0, .int .u32 1, .string ⟨#[97]⟩] 76)) M 39 rz := b2.keep g3 (fun h => h)
  go_wp2_with ((with_reducible refine wpl_store_blk rfl 39 _ _ rfl M (rgc f1 (.slice (some ⟨w2.heap.size, 0, none⟩) 1 1)) rz ?_ ?_ b3 ?_ ?_ ?_ ?_); (focus rfl); (focus rfl); (focus rfl); (focus (show _ = some 9; kernel_rfl)); (focus (exact rg_one _ _ _ _)); intro w4 e4 g4 z4; have c8 := e4.cell 8 rfl; have h2' := rcells e4)
  refine bodyPost_ret (v := rg f1 (.slice (some ⟨w2.heap.size, 0, none⟩) 1 1)) (by simp [results, Try.results44, go_sem, h2', c8]) rfl ?_
  refine ⟨_, rfl, o3.keep g4 (fun q hq h => ?_), ((g0.trans g2).trans g3).next g4 (fun k hk h => by have := HM.out; omega), fun q hq => ?_⟩
  · have e : w2.heap.size = q := Option.some.inj hq
    omega
  · have e : w2.heap.size = q := Option.some.inj hq
    omega
end Go.Proofs.Ytmdmkcofafhlcaa
end
