/- SumBoth, SumOrder: what the law's calls answer. No condition. -/
import Derived.Test.YtcmchhakkeoklaaSumW
import Derived.Deep.RegionHeld3
import Derived.IntWalk
namespace Go.Proofs.Ytcmchhakkeoklaa
open Go.RowKit

set_option maxRecDepth 100000 in
set_option maxHeartbeats 1000000 in
theorem sumBoth_few (s t : List UInt8) (w : World) (hs : s.length ≤ 131072) (ht : t.length ≤ 131072) :
    Calls Try.prog 5 #[.string (bs s), .string (bs t)] w fun e w' => e = .returned (.bool true) ∧ Frm (fun _ => False) w w' := by
  have hsz : (bs s).size ≤ 131072 := hs
  have htz : (bs t).size ≤ 131072 := ht
  have u1 : num (upd (rdn (num (sm s))) t) = num (sm (s ++ t)) := by rw [rdn_num (sm_lt s)]; exact congrArg num (upd_append (1, 0) s t).symm
  have u2 : num (jn (rdn (num (sm s))) (rdn (num (sm t))) t.length) = num (sm (s ++ t)) := by rw [rdn_num (sm_lt s), rdn_num (sm_lt t), sm_join]
  have b1 := num_lt (sm_lt s)
  have b2 := num_lt (sm_lt t)
  have U1 := Lib.hid u1
  have U2 := Lib.hid u2
  clear u1 u2
  obtain ⟨A, hA⟩ : ∃ A, num (sm (s ++ t)) = A := ⟨_, rfl⟩
  have y1 : ((A : Int) == (A : Int)) = true := beq_self_eq_true _
  have HA := Lib.hid hA
  clear hA
  go_enter Try.func5, Try.ntmps5
  go_wp2_with fail
  rw [bs_append]
  refine (sum_any (s ++ t) _ (by rw [List.length_append]; omega)).mono ?_
  rintro e w1 ⟨rfl, g1⟩
  rw [HA.out]
  go_wp2_with fail
  refine (sum_any s _ (by omega)).mono ?_
  rintro e w2 ⟨rfl, g2⟩
  go_wp2_with fail
  refine (update_any _ t _ b1 (by omega)).mono ?_
  rintro e w3 ⟨rfl, g3⟩
  rw [U1.out, HA.out]
  go_wp2_with fail
  refine (sum_any s _ (by omega)).mono ?_
  rintro e w4 ⟨rfl, g4⟩
  go_wp2_with fail
  refine (sum_any t _ (by omega)).mono ?_
  rintro e w5 ⟨rfl, g5⟩
  go_wp2_with fail
  refine (join_nat _ _ t.length _ b1 b2 (by omega)).mono ?_
  rintro e w6 ⟨rfl, g6⟩
  rw [U2.out, HA.out]
  go_wp2_with fail
  refine (works_any _).mono ?_
  rintro e w7 ⟨rfl, g7⟩
  go_wp2_with fail
  go_ret
  exact ⟨rfl, (((((g1.trans g2).trans g3).trans g4).trans g5).trans g6).trans g7⟩

set_option maxHeartbeats 1000000 in
theorem sumBoth_any (s t : List UInt8) (w : World) :
    Calls Try.prog 5 #[.string (bs s), .string (bs t)] w fun e w' => e = .returned (.bool true) ∧ Frm (fun _ => False) w w' := by
  by_cases h1 : s.length ≤ 131072
  · by_cases h2 : t.length ≤ 131072
    · exact sumBoth_few s t w h1 h2
    · have hsz : (bs s).size ≤ 131072 := h1
      have htz : 131072 < (bs t).size := by rw [bs_size]; omega
      clear h1 h2
      go_enter Try.func5, Try.ntmps5
      go_wp2_with fail
      refine (works_any _).mono ?_
      rintro e w7 ⟨rfl, g7⟩
      go_wp2_with fail
      go_ret
      exact ⟨rfl, g7⟩
  · have htz : 131072 < (bs s).size := by rw [bs_size]; omega
    clear h1
    go_enter Try.func5, Try.ntmps5
    go_wp2_with fail
    refine (works_any _).mono ?_
    rintro e w7 ⟨rfl, g7⟩
    go_wp2_with fail
    go_ret
    exact ⟨rfl, g7⟩

/-- Three numbers, as an array's value. -/
def xv (x y z : Nat) : Value := .agg #[.int .u32 x, .int .u32 y, .int .u32 z]

theorem Frm.cellF {w w' : World} {a : Addr} {v : Value} (h : Frm (fun _ => False) w w') (hc : w.cell? a = some v) : w'.cell? a = some v :=
  (World.cell?_of_block (h.block _ (World.block_lt_of_cell? w a hc) fun e => e)).trans hc

set_option maxRecDepth 100000 in
set_option maxHeartbeats 4000000 in
theorem sumOrder_any (x y z : Nat) (m n : Nat) (w : World) (hx : x < 4294967296) (hy : y < 4294967296) (hz : z < 4294967296) (hm : m < 18446744073709551616) (hn : n < 18446744073709551616) :
    Calls Try.prog 6 #[xv x y z, .int .u64 m, .int .u64 n] w fun e w' => e = .returned (.bool true) ∧ Frm (fun _ => False) w w' := by
  obtain ⟨k, hk, hk2⟩ : ∃ k : Nat, (m : Int) % 1099511627776 = (k : Int) ∧ k < 1099511627776 := ⟨m % 1099511627776, by omega, by omega⟩
  obtain ⟨l, hl, hl2⟩ : ∃ l : Nat, (n : Int) % 1099511627776 = (l : Int) ∧ l < 1099511627776 := ⟨n % 1099511627776, by omega, by omega⟩
  have b1 := num_lt (jn_lt (rdn x) (rdn y) k)
  have b3 := num_lt (jn_lt (rdn y) (rdn z) l)
  have h2 : num (jn (rdn (num (jn (rdn x) (rdn y) k))) (rdn z) l) = num (jn (rdn x) (rdn (num (jn (rdn y) (rdn z) l))) (k + l)) := by
    rw [rdn_num (jn_lt _ _ _), rdn_num (jn_lt _ _ _), jn_assoc]
  obtain ⟨A, hA⟩ : ∃ A, num (jn (rdn x) (rdn y) k) = A := ⟨_, rfl⟩
  obtain ⟨B, hB⟩ : ∃ B, num (jn (rdn y) (rdn z) l) = B := ⟨_, rfl⟩
  rw [hA] at b1 h2
  rw [hB] at b3 h2
  obtain ⟨R, hR⟩ : ∃ R, num (jn (rdn x) (rdn B) (k + l)) = R := ⟨_, rfl⟩
  rw [hR] at h2
  have J1 : ∀ w, Calls Try.prog 14 #[.int .u32 x, .int .u32 y, .int .i64 k] w fun e w' => e = .returned (.int .u32 A) ∧ Frm (fun _ => False) w w' := fun w => by
    have h := join_nat x y k w hx hy (by omega); rw [hA] at h; exact h
  have J2 : ∀ w, Calls Try.prog 14 #[.int .u32 A, .int .u32 z, .int .i64 l] w fun e w' => e = .returned (.int .u32 R) ∧ Frm (fun _ => False) w w' := fun w => by
    have h := join_nat A z l w b1 hz (by omega); rw [h2] at h; exact h
  have J3 : ∀ w, Calls Try.prog 14 #[.int .u32 y, .int .u32 z, .int .i64 l] w fun e w' => e = .returned (.int .u32 B) ∧ Frm (fun _ => False) w w' := fun w => by
    have h := join_nat y z l w hy hz (by omega); rw [hB] at h; exact h
  have J4 : ∀ w, Calls Try.prog 14 #[.int .u32 x, .int .u32 B, .int .i64 ((k : Int) + (l : Int))] w fun e w' => e = .returned (.int .u32 R) ∧ Frm (fun _ => False) w w' := fun w => by
    have h := join_nat x B (k + l) w hx b3 (by omega); rw [hR] at h; exact h
  have H1 := Lib.hid J1
  have H2 := Lib.hid J2
  have H3 := Lib.hid J3
  have H4 := Lib.hid J4
  clear J1 J2 J3 J4 hA hB hR h2
  have y1 : ((R : Int) == (R : Int)) = true := beq_self_eq_true _
  unfold xv
  go_enter Try.func6, Try.ntmps6
  go_wp2_with fail
  have c0 : (w.alloc (.cells #[.int .u32 x, .int .u32 y, .int .u32 z] 30)).cell? ⟨w.heap.size, 0, none⟩ = some (.int .u32 x) := (Blk.alloc w _ _).cell 0 rfl
  have c1 : (w.alloc (.cells #[.int .u32 x, .int .u32 y, .int .u32 z] 30)).cell? ⟨w.heap.size, 1, none⟩ = some (.int .u32 y) := (Blk.alloc w _ _).cell 1 rfl
  have c2 : (w.alloc (.cells #[.int .u32 x, .int .u32 y, .int .u32 z] 30)).cell? ⟨w.heap.size, 2, none⟩ = some (.int .u32 z) := (Blk.alloc w _ _).cell 2 rfl
  have f0 : Frm (fun _ => False) w (w.alloc (.cells #[.int .u32 x, .int .u32 y, .int .u32 z] 30)) := (Frm.refl _ w).alloc _
  obtain ⟨g, hg⟩ : ∃ g, w.heap.size = g := ⟨_, rfl⟩
  rw [hg] at c0 c1 c2 ⊢
  obtain ⟨w0, hw0⟩ : ∃ w0, w.alloc (.cells #[.int .u32 x, .int .u32 y, .int .u32 z] 30) = w0 := ⟨_, rfl⟩
  rw [hw0] at c0 c1 c2 f0 ⊢
  clear hg hw0 hk hl
  have hsum : IntKind.i64.wrap ((k : Int) + (l : Int)) = (k : Int) + (l : Int) := IntWalk.i64_in _ (by omega)
  go_region_held3 (fun w' => w'.cell? ⟨g, 0, none⟩ = some (.int .u32 x) ∧ w'.cell? ⟨g, 1, none⟩ = some (.int .u32 y) ∧ w'.cell? ⟨g, 2, none⟩ = some (.int .u32 z) ∧ Frm (fun _ => False) w w')
    (((try dsimp only); (try go_split_ands); (repeat' apply And.intro) <;> (first
      | assumption
      | exact Frm.drew (by assumption)
      | exact Frm.cellF gg (by assumption)
      | (refine Frm.trans ?_ gg; assumption)
      | go_keep)))
    (first
      | (go_at_call 14; (with_reducible refine (H1.out _).mono ?_); rintro e ww ⟨rfl, gg⟩)
      | (go_at_call 14; (with_reducible refine (H2.out _).mono ?_); rintro e ww ⟨rfl, gg⟩)
      | (go_at_call 14; (with_reducible refine (H3.out _).mono ?_); rintro e ww ⟨rfl, gg⟩)
      | (go_at_call 14; (with_reducible refine (H4.out _).mono ?_); rintro e ww ⟨rfl, gg⟩)
      | (go_at_call 9; refine (works_any _).mono ?_; rintro e ww ⟨rfl, gg⟩))
  rename_i hh
  obtain ⟨_, _, _, ff⟩ := hh
  clear H1 H2 H3 H4
  go_wp2_with fail
  go_ret
  exact ⟨rfl, ff⟩
end Go.Proofs.Ytcmchhakkeoklaa
