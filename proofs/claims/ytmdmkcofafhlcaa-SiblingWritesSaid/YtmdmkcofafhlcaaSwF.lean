/- The document's own Next: of any context. No condition but that the numbers have their bits. -/
import Derived.Test.YtmdmkcofafhlcaaSwA
namespace Go.Proofs.Ytmdmkcofafhlcaa
open Go.RowKit

theorem rvblk_cell {w : World} {b : Nat} {f : Nat → Nat} {k : Nat} (h : Blk w b 23 (vv f)) (hk : k < 8) : w.cell? ⟨b, k, none⟩ = some (.int .u32 (f k)) := by
  rcases lt8 hk with rfl | rfl | rfl | rfl | rfl | rfl | rfl | rfl <;> exact h.cell _ rfl
theorem rvcells {w : World} {b : Nat} {f : Nat → Nat} (h : Blk w b 23 (vv f)) : ∀ k, k < 8 → w.cell? ⟨b, k, none⟩ = some (.int .u32 (f k)) := fun _ hk => rvblk_cell h hk
/-- A number is stored into a vector's block. -/
theorem wpl_store_rat {ops : Array Oper} {rest : List Oper} {o : Oper} {a : Act} {w : World} {Q : Exit → Act → World → Prop} (hgd : o.guard = none) (x y : Operand) (ho : o.op = .store 22 x y)
    (b k n : Nat) (f : Nat → Nat) (hk : k < 8) (hx : a.eval x = .pointer (some ⟨b, k, none⟩)) (hy : a.eval y = .int .u32 n) (h : Blk w b 23 (vv f))
    (hK : ∀ w', Blk w' b 23 (vv (upd8 f k n)) → Frm (· = b) w w' → w'.heap.size = w.heap.size → wpList Try.prog ops Q rest (a.put o.dst undef) w') : wpList Try.prog ops Q (o :: rest) a w := by
  have c0 := rvblk_cell h hk
  have f0 := h.free k
  have a3 := Try.isAgg22
  have z3 := Try.sizeOf22
  refine wpList_plain hgd fun K hK' => ?_
  unfold Oper.wp execOp
  simp only [ho, hx, hy]
  go_simp
  refine hK' _ _ (hK _ ?_ ?_ ?_)
  · rw [← vv_set f k n hk]
    exact h.set k _
  · exact (Frm.refl (· = b) w).setCell (p := ⟨b, k, none⟩) (fun _ => rfl) _
  · simp [World.setCell]
/-- A whole dot is stored into a block that is known. -/
theorem wpl_store_rdot {ops : Array Oper} {rest : List Oper} {o : Oper} {a : Act} {w : World} {Q : Exit → Act → World → Prop} (hgd : o.guard = none) (x y : Operand) (ho : o.op = .store 48 x y)
    (b r n : Nat) (old : Array Value) (hx : a.eval x = .pointer (some ⟨b, 0, none⟩)) (hy : a.eval y = .agg (dv r n)) (h : Blk w b 48 old) (hs : old.size = 2)
    (hK : ∀ w', Blk w' b 48 (dv r n) → Frm (· = b) w w' → w'.heap.size = w.heap.size → wpList Try.prog ops Q rest (a.put o.dst undef) w') : wpList Try.prog ops Q (o :: rest) a w :=
  wpl_store_blk hgd 48 x y ho b (dv r n) old hx hy h hs (by show _ = some 2; kernel_rfl) (by simp [Value.oneCell']) hK
/-- A whole vector is stored into a block that is known. -/
theorem wpl_store_rvec {ops : Array Oper} {rest : List Oper} {o : Oper} {a : Act} {w : World} {Q : Exit → Act → World → Prop} (hgd : o.guard = none) (x y : Operand) (ho : o.op = .store 23 x y)
    (b : Nat) (f : Nat → Nat) (old : Array Value) (hx : a.eval x = .pointer (some ⟨b, 0, none⟩)) (hy : a.eval y = .agg (vv f)) (h : Blk w b 23 old) (hs : old.size = 8)
    (hK : ∀ w', Blk w' b 23 (vv f) → Frm (· = b) w w' → w'.heap.size = w.heap.size → wpList Try.prog ops Q rest (a.put o.dst undef) w') : wpList Try.prog ops Q (o :: rest) a w := by
  exact wpl_store_blk hgd 23 x y ho b (vv f) old hx hy h (by rw [hs, vv_size]) (by rw [vv_size]; kernel_rfl) (by simp [Value.oneCell']) hK

/-- What it answers. -/
def nextR8 (f : Nat → Nat) (r : Nat) : (Nat → Nat) × (Nat × Nat) × Nat :=
  if 8 ≤ r then (f, (0, 0), 2) else if 65535 ≤ mx f 8 then (f, (0, 0), 12) else (upd8 f r (mx f 8 + 1), (r, mx f 8 + 1), 0)
def NextR (f : Nat → Nat) (r : Nat) (w : World) (e : Ending) (w' : World) : Prop :=
  e = .returned (.tuple #[.agg (vv (nextR8 f r).1), .agg (dv (nextR8 f r).2.1.1 (nextR8 f r).2.1.2), .int .i64 (nextR8 f r).2.2]) ∧ Frm (fun _ => False) w w'
theorem nextR8_ok {f : Nat → Nat} {r : Nat} : (nextR8 f r).2.2 = (nextS8 f r).2.2 ∧ ((nextS8 f r).2.2 = 0 → nextR8 f r = nextS8 f r) := by
  unfold nextR8 nextS8
  split
  · exact ⟨rfl, fun h => by simp at h⟩
  · split
    · exact ⟨rfl, fun h => by simp at h⟩
    · exact ⟨rfl, fun _ => rfl⟩
set_option maxRecDepth 100000 in
set_option maxHeartbeats 1000000 in
theorem rnext6_any (f : Nat → Nat) (r : Nat) (w : World) (hf : Fit8 f) :
    Calls Try.prog 61 #[.agg (vv f), .int .u8 r] w (NextR f r w) := by
  have b0 : Blk (((w.alloc (Obj.cells (vv f) 23)).alloc (Obj.cells vz 23)).alloc (Obj.cells dz 48)) w.heap.size 23 (vv f) := ((Blk.alloc w _ _).old _).old _
  have b1 : Blk (((w.alloc (Obj.cells (vv f) 23)).alloc (Obj.cells vz 23)).alloc (Obj.cells dz 48)) (w.heap.size + 1) 23 vz := (Blk.at1 w _ _ _).old _
  have b2 : Blk (((w.alloc (Obj.cells (vv f) 23)).alloc (Obj.cells vz 23)).alloc (Obj.cells dz 48)) (w.heap.size + 1 + 1) 48 dz := Blk.at2 w _ _ _ _
  have g0 : Frm (fun _ => False) w (((w.alloc (Obj.cells (vv f) 23)).alloc (Obj.cells vz 23)).alloc (Obj.cells dz 48)) := (((Frm.refl _ w).alloc _).alloc _).alloc _
  by_cases h8 : 8 ≤ r
  · have h8i : (7 : Int) < (r : Int) := by omega
    have hS : nextR8 f r = (f, (0, 0), 2) := by simp [nextR8, h8]
    unfold NextR
    rw [hS]
    clear hS
    have lv := load_rvec b0
    go_enter Try.func61, Try.ntmps61
    go_wp2_with (first
      | ((with_reducible refine wpl_load rfl _ rfl ?_ lv ?_); (focus rfl))
      | ((with_reducible refine wpl_store_rvec rfl _ _ rfl (w.heap.size + 1) f vz ?_ ?_ b1 rfl ?_); (focus rfl); (focus rfl); intro w2 e2 g2 z2; have d2 := b2.keep g2 (by omega))
      | ((with_reducible refine wpl_store_rdot rfl _ _ rfl (w.heap.size + 1 + 1) 0 0 dz ?_ ?_ d2 rfl ?_); (focus rfl); (focus rfl); intro w3 e3 g3 z3; have h2 := rvcells (e2.keep g3 (by omega)); have d0 := e3.cell 0 rfl; have d1 := e3.cell 1 rfl))
    refine bodyPost_ret (v := .tuple #[.agg (vv f), .agg (dv 0 0), .int .i64 2]) (by simp [results, Try.results61, go_sem, h2, d0, d1]) rfl ?_
    exact ⟨rfl, (g0.next g2 (fun k hk h => by omega)).next g3 (fun k hk h => by omega)⟩
  · have hlt : r < 8 := by omega
    have h8i : ¬ (7 : Int) < (r : Int) := by omega
    have hm := mx_lt f 4294967296 (by omega) 8 hf
    have HS := Lib.hid (show nextR8 f r = if 65535 ≤ mx f 8 then (f, (0, 0), 12) else (upd8 f r (mx f 8 + 1), (r, mx f 8 + 1), 0) by simp [nextR8, h8])
    obtain ⟨q, hq⟩ : ∃ q, q = NextR f r w := ⟨_, rfl⟩
    rw [← hq]
    have Hq := Lib.hid hq
    clear hq
    go_enter Try.func61, Try.ntmps61
    go_wp2_with fail
    obtain ⟨w0, hw0⟩ : ∃ w0, ((w.alloc (Obj.cells (vv f) 23)).alloc (Obj.cells vz 23)).alloc (Obj.cells dz 48) = w0 := ⟨_, rfl⟩
    rw [hw0] at b0 b1 b2 g0 ⊢
    clear hw0
    go_loop [7, 8] (fun n i => ∃ k : Nat, k ≤ 8 ∧ i = .int .i64 k ∧ n = .int .u32 (mx f k)) (fun _ i => 8 - (intOf i).toNat)
    case atStart => exact ⟨0, by omega, rfl, rfl⟩
    case round =>
      obtain ⟨k, hk, rfl, rfl⟩ := hrel
      by_cases hk8 : k < 8
      · have c0 := rvblk_cell b0 hk8
        have hki : (k : Int) < 8 := by omega
        have hk0 : (0 : Int) ≤ (k : Int) := by omega
        by_cases hgt : mx f k < f k
        · have hgd : decide ((mx f k : Int) < (f k : Int)) = true := by rw [decide_eq_true_eq]; omega
          have hs : mx f (k + 1) = f k := by simp only [mx]; omega
          have HS2 := Lib.hid hs
          clear hs
          go_wp2
          go_round
          case rel => exact ⟨k + 1, by omega, by go_num, by rw [HS2.out]⟩
          case measure => simp [intOf]; omega
        · have hgd : decide ((mx f k : Int) < (f k : Int)) = false := by rw [decide_eq_false_iff_not]; omega
          have hs : mx f (k + 1) = mx f k := by simp only [mx]; omega
          have HS2 := Lib.hid hs
          clear hs
          go_wp2
          go_round
          case rel => exact ⟨k + 1, by omega, by go_num, by rw [HS2.out]⟩
          case measure => simp [intOf]; omega
      · obtain rfl : k = 8 := by omega
        have h8k : (r : Int) < 8 := by omega
        have h80 : (0 : Int) ≤ (r : Int) := by omega
        clear hk8 hk
        generalize mx f 8 = M at *
        by_cases hx : 65535 ≤ M
        · have hxd : decide ((65535 : Int) ≤ (M : Int)) = true := by rw [decide_eq_true_eq]; omega
          have hS := HS.out
          rw [if_pos hx] at hS
          clear HS hx hm
          have lv := load_rvec b0
          go_wp2_with (first
            | ((with_reducible refine wpl_load rfl _ rfl ?_ lv ?_); (focus rfl))
            | ((with_reducible refine wpl_store_rvec rfl _ _ rfl (w.heap.size + 1) f vz ?_ ?_ b1 rfl ?_); (focus rfl); (focus rfl); intro w2 e2 g2 z2; have d2 := b2.keep g2 (by omega))
            | ((with_reducible refine wpl_store_rdot rfl _ _ rfl (w.heap.size + 1 + 1) 0 0 dz ?_ ?_ d2 rfl ?_); (focus rfl); (focus rfl); intro w3 e3 g3 z3; have h2 := rvcells (e2.keep g3 (by omega)); have d0 := e3.cell 0 rfl; have d1 := e3.cell 1 rfl))
          refine bodyPost_ret (v := .tuple #[.agg (vv f), .agg (dv 0 0), .int .i64 12]) (by simp [results, Try.results61, go_sem, h2, d0, d1]) rfl ?_
          rw [Hq.out]
          unfold NextR
          rw [hS]
          exact ⟨rfl, (g0.next g2 (fun k hk h => by omega)).next g3 (fun k hk h => by omega)⟩
        · have hxd : decide ((65535 : Int) ≤ (M : Int)) = false := by rw [decide_eq_false_iff_not]; omega
          have hS := HS.out
          rw [if_neg hx] at hS
          have hM : M < 65535 := by omega
          have hS2 := Lib.hid hS
          have cc := rvblk_cell b0 hlt
          have cf := b0.free r
          clear HS hx hm hS
          go_wp2_with (first
            | ((with_reducible refine wpl_load rfl _ rfl ?_ lv ?_); (focus rfl))
            | ((with_reducible refine wpl_store_rat rfl _ _ rfl w.heap.size r (M + 1) f hlt ?_ ?_ b0 ?_); (focus rfl); (focus (go_simp; done)); intro w4 e4 g4 z4; have lv := load_rvec e4; have c12 := b1.keep g4 (by omega); have c22 := b2.keep g4 (by omega))
            | ((with_reducible refine wpl_store_rvec rfl _ _ rfl (w.heap.size + 1) (upd8 f r (M + 1)) vz ?_ ?_ c12 rfl ?_); (focus rfl); (focus rfl); intro w2 e2 g2 z2; have d2 := c22.keep g2 (by omega))
            | ((with_reducible refine wpl_store_rdot rfl _ _ rfl (w.heap.size + 1 + 1) r (M + 1) dz ?_ ?_ d2 rfl ?_); (focus rfl); (focus rfl); intro w3 e3 g3 z3; have h2 := rvcells (e2.keep g3 (by omega)); have d0 := e3.cell 0 rfl; have d1 := e3.cell 1 rfl))
          refine bodyPost_ret (v := .tuple #[.agg (vv (upd8 f r (M + 1))), .agg (dv r (M + 1)), .int .i64 0]) (by simp [results, Try.results61, go_sem, h2, d0, d1]) rfl ?_
          rw [Hq.out]
          unfold NextR
          rw [hS2.out]
          exact ⟨rfl, ((g0.next g4 (fun k hk h => by omega)).next g2 (fun k hk h => by omega)).next g3 (fun k hk h => by omega)⟩
end Go.Proofs.Ytmdmkcofafhlcaa

