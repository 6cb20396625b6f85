/- A space in memory: what has and flip do to a page's bits, and to a block of a space. No condition. -/
import Derived.Test.YtdhnidmeeocajaaSpM
import Derived.Test.YtdhnidmeeocajaaCanonT
import Derived.LaidEqlPtr
import Derived.BigQuiet
import Derived.OwnWalk
import Derived.Deep.DeepCutAuto
import Derived.Deep.RegionHeld3
import Derived.Shelf.RegionOpen
namespace Go.Proofs.Ytdhnidmeeocajaa
open Go.RowKit
section
variable {ops : Array Oper} {Q : Exit → Act → World → Prop} {a : Act} {W : World}
theorem wpOp_store_u64 {o : Oper} {K : Act → World → Prop} {i : Nat} (hi : ops[i]? = some o) (hg : o.guard = none) (hd : o.dst = none) (x y : Operand) (ho : o.op = .store 62 x y)
    (p : Addr) (q : Int) (old : Value) (hx : a.eval x = .pointer (some p)) (hy : a.eval y = .int .u64 q) (c0 : W.cell? p = some old) (f0 : W.frozen? p = false) (hK : K a (W.setCell p (.int .u64 q))) : wpOp Try.prog ops Q i K a W := by
  unfold wpOp
  simp only [hi]
  rw [if_pos (by unfold Region.wanted; rw [hg])]
  refine .inl ?_
  unfold Oper.wp execOp
  simp only [ho, hx, hy]
  go_simp
  have e : (a.put o.dst undef) = a := by rw [hd]; rfl
  (try rw [e])
  exact hK
end

set_option maxRecDepth 100000 in
set_option maxHeartbeats 1000000 in
theorem phas_any (g o i m : Nat) (w : World) (hi : i < 256) (hc : w.cell? ⟨g, o + i / 64, none⟩ = some (.int .u64 (m : Nat))) (hm : m < 18446744073709551616) :
    Calls Try.prog 35 #[.pointer (some ⟨g, o, none⟩), .int .i64 (i : Nat)] w fun e w' => e = .returned (.bool (m.testBit (i % 64))) ∧ w = w' := by
  obtain ⟨q, hq⟩ : ∃ q, i / 64 = q := ⟨_, rfl⟩
  obtain ⟨r, hr⟩ : ∃ r, i % 64 = r := ⟨_, rfl⟩
  have t1 : (i : Int).tdiv 64 = (q : Int) := by rw [Int.tdiv_eq_ediv_of_nonneg (by omega)]; omega
  have t2 : (i : Int).tmod 64 = (r : Int) := by rw [Int.tmod_eq_emod_of_nonneg (by omega)]; omega
  have t3 : (i : Int) / 64 = (q : Int) := by omega
  have t4 : (i : Int) % 64 = (r : Int) := by omega
  have hq4 : q < 4 := by omega
  have hr64 : r < 64 := by omega
  have hb := and_bit64 m r hm
  rw [hq] at hc
  rw [hr]
  cases hbit : m.testBit r with
  | true =>
    rw [hbit, if_pos rfl] at hb
    clear hbit hq hr hi
    go_enter Try.func35, Try.ntmps35
    go_wp2_with fail
    go_ret
    exact ⟨rfl, rfl⟩
  | false =>
    rw [hbit, if_neg (by decide)] at hb
    clear hbit hq hr hi
    go_enter Try.func35, Try.ntmps35
    go_wp2_with fail
    go_ret
    exact ⟨rfl, rfl⟩
set_option maxRecDepth 100000 in
set_option maxHeartbeats 1000000 in
theorem pflip_any (g o i m : Nat) (w : World) (hi : i < 256) (hc : w.cell? ⟨g, o + i / 64, none⟩ = some (.int .u64 (m : Nat))) (hf : w.frozen? ⟨g, o + i / 64, none⟩ = false) (hm : m < 18446744073709551616) :
    Calls Try.prog 34 #[.pointer (some ⟨g, o, none⟩), .int .i64 (i : Nat)] w fun e w' => e = .returned (.tuple #[]) ∧ (w.setCell ⟨g, o + i / 64, none⟩ (.int .u64 ((m ^^^ 2 ^ (i % 64) : Nat) : Int))).drew = w' := by
  obtain ⟨q, hq⟩ : ∃ q, i / 64 = q := ⟨_, rfl⟩
  obtain ⟨r, hr⟩ : ∃ r, i % 64 = r := ⟨_, rfl⟩
  have t1 : (i : Int).tdiv 64 = (q : Int) := by rw [Int.tdiv_eq_ediv_of_nonneg (by omega)]; omega
  have t2 : (i : Int).tmod 64 = (r : Int) := by rw [Int.tmod_eq_emod_of_nonneg (by omega)]; omega
  have t3 : (i : Int) / 64 = (q : Int) := by omega
  have t4 : (i : Int) % 64 = (r : Int) := by omega
  have hq4 : q < 4 := by omega
  have hr64 : r < 64 := by omega
  have hb : bits BinOp.xor IntKind.u64 (m : Int) (IntKind.u64.wrap ((2 : Int) ^ r)) = ((m ^^^ 2 ^ r : Nat) : Int) := by rw [IntKind.wrap_u64]; exact xor_bit64 m r hm hr64
  have hq4i : (q : Int) < 4 := by omega
  have t5 : IntKind.i64.wrap (q : Int) = (q : Int) := IntWalk.i64_in _ (by omega)
  have t6 : IntKind.i64.wrap (r : Int) = (r : Int) := IntWalk.i64_in _ (by omega)
  rw [hq] at hc hf ⊢
  rw [hr]
  clear hq hr hi
  go_enter Try.func34, Try.ntmps34
  go_upto_region 0 with fail
  refine wp_region_root (fun W => W.cell? ⟨g, o + q, none⟩ = some (.int .u64 (m : Nat)) ∧ W.frozen? ⟨g, o + q, none⟩ = false ∧ w.drew = W) (by kernel_rfl) rfl rfl (by kernel_rfl) (by kernel_rfl) (by kernel_rfl) (⟨hc, hf, rfl⟩) ?_
  repeat' first
    | (refine CanonL.skip (by rfl) ?_; (try simp only [Act.put, List.setIfInBounds_toArray, List.set_cons_zero, List.set_cons_succ]))
    | (refine CanonL.val (v := ?_) (by rfl) ?_ ?_; rotate_left 1; (focus (intro w hSw; (try dsimp only at hSw); go_simp; (try (with_reducible rfl)); done)); (try simp only [Act.put, List.setIfInBounds_toArray, List.set_cons_zero, List.set_cons_succ]))
  refine CanonL.done ?_
  intro w9 hS9
  obtain ⟨d0, f0, rfl⟩ := hS9
  refine wpOp_store_u64 rfl rfl rfl _ _ rfl ⟨g, o + q, none⟩ ((m ^^^ 2 ^ r : Nat) : Int) _ (by rfl) (by rfl) d0 f0 ?_
  go_end0
  exact ⟨rfl, rfl⟩

/-- A space at block s, its pages at block g. -/
structure SpM (w : World) (s g : Nat) (S : SpV) : Prop where
  ok : S.ok
  blk : ∃ cap, S.np ≤ cap ∧ cap ≤ maxLen ∧ Blk w s 55 #[.pointer (some ⟨s, 0, none⟩), .int .i64 (S.a : Nat), .int .i64 (S.n : Nat), .slice (some ⟨g, 0, none⟩) S.np cap]
  lt : g < w.heap.size
  pg : ∃ x, Wd S x ∧ ∀ j, j < S.np * 4 → w.cell? ⟨g, j, none⟩ = some (.int .u64 (x j : Nat)) ∧ w.frozen? ⟨g, j, none⟩ = false
  ne : s ≠ g
section
variable {w w' : World} {s g : Nat} {S : SpV}
theorem SpM.slt (h : SpM w s g S) : s < w.heap.size := by
  obtain ⟨_, _, _, hb⟩ := h.blk
  exact hb.lt
theorem SpM.keepB (h : SpM w s g S) (h1 : w'.heap[s]? = w.heap[s]?) (h2 : w'.heap[g]? = w.heap[g]?) : SpM w' s g S := by
  obtain ⟨cap, c1, c2, hb⟩ := h.blk
  obtain ⟨x, hx, hc⟩ := h.pg
  have hg : g < w'.heap.size := by
    have hh : w.heap[g]? = some (w.heap[g]'h.lt) := Array.getElem?_eq_getElem h.lt
    rw [← h2] at hh
    exact (Array.getElem?_eq_some_iff.1 hh).1
  refine ⟨h.ok, ⟨cap, c1, c2, h1.trans hb⟩, hg, ⟨x, hx, fun j hj => ?_⟩, h.ne⟩
  rw [World.cell?_of_block (a := ⟨g, j, none⟩) h2, World.frozen?_of_block (a := ⟨g, j, none⟩) h2]
  exact hc j hj
theorem SpM.keep {X : Nat → Prop} (h : SpM w s g S) (hf : Frm X w w') (h1 : ¬ X s) (h2 : ¬ X g) : SpM w' s g S := h.keepB (hf.block s h.slt h1) (hf.block g h.lt h2)
theorem SpM.keepF (h : SpM w s g S) (hf : Frm (fun _ => False) w w') : SpM w' s g S := h.keep hf (fun h => h) (fun h => h)
/-- The word that a block's bit lies in. -/
theorem SpM.word (h : SpM w s g S) (k : Nat) (hk : k < S.n) : ∃ m, m < 18446744073709551616 ∧ m.testBit (k % 64) = S.F k ∧ w.cell? ⟨g, k / 64, none⟩ = some (.int .u64 (m : Nat)) ∧ w.frozen? ⟨g, k / 64, none⟩ = false ∧ SpM (w.setCell ⟨g, k / 64, none⟩ (.int .u64 ((m ^^^ 2 ^ (k % 64) : Nat) : Int))) s g (S.flip k) ∨ ¬ S.a ≤ k := by
  by_cases ha : S.a ≤ k
  · obtain ⟨cap, c1, c2, hb⟩ := h.blk
    obtain ⟨x, hx, hc⟩ := h.pg
    have hnp : k < S.np * 256 := by unfold SpV.np; omega
    have hj : k / 64 < S.np * 4 := by omega
    obtain ⟨h1, h2⟩ := hc _ hj
    refine ⟨x (k / 64), .inl ⟨hx.lt _, hx.bit k hnp, h1, h2, SpV.flip_ok h.ok ha hk, ⟨cap, c1, c2, hb.other (p := ⟨g, k / 64, none⟩) h.ne _⟩, by simpa [World.setCell] using h.lt, ⟨flipW x k, hx.flip k, fun j hj' => ?_⟩, h.ne⟩⟩
    rw [World.frozen?_setCell]
    refine ⟨?_, (hc j hj').2⟩
    unfold flipW
    by_cases e : j = k / 64
    · subst e
      rw [if_pos rfl]
      exact World.cell?_setCell_same _ _ _ h1
    · rw [if_neg e, World.cell?_setCell_other _ _ _ _ (fun h => e (by cases h; rfl))]
      exact (hc j hj').1
  · exact ⟨0, .inr ha⟩
end
set_option maxRecDepth 100000 in
set_option maxHeartbeats 1000000 in
theorem shas_any (s g k : Nat) (S : SpV) (w : World) (h : SpM w s g S) (ha : S.a ≤ k) (hk : k < S.n) :
    Calls Try.prog 31 #[.pointer (some ⟨s, 0, none⟩), .int .i64 (k : Nat)] w fun e w' => e = .returned (.bool (S.F k)) ∧ w = w' := by
  obtain ⟨m, hm, hbit, hc, hf, _⟩ : ∃ m, m < 18446744073709551616 ∧ m.testBit (k % 64) = S.F k ∧ w.cell? ⟨g, k / 64, none⟩ = some (.int .u64 (m : Nat)) ∧ w.frozen? ⟨g, k / 64, none⟩ = false ∧ SpM (w.setCell ⟨g, k / 64, none⟩ (.int .u64 ((m ^^^ 2 ^ (k % 64) : Nat) : Int))) s g (S.flip k) := by
    obtain ⟨m, h | h⟩ := h.word k hk
    · exact ⟨m, h⟩
    · exact absurd ha h
  obtain ⟨cap, c1, c2, hb⟩ := h.blk
  have e3 := hb.cell 3 rfl
  have hn := h.ok.hi
  obtain ⟨q, hq⟩ : ∃ q, k / 256 = q := ⟨_, rfl⟩
  obtain ⟨r, hr⟩ : ∃ r, k % 256 = r := ⟨_, rfl⟩
  have t1 : (k : Int).tdiv 256 = (q : Int) := by rw [Int.tdiv_eq_ediv_of_nonneg (by omega)]; omega
  have t2 : (k : Int).tmod 256 = (r : Int) := by rw [Int.tmod_eq_emod_of_nonneg (by omega)]; omega
  have t3 : (k : Int) / 256 = (q : Int) := by omega
  have t4 : (k : Int) % 256 = (r : Int) := by omega
  have hqn : q < S.np := by unfold SpV.np; omega
  have hq8 : q < 8 := by omega
  have hqi : (q : Int) < (S.np : Int) := by omega
  have hP := phas_any g (q * 4) r m w (by omega) (by rw [show q * 4 + r / 64 = k / 64 by omega]; exact hc) hm
  rw [show r % 64 = k % 64 by omega, hbit] at hP
  have HP := Lib.hid hP
  obtain ⟨N, hN⟩ : ∃ N, S.np = N := ⟨_, rfl⟩
  rw [hN] at e3 hqn hqi
  unfold maxLen at c2
  clear hbit hc hf h hb hP hq hr ha hk hN c1 hn
  go_enter Try.func31, Try.ntmps31
  go_wp2_with fail
  with_reducible refine HP.out.mono ?_
  rintro e w1 ⟨rfl, rfl⟩
  go_wp2_with fail
  go_ret
  exact ⟨rfl, rfl⟩
set_option maxRecDepth 100000 in
set_option maxHeartbeats 1000000 in
theorem sflip_any (s g k : Nat) (S : SpV) (w : World) (h : SpM w s g S) (ha : S.a ≤ k) (hk : k < S.n) :
    Calls Try.prog 25 #[.pointer (some ⟨s, 0, none⟩), .int .i64 (k : Nat)] w fun e w' => e = .returned (.tuple #[]) ∧ SpM w' s g (S.flip k) ∧ Frm (· = g) w w' := by
  obtain ⟨m, hm, hbit, hc, hf, hM⟩ : ∃ m, m < 18446744073709551616 ∧ m.testBit (k % 64) = S.F k ∧ w.cell? ⟨g, k / 64, none⟩ = some (.int .u64 (m : Nat)) ∧ w.frozen? ⟨g, k / 64, none⟩ = false ∧ SpM (w.setCell ⟨g, k / 64, none⟩ (.int .u64 ((m ^^^ 2 ^ (k % 64) : Nat) : Int))) s g (S.flip k) := by
    obtain ⟨m, h | h⟩ := h.word k hk
    · exact ⟨m, h⟩
    · exact absurd ha h
  obtain ⟨cap, c1, c2, hb⟩ := h.blk
  have e3 := hb.cell 3 rfl
  have hn := h.ok.hi
  obtain ⟨q, hq⟩ : ∃ q, k / 256 = q := ⟨_, rfl⟩
  obtain ⟨r, hr⟩ : ∃ r, k % 256 = r := ⟨_, rfl⟩
  have t1 : (k : Int).tdiv 256 = (q : Int) := by rw [Int.tdiv_eq_ediv_of_nonneg (by omega)]; omega
  have t2 : (k : Int).tmod 256 = (r : Int) := by rw [Int.tmod_eq_emod_of_nonneg (by omega)]; omega
  have t3 : (k : Int) / 256 = (q : Int) := by omega
  have t4 : (k : Int) % 256 = (r : Int) := by omega
  have hqn : q < S.np := by unfold SpV.np; omega
  have hq8 : q < 8 := by omega
  have hqi : (q : Int) < (S.np : Int) := by omega
  have hP := pflip_any g (q * 4) r m w (by omega) (by rw [show q * 4 + r / 64 = k / 64 by omega]; exact hc) (by rw [show q * 4 + r / 64 = k / 64 by omega]; exact hf) hm
  rw [show r % 64 = k % 64 by omega, show q * 4 + r / 64 = k / 64 by omega] at hP
  have HP := Lib.hid hP
  have HM := Lib.hid hM
  obtain ⟨N, hN⟩ : ∃ N, S.np = N := ⟨_, rfl⟩
  rw [hN] at e3 hqn hqi
  unfold maxLen at c2
  clear hbit hc hf h hb hP hq hr ha hk hN c1 hn hM
  go_enter Try.func25, Try.ntmps25
  go_wp2_with fail
  with_reducible refine HP.out.mono ?_
  rintro e w1 ⟨rfl, rfl⟩
  go_wp2_with fail
  go_end0
  exact ⟨rfl, HM.out.keepB rfl rfl, ((Frm.refl (· = g) w).setCell (p := ⟨g, k / 64, none⟩) (fun _ => rfl) _).drew⟩
end Go.Proofs.Ytdhnidmeeocajaa
