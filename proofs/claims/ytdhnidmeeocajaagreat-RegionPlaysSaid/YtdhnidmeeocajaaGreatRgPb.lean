/- What Read of a region answers; regions and lines that are none. No condition. -/
import Derived.Test.YtdhnidmeeocajaaGreatRgT
import Derived.Test.YtdhnidmeeocajaaGreatLnL
section
namespace Go.Proofs.YtdhnidmeeocajaaGreat
open Go.RowKit Go.Shelf

def rdR (L : LV) (q m : Int) : Nat × List (List UInt8) × Nat := if rgC L.D.n q m = 0 then (if L.down then (0, [], 8) else (genOf (L.D.read q.toNat), L.D.groups q.toNat m.toNat, 0)) else (0, [], rgC L.D.n q m)
def ReadTo (p : Nat × List (List UInt8) × Nat) (w : World) (e : Ending) (w' : World) : Prop := ∃ v, e = .returned (.tuple #[.int .u32 (p.1 : Nat), v, .int .i64 (p.2.2 : Nat)]) ∧ NewL w w' v p.2.1
set_option maxRecDepth 100000 in
set_option maxHeartbeats 4000000 in
theorem rgread_any (l b f x : Nat) (L : LV) (q m : Int) (w : World) (h : LnM w l b f x L) (hq : Z64 q) (hm : Z64 m) :
    Calls Tryz.prog 30 #[.pointer (some ⟨l, 0, none⟩), .int .i64 q, .int .i64 m] w (ReadTo (rdR L q m) w) := by
  have HLD := load_any l b f x L q m w h hq hm
  obtain ⟨ans, hans⟩ : ∃ ans, rdR L q m = ans := ⟨_, rfl⟩
  rw [hans]
  have HANS := Lib.hid hans
  clear hans
  unfold ReadTo
  by_cases hok : rgC L.D.n q m = 0 ∧ L.down = false
  · have hld : ldR L q m = (L.D.alls q.toNat m.toNat, 0) := by unfold ldR; rw [if_pos hok.1, if_neg (by rw [hok.2]; exact Bool.false_ne_true)]
    have hrd : rdR L q m = (genOf (L.D.read q.toNat), L.D.groups q.toNat m.toNat, 0) := by unfold rdR; rw [if_pos hok.1, if_neg (by rw [hok.2]; exact Bool.false_ne_true)]
    rw [hld] at HLD
    rw [HANS.out] at hrd
    obtain ⟨h1, h2, h3, h4⟩ := rgC_ok hok.1
    have hN := h.dev.ok.hi
    have h64 : ∀ s ∈ L.D.alls q.toNat m.toNat, s.length = 64 := fun s hs => by
      unfold DV.alls at hs
      obtain ⟨k, _, rfl⟩ := List.mem_map.1 hs
      exact h.dev.ok.rlen _
    obtain ⟨A, hA⟩ : ∃ A, q.toNat = A := ⟨_, rfl⟩
    obtain ⟨n, hn⟩ : ∃ n, m.toNat = n := ⟨_, rfl⟩
    rw [hA, hn] at HLD hrd h64
    have hn2 : 2 ≤ n ∧ n ≤ 2048 := by omega
    obtain ⟨l0, hl0⟩ : ∃ l0, L.D.alls A n = l0 := ⟨_, rfl⟩
    have hll : l0.length = n := by rw [← hl0]; exact DV.alls_len _ _ _
    have hl1 : l0.drop 1 = L.D.logs A n := by rw [← hl0]; exact DV.alls_drop _ _ _
    have hg0 : ∀ (hh : 0 < l0.length), l0[0] = L.D.read A := fun hh => by subst hl0; exact DV.alls_at L.D A n 0 (by omega)
    rw [hl0] at HLD h64
    have HLD := Lib.hid HLD
    have HQ := Lib.hid (And.intro hrd (And.intro h64 (And.intro hll (And.intro hl1 (And.intro hg0 hn2)))))
    clear h hok hld hrd h1 h2 h3 h4 hN hA hn hl0 h64 hll hl1 hg0 hq hm
    go_enter Tryz.func30, Tryz.ntmps30
    go_wp2_with fail
    refine HLD.out.mono ?_
    rintro e w1 ⟨v, rfl, hnew⟩
    obtain ⟨a, cap, rfl, hc1, hc2⟩ := (OwnS.reads hnew.own).slice
    obtain ⟨g, off, rfl, hg, c0⟩ := Strs.at (OwnS.reads hnew.own) 0 (by rw [HQ.out.2.2.1]; have := HQ.out.2.2.2.2.2; omega)
    rw [HQ.out.2.2.2.2.1, Nat.add_zero] at c0
    have hbeh := Strs.behind (OwnS.reads hnew.own) 1 (by rw [HQ.out.2.2.1]; have := HQ.out.2.2.2.2.2; omega)
    rw [HQ.out.2.2.2.1] at hbeh
    have hll := HQ.out.2.2.1
    rw [hll] at hbeh hc1
    unfold maxLen at hc2
    have hrl : (L.D.read A).length = 64 := by
      have h0 : 0 < l0.length := by rw [hll]; have := HQ.out.2.2.2.2.2; omega
      rw [← HQ.out.2.2.2.2.1 h0]; exact HQ.out.2.1 _ (List.getElem_mem h0)
    have hlg64 : ∀ s ∈ L.D.logs A n, s.length = 64 := fun s hs => by rw [← HQ.out.2.2.2.1] at hs; exact HQ.out.2.1 s (List.mem_of_mem_drop hs)
    have hlgl : (L.D.logs A n).length ≤ 65535 := by unfold DV.logs; rw [List.length_map, List.length_range]; have := HQ.out.2.2.2.2.2; omega
    have HG := Lib.hid (fun W => generation_any (L.D.read A) W hrl)
    have HW := Lib.hid (fun v (W : World) (hv : Strs W v (L.D.logs A n)) => whole_any v _ W hv hlg64 hlgl)
    have HN := Lib.hid (And.intro hnew hbeh)
    have hn2 := HQ.out.2.2.2.2.2
    obtain ⟨s0, hs0⟩ : ∃ s0, L.D.read A = s0 := ⟨_, rfl⟩
    rw [hs0] at c0 HG
    have HS0 := Lib.hid hs0
    rw [hll]
    have h0n : ¬ cap = 1 := by omega
    have hp1 : 0 < n := by omega
    have hp2 : (0 : Int) < (n : Int) := by omega
    have hp3 : 1 ≤ n := by omega
    have hp4 : (1 : Int) ≤ (n : Int) := by omega
    clear hnew hbeh hll hrl hlg64 hlgl hs0 HLD
    go_wp2_with fail
    refine wp_region_tail 6 3 (fun w' => w'.cell? ⟨g, off, none⟩ = some (.string (bs s0)) ∧ Frm (fun _ => False) w1 w') (by kernel_rfl) rfl rfl (by kernel_rfl) (by kernel_rfl) (by kernel_rfl) (by kernel_rfl) (⟨c0, (Frm.refl _ w1).drew⟩) ?_
    repeat' first
      | (refine CanonL.skip (by rfl) ?_; (try simp only [Act.put, List.setIfInBounds_toArray, List.set_cons_zero, List.set_cons_succ]))
      | (refine CanonL.callQ (by rfl) (by rfl) ?_ HG ?_ ?_; (focus (intro w; go_simp; (try (with_reducible rfl)); done)); (focus (rintro w ww hs gg; exact ⟨dFrm_cell gg hs.1, hs.2.trans gg⟩)); (try simp only [Act.put, List.setIfInBounds_toArray, List.set_cons_zero, List.set_cons_succ]))
      | (refine CanonL.val (v := ?_) (by rfl) ?_ ?_; rotate_left 1; (focus (intro w hSw; (try dsimp only at hSw); go_simp; (try (with_reducible rfl)); done)); (try simp only [Act.put, List.setIfInBounds_toArray, List.set_cons_zero, List.set_cons_succ]))
    refine CanonL.done ?_
    intro w9 hS9
    obtain ⟨_, g9⟩ := hS9
    have hbeh : Strs w9 (.slice (some ⟨g, off + 1, none⟩) (n - 1) (cap - 1)) (L.D.logs A n) := by
      have := HN.out.2.keepF g9
      rw [if_neg h0n] at this
      exact this
    have HWH := Lib.hid (HW.out _ w9 hbeh)
    have G9 := Lib.hid (HN.out.1.frm.trans g9)
    clear hbeh g9 c0 h0n
    refine wpTail.cons rfl rfl (fun K hK => ?_)
    unfold Oper.wp execOp
    go_simp
    with_reducible refine HWH.out.mono ?_
    rintro e w10 ⟨v', rfl, hn10⟩
    have HN10 := Lib.hid hn10
    obtain ⟨a2, cap2, rfl, _, _⟩ := (OwnS.reads hn10.own).slice
    clear hn10 HWH
    refine hK _ _ ?_
    clear hK K
    try simp only [Act.put, List.setIfInBounds_toArray, List.set_cons_zero, List.set_cons_succ]
    refine wpTail.cons rfl rfl (fun K hK => ?_)
    unfold Oper.wp execOp
    go_simp
    refine hK _ _ ?_
    clear hK K
    try simp only [Act.put, List.setIfInBounds_toArray, List.set_cons_zero, List.set_cons_succ]
    refine wpTail.cons rfl rfl (fun K hK => ?_)
    unfold Oper.wp execOp
    go_simp
    refine hK _ _ ?_
    clear hK K
    try simp only [Act.put, List.setIfInBounds_toArray, List.set_cons_zero, List.set_cons_succ]
    refine wpTail.cons rfl rfl (fun K hK => ?_)
    unfold Oper.wp execOp
    go_simp
    refine hK _ _ ?_
    clear hK K
    try simp only [Act.put, List.setIfInBounds_toArray, List.set_cons_zero, List.set_cons_succ]
    refine wpTail.done ?_
    go_wp2_with fail
    go_ret3
    rw [HQ.out.1, HS0.out]
    exact ⟨_, rfl, HN10.out.own, fun g hg => Nat.le_trans G9.out.size (HN10.out.new g hg), G9.out.trans HN10.out.frm⟩
  · have hld : (ldR L q m).1 = [] ∧ ((ldR L q m).2 = 2 ∨ (ldR L q m).2 = 8) ∧ rdR L q m = (0, [], (ldR L q m).2) := by
      unfold ldR rdR
      by_cases hc : rgC L.D.n q m = 0
      · have hd : L.down = true := by
          cases hd : L.down
          · exact absurd ⟨hc, hd⟩ hok
          · rfl
        rw [if_pos hc, if_pos hd, if_pos hc, if_pos hd]
        exact ⟨rfl, .inr rfl, rfl⟩
      · rw [if_neg hc, if_neg hc]
        refine ⟨rfl, .inl ?_, rfl⟩
        show rgC L.D.n q m = 2
        unfold rgC at hc ⊢
        split
        · rfl
        · rename_i hn
          rw [if_neg hn] at hc
          exact absurd rfl hc
    obtain ⟨h1, h2, h3⟩ := hld
    rw [HANS.out] at h3
    obtain ⟨c, hc⟩ : ∃ c, (ldR L q m).2 = c := ⟨_, rfl⟩
    rw [h1, hc] at HLD
    rw [hc] at h2 h3
    have HLD := Lib.hid HLD
    have H3 := Lib.hid h3
    clear h hok h1 h3 hc hq hm
    rcases h2 with rfl | rfl
    all_goals
      go_enter Tryz.func30, Tryz.ntmps30
      go_wp2_with fail
      refine HLD.out.mono ?_
      rintro e w1 ⟨v, rfl, hnew⟩
      obtain ⟨a, cap, rfl, _, _⟩ := (OwnS.reads hnew.own).slice
      have HF := Lib.hid hnew.frm
      clear hnew HLD
      go_wp2_with fail
      go_ret3
      rw [H3.out]
      exact ⟨_, rfl, OwnS.nil_ _, (fun g hg => by cases hg), HF.out⟩
end Go.Proofs.YtdhnidmeeocajaaGreat
end
section
namespace Go.Proofs.YtdhnidmeeocajaaGreat
open Go.RowKit Go.Shelf

set_option maxRecDepth 100000 in
set_option maxHeartbeats 2000000 in
theorem refneeds_any (n : Nat) (w : World) (hn : n ≤ 1000000) :
    Calls Tryz.prog 22 #[.int .i64 (n : Nat)] w fun e w' => e = .returned (.int .i64 (needs n : Nat)) ∧ w = w' := by
  have hnb : needs n ≤ 1000001 := by unfold needs; omega
  have hnl : ∀ k, k < needs n ↔ k = 0 ∨ 58 * k < n := fun k => needs_lt k n
  have hnp := needs_pos n
  obtain ⟨m, hm⟩ : ∃ m, needs n = m := ⟨_, rfl⟩
  rw [hm] at hnb hnl hnp ⊢
  clear hm
  have HNL := Lib.hid hnl
  clear hnl
  go_enter Tryz.func22, Tryz.ntmps22
  go_wp2
  go_loop [3] (fun i => ∃ k : Nat, 1 ≤ k ∧ k ≤ m ∧ i = .int .i64 (k : Nat)) (fun i => m - (intOf i).toNat)
  case atStart => exact ⟨1, Nat.le_refl _, hnp, rfl⟩
  case round =>
    obtain ⟨k, hk1, hk, rfl⟩ := hrel
    have hw : IntKind.i64.wrap ((k : Int) * 58) = ((k * 58 : Nat) : Int) := by rw [IntWalk.i64_in _ (by omega)]; omega
    by_cases hlt : k * 58 < n
    · have hlti : ((k * 58 : Nat) : Int) < (n : Int) := by omega
      have hk2 : k + 1 ≤ m := (HNL.out k).2 (.inr (by omega))
      go_wp2
      go_round
      case rel => exact ⟨k + 1, by omega, hk2, by go_num⟩
      case measure => simp [intOf]; omega
    · have hlti : ¬ ((k * 58 : Nat) : Int) < (n : Int) := by omega
      have e : k = m := by
        have := (HNL.out k).1
        by_cases h : k < m
        · rcases this h with h | h <;> omega
        · omega
      subst e
      go_wp2
      go_ret
      exact ⟨rfl, rfl⟩
set_option maxRecDepth 100000 in
set_option maxHeartbeats 2000000 in
theorem refsame_any (v v2 : Value) (gs : List (List UInt8)) (w : World) (h : Strs w v gs) (h2 : Strs w v2 gs) :
    Calls Tryz.prog 43 #[v, v2] w fun e w' => e = .returned (.bool true) ∧ Frm (fun _ => False) w w' := by
  obtain ⟨a, cap, rfl, hc1, hc2⟩ := h.slice
  obtain ⟨a2, cap2, rfl, hd1, hd2⟩ := h2.slice
  unfold maxLen at hc2 hd2
  have H := Lib.hid (And.intro h h2)
  clear h h2
  go_enter Tryz.func43, Tryz.ntmps43
  go_wp2_with fail
  go_loopw [5] (fun i wr => ∃ k : Nat, k ≤ gs.length ∧ i = .int .i64 k ∧ Frm (fun _ => False) w wr) (fun i _ => gs.length - (intOf i).toNat)
  case atStart => exact ⟨0, Nat.zero_le _, rfl, Frm.refl _ _⟩
  case round =>
    obtain ⟨k, hk, rfl, gr⟩ := hrel
    by_cases hlt : k < gs.length
    · obtain ⟨g, off, rfl, _, c0⟩ := Strs.at (H.out.1.keepF gr) k hlt
      obtain ⟨g2, off2, rfl, _, c1⟩ := Strs.at (H.out.2.keepF gr) k hlt
      obtain ⟨s, hs⟩ : ∃ s, gs[k] = s := ⟨_, rfl⟩
      rw [hs] at c0 c1
      have hki : (k : Int) < (gs.length : Int) := by omega
      have hq : ((bs s).toList != (bs s).toList) = false := by simp
      clear hs
      go_wp2_with fail
      refine wp_region_canon (fun W => W.cell? ⟨g, off + k, none⟩ = some (.string (bs s)) ∧ W.cell? ⟨g2, off2 + k, none⟩ = some (.string (bs s)) ∧ Frm (fun _ => False) wr W) (by kernel_rfl) rfl (by kernel_rfl) (by kernel_rfl) (⟨c0, c1, (Frm.refl _ wr).drew⟩) ?_
      repeat' first
        | (refine CanonL.skip (by rfl) ?_; (try simp only [Act.put, List.setIfInBounds_toArray, List.set_cons_zero, List.set_cons_succ]))
        | (refine CanonL.val (v := ?_) (by rfl) ?_ ?_; rotate_left 1; (focus (intro w hSw; (try dsimp only at hSw); go_simp; (try (with_reducible rfl)); done)); (try simp only [Act.put, List.setIfInBounds_toArray, List.set_cons_zero, List.set_cons_succ]))
      refine CanonL.done ?_
      intro w9 hS9
      have G9 := Lib.hid (gr.trans hS9.2.2)
      clear hS9 c0 c1
      go_wp2_with fail
      go_roundw
      case rel => exact ⟨k + 1, by omega, by go_num, G9.out⟩
      case measure => simp [intOf]; omega
    · obtain rfl : k = gs.length := by omega
      have G9 := Lib.hid gr
      clear gr
      go_wp2_with fail
      go_ret
      exact ⟨rfl, G9.out⟩
end Go.Proofs.YtdhnidmeeocajaaGreat
end
section
namespace Go.Proofs.YtdhnidmeeocajaaGreat
open Go.RowKit Go.Shelf

set_option maxRecDepth 100000 in
set_option maxHeartbeats 4000000 in
theorem refthere_any (p r : Nat) (fp : Nat → Prop) (L : LV) (q m : Int) (w : World) (h : RLn w p r fp L) (hq : Z64 q) (hm : Z64 m) :
    Calls Tryz.prog 40 #[.pointer (some ⟨p, 0, none⟩), .int .i64 q, .int .i64 m] w fun e w' => e = .returned (.bool (decide (rgC L.D.n q m = 0))) ∧ w = w' := by
  have c0 := h.c0
  have hi := h.dok.hi
  obtain ⟨va, vb, hr⟩ := h.ref
  obtain ⟨a, cap, rfl, hc1, hc2⟩ := hr.firm.reads.slice
  rw [FRs_len] at hc1
  have e1 : (FRs L.D).length = L.D.n := FRs_len L.D
  have c1 : w.cell? ⟨r, 0, none⟩ = some (.slice a L.D.n cap) := by rw [← e1]; exact hr.blk.cell 0 rfl
  unfold maxLen at hc2
  obtain ⟨N, hN⟩ : ∃ N, L.D.n = N := ⟨_, rfl⟩
  rw [hN] at c1 hi hc1 ⊢
  unfold Z64 at hq hm
  clear h hr e1 hN
  have no : (q < 0 ∨ m < 2 ∨ 65536 < m ∨ (N : Int) - m < q) → decide (rgC N q m = 0) = false := fun h => decide_eq_false (by unfold rgC; rw [if_pos h]; decide)
  have yes : ¬ (q < 0 ∨ m < 2 ∨ 65536 < m ∨ (N : Int) - m < q) → decide (rgC N q m = 0) = true := fun h => decide_eq_true (by unfold rgC; rw [if_neg h])
  by_cases h1 : 0 ≤ q
  · by_cases h2 : 2 ≤ m
    · by_cases h3 : m ≤ 65536
      · by_cases h4 : q ≤ (N : Int)
        · have hs : IntKind.i64.wrap ((N : Int) - q) = (N : Int) - q := IntWalk.i64_in _ (by omega)
          by_cases h5 : m ≤ (N : Int) - q
          · rw [yes (by omega)]
            clear no yes
            go_enter Tryz.func40, Tryz.ntmps40
            go_wp2_with fail
            go_ret
            exact ⟨rfl, rfl⟩
          · rw [no (by omega)]
            clear no yes
            go_enter Tryz.func40, Tryz.ntmps40
            go_wp2_with fail
            go_ret
            exact ⟨rfl, rfl⟩
        · rw [no (by omega)]
          clear no yes
          go_enter Tryz.func40, Tryz.ntmps40
          go_wp2_with fail
          go_ret
          exact ⟨rfl, rfl⟩
      · rw [no (by omega)]
        clear no yes
        go_enter Tryz.func40, Tryz.ntmps40
        go_wp2_with fail
        go_ret
        exact ⟨rfl, rfl⟩
    · rw [no (by omega)]
      clear no yes
      go_enter Tryz.func40, Tryz.ntmps40
      go_wp2_with fail
      go_ret
      exact ⟨rfl, rfl⟩
  · rw [no (by omega)]
    clear no yes
    go_enter Tryz.func40, Tryz.ntmps40
    go_wp2_with fail
    go_ret
    exact ⟨rfl, rfl⟩
end Go.Proofs.YtdhnidmeeocajaaGreat
end
