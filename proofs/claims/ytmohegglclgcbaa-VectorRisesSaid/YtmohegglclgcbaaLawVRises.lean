/- VectorRises: what the law's call answers. Of any moves. No condition. -/
import Derived.Test.YtmohegglclgcbaaRisesW
import Derived.Test.YtmohegglclgcbaaLawVJoins
import Derived.Deep.DeepCutAuto
import Derived.Deep.RegionHeld
import Derived.Deep.RegionHeld3
namespace Go.Proofs.Ytmohegglclgcbaa
open Go.RowKit

theorem rHas (f : Nat → Nat) (r n : Nat) (q : Bool) (hr : r < 256) (hn : n < 4294967296) (h : has8 f r n = q) : Ans 14 #[.agg (vv f), .agg (dv r n)] (.bool q) := Lib.hid fun w => by
  rw [← h]; exact has_any f r n w hr hn
set_option maxRecDepth 100000 in
set_option maxHeartbeats 40000000 in
theorem vectorRises_any (v : Value) (L : List MoveI) (w : World) (h : Mv w v L) :
    Calls Try.prog 4 #[v] w fun e w' => e = .returned (.bool true) ∧ Frm (fun _ => False) w w' := by
  obtain ⟨a, cap, rfl, hc1, hc2, hcells⟩ := id h
  unfold maxLen at hc2
  clear hcells
  go_enter Try.func4, Try.ntmps4
  by_cases hfew : L.length ≤ 60
  · have h60 : (L.length : Int) ≤ 60 := by omega
    have q0 := (Blk.alloc w 38 (Array.replicate 40 (.int .u32 0))).old (.cells Try.zeroCells40 40)
    have q1 := Blk.alloc (w.alloc (.cells (Array.replicate 40 (.int .u32 0)) 38)) 40 Try.zeroCells40
    have g0 : Frm (fun _ => False) w ((w.alloc (.cells (Array.replicate 40 (.int .u32 0)) 38)).alloc (.cells Try.zeroCells40 40)) := ((Frm.refl _ w).alloc _).alloc _
    have z1 : (w.alloc (.cells (Array.replicate 40 (.int .u32 0)) 38)).heap.size = w.heap.size + 1 := by simp
    rw [z1] at q1
    go_upto_region 6 with fail
    have a0 := AllC.start q0
    have a1 := HasC.start q1
    have hm := h.keep g0 (fun _ _ h => h)
    have eR : (List.toArray (.int .u32 0 :: (.int .u32 0 :: (.int .u32 0 :: (.int .u32 0 :: (.int .u32 0 :: (.int .u32 0 :: (.int .u32 0 :: (.int .u32 0 :: (.int .u32 0 :: (.int .u32 0 :: (.int .u32 0 :: (.int .u32 0 :: (.int .u32 0 :: (.int .u32 0 :: (.int .u32 0 :: (.int .u32 0 :: (.int .u32 0 :: (.int .u32 0 :: (.int .u32 0 :: (.int .u32 0 :: (.int .u32 0 :: (.int .u32 0 :: (.int .u32 0 :: (.int .u32 0 :: (.int .u32 0 :: (.int .u32 0 :: (.int .u32 0 :: (.int .u32 0 :: (.int .u32 0 :: (.int .u32 0 :: (.int .u32 0 :: (.int .u32 0 :: (.int .u32 0 :: (.int .u32 0 :: (.int .u32 0 :: (.int .u32 0 :: (.int .u32 0 :: (.int .u32 0 :: (.int .u32 0 :: (.int .u32 0 :: [])))))))))))))))))))))))))))))))))))))))) : Array Value) = Array.replicate 40 (.int .u32 0) := rfl
    rw [eR]
    obtain ⟨w0, hw0⟩ : ∃ w0, (w.alloc (.cells (Array.replicate 40 (.int .u32 0)) 38)).alloc (.cells Try.zeroCells40 40) = w0 := ⟨_, rfl⟩
    rw [hw0] at a0 a1 g0 hm ⊢
    clear hw0
    obtain ⟨A, hA⟩ : ∃ A, w.heap.size = A := ⟨_, rfl⟩
    have HA := Lib.hid hA
    rw [hA] at a0 a1 ⊢
    clear q0 q1 z1 hA eR
    go_wp2_with fail
    go_loopw [5, 6] (fun u i wr => ∃ k : Nat, k ≤ L.length ∧ i = .int .i64 k ∧ ∃ V H D, Ris V H D ∧ D.length ≤ k ∧ AllC wr A V ∧ HasC wr (A + 1) H ∧ OwnM wr u D ∧ (∀ g, u.ownBlock = some g → A + 2 ≤ g) ∧ Frm (fun _ => False) w wr) (fun _ i _ => L.length - (intOf i).toNat)
    case atStart => exact ⟨0, Nat.zero_le _, rfl, _, _, [], Ris.start, Nat.le_refl _, a0, a1, Row.nil_ _ _, fun g hg => by (cases hg), g0⟩
    case round =>
      clear a0 a1 g0 hm
      obtain ⟨k, hk, rfl, V, H, D, hr, hlen, a0, a1, o, hn, g⟩ := hrel
      have HR := Lib.hid hr
      clear hr
      by_cases hlt : k < L.length
      · obtain ⟨a', cap', e', _, _, hcells⟩ := h.keep g (fun _ _ h => h)
        cases e'
        obtain ⟨bb, off, rfl, hbl, c0, c1, c2, b1, b2⟩ := hcells k hlt
        clear hcells
        have hk0 : (0 : Int) ≤ (k : Int) := by omega
        have hki : (k : Int) < (L.length : Int) := by omega
        generalize L[k].who = p at *
        generalize L[k].frm = q at *
        obtain ⟨x, hx⟩ : ∃ x, p % 5 = x := ⟨_, rfl⟩
        obtain ⟨y, hy⟩ : ∃ y, q % 5 = y := ⟨_, rfl⟩
        have hx5 : x < 5 := by omega
        have hy5 : y < 5 := by omega
        have t1 : (p : Int) % 5 = (x : Int) := by omega
        have t1' : (p : Int).tmod 5 = (x : Int) := by rw [Int.tmod_eq_emod_of_nonneg (by omega)]; omega
        have t2 : (q : Int) % 5 = (y : Int) := by omega
        have t2' : (q : Int).tmod 5 = (y : Int) := by rw [Int.tmod_eq_emod_of_nonneg (by omega)]; omega
        have t3 : IntKind.i64.wrap (x : Int) = (x : Int) := by rw [IntKind.wrap_i64]; omega
        have t4 : IntKind.i64.wrap (y : Int) = (y : Int) := by rw [IntKind.wrap_i64]; omega
        clear hx hy b1 b2
        go_upto_region 9 with fail
        refine wp_region_canon (fun w' => w'.cell? ⟨bb, off + k * 3, none⟩ = some (.int .u8 p) ∧ w'.cell? ⟨bb, off + k * 3 + 1, none⟩ = some (.int .u8 q) ∧ wr.drew = w') (by kernel_rfl) rfl (by kernel_rfl) (by kernel_rfl) (⟨c0, c1, rfl⟩) ?_
        repeat' first
          | (refine CanonL.skip (by rfl) ?_; (try simp only [Act.put, List.setIfInBounds_toArray, List.set_cons_zero, List.set_cons_succ]))
          | (refine CanonL.val (v := ?_) (by rfl) ?_ ?_; rotate_left 1; (focus (intro w hSw; (try dsimp only at hSw); go_simp; (try (with_reducible rfl)); done)); (try simp only [Act.put, List.setIfInBounds_toArray, List.set_cons_zero, List.set_cons_succ]))
        refine CanonL.done ?_
        intro w9 hS9
        obtain ⟨_, _, rfl⟩ := hS9
        clear c0 c1 t1 t1' t2 t2' t3 t4
        have a0 : AllC wr.drew A V := a0
        have a1 : HasC wr.drew (A + 1) H := a1
        have c2 : wr.drew.cell? ⟨bb, off + k * 3 + 2, none⟩ = some (.bool L[k].joins) := c2
        have o : OwnM wr.drew _ D := o
        have g : Frm (fun _ => False) w wr.drew := g.drew
        obtain ⟨w1, hw1⟩ : ∃ w1, wr.drew = w1 := ⟨_, rfl⟩
        rw [hw1] at a0 a1 c2 o g ⊢
        clear hw1
        have hx0 : (0 : Int) ≤ (x : Int) := by omega
        have hxi : (x : Int) < 5 := by omega
        have hy0 : (0 : Int) ≤ (y : Int) := by omega
        have hyi : (y : Int) < 5 := by omega
        cases hJ : L[k].joins with
        | true =>
          rw [hJ] at c2
          have J := fJoin (V x) (V y)
          go_upto_region 11 with fail
          refine wp_region_root (fun w' => (Instr.loadAt 24 (.pointer (some ⟨A, x * 8, none⟩))).run Try.prog w' = .ok (.agg (vv (V x))) w' ∧ (Instr.loadAt 24 (.pointer (some ⟨A, y * 8, none⟩))).run Try.prog w' = .ok (.agg (vv (V y))) w' ∧ AllC w' A V ∧ Frm (fun _ => False) w1 w') (by kernel_rfl) rfl rfl (by kernel_rfl) (by kernel_rfl) (by kernel_rfl) (⟨a0.drew.load x hx5, a0.drew.load y hy5, a0, (Frm.refl _ w1).drew⟩) ?_
          repeat' first
            | (refine CanonL.skip (by rfl) ?_; (try simp only [Act.put, List.setIfInBounds_toArray, List.set_cons_zero, List.set_cons_succ]))
            | (refine CanonL.callQ (by rfl) (by rfl) ?_ J ?_ ?_; (focus (intro w; go_simp; (try (with_reducible rfl)); done)); (focus (rintro w ww hs gg; exact (by obtain ⟨h1, h2, h3, h4⟩ := hs; exact ⟨(h3.keep gg (fun h => h)).load x hx5, (h3.keep gg (fun h => h)).load y hy5, h3.keep gg (fun h => h), h4.trans gg⟩))); (try simp only [Act.put, List.setIfInBounds_toArray, List.set_cons_zero, List.set_cons_succ]))
            | (refine CanonL.load (by rfl) _ (by rfl) (by rfl) (fun w hs => hs.1) ?_; (try simp only [Act.put, List.setIfInBounds_toArray, List.set_cons_zero, List.set_cons_succ]))
            | (refine CanonL.load (by rfl) _ (by rfl) (by rfl) (fun w hs => hs.2.1) ?_; (try simp only [Act.put, List.setIfInBounds_toArray, List.set_cons_zero, List.set_cons_succ]))
            | (refine CanonL.val (v := ?_) (by rfl) ?_ ?_; rotate_left 1; (focus (intro w hSw; (try dsimp only at hSw); go_simp; (try (with_reducible rfl)); done)); (try simp only [Act.put, List.setIfInBounds_toArray, List.set_cons_zero, List.set_cons_succ]))
          refine CanonL.done ?_
          intro w9 hS9
          obtain ⟨_, _, a2, g2⟩ := hS9
          clear J
          have hasg := a1.keep g2 (fun h => h)
          have o := o.keep g2 (fun _ _ h => h)
          refine AllC.wpOp_store rfl rfl rfl _ _ rfl x (jn8 (V x) (V y)) a2 hx5 rfl rfl ?_
          intro w2 a3 g3
          have hasg := hasg.keep g3 (by omega)
          have o := o.keep g3 (fun q e => by have := hn q e; omega)
          have g4 : Frm (fun _ => False) w w2 := (g.trans g2).next g3 (fun j hj h => by have := HA.out; omega)
          clear a0 a1 g g2 a2 g3 c2
          go_wp2_with fail
          go_loopw [9] (fun j wq => ∃ t : Nat, t ≤ 60 ∧ j = .int .i64 t ∧ HasC wq (A + 1) (updH H x fun s => if s < t then (H x s || H y s) else H x s) ∧ AllC wq A (updV V x (jn8 (V x) (V y))) ∧ OwnM wq u5 D ∧ Frm (fun _ => False) w wq) (fun j _ => 60 - (intOf j).toNat)
          case atStart => exact ⟨0, by omega, rfl, by rw [updH_zero]; exact hasg, a3, o, g4⟩
          case round =>
            clear hasg a3 o g4
            obtain ⟨t, ht, rfl, b1, b0, bo, bg⟩ := hrel
            by_cases hl : t < 60
            · have ht0 : (0 : Int) ≤ (t : Int) := by omega
              have hti : (t : Int) < 60 := by omega
              have cx := (b1 x hx5 t hl).1
              have cy := (b1 y hy5 t hl).1
              rw [updH_at] at cx cy
              cases hxt : H x t
              all_goals rw [hxt] at cx
              · go_upto_region 15 with fail
                refine wp_region_root (fun w' => w'.cell? ⟨A + 1, x * 60 + t, none⟩ = some (.bool false) ∧ w'.cell? ⟨A + 1, y * 60 + t, none⟩ = some (.bool (H y t)) ∧ wr.drew = w') (by kernel_rfl) rfl rfl (by kernel_rfl) (by kernel_rfl) (by kernel_rfl) (⟨cx, cy, rfl⟩) ?_
                repeat' first
                  | (refine CanonL.skip (by rfl) ?_; (try simp only [Act.put, List.setIfInBounds_toArray, List.set_cons_zero, List.set_cons_succ]))
                  | (refine CanonL.val (v := ?_) (by rfl) ?_ ?_; rotate_left 1; (focus (intro w hSw; (try dsimp only at hSw); go_simp; (try (with_reducible rfl)); done)); (try simp only [Act.put, List.setIfInBounds_toArray, List.set_cons_zero, List.set_cons_succ]))
                refine CanonL.done ?_
                intro w9 hS9
                obtain ⟨_, _, rfl⟩ := hS9
                refine HasC.wpOp_store rfl rfl rfl _ _ rfl x t (H y t) b1.drew hx5 hl rfl rfl ?_
                intro w3 b2 g5
                rw [updH_step _ _ _ _ _ (by rw [hxt]; rfl)] at b2
                have b3 : AllC w3 A (updV V x (jn8 (V x) (V y))) := b0.drew.keep g5 (by omega)
                have bo3 : OwnM w3 u5 D := Row.keep (Row.drew bo) g5 (fun q e => by have := hn q e; omega)
                have bg3 : Frm (fun _ => False) w w3 := bg.drew.next g5 (fun j hj h => by have := HA.out; omega)
                go_wp2_with fail
                go_roundw
                case rel => exact ⟨t + 1, by omega, by go_num, b2, b3, bo3, bg3⟩
                case measure => simp [intOf]; omega
              · go_upto_region 15 with fail
                refine wp_region_root (fun w' => w'.cell? ⟨A + 1, x * 60 + t, none⟩ = some (.bool true) ∧ w'.cell? ⟨A + 1, y * 60 + t, none⟩ = some (.bool (H y t)) ∧ wr.drew = w') (by kernel_rfl) rfl rfl (by kernel_rfl) (by kernel_rfl) (by kernel_rfl) (⟨cx, cy, rfl⟩) ?_
                repeat' first
                  | (refine CanonL.skip (by rfl) ?_; (try simp only [Act.put, List.setIfInBounds_toArray, List.set_cons_zero, List.set_cons_succ]))
                  | (refine CanonL.val (v := ?_) (by rfl) ?_ ?_; rotate_left 1; (focus (intro w hSw; (try dsimp only at hSw); go_simp; (try (with_reducible rfl)); done)); (try simp only [Act.put, List.setIfInBounds_toArray, List.set_cons_zero, List.set_cons_succ]))
                refine CanonL.done ?_
                intro w9 hS9
                obtain ⟨_, _, rfl⟩ := hS9
                refine HasC.wpOp_store rfl rfl rfl _ _ rfl x t true b1.drew hx5 hl rfl rfl ?_
                intro w3 b2 g5
                rw [updH_step _ _ _ _ _ (by rw [hxt]; rfl)] at b2
                have b3 : AllC w3 A (updV V x (jn8 (V x) (V y))) := b0.drew.keep g5 (by omega)
                have bo3 : OwnM w3 u5 D := Row.keep (Row.drew bo) g5 (fun q e => by have := hn q e; omega)
                have bg3 : Frm (fun _ => False) w w3 := bg.drew.next g5 (fun j hj h => by have := HA.out; omega)
                go_wp2_with fail
                go_roundw
                case rel => exact ⟨t + 1, by omega, by go_num, b2, b3, bo3, bg3⟩
                case measure => simp [intOf]; omega
            · obtain rfl : t = 60 := by omega
              go_wp2_with fail
              go_roundw
              case rel => exact ⟨k + 1, by omega, by go_num, _, _, D, HR.out.join hx5 hy5, by omega, b0, b1.congr (fun z _ s hs => updH_end H x _ s hs z), bo, hn, bg⟩
              case measure => simp [intOf]; omega
        | false =>
          rw [hJ] at c2
          have hmx := HR.out.mx_le hx5
          have hD : D.length < 60 := by omega
          have hfit : Fit8 (V x) := fun r hr => by have := HR.out.small x hx5 r hr; omega
          have hN : nextS8 (V x) x = (upd8 (V x) x (mx (V x) 8 + 1), (x, mx (V x) 8 + 1), 0) := by
            unfold nextS8
            rw [if_neg (by omega), if_neg (by omega)]
          have N0 := fNext (V x) x hfit (by omega)
          rw [hN] at N0
          have HMX := Lib.hid hmx
          obtain ⟨n, hn1⟩ : ∃ n, mx (V x) 8 + 1 = n := ⟨_, rfl⟩
          have HN1 := Lib.hid hn1
          rw [hn1] at N0
          obtain ⟨vn, hvn⟩ : ∃ vn, upd8 (V x) x n = vn := ⟨_, rfl⟩
          have HVN := Lib.hid hvn
          rw [hvn] at N0
          clear hfit hN hmx hn1 hvn
          obtain ⟨ua, uc, rfl, _, _⟩ := Row.slice o
          have t5 : IntKind.u8.wrap (x : Int) = (x : Int) := by rw [IntKind.wrap_u8]; omega
          have t3 : IntKind.i64.wrap (x : Int) = (x : Int) := by rw [IntKind.wrap_i64]; omega
          have lx := a0.load x hx5
          go_upto_region 16 with fail
          go_wp2_with ((with_reducible refine wpl_load rfl _ rfl ?_ lx ?_); (focus rfl))
          refine (N0.out _).mono ?_
          rintro e w2 ⟨rfl, g2⟩
          clear lx N0 t5 c2
          have a2 := a0.keep g2 (fun h => h)
          have b2 := a1.keep g2 (fun h => h)
          have o2 := o.keep g2 (fun _ _ h => h)
          have k2 := g.trans g2
          clear a0 a1 o g g2
          have n7 : Blk ((w2.alloc (.cells vz 24)).alloc (.cells dz 27)) w2.heap.size 24 vz := (Blk.alloc w2 _ _).old _
          have n8 : Blk ((w2.alloc (.cells vz 24)).alloc (.cells dz 27)) (w2.heap.size + 1) 27 dz := Blk.at1 w2 _ _ _
          have m1 : Frm (fun _ => False) w2 ((w2.alloc (.cells vz 24)).alloc (.cells dz 27)) := ((Frm.refl _ w2).alloc _).alloc _
          go_upto_region 17 with (first
            | ((with_reducible refine wpl_store_vec rfl _ _ rfl w2.heap.size vn vz ?_ ?_ n7 rfl ?_); (focus rfl); (focus rfl); intro w11 e7 g3 z2; have m8 := n8.keep g3 (by omega); have m2 := m1.next (X := fun _ => False) g3 (fun k hk h => by omega))
            | ((with_reducible refine wpl_store_dot rfl _ _ rfl (w2.heap.size + 1) x n dz ?_ ?_ m8 rfl ?_); (focus rfl); (focus rfl); intro w4 e8 g4 z3; have e7' := e7.keep g4 (by omega); have m3 := m2.next (X := fun _ => False) g4 (fun k hk h => by omega)))
          have a4 := a2.keep m3 (fun h => h)
          have b4 := b2.keep m3 (fun h => h)
          have o4 := o2.keep m3 (fun _ _ h => h)
          have k4 := k2.trans m3
          obtain ⟨B, hB⟩ : ∃ B, w2.heap.size = B := ⟨_, rfl⟩
          have hBA : A + 2 ≤ B := by have := k2.size; have := b2.lt; omega
          rw [hB] at e7' e8 ⊢
          have hnB : ∀ g, (Value.slice ua D.length uc).ownBlock = some g → g < B := fun g e => by have := o2.blk g e; omega
          clear a2 b2 o2 k2 n7 n8 m1 e7 g3 z2 m8 m2 g4 z3 m3 hB
          have x0 := e8.cell 0 rfl
          have hD0 : (0 : Int) ≤ (D.length : Int) := by omega
          have hDi : (D.length : Int) < 60 := by omega
          go_upto_region 20 with ((with_reducible refine HasC.wpl_store rfl _ _ rfl x D.length true b4 hx5 hD ?_ ?_ ?_); (focus rfl); (focus rfl); intro w5 b5 g5)
          try simp only [Act.put]
          have a5 := a4.keep g5 (by omega)
          have o5 := o4.keep g5 (fun q e => by have := hn q e; omega)
          have k5 := k4.next g5 (fun j hj h => by have := HA.out; omega)
          have e7 := e7'.keep g5 (by omega)
          have e9 := e8.keep g5 (by omega)
          clear a4 b4 o4 k4 e7' e8 x0 g5
          obtain ⟨X, hX⟩ : ∃ X : Nat → Prop, X = fun j => (Value.slice ua D.length uc).ownBlock = some j := ⟨_, rfl⟩
          have hXA : ¬ X A := by rw [hX]; intro h; have := hn _ h; omega
          have hXA1 : ¬ X (A + 1) := by rw [hX]; intro h; have := hn _ h; omega
          have hXB : ¬ X B := by rw [hX]; intro h; have := hnB _ h; omega
          have hXB1 : ¬ X (B + 1) := by rw [hX]; intro h; have := hnB _ h; omega
          refine wp_region_held_drew (S := fun w' : World => (Instr.loadAt 27 (.pointer (some ⟨B + 1, 0, none⟩))).run Try.prog w' = .ok (.agg (dv x n)) w' ∧ (Instr.loadAt 24 (.pointer (some ⟨A, x * 8, none⟩))).run Try.prog w' = .ok (.agg (vv (V x))) w' ∧ Frm X w5 w') (by kernel_rfl) ⟨load_dot e9.drew, a5.drew.load x hx5, (Frm.refl _ w5).drew⟩ (fun hHeld => ?_)
          refine wpAnyH_take (i := 0) (v := ?_) rfl (by kernel_rfl) (by kernel_rfl) (by kernel_rfl) (fun _ _ _ h => h) ?z0 (by assumption) ?_
          case z0 => exact Or.inl ⟨by rfl, by (intro w hSw; go_simp; (try (with_reducible rfl)))⟩
          try simp only [Act.put, List.getElem_toArray, List.getElem_cons_zero, List.setIfInBounds_toArray, List.set_cons_zero, List.set_cons_succ]
          refine wpAnyH_take (i := 1) (v := .agg (dv x n)) rfl (by kernel_rfl) (by kernel_rfl) (by kernel_rfl) (fun _ _ _ h => h) ?z1 (by assumption) ?_
          case z1 => (refine yieldsIf_load (by rfl) _ (by rfl) ?_ (fun w hs => hs.1); rfl)
          try simp only [Act.put, List.getElem_toArray, List.getElem_cons_zero, List.getElem_cons_succ, List.setIfInBounds_toArray, List.set_cons_zero, List.set_cons_succ]
          refine wpAnyH_take (i := 2) (v := ?_) rfl (by kernel_rfl) (by kernel_rfl) (by kernel_rfl) (fun _ _ _ h => h) ?z2 (by assumption) ?_
          case z2 => exact Or.inl ⟨by rfl, by (intro w hSw; go_simp; (try (with_reducible rfl)))⟩
          try simp only [Act.put, List.getElem_toArray, List.getElem_cons_zero, List.getElem_cons_succ, List.setIfInBounds_toArray, List.set_cons_zero, List.set_cons_succ]
          refine wpAnyH_take (i := 3) (v := ?_) rfl (by kernel_rfl) (by kernel_rfl) (by kernel_rfl) (fun _ _ _ h => h) ?z3 (by assumption) ?_
          case z3 => exact Or.inl ⟨by rfl, by (intro w hSw; go_simp; (try (with_reducible rfl)))⟩
          try simp only [Act.put, List.getElem_toArray, List.getElem_cons_zero, List.getElem_cons_succ, List.setIfInBounds_toArray, List.set_cons_zero, List.set_cons_succ]
          refine wpAnyH_take (i := 4) (v := .agg (vv (V x))) rfl (by kernel_rfl) (by kernel_rfl) (by kernel_rfl) (fun _ _ _ h => h) ?z4 (by assumption) ?_
          case z4 => (refine yieldsIf_load (by rfl) _ (by rfl) ?_ (fun w hs => hs.2.1); rfl)
          try simp only [Act.put, List.getElem_toArray, List.getElem_cons_zero, List.getElem_cons_succ, List.setIfInBounds_toArray, List.set_cons_zero, List.set_cons_succ]
          refine wpAnyH_take (i := 5) (v := ?_) rfl (by kernel_rfl) (by kernel_rfl) (by kernel_rfl) (fun _ _ _ h => h) ?z5 (by assumption) ?_
          case z5 => exact Or.inl ⟨by rfl, by (intro w hSw; go_simp; (try (with_reducible rfl)))⟩
          try simp only [Act.put, List.getElem_toArray, List.getElem_cons_zero, List.getElem_cons_succ, List.setIfInBounds_toArray, List.set_cons_zero, List.set_cons_succ]
          refine wpAnyH_all (rs := [6]) (by kernel_rfl) (by simp) ?_
          intro i hi
          obtain rfl : i = 6 := by simpa using hi
          clear hi
          refine wpOp_plain rfl rfl ?_
          refine wp_slice_made 104 rfl ⟨x, n, V x⟩ rfl ?_
          have f6 : Frm (fun _ => False) w5 (w5.drew.alloc (.cells (mkc ⟨x, n, V x⟩).toArray 45)) := ((Frm.refl _ w5).drew).alloc _
          have s6 := Sl.built mkc mkc_len w5.drew 45 ⟨x, n, V x⟩ (mkc ⟨x, n, V x⟩).toArray (by simp)
          have o6 := Row.keep o5 f6 (fun _ _ h => h)
          generalize w5.drew.alloc (.cells (mkc ⟨x, n, V x⟩).toArray 45) = w6 at *
          have f6X : Frm X w5 w6 := f6.mono (fun _ _ h => h.elim)
          refine ⟨⟨load_dot (e9.keep f6 (fun h => h)), (a5.keep f6 (fun h => h)).load x hx5, f6X⟩, ?_⟩
          obtain ⟨v', w7, hrun, o7, gr, nb⟩ := append_mks w6 _ _ D [⟨x, n, V x⟩] o6 s6 (by simp; omega)
          have f7 : Frm X w5 w7 := f6X.grown gr (fun j _ e => by rw [hX]; exact e)
          have n7 : ∀ g, v'.ownBlock = some g → A + 2 ≤ g := fun g e => (nb g e).elim (fun e => hn g e) (fun e => by have := f6.size; have := e7.lt; omega)
          clear o5 o6 s6 hHeld gr nb f6
          simp only [Act.put, List.getElem_toArray, List.getElem_cons_zero, List.getElem_cons_succ, List.setIfInBounds_toArray, List.set_cons_zero, List.set_cons_succ]
          refine wpAnyH_all (rs := [7]) (by kernel_rfl) (by simp) ?_
          intro i hi
          obtain rfl : i = 7 := by simpa using hi
          clear hi
          refine append_step rfl rfl (.tmp 99) (.tmp 105) 41 41 rfl _ _ ?h1 ?h2 v' w7 hrun ?_
          case h1 => rfl
          case h2 => rfl
          have e9' := e9.keep f7 hXB1
          have a7 := a5.keep f7 hXA
          refine ⟨⟨load_dot e9', a7.load x hx5, f7⟩, ?_⟩
          try simp only [Act.put, List.getElem_toArray, List.getElem_cons_zero, List.getElem_cons_succ, List.setIfInBounds_toArray, List.set_cons_zero, List.set_cons_succ]
          refine wpAnyH_take (i := 8) (v := v') rfl (by kernel_rfl) (by kernel_rfl) (by kernel_rfl) (fun _ _ _ h => h) ?z8 ⟨load_dot e9', a7.load x hx5, f7⟩ ?_
          case z8 => exact Or.inl ⟨by rfl, fun w hSw => by rfl⟩
          try simp only [Act.put, List.getElem_toArray, List.getElem_cons_zero, List.getElem_cons_succ, List.setIfInBounds_toArray, List.set_cons_zero, List.set_cons_succ]
          refine wpAnyH_done (by kernel_rfl) ?_ _
          have b7 := b5.keep f7 hXA1
          have lB := load_vec (e7.keep f7 hXB)
          have k7 : Frm (fun _ => False) w w7 := k5.next f7 (fun j hj h => by rw [hX] at h; have := hn _ h; have := HA.out; omega)
          clear hrun a5 b5 e7 e9 e9' f7 hXA hXA1 hXB hXB1 hnB hX k5
          go_wp2_with (first
            | ((with_reducible refine wpl_load rfl _ rfl ?_ lB ?_); (focus rfl))
            | ((with_reducible refine AllC.wpl_store rfl _ _ rfl x vn a7 hx5 ?_ ?_ ?_); (focus rfl); (focus rfl); intro w8 a8 g8))
          go_roundw
          case rel =>
            refine ⟨k + 1, by omega, by go_num, updV V x vn, _, D ++ [⟨x, n, V x⟩], (by have h := HR.out.next hx5; rw [HN1.out, HVN.out] at h; exact h), by simp; omega, a8, b7.keep g8 (by omega), o7.keep g8 (fun g e => by have := n7 g e; omega), n7, k7.next g8 (fun j hj h => by have := HA.out; omega)⟩
          case measure => simp [intOf]; omega
      · obtain rfl : k = L.length := by omega
        have hD60 : D.length ≤ 60 := by omega
        obtain ⟨ua, uc, rfl, hu1, hu2⟩ := Row.slice o
        unfold maxLen at hu2
        go_wp2_with fail
        obtain ⟨wo, rfl⟩ : ∃ wo : World, wo = wr := ⟨_, rfl⟩
        have hreads : ∀ W, Frm (fun _ => False) wo W → ∀ j (hj : j < D.length), ∃ B, ua = some ⟨B, 0, none⟩ ∧ W.cell? ⟨B, j * 10 + 1, none⟩ = some (.int .u32 D[j].n) ∧
            (Instr.loadAt 24 (.pointer (some ⟨B, j * 10 + 2, none⟩))).run Try.prog W = .ok (.agg (vv D[j].k)) W ∧ (Instr.loadAt 27 (.pointer (some ⟨B, j * 10, none⟩))).run Try.prog W = .ok (.agg (dv D[j].r D[j].n)) W := by
          intro W hW j hj
          obtain ⟨B, c, e, _, _, _, c1, c2, c3⟩ := (o.keep hW (fun _ _ h => h)).reads j hj
          cases e
          exact ⟨B, rfl, c1, c2, c3⟩
        have HRD := Lib.hid hreads
        have a1' := Lib.hid a1
        clear hreads o h
        go_loopw [13] (fun i wq => ∃ m : Nat, m ≤ D.length ∧ i = .int .i64 m ∧ Frm (fun _ => False) wo wq) (fun i _ => D.length - (intOf i).toNat)
        case atStart => exact ⟨0, Nat.zero_le _, rfl, Frm.refl _ _⟩
        case round =>
          obtain ⟨m, hm0, rfl, k1⟩ := hrel
          by_cases hm : m < D.length
          · have hmi0 : (0 : Int) ≤ (m : Int) := by omega
            have hmi : (m : Int) < (D.length : Int) := by omega
            obtain ⟨w1, rfl⟩ : ∃ w1 : World, w1 = wr := ⟨_, rfl⟩
            go_wp2_with fail
            go_loopw [14] (fun i wq => ∃ t : Nat, t ≤ D.length ∧ i = .int .i64 t ∧ Frm (fun _ => False) w1 wq) (fun i _ => D.length - (intOf i).toNat)
            case atStart => exact ⟨0, Nat.zero_le _, rfl, Frm.refl _ _⟩
            case round =>
              obtain ⟨t, ht0, rfl, k2⟩ := hrel
              have k3 := k1.trans k2
              by_cases ht : t < D.length
              · have hti0 : (0 : Int) ≤ (t : Int) := by omega
                have hti : (t : Int) < (D.length : Int) := by omega
                obtain ⟨w3, rfl⟩ : ∃ w3 : World, w3 = wr := ⟨_, rfl⟩
                obtain ⟨B, rfl, _, _, _⟩ := HRD.out w3 k3 m hm
                have HKT : Hid (∀ w', Frm (fun _ => False) w3 w' → (Instr.loadAt 27 (.pointer (some ⟨B, m * 10, none⟩))).run Try.prog w' = .ok (.agg (dv D[m].r D[m].n)) w' ∧ (Instr.loadAt 27 (.pointer (some ⟨B, t * 10, none⟩))).run Try.prog w' = .ok (.agg (dv D[t].r D[t].n)) w' ∧ (Instr.loadAt 24 (.pointer (some ⟨B, m * 10 + 2, none⟩))).run Try.prog w' = .ok (.agg (vv D[m].k)) w' ∧ w'.cell? ⟨B, m * 10 + 1, none⟩ = some (.int .u32 D[m].n) ∧ w'.cell? ⟨B, t * 10 + 1, none⟩ = some (.int .u32 D[t].n)) := Lib.hid fun W hW => by
                  obtain ⟨_, e1, a1, a2, a3⟩ := HRD.out W (k3.trans hW) m hm
                  cases e1
                  obtain ⟨_, e2, b1, b2, b3⟩ := HRD.out W (k3.trans hW) t ht
                  cases e2
                  exact ⟨a3, b3, a2, a1, b1⟩
                obtain ⟨q, hq⟩ : ∃ q, has8 D[m].k D[t].r D[t].n = q := ⟨_, rfl⟩
                have hdt := HR.out.dot t ht
                have Y := rHas D[m].k D[t].r D[t].n q (by omega) (by omega) hq
                have hk := HR.out.hasK hD60 m t hm ht
                rw [hq] at hk
                have HK := Lib.hid hk
                have HAP := Lib.hid (fun e => HR.out.apart m t hm ht e)
                clear hq hdt hk
                go_upto_region 28 with fail
                refine wp_region_canon (fun w' => (Instr.loadAt 24 (.pointer (some ⟨B, m * 10 + 2, none⟩))).run Try.prog w' = .ok (.agg (vv D[m].k)) w' ∧ (Instr.loadAt 27 (.pointer (some ⟨B, t * 10, none⟩))).run Try.prog w' = .ok (.agg (dv D[t].r D[t].n)) w' ∧ Frm (fun _ => False) w3 w') (by kernel_rfl) rfl (by kernel_rfl) (by kernel_rfl) (⟨(HKT.out _ (Frm.refl _ w3).drew).2.2.1, (HKT.out _ (Frm.refl _ w3).drew).2.1, (Frm.refl _ w3).drew⟩) ?_
                repeat' first
                  | (refine CanonL.skip (by rfl) ?_; (try simp only [Act.put, List.setIfInBounds_toArray, List.set_cons_zero, List.set_cons_succ]))
                  | (refine CanonL.callQ (by rfl) (by rfl) ?_ Y ?_ ?_; (focus (intro w; go_simp; (try (with_reducible rfl)); done)); (focus (rintro w ww hs gg; exact (by have h3 := hs.2.2.trans gg; exact ⟨(HKT.out _ h3).2.2.1, (HKT.out _ h3).2.1, h3⟩))); (try simp only [Act.put, List.setIfInBounds_toArray, List.set_cons_zero, List.set_cons_succ]))
                  | (refine CanonL.load (by rfl) _ (by rfl) (by rfl) (fun w hs => hs.1) ?_; (try simp only [Act.put, List.setIfInBounds_toArray, List.set_cons_zero, List.set_cons_succ]))
                  | (refine CanonL.load (by rfl) _ (by rfl) (by rfl) (fun w hs => hs.2.1) ?_; (try simp only [Act.put, List.setIfInBounds_toArray, List.set_cons_zero, List.set_cons_succ]))
                  | (refine CanonL.val (v := ?_) (by rfl) ?_ ?_; rotate_left 1; (focus (intro w hSw; (try dsimp only at hSw); go_simp; (try (with_reducible rfl)); done)); (try simp only [Act.put, List.setIfInBounds_toArray, List.set_cons_zero, List.set_cons_succ]))
                refine CanonL.done ?_
                intro w9 hS9
                obtain ⟨_, _, k4⟩ := hS9
                clear Y
                obtain ⟨w4, rfl⟩ : ∃ w4 : World, w4 = w9 := ⟨_, rfl⟩
                obtain ⟨ldm, ldt, _, cnm, cnt⟩ := HKT.out _ k4.drew
                have k5 := (k2.trans k4).drew
                go_upto_region 29 with fail
                go_cut [174] (fun s wq => s = .bool false ∧ w4.drew = wq)
                case first =>
                  by_cases emt : m = t
                  · subst emt
                    obtain rfl : q = false := by
                      cases q with
                      | false => rfl
                      | true => exact absurd (HK.out rfl).1 (by omega)
                    clear HK HAP
                    refine wp_region_canon (fun w' => (Instr.loadAt 27 (.pointer (some ⟨B, m * 10, none⟩))).run Try.prog w' = .ok (.agg (dv D[m].r D[m].n)) w' ∧ (Instr.loadAt 27 (.pointer (some ⟨B, m * 10, none⟩))).run Try.prog w' = .ok (.agg (dv D[m].r D[m].n)) w' ∧ w'.cell? ⟨B, m * 10 + 1, none⟩ = some (.int .u32 D[m].n) ∧ w'.cell? ⟨B, m * 10 + 1, none⟩ = some (.int .u32 D[m].n) ∧ w4.drew = w') (by kernel_rfl) rfl (by kernel_rfl) (by kernel_rfl) (⟨ldm, ldt, cnm, cnt, rfl⟩) ?_
                    repeat' first
                      | (refine CanonL.skip (by rfl) ?_; (try simp only [Act.put, List.setIfInBounds_toArray, List.set_cons_zero, List.set_cons_succ]))
                      | (refine CanonL.load (by rfl) _ (by rfl) (by rfl) (fun w hs => hs.1) ?_; (try simp only [Act.put, List.setIfInBounds_toArray, List.set_cons_zero, List.set_cons_succ]))
                      | (refine CanonL.load (by rfl) _ (by rfl) (by rfl) (fun w hs => hs.2.1) ?_; (try simp only [Act.put, List.setIfInBounds_toArray, List.set_cons_zero, List.set_cons_succ]))
                      | (refine CanonL.val (v := ?_) (by rfl) ?_ ?_; rotate_left 1; (focus (intro w hSw; (try dsimp only at hSw); go_simp; (try (with_reducible rfl)); done)); (try simp only [Act.put, List.setIfInBounds_toArray, List.set_cons_zero, List.set_cons_succ]))
                    refine CanonL.done ?_
                    intro w9 hS9
                    obtain ⟨_, _, _, _, rfl⟩ := hS9
                    go_wp2_with fail
                    go_meet
                    exact ⟨rfl, rfl⟩
                  · have E : ∀ W, (Op.equalIn 10000 27 (.agg (dv D[m].r D[m].n)) (.agg (dv D[t].r D[t].n))).run Try.prog W = .ok false W := fun W => by rw [run_eq_dot, HAP.out emt]
                    have hne : ((m : Int) == (t : Int)) = false := by rw [beq_eq_false_iff_ne]; omega
                    have hne2 : ((m : Int) != (t : Int)) = true := by rw [bne_iff_ne]; omega
                    cases q with
                    | false =>
                      clear HK HAP
                      refine wp_region_canon (fun w' => (Instr.loadAt 27 (.pointer (some ⟨B, m * 10, none⟩))).run Try.prog w' = .ok (.agg (dv D[m].r D[m].n)) w' ∧ (Instr.loadAt 27 (.pointer (some ⟨B, t * 10, none⟩))).run Try.prog w' = .ok (.agg (dv D[t].r D[t].n)) w' ∧ w'.cell? ⟨B, m * 10 + 1, none⟩ = some (.int .u32 D[m].n) ∧ w'.cell? ⟨B, t * 10 + 1, none⟩ = some (.int .u32 D[t].n) ∧ w4.drew = w') (by kernel_rfl) rfl (by kernel_rfl) (by kernel_rfl) (⟨ldm, ldt, cnm, cnt, rfl⟩) ?_
                      repeat' first
                        | (refine CanonL.skip (by rfl) ?_; (try simp only [Act.put, List.setIfInBounds_toArray, List.set_cons_zero, List.set_cons_succ]))
                        | (refine CanonL.load (by rfl) _ (by rfl) (by rfl) (fun w hs => hs.1) ?_; (try simp only [Act.put, List.setIfInBounds_toArray, List.set_cons_zero, List.set_cons_succ]))
                        | (refine CanonL.load (by rfl) _ (by rfl) (by rfl) (fun w hs => hs.2.1) ?_; (try simp only [Act.put, List.setIfInBounds_toArray, List.set_cons_zero, List.set_cons_succ]))
                        | (refine CanonL.val (v := ?_) (by rfl) ?_ ?_; rotate_left 1; (focus (intro w hSw; (try dsimp only at hSw); go_simp; (try (with_reducible rfl)); done)); (try simp only [Act.put, List.setIfInBounds_toArray, List.set_cons_zero, List.set_cons_succ]))
                      refine CanonL.done ?_
                      intro w9 hS9
                      obtain ⟨_, _, _, _, rfl⟩ := hS9
                      go_wp2_with fail
                      go_meet
                      exact ⟨rfl, rfl⟩
                    | true =>
                      have h1 : (D[t].n : Int) < (D[m].n : Int) := by have := (HK.out rfl).2; omega
                      have h2 : (t : Int) < (m : Int) := by have := (HK.out rfl).1; omega
                      have h3 : ¬ ((D[m].n : Int) ≤ (D[t].n : Int)) := by omega
                      have h4 : ¬ ((m : Int) ≤ (t : Int)) := by omega
                      have h5 : ¬ (D[m].n ≤ D[t].n) := by omega
                      have h6 : ¬ (m ≤ t) := by omega
                      clear HK HAP
                      refine wp_region_canon (fun w' => (Instr.loadAt 27 (.pointer (some ⟨B, m * 10, none⟩))).run Try.prog w' = .ok (.agg (dv D[m].r D[m].n)) w' ∧ (Instr.loadAt 27 (.pointer (some ⟨B, t * 10, none⟩))).run Try.prog w' = .ok (.agg (dv D[t].r D[t].n)) w' ∧ w'.cell? ⟨B, m * 10 + 1, none⟩ = some (.int .u32 D[m].n) ∧ w'.cell? ⟨B, t * 10 + 1, none⟩ = some (.int .u32 D[t].n) ∧ w4.drew = w') (by kernel_rfl) rfl (by kernel_rfl) (by kernel_rfl) (⟨ldm, ldt, cnm, cnt, rfl⟩) ?_
                      repeat' first
                        | (refine CanonL.skip (by rfl) ?_; (try simp only [Act.put, List.setIfInBounds_toArray, List.set_cons_zero, List.set_cons_succ]))
                        | (refine CanonL.load (by rfl) _ (by rfl) (by rfl) (fun w hs => hs.1) ?_; (try simp only [Act.put, List.setIfInBounds_toArray, List.set_cons_zero, List.set_cons_succ]))
                        | (refine CanonL.load (by rfl) _ (by rfl) (by rfl) (fun w hs => hs.2.1) ?_; (try simp only [Act.put, List.setIfInBounds_toArray, List.set_cons_zero, List.set_cons_succ]))
                        | (refine CanonL.val (v := ?_) (by rfl) ?_ ?_; rotate_left 1; (focus (intro w hSw; (try dsimp only at hSw); go_simp; (try (with_reducible rfl)); done)); (try simp only [Act.put, List.setIfInBounds_toArray, List.set_cons_zero, List.set_cons_succ]))
                      refine CanonL.done ?_
                      intro w9 hS9
                      obtain ⟨_, _, _, _, rfl⟩ := hS9
                      go_wp2_with fail
                      go_meet
                      exact ⟨rfl, rfl⟩
                case rest =>
                  obtain ⟨rfl, rfl⟩ := hcut
                  clear ldm ldt cnm cnt HKT HK HAP
                  go_wp2_with fail
                  go_roundw
                  case rel => exact ⟨t + 1, by omega, by go_num, k5⟩
                  case measure => simp [intOf]; omega
              · obtain rfl : t = D.length := by omega
                clear k2
                obtain ⟨w2, rfl⟩ : ∃ w2 : World, w2 = wr := ⟨_, rfl⟩
                go_wp2_with fail
                go_loopw [16] (fun i wq => ∃ z : Nat, z ≤ 5 ∧ i = .int .i64 z ∧ Frm (fun _ => False) wo wq) (fun i _ => 5 - (intOf i).toNat)
                case atStart => exact ⟨0, Nat.zero_le _, rfl, k3⟩
                case round =>
                  obtain ⟨z, hz0, rfl, k6⟩ := hrel
                  by_cases hz : z < 5
                  · have hzi0 : (0 : Int) ≤ (z : Int) := by omega
                    have hzi : (z : Int) < 5 := by omega
                    have hm60 : (m : Int) < 60 := by omega
                    obtain ⟨w3, rfl⟩ : ∃ w3 : World, w3 = wr := ⟨_, rfl⟩
                    obtain ⟨B, rfl, _, _, _⟩ := HRD.out w3 k6 m hm
                    have hdt := HR.out.dot m hm
                    obtain ⟨q, hq⟩ : ∃ q, H z m = q := ⟨_, rfl⟩
                    have Y := rHas (V z) D[m].r D[m].n q (by omega) (by omega) (by rw [HR.out.has hD60 m hm z hz, hq])
                    have HKT : Hid (∀ w', Frm (fun _ => False) w3 w' → (Instr.loadAt 24 (.pointer (some ⟨A, z * 8, none⟩))).run Try.prog w' = .ok (.agg (vv (V z))) w' ∧ (Instr.loadAt 27 (.pointer (some ⟨B, m * 10, none⟩))).run Try.prog w' = .ok (.agg (dv D[m].r D[m].n)) w' ∧ w'.cell? ⟨A + 1, z * 60 + m, none⟩ = some (.bool q)) := Lib.hid fun W hW => by
                      obtain ⟨_, e1, a1, a2, a3⟩ := HRD.out W (k6.trans hW) m hm
                      cases e1
                      refine ⟨(a0.keep (k6.trans hW) (fun h => h)).load z hz, a3, ?_⟩
                      rw [← hq]
                      exact ((a1'.out.keep (k6.trans hW) (fun h => h)) z hz m (by omega)).1
                    clear hq hdt
                    go_upto_region 34 with fail
                    refine wp_region_canon (fun w' => (Instr.loadAt 24 (.pointer (some ⟨A, z * 8, none⟩))).run Try.prog w' = .ok (.agg (vv (V z))) w' ∧ (Instr.loadAt 27 (.pointer (some ⟨B, m * 10, none⟩))).run Try.prog w' = .ok (.agg (dv D[m].r D[m].n)) w' ∧ w'.cell? ⟨A + 1, z * 60 + m, none⟩ = some (.bool q) ∧ Frm (fun _ => False) w3 w') (by kernel_rfl) rfl (by kernel_rfl) (by kernel_rfl) (⟨(HKT.out _ (Frm.refl _ w3).drew).1, (HKT.out _ (Frm.refl _ w3).drew).2.1, (HKT.out _ (Frm.refl _ w3).drew).2.2, (Frm.refl _ w3).drew⟩) ?_
                    repeat' first
                      | (refine CanonL.skip (by rfl) ?_; (try simp only [Act.put, List.setIfInBounds_toArray, List.set_cons_zero, List.set_cons_succ]))
                      | (refine CanonL.callQ (by rfl) (by rfl) ?_ Y ?_ ?_; (focus (intro w; go_simp; (try (with_reducible rfl)); done)); (focus (rintro w ww hs gg; exact (by have h3 := hs.2.2.2.trans gg; exact ⟨(HKT.out _ h3).1, (HKT.out _ h3).2.1, (HKT.out _ h3).2.2, h3⟩))); (try simp only [Act.put, List.setIfInBounds_toArray, List.set_cons_zero, List.set_cons_succ]))
                      | (refine CanonL.load (by rfl) _ (by rfl) (by rfl) (fun w hs => hs.1) ?_; (try simp only [Act.put, List.setIfInBounds_toArray, List.set_cons_zero, List.set_cons_succ]))
                      | (refine CanonL.load (by rfl) _ (by rfl) (by rfl) (fun w hs => hs.2.1) ?_; (try simp only [Act.put, List.setIfInBounds_toArray, List.set_cons_zero, List.set_cons_succ]))
                      | (refine CanonL.val (v := ?_) (by rfl) ?_ ?_; rotate_left 1; (focus (intro w hSw; (try dsimp only at hSw); go_simp; (try (with_reducible rfl)); done)); (try simp only [Act.put, List.setIfInBounds_toArray, List.set_cons_zero, List.set_cons_succ]))
                    refine CanonL.done ?_
                    intro w9 hS9
                    obtain ⟨_, _, _, k7⟩ := hS9
                    have k8 := k6.trans k7
                    clear HKT Y k7 k6
                    go_wp2_with fail
                    go_roundw
                    case rel => exact ⟨z + 1, by omega, by go_num, k8⟩
                    case measure => simp [intOf]; omega
                  · obtain rfl : z = 5 := by omega
                    go_wp2_with fail
                    go_roundw
                    case rel => exact ⟨m + 1, by omega, by go_num, k6⟩
                    case measure => simp [intOf]; omega
          · obtain rfl : m = D.length := by omega
            go_wp2_with fail
            refine (vawake_any _).mono ?_
            rintro e w9 ⟨rfl, g9⟩
            go_wp2_with fail
            go_ret
            exact ⟨rfl, (g.trans k1).trans g9⟩
  · have h60 : (60 : Int) < (L.length : Int) := by omega
    go_wp2_with fail
    refine (vawake_any _).mono ?_
    rintro e w1 ⟨rfl, g1⟩
    go_wp2_with fail
    go_ret
    exact ⟨rfl, g1⟩
end Go.Proofs.Ytmohegglclgcbaa
