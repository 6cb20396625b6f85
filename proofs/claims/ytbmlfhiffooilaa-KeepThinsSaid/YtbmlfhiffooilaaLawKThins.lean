/- KeepThins answers true: of any versions, any tick. No condition. -/
import Derived.Test.YtbmlfhiffooilaaKpJ
namespace Go.Proofs.Ytbmlfhiffooilaa
open Go.RowKit Go.Shelf

set_option maxRecDepth 100000 in
set_option maxHeartbeats 16000000 in
theorem keepThins_any (v : Value) (l : List StI) (now : Nat) (w : World) (hl : StL w v l) (hnow : now ≤ 4294967295) :
    Calls Try.prog 7 #[v, .int .u32 (now : Int)] w fun e w' => e = .returned (.bool true) ∧ Frm (fun _ => False) w w' := by
  obtain ⟨aa, cap, rfl, hc1, hc2⟩ := hl.slice
  unfold maxLen at hc2
  by_cases hlen : 100 < l.length
  · have hli : (100 : Int) < (l.length : Int) := by omega
    go_enter Try.func7, Try.ntmps7
    go_wp2_with fail
    refine (awake9_any _).mono ?_
    rintro e w1 ⟨rfl, g1⟩
    go_wp2_with fail
    go_ret
    exact ⟨rfl, g1⟩
  · have hli : ¬ (100 : Int) < (l.length : Int) := by omega
    have HS := Lib.hid stages_any
    go_enter Try.func7, Try.ntmps7
    go_wp2_with fail
    refine (HS.out _).mono ?_
    rintro e w1 ⟨rfl, g1⟩
    have HK := Lib.hid (kept_any 1 0 now 0 _ l w1 (hl.keepF g1) (by omega) hnow)
    have HG1 := Lib.hid g1
    clear g1
    go_wp2_with fail
    refine HK.out.mono ?_
    rintro e w3 ⟨v5, rfl, o5, _, g3⟩
    obtain ⟨M, hM⟩ : ∃ M, kept9 1 0 l now = M := ⟨_, rfl⟩
    have HM := Lib.hid hM
    rw [hM] at o5
    have hMl : M.length ≤ 100 := by rw [← hM]; exact Nat.le_trans (List.length_filter_le _ _) (by omega)
    obtain ⟨a5, c5, rfl, hf1, hf2⟩ := o5.sl.slice
    unfold maxLen at hf2
    have HO3 := Lib.hid o5.sl
    have HG3 := Lib.hid (HG1.out.trans g3)
    have HL := Lib.hid hl
    clear o5 g3 hM HK HS hl
    go_wp2_with fail
    go_loopw [6] (fun c wr => ∃ i : Nat, i ≤ M.length ∧ c = .int .i64 i ∧ Frm (fun _ => False) w3 wr) (fun c _ => M.length - (intOf c).toNat)
    case atStart => exact ⟨0, Nat.zero_le _, rfl, Frm.refl _ _⟩
    case round =>
      obtain ⟨i, hi, rfl, hF⟩ := hrel
      by_cases hlt : i < M.length
      · have hii : (i : Int) < (M.length : Int) := by omega
        have hi0 : (0 : Int) ≤ (i : Int) := by omega
        go_wp2_with fail
        go_loopw [7] (fun c wr => ∃ kk : Nat, kk ≤ M.length ∧ c = .int .i64 kk ∧ Frm (fun _ => False) w3 wr) (fun c _ => M.length - (intOf c).toNat)
        case atStart => exact ⟨0, Nat.zero_le _, rfl, hF⟩
        case round =>
         clear hF
         obtain ⟨kk, hk, rfl, hFo⟩ := hrel
         by_cases hlk : kk < M.length
         · have hki : (kk : Int) < (M.length : Int) := by omega
           have hk0 : (0 : Int) ≤ (kk : Int) := by omega
           obtain ⟨x, hx⟩ : ∃ x, M[i] = x := ⟨_, rfl⟩
           obtain ⟨y, hy⟩ : ∃ y, M[kk] = y := ⟨_, rfl⟩
           obtain ⟨g5, o5, ha5, k0, k1⟩ := (HO3.out.keepF hFo).elem i hlt
           obtain ⟨g6, o6, ha6, l0, l1⟩ := (HO3.out.keepF hFo).elem kk hlk
           subst ha5
           cases ha6
           rw [hx] at k0 k1
           rw [hy] at l0 l1
           have HXM : Hid (x ∈ kept9 1 0 l now) := Lib.hid (by rw [HM.out, ← hx]; exact List.getElem_mem hlt)
           have HYM : Hid (y ∈ kept9 1 0 l now) := Lib.hid (by rw [HM.out, ← hy]; exact List.getElem_mem hlk)
           obtain ⟨dx, hdx⟩ : ∃ dx, now - x.tick = dx := ⟨_, rfl⟩
           obtain ⟨dy, hdy⟩ : ∃ dy, now - y.tick = dy := ⟨_, rfl⟩
           have HAX := Lib.hid (fun W => age_any x now W hnow)
           have HAY := Lib.hid (fun W => age_any y now W hnow)
           rw [hdx] at HAX
           rw [hdy] at HAY
           have HDX := Lib.hid hdx
           have HDY := Lib.hid hdy
           clear hx hy hdx hdy
           go_upto_region 10 with fail
           have hF := hFo
           refine wp_region_canon (fun w' => w'.cell? ⟨g5, o5 + i * 2, none⟩ = some (.int .u32 (x.id : Int)) ∧ w'.cell? ⟨g5, o5 + i * 2 + 1, none⟩ = some (.int .u32 (x.tick : Int)) ∧ w'.cell? ⟨g5, o5 + kk * 2, none⟩ = some (.int .u32 (y.id : Int)) ∧ w'.cell? ⟨g5, o5 + kk * 2 + 1, none⟩ = some (.int .u32 (y.tick : Int)) ∧ Frm (fun _ => False) w3 w') (by kernel_rfl) rfl (by kernel_rfl) (by kernel_rfl) (⟨k0, k1, l0, l1, hF.drew⟩) ?_
           repeat' first
             | (refine CanonL.skip (by rfl) ?_; (try simp only [Act.put, List.setIfInBounds_toArray, List.set_cons_zero, List.set_cons_succ]))
             | (refine CanonL.callQ (by rfl) (by rfl) ?_ HAX ?_ ?_; (focus (intro w; go_simp; (try (with_reducible rfl)); done)); (focus (rintro w ww hs gg; exact ⟨gg.cellF hs.1, gg.cellF hs.2.1, gg.cellF hs.2.2.1, gg.cellF hs.2.2.2.1, hs.2.2.2.2.trans gg⟩)); (try simp only [Act.put, List.setIfInBounds_toArray, List.set_cons_zero, List.set_cons_succ]))
             | (refine CanonL.callQ (by rfl) (by rfl) ?_ HAY ?_ ?_; (focus (intro w; go_simp; (try (with_reducible rfl)); done)); (focus (rintro w ww hs gg; exact ⟨gg.cellF hs.1, gg.cellF hs.2.1, gg.cellF hs.2.2.1, gg.cellF hs.2.2.2.1, hs.2.2.2.2.trans gg⟩)); (try simp only [Act.put, List.setIfInBounds_toArray, List.set_cons_zero, List.set_cons_succ]))
             | (refine CanonL.val (v := ?_) (by rfl) ?_ ?_; rotate_left 1; (focus (intro w hSw; (try dsimp only at hSw); go_simp; (try (with_reducible rfl)); done)); (try simp only [Act.put, List.setIfInBounds_toArray, List.set_cons_zero, List.set_cons_succ]))
           refine CanonL.done ?_
           intro w9 hS9
           obtain ⟨k0, k1, l0, l1, hF⟩ := hS9
           clear hFo
           go_upto_region 11 with fail
           cases hq : decide (x = y) with
           | true =>
             have hQ : ∀ W, (Op.equalIn 10000 24 (.agg (stv x)) (.agg (stv y))).run Try.prog W = .ok true W := fun W => by rw [run_eq_st, hq]
             clear hq
             refine wp_region_canon (fun w' => w'.cell? ⟨g5, o5 + i * 2, none⟩ = some (.int .u32 (x.id : Int)) ∧ w'.cell? ⟨g5, o5 + i * 2 + 1, none⟩ = some (.int .u32 (x.tick : Int)) ∧ w'.cell? ⟨g5, o5 + kk * 2, none⟩ = some (.int .u32 (y.id : Int)) ∧ w'.cell? ⟨g5, o5 + kk * 2 + 1, none⟩ = some (.int .u32 (y.tick : Int)) ∧ Frm (fun _ => False) w3 w') (by kernel_rfl) rfl (by kernel_rfl) (by kernel_rfl) (⟨k0, k1, l0, l1, hF.drew⟩) ?_
             repeat' first
               | (refine CanonL.skip (by rfl) ?_; (try simp only [Act.put, List.setIfInBounds_toArray, List.set_cons_zero, List.set_cons_succ]))
               | (refine CanonL.val (v := ?_) (by rfl) ?_ ?_; rotate_left 1; (focus (intro w hSw; (try dsimp only at hSw); go_simp; (try (with_reducible rfl)); done)); (try simp only [Act.put, List.setIfInBounds_toArray, List.set_cons_zero, List.set_cons_succ]))
             refine CanonL.done ?_
             intro w9 hS9
             obtain ⟨_, _, _, _, f9⟩ := hS9
             have HFF := Lib.hid f9
             clear f9 hF k0 k1 l0 l1 hQ
             go_wp2_with fail
             go_roundw
             case rel => exact ⟨kk + 1, by omega, by go_num, HFF.out⟩
             case measure => simp [intOf]; omega
           | false =>
             have hQ : ∀ W, (Op.equalIn 10000 24 (.agg (stv x)) (.agg (stv y))).run Try.prog W = .ok false W := fun W => by rw [run_eq_st, hq]
             have HTH := Lib.hid (kept9_thin HXM.out HYM.out (of_decide_eq_false hq))
             clear hq
             refine wp_region_canon (fun w' => w'.cell? ⟨g5, o5 + i * 2, none⟩ = some (.int .u32 (x.id : Int)) ∧ w'.cell? ⟨g5, o5 + i * 2 + 1, none⟩ = some (.int .u32 (x.tick : Int)) ∧ w'.cell? ⟨g5, o5 + kk * 2, none⟩ = some (.int .u32 (y.id : Int)) ∧ w'.cell? ⟨g5, o5 + kk * 2 + 1, none⟩ = some (.int .u32 (y.tick : Int)) ∧ Frm (fun _ => False) w3 w') (by kernel_rfl) rfl (by kernel_rfl) (by kernel_rfl) (⟨k0, k1, l0, l1, hF.drew⟩) ?_
             repeat' first
               | (refine CanonL.skip (by rfl) ?_; (try simp only [Act.put, List.setIfInBounds_toArray, List.set_cons_zero, List.set_cons_succ]))
               | (refine CanonL.val (v := ?_) (by rfl) ?_ ?_; rotate_left 1; (focus (intro w hSw; (try dsimp only at hSw); go_simp; (try (with_reducible rfl)); done)); (try simp only [Act.put, List.setIfInBounds_toArray, List.set_cons_zero, List.set_cons_succ]))
             refine CanonL.done ?_
             intro w9 hS9
             obtain ⟨k0, k1, l0, l1, hF⟩ := hS9
             clear hQ
             go_upto_region 12 with fail
             obtain ⟨t1, t2, t3⟩ := HTH.out
             rw [HDX.out, HDY.out] at t1 t2
             rw [HDX.out] at t3
             have n3 : ¬ 512 ≤ dx := t3
             have ni3 : ¬ (512 : Int) ≤ (dx : Int) := by omega
             obtain ⟨x8, hx8⟩ : ∃ q, x.tick / 8 = q := ⟨_, rfl⟩
             have ux8 : (x.tick : Int) / 8 = (x8 : Int) := by rw [show ((x.tick : Int) / 8) = ((x.tick / 8 : Nat) : Int) from rfl, hx8]
             have wx8 : IntKind.u32.wrap (x8 : Int) = (x8 : Int) := IntWalk.u32_in _ (by have := x.ht; omega)
             obtain ⟨y8, hy8⟩ : ∃ q, y.tick / 8 = q := ⟨_, rfl⟩
             have uy8 : (y.tick : Int) / 8 = (y8 : Int) := by rw [show ((y.tick : Int) / 8) = ((y.tick / 8 : Nat) : Int) from rfl, hy8]
             have wy8 : IntKind.u32.wrap (y8 : Int) = (y8 : Int) := IntWalk.u32_in _ (by have := y.ht; omega)
             obtain ⟨x64, hx64⟩ : ∃ q, x.tick / 64 = q := ⟨_, rfl⟩
             have ux64 : (x.tick : Int) / 64 = (x64 : Int) := by rw [show ((x.tick : Int) / 64) = ((x.tick / 64 : Nat) : Int) from rfl, hx64]
             have wx64 : IntKind.u32.wrap (x64 : Int) = (x64 : Int) := IntWalk.u32_in _ (by have := x.ht; omega)
             obtain ⟨y64, hy64⟩ : ∃ q, y.tick / 64 = q := ⟨_, rfl⟩
             have uy64 : (y.tick : Int) / 64 = (y64 : Int) := by rw [show ((y.tick : Int) / 64) = ((y.tick / 64 : Nat) : Int) from rfl, hy64]
             have wy64 : IntKind.u32.wrap (y64 : Int) = (y64 : Int) := IntWalk.u32_in _ (by have := y.ht; omega)
             rw [hx8, hy8] at t1
             rw [hx64, hy64] at t2
             clear hx8 hy8 hx64 hy64 t3 HTH
             by_cases a8 : 8 ≤ dx
             · have ai8 : (8 : Int) ≤ (dx : Int) := by omega
               by_cases b8 : 8 ≤ dy
               · have bi8 : (8 : Int) ≤ (dy : Int) := by omega
                 have e8 : ¬ x8 = y8 := fun e => t1 ⟨a8, b8, e⟩
                 have ei8 : ((x8 : Int) == (y8 : Int)) = false := by rw [beq_eq_false_iff_ne]; omega
                 by_cases a64 : 64 ≤ dx
                 · have ai64 : (64 : Int) ≤ (dx : Int) := by omega
                   by_cases b64 : 64 ≤ dy
                   · have bi64 : (64 : Int) ≤ (dy : Int) := by omega
                     have e64 : ¬ x64 = y64 := fun e => t2 ⟨a64, b64, e⟩
                     have ei64 : ((x64 : Int) == (y64 : Int)) = false := by rw [beq_eq_false_iff_ne]; omega
                     clear t1 t2
                     refine wp_region_canon (fun w' => w'.cell? ⟨g5, o5 + i * 2, none⟩ = some (.int .u32 (x.id : Int)) ∧ w'.cell? ⟨g5, o5 + i * 2 + 1, none⟩ = some (.int .u32 (x.tick : Int)) ∧ w'.cell? ⟨g5, o5 + kk * 2, none⟩ = some (.int .u32 (y.id : Int)) ∧ w'.cell? ⟨g5, o5 + kk * 2 + 1, none⟩ = some (.int .u32 (y.tick : Int)) ∧ Frm (fun _ => False) w3 w') (by kernel_rfl) rfl (by kernel_rfl) (by kernel_rfl) (⟨k0, k1, l0, l1, hF.drew⟩) ?_
                     repeat' first
                       | (refine CanonL.skip (by rfl) ?_; (try simp only [Act.put, List.setIfInBounds_toArray, List.set_cons_zero, List.set_cons_succ]))
                       | (refine CanonL.val (v := ?_) (by rfl) ?_ ?_; rotate_left 1; (focus (intro w hSw; (try dsimp only at hSw); go_simp; (try (with_reducible rfl)); done)); (try simp only [Act.put, List.setIfInBounds_toArray, List.set_cons_zero, List.set_cons_succ]))
                     refine CanonL.done ?_
                     intro w9 hS9
                     obtain ⟨_, _, _, _, f9⟩ := hS9
                     have HFF := Lib.hid f9
                     clear f9 hF k0 k1 l0 l1
                     go_wp2_with fail
                     go_roundw
                     case rel => exact ⟨kk + 1, by omega, by go_num, HFF.out⟩
                     case measure => simp [intOf]; omega
                   · have bi64 : ¬ (64 : Int) ≤ (dy : Int) := by omega
                     clear t1 t2
                     refine wp_region_canon (fun w' => w'.cell? ⟨g5, o5 + i * 2, none⟩ = some (.int .u32 (x.id : Int)) ∧ w'.cell? ⟨g5, o5 + i * 2 + 1, none⟩ = some (.int .u32 (x.tick : Int)) ∧ w'.cell? ⟨g5, o5 + kk * 2, none⟩ = some (.int .u32 (y.id : Int)) ∧ w'.cell? ⟨g5, o5 + kk * 2 + 1, none⟩ = some (.int .u32 (y.tick : Int)) ∧ Frm (fun _ => False) w3 w') (by kernel_rfl) rfl (by kernel_rfl) (by kernel_rfl) (⟨k0, k1, l0, l1, hF.drew⟩) ?_
                     repeat' first
                       | (refine CanonL.skip (by rfl) ?_; (try simp only [Act.put, List.setIfInBounds_toArray, List.set_cons_zero, List.set_cons_succ]))
                       | (refine CanonL.val (v := ?_) (by rfl) ?_ ?_; rotate_left 1; (focus (intro w hSw; (try dsimp only at hSw); go_simp; (try (with_reducible rfl)); done)); (try simp only [Act.put, List.setIfInBounds_toArray, List.set_cons_zero, List.set_cons_succ]))
                     refine CanonL.done ?_
                     intro w9 hS9
                     obtain ⟨_, _, _, _, f9⟩ := hS9
                     have HFF := Lib.hid f9
                     clear f9 hF k0 k1 l0 l1
                     go_wp2_with fail
                     go_roundw
                     case rel => exact ⟨kk + 1, by omega, by go_num, HFF.out⟩
                     case measure => simp [intOf]; omega
                 · have ai64 : ¬ (64 : Int) ≤ (dx : Int) := by omega
                   clear t1 t2
                   refine wp_region_canon (fun w' => w'.cell? ⟨g5, o5 + i * 2, none⟩ = some (.int .u32 (x.id : Int)) ∧ w'.cell? ⟨g5, o5 + i * 2 + 1, none⟩ = some (.int .u32 (x.tick : Int)) ∧ w'.cell? ⟨g5, o5 + kk * 2, none⟩ = some (.int .u32 (y.id : Int)) ∧ w'.cell? ⟨g5, o5 + kk * 2 + 1, none⟩ = some (.int .u32 (y.tick : Int)) ∧ Frm (fun _ => False) w3 w') (by kernel_rfl) rfl (by kernel_rfl) (by kernel_rfl) (⟨k0, k1, l0, l1, hF.drew⟩) ?_
                   repeat' first
                     | (refine CanonL.skip (by rfl) ?_; (try simp only [Act.put, List.setIfInBounds_toArray, List.set_cons_zero, List.set_cons_succ]))
                     | (refine CanonL.val (v := ?_) (by rfl) ?_ ?_; rotate_left 1; (focus (intro w hSw; (try dsimp only at hSw); go_simp; (try (with_reducible rfl)); done)); (try simp only [Act.put, List.setIfInBounds_toArray, List.set_cons_zero, List.set_cons_succ]))
                   refine CanonL.done ?_
                   intro w9 hS9
                   obtain ⟨_, _, _, _, f9⟩ := hS9
                   have HFF := Lib.hid f9
                   clear f9 hF k0 k1 l0 l1
                   go_wp2_with fail
                   go_roundw
                   case rel => exact ⟨kk + 1, by omega, by go_num, HFF.out⟩
                   case measure => simp [intOf]; omega
               · have bi8 : ¬ (8 : Int) ≤ (dy : Int) := by omega
                 by_cases a64 : 64 ≤ dx
                 · have ai64 : (64 : Int) ≤ (dx : Int) := by omega
                   by_cases b64 : 64 ≤ dy
                   · have bi64 : (64 : Int) ≤ (dy : Int) := by omega
                     have e64 : ¬ x64 = y64 := fun e => t2 ⟨a64, b64, e⟩
                     have ei64 : ((x64 : Int) == (y64 : Int)) = false := by rw [beq_eq_false_iff_ne]; omega
                     clear t1 t2
                     refine wp_region_canon (fun w' => w'.cell? ⟨g5, o5 + i * 2, none⟩ = some (.int .u32 (x.id : Int)) ∧ w'.cell? ⟨g5, o5 + i * 2 + 1, none⟩ = some (.int .u32 (x.tick : Int)) ∧ w'.cell? ⟨g5, o5 + kk * 2, none⟩ = some (.int .u32 (y.id : Int)) ∧ w'.cell? ⟨g5, o5 + kk * 2 + 1, none⟩ = some (.int .u32 (y.tick : Int)) ∧ Frm (fun _ => False) w3 w') (by kernel_rfl) rfl (by kernel_rfl) (by kernel_rfl) (⟨k0, k1, l0, l1, hF.drew⟩) ?_
                     repeat' first
                       | (refine CanonL.skip (by rfl) ?_; (try simp only [Act.put, List.setIfInBounds_toArray, List.set_cons_zero, List.set_cons_succ]))
                       | (refine CanonL.val (v := ?_) (by rfl) ?_ ?_; rotate_left 1; (focus (intro w hSw; (try dsimp only at hSw); go_simp; (try (with_reducible rfl)); done)); (try simp only [Act.put, List.setIfInBounds_toArray, List.set_cons_zero, List.set_cons_succ]))
                     refine CanonL.done ?_
                     intro w9 hS9
                     obtain ⟨_, _, _, _, f9⟩ := hS9
                     have HFF := Lib.hid f9
                     clear f9 hF k0 k1 l0 l1
                     go_wp2_with fail
                     go_roundw
                     case rel => exact ⟨kk + 1, by omega, by go_num, HFF.out⟩
                     case measure => simp [intOf]; omega
                   · have bi64 : ¬ (64 : Int) ≤ (dy : Int) := by omega
                     clear t1 t2
                     refine wp_region_canon (fun w' => w'.cell? ⟨g5, o5 + i * 2, none⟩ = some (.int .u32 (x.id : Int)) ∧ w'.cell? ⟨g5, o5 + i * 2 + 1, none⟩ = some (.int .u32 (x.tick : Int)) ∧ w'.cell? ⟨g5, o5 + kk * 2, none⟩ = some (.int .u32 (y.id : Int)) ∧ w'.cell? ⟨g5, o5 + kk * 2 + 1, none⟩ = some (.int .u32 (y.tick : Int)) ∧ Frm (fun _ => False) w3 w') (by kernel_rfl) rfl (by kernel_rfl) (by kernel_rfl) (⟨k0, k1, l0, l1, hF.drew⟩) ?_
                     repeat' first
                       | (refine CanonL.skip (by rfl) ?_; (try simp only [Act.put, List.setIfInBounds_toArray, List.set_cons_zero, List.set_cons_succ]))
                       | (refine CanonL.val (v := ?_) (by rfl) ?_ ?_; rotate_left 1; (focus (intro w hSw; (try dsimp only at hSw); go_simp; (try (with_reducible rfl)); done)); (try simp only [Act.put, List.setIfInBounds_toArray, List.set_cons_zero, List.set_cons_succ]))
                     refine CanonL.done ?_
                     intro w9 hS9
                     obtain ⟨_, _, _, _, f9⟩ := hS9
                     have HFF := Lib.hid f9
                     clear f9 hF k0 k1 l0 l1
                     go_wp2_with fail
                     go_roundw
                     case rel => exact ⟨kk + 1, by omega, by go_num, HFF.out⟩
                     case measure => simp [intOf]; omega
                 · have ai64 : ¬ (64 : Int) ≤ (dx : Int) := by omega
                   clear t1 t2
                   refine wp_region_canon (fun w' => w'.cell? ⟨g5, o5 + i * 2, none⟩ = some (.int .u32 (x.id : Int)) ∧ w'.cell? ⟨g5, o5 + i * 2 + 1, none⟩ = some (.int .u32 (x.tick : Int)) ∧ w'.cell? ⟨g5, o5 + kk * 2, none⟩ = some (.int .u32 (y.id : Int)) ∧ w'.cell? ⟨g5, o5 + kk * 2 + 1, none⟩ = some (.int .u32 (y.tick : Int)) ∧ Frm (fun _ => False) w3 w') (by kernel_rfl) rfl (by kernel_rfl) (by kernel_rfl) (⟨k0, k1, l0, l1, hF.drew⟩) ?_
                   repeat' first
                     | (refine CanonL.skip (by rfl) ?_; (try simp only [Act.put, List.setIfInBounds_toArray, List.set_cons_zero, List.set_cons_succ]))
                     | (refine CanonL.val (v := ?_) (by rfl) ?_ ?_; rotate_left 1; (focus (intro w hSw; (try dsimp only at hSw); go_simp; (try (with_reducible rfl)); done)); (try simp only [Act.put, List.setIfInBounds_toArray, List.set_cons_zero, List.set_cons_succ]))
                   refine CanonL.done ?_
                   intro w9 hS9
                   obtain ⟨_, _, _, _, f9⟩ := hS9
                   have HFF := Lib.hid f9
                   clear f9 hF k0 k1 l0 l1
                   go_wp2_with fail
                   go_roundw
                   case rel => exact ⟨kk + 1, by omega, by go_num, HFF.out⟩
                   case measure => simp [intOf]; omega
             · have ai8 : ¬ (8 : Int) ≤ (dx : Int) := by omega
               by_cases a64 : 64 ≤ dx
               · have ai64 : (64 : Int) ≤ (dx : Int) := by omega
                 by_cases b64 : 64 ≤ dy
                 · have bi64 : (64 : Int) ≤ (dy : Int) := by omega
                   have e64 : ¬ x64 = y64 := fun e => t2 ⟨a64, b64, e⟩
                   have ei64 : ((x64 : Int) == (y64 : Int)) = false := by rw [beq_eq_false_iff_ne]; omega
                   clear t1 t2
                   refine wp_region_canon (fun w' => w'.cell? ⟨g5, o5 + i * 2, none⟩ = some (.int .u32 (x.id : Int)) ∧ w'.cell? ⟨g5, o5 + i * 2 + 1, none⟩ = some (.int .u32 (x.tick : Int)) ∧ w'.cell? ⟨g5, o5 + kk * 2, none⟩ = some (.int .u32 (y.id : Int)) ∧ w'.cell? ⟨g5, o5 + kk * 2 + 1, none⟩ = some (.int .u32 (y.tick : Int)) ∧ Frm (fun _ => False) w3 w') (by kernel_rfl) rfl (by kernel_rfl) (by kernel_rfl) (⟨k0, k1, l0, l1, hF.drew⟩) ?_
                   repeat' first
                     | (refine CanonL.skip (by rfl) ?_; (try simp only [Act.put, List.setIfInBounds_toArray, List.set_cons_zero, List.set_cons_succ]))
                     | (refine CanonL.val (v := ?_) (by rfl) ?_ ?_; rotate_left 1; (focus (intro w hSw; (try dsimp only at hSw); go_simp; (try (with_reducible rfl)); done)); (try simp only [Act.put, List.setIfInBounds_toArray, List.set_cons_zero, List.set_cons_succ]))
                   refine CanonL.done ?_
                   intro w9 hS9
                   obtain ⟨_, _, _, _, f9⟩ := hS9
                   have HFF := Lib.hid f9
                   clear f9 hF k0 k1 l0 l1
                   go_wp2_with fail
                   go_roundw
                   case rel => exact ⟨kk + 1, by omega, by go_num, HFF.out⟩
                   case measure => simp [intOf]; omega
                 · have bi64 : ¬ (64 : Int) ≤ (dy : Int) := by omega
                   clear t1 t2
                   refine wp_region_canon (fun w' => w'.cell? ⟨g5, o5 + i * 2, none⟩ = some (.int .u32 (x.id : Int)) ∧ w'.cell? ⟨g5, o5 + i * 2 + 1, none⟩ = some (.int .u32 (x.tick : Int)) ∧ w'.cell? ⟨g5, o5 + kk * 2, none⟩ = some (.int .u32 (y.id : Int)) ∧ w'.cell? ⟨g5, o5 + kk * 2 + 1, none⟩ = some (.int .u32 (y.tick : Int)) ∧ Frm (fun _ => False) w3 w') (by kernel_rfl) rfl (by kernel_rfl) (by kernel_rfl) (⟨k0, k1, l0, l1, hF.drew⟩) ?_
                   repeat' first
                     | (refine CanonL.skip (by rfl) ?_; (try simp only [Act.put, List.setIfInBounds_toArray, List.set_cons_zero, List.set_cons_succ]))
                     | (refine CanonL.val (v := ?_) (by rfl) ?_ ?_; rotate_left 1; (focus (intro w hSw; (try dsimp only at hSw); go_simp; (try (with_reducible rfl)); done)); (try simp only [Act.put, List.setIfInBounds_toArray, List.set_cons_zero, List.set_cons_succ]))
                   refine CanonL.done ?_
                   intro w9 hS9
                   obtain ⟨_, _, _, _, f9⟩ := hS9
                   have HFF := Lib.hid f9
                   clear f9 hF k0 k1 l0 l1
                   go_wp2_with fail
                   go_roundw
                   case rel => exact ⟨kk + 1, by omega, by go_num, HFF.out⟩
                   case measure => simp [intOf]; omega
               · have ai64 : ¬ (64 : Int) ≤ (dx : Int) := by omega
                 clear t1 t2
                 refine wp_region_canon (fun w' => w'.cell? ⟨g5, o5 + i * 2, none⟩ = some (.int .u32 (x.id : Int)) ∧ w'.cell? ⟨g5, o5 + i * 2 + 1, none⟩ = some (.int .u32 (x.tick : Int)) ∧ w'.cell? ⟨g5, o5 + kk * 2, none⟩ = some (.int .u32 (y.id : Int)) ∧ w'.cell? ⟨g5, o5 + kk * 2 + 1, none⟩ = some (.int .u32 (y.tick : Int)) ∧ Frm (fun _ => False) w3 w') (by kernel_rfl) rfl (by kernel_rfl) (by kernel_rfl) (⟨k0, k1, l0, l1, hF.drew⟩) ?_
                 repeat' first
                   | (refine CanonL.skip (by rfl) ?_; (try simp only [Act.put, List.setIfInBounds_toArray, List.set_cons_zero, List.set_cons_succ]))
                   | (refine CanonL.val (v := ?_) (by rfl) ?_ ?_; rotate_left 1; (focus (intro w hSw; (try dsimp only at hSw); go_simp; (try (with_reducible rfl)); done)); (try simp only [Act.put, List.setIfInBounds_toArray, List.set_cons_zero, List.set_cons_succ]))
                 refine CanonL.done ?_
                 intro w9 hS9
                 obtain ⟨_, _, _, _, f9⟩ := hS9
                 have HFF := Lib.hid f9
                 clear f9 hF k0 k1 l0 l1
                 go_wp2_with fail
                 go_roundw
                 case rel => exact ⟨kk + 1, by omega, by go_num, HFF.out⟩
                 case measure => simp [intOf]; omega
         · obtain rfl : kk = M.length := by omega
           go_wp2_with fail
           go_roundw
           case rel => exact ⟨i + 1, by omega, by go_num, hFo⟩
           case measure => simp [intOf]; omega
      · obtain rfl : i = M.length := by omega
        have HO5 := Lib.hid (HO3.out.keepF hF)
        have HL5 := Lib.hid (HL.out.keepF (HG3.out.trans hF))
        have HG5 := Lib.hid (HG3.out.trans hF)
        obtain ⟨w5, hw5⟩ : ∃ w5, w5 = wr := ⟨_, rfl⟩
        subst hw5
        clear hF HO3 HL HG3 hlt hi
        go_wp2_with fail
        go_loopw [10] (fun c wr => ∃ i : Nat, i ≤ l.length ∧ c = .int .i64 i ∧ Frm (fun _ => False) w5 wr) (fun c _ => l.length - (intOf c).toNat)
        case atStart => exact ⟨0, Nat.zero_le _, rfl, Frm.refl _ _⟩
        case round =>
         obtain ⟨i, hi, rfl, hF⟩ := hrel
         by_cases hlt : i < l.length
         · have hii : (i : Int) < (l.length : Int) := by omega
           have hi0 : (0 : Int) ≤ (i : Int) := by omega
           obtain ⟨x, hx⟩ : ∃ x, l[i] = x := ⟨_, rfl⟩
           have HX := Lib.hid hx
           clear hx
           go_wp2_with fail
           go_loopw [11, 12] (fun nb c wr => ∃ kk : Nat, kk ≤ l.length ∧ c = .int .i64 kk ∧ nb = .bool ((l.take kk).all (fun t => !newer t x)) ∧ Frm (fun _ => False) w5 wr) (fun _ c _ => l.length - (intOf c).toNat)
           case atStart => exact ⟨0, Nat.zero_le _, rfl, rfl, hF⟩
           case round =>
            obtain ⟨kk, hk, rfl, rfl, hF2⟩ := hrel
            clear hF
            have hF := hF2
            by_cases hlk : kk < l.length
            · have hki : (kk : Int) < (l.length : Int) := by omega
              have hk0 : (0 : Int) ≤ (kk : Int) := by omega
              obtain ⟨y, hy⟩ : ∃ y, l[kk] = y := ⟨_, rfl⟩
              obtain ⟨gl, ol, ha5, k0, k1⟩ := (HL5.out.keepF hF).elem kk hlk
              obtain ⟨g6, o6, ha6, l0, l1⟩ := (HL5.out.keepF hF).elem i hlt
              subst ha5
              cases ha6
              rw [hy] at k0 k1
              rw [HX.out] at l0 l1
              clear hF2
              cases hnb : (l.take kk).all (fun t => !newer t x) with
              | true =>
                have HT : Hid ((l.take (kk + 1)).all (fun t => !newer t x) = !newer y x) := Lib.hid (by rw [List.take_succ_eq_append_getElem hlk, List.all_append, hnb, hy]; simp)
                obtain ⟨nq, hnq⟩ : ∃ nq, newer y x = nq := ⟨_, rfl⟩
                rw [hnq] at HT
                have HNW := Lib.hid (fun W => newer_any y x W)
                rw [hnq] at HNW
                clear hnq
                clear hnb hy
                go_upto_region 21 with fail
                refine wp_region_canon (fun w' => w'.cell? ⟨gl, ol + kk * 2, none⟩ = some (.int .u32 (y.id : Int)) ∧ w'.cell? ⟨gl, ol + kk * 2 + 1, none⟩ = some (.int .u32 (y.tick : Int)) ∧ w'.cell? ⟨gl, ol + i * 2, none⟩ = some (.int .u32 (x.id : Int)) ∧ w'.cell? ⟨gl, ol + i * 2 + 1, none⟩ = some (.int .u32 (x.tick : Int)) ∧ Frm (fun _ => False) w5 w') (by kernel_rfl) rfl (by kernel_rfl) (by kernel_rfl) (⟨k0, k1, l0, l1, hF.drew⟩) ?_
                repeat' first
                  | (refine CanonL.skip (by rfl) ?_; (try simp only [Act.put, List.setIfInBounds_toArray, List.set_cons_zero, List.set_cons_succ]))
                  | (refine CanonL.callQ (by rfl) (by rfl) ?_ HNW ?_ ?_; (focus (intro w; go_simp; (try (with_reducible rfl)); done)); (focus (rintro w ww hs gg; exact ⟨gg.cellF hs.1, gg.cellF hs.2.1, gg.cellF hs.2.2.1, gg.cellF hs.2.2.2.1, hs.2.2.2.2.trans gg⟩)); (try simp only [Act.put, List.setIfInBounds_toArray, List.set_cons_zero, List.set_cons_succ]))
                  | (refine CanonL.val (v := ?_) (by rfl) ?_ ?_; rotate_left 1; (focus (intro w hSw; (try dsimp only at hSw); go_simp; (try (with_reducible rfl)); done)); (try simp only [Act.put, List.setIfInBounds_toArray, List.set_cons_zero, List.set_cons_succ]))
                refine CanonL.done ?_
                intro w9 hS9
                obtain ⟨_, _, _, _, f9⟩ := hS9
                have HFF := Lib.hid f9
                clear f9 hF k0 k1 l0 l1
                go_wp2_with fail
                go_roundw
                case rel => exact ⟨kk + 1, by omega, by go_num, by rw [HT.out], HFF.out⟩
                case measure => simp [intOf]; omega
              | false =>
                have HT : Hid ((l.take (kk + 1)).all (fun t => !newer t x) = false) := Lib.hid (by rw [List.take_succ_eq_append_getElem hlk, List.all_append, hnb, hy]; simp)
                clear hnb hy
                go_upto_region 21 with fail
                refine wp_region_canon (fun w' => w'.cell? ⟨gl, ol + kk * 2, none⟩ = some (.int .u32 (y.id : Int)) ∧ w'.cell? ⟨gl, ol + kk * 2 + 1, none⟩ = some (.int .u32 (y.tick : Int)) ∧ w'.cell? ⟨gl, ol + i * 2, none⟩ = some (.int .u32 (x.id : Int)) ∧ w'.cell? ⟨gl, ol + i * 2 + 1, none⟩ = some (.int .u32 (x.tick : Int)) ∧ Frm (fun _ => False) w5 w') (by kernel_rfl) rfl (by kernel_rfl) (by kernel_rfl) (⟨k0, k1, l0, l1, hF.drew⟩) ?_
                repeat' first
                  | (refine CanonL.skip (by rfl) ?_; (try simp only [Act.put, List.setIfInBounds_toArray, List.set_cons_zero, List.set_cons_succ]))
                  | (refine CanonL.val (v := ?_) (by rfl) ?_ ?_; rotate_left 1; (focus (intro w hSw; (try dsimp only at hSw); go_simp; (try (with_reducible rfl)); done)); (try simp only [Act.put, List.setIfInBounds_toArray, List.set_cons_zero, List.set_cons_succ]))
                refine CanonL.done ?_
                intro w9 hS9
                obtain ⟨_, _, _, _, f9⟩ := hS9
                have HFF := Lib.hid f9
                clear f9 hF k0 k1 l0 l1
                go_wp2_with fail
                go_roundw
                case rel => exact ⟨kk + 1, by omega, by go_num, by rw [HT.out], HFF.out⟩
                case measure => simp [intOf]; omega
            · obtain rfl : kk = l.length := by omega
              clear hF
              rw [List.take_length]
              obtain ⟨gl, ol, ha5, l0, l1⟩ := (HL5.out.keepF hF2).elem i hlt
              subst ha5
              rw [HX.out] at l0 l1
              cases hnb : l.all (fun t => !newer t x) with
              | false =>
                go_upto_region 22 with fail
                refine wp_region_seq (fun w' => w'.cell? ⟨gl, ol + i * 2, none⟩ = some (.int .u32 (x.id : Int)) ∧ w'.cell? ⟨gl, ol + i * 2 + 1, none⟩ = some (.int .u32 (x.tick : Int)) ∧ Frm (fun _ => False) w5 w') rfl (⟨l0, l1, hF2⟩) ?_
                repeat' first
                  | (refine CanonL.skip (by rfl) ?_; (try simp only [Act.put, List.setIfInBounds_toArray, List.set_cons_zero, List.set_cons_succ]))
                  | (refine CanonL.val (v := ?_) (by rfl) ?_ ?_; rotate_left 1; (focus (intro w hSw; (try dsimp only at hSw); go_simp; (try (with_reducible rfl)); done)); (try simp only [Act.put, List.setIfInBounds_toArray, List.set_cons_zero, List.set_cons_succ]))
                refine CanonL.done ?_
                intro w9 hS9
                obtain ⟨_, _, f9⟩ := hS9
                have HFF := Lib.hid f9
                clear f9 hF2 l0 l1
                go_wp2_with fail
                go_roundw
                case rel => exact ⟨i + 1, by omega, by go_num, HFF.out⟩
                case measure => simp [intOf]; omega
              | true =>
                have HAX := Lib.hid (fun W => age_any x now W hnow)
                obtain ⟨dx, hdx⟩ : ∃ dx, now - x.tick = dx := ⟨_, rfl⟩
                rw [hdx] at HAX
                by_cases h5 : dx < 512
                · have hmem : x ∈ M := by rw [← HM.out]; exact kept9_newest (by rw [← HX.out]; exact List.getElem_mem hlt) (fun t ht => by have := List.all_eq_true.1 hnb t ht; simpa using this) (by omega)
                  have h5i : (dx : Int) < 512 := by omega
                  have HH : ∀ W, (W.cell? ⟨gl, ol + i * 2, none⟩ = some (.int .u32 (x.id : Int)) ∧ W.cell? ⟨gl, ol + i * 2 + 1, none⟩ = some (.int .u32 (x.tick : Int)) ∧ Frm (fun _ => False) w5 W) → Calls Try.prog 23 #[.slice a5 M.length c5, .agg (stv x)] W fun e w' => e = .returned (.bool true) ∧ Frm (fun _ => False) W w' := fun W hW => by
                    have h := has9_any (.slice a5 M.length c5) M x W (HO5.out.keepF hW.2.2)
                    rw [decide_eq_true hmem] at h
                    exact h
                  have HHH := Lib.hid HH
                  clear HH hmem hdx hnb
                  go_upto_region 22 with fail
                  refine wp_region_seq (fun w' => w'.cell? ⟨gl, ol + i * 2, none⟩ = some (.int .u32 (x.id : Int)) ∧ w'.cell? ⟨gl, ol + i * 2 + 1, none⟩ = some (.int .u32 (x.tick : Int)) ∧ Frm (fun _ => False) w5 w') rfl (⟨l0, l1, hF2⟩) ?_
                  repeat' first
                    | (refine CanonL.skip (by rfl) ?_; (try simp only [Act.put, List.setIfInBounds_toArray, List.set_cons_zero, List.set_cons_succ]))
                    | (refine CanonL.callQ (by rfl) (by rfl) ?_ HAX ?_ ?_; (focus (intro w; go_simp; (try (with_reducible rfl)); done)); (focus (rintro w ww hs gg; exact ⟨gg.cellF hs.1, gg.cellF hs.2.1, hs.2.2.trans gg⟩)); (try simp only [Act.put, List.setIfInBounds_toArray, List.set_cons_zero, List.set_cons_succ]))
                    | (refine CanonL.callS (by rfl) (by rfl) ?_ HHH.out ?_ ?_; (focus (intro w; go_simp; (try (with_reducible rfl)); done)); (focus (rintro w ww hs gg; exact ⟨gg.cellF hs.1, gg.cellF hs.2.1, hs.2.2.trans gg⟩)); (try simp only [Act.put, List.setIfInBounds_toArray, List.set_cons_zero, List.set_cons_succ]))
                    | (refine CanonL.val (v := ?_) (by rfl) ?_ ?_; rotate_left 1; (focus (intro w hSw; (try dsimp only at hSw); go_simp; (try (with_reducible rfl)); done)); (try simp only [Act.put, List.setIfInBounds_toArray, List.set_cons_zero, List.set_cons_succ]))
                  refine CanonL.done ?_
                  intro w9 hS9
                  obtain ⟨_, _, f9⟩ := hS9
                  have HFF := Lib.hid f9
                  clear f9 hF2 l0 l1
                  go_wp2_with fail
                  go_roundw
                  case rel => exact ⟨i + 1, by omega, by go_num, HFF.out⟩
                  case measure => simp [intOf]; omega
                · have h5i : ¬ (dx : Int) < 512 := by omega
                  clear hdx hnb
                  go_upto_region 22 with fail
                  refine wp_region_seq (fun w' => w'.cell? ⟨gl, ol + i * 2, none⟩ = some (.int .u32 (x.id : Int)) ∧ w'.cell? ⟨gl, ol + i * 2 + 1, none⟩ = some (.int .u32 (x.tick : Int)) ∧ Frm (fun _ => False) w5 w') rfl (⟨l0, l1, hF2⟩) ?_
                  repeat' first
                    | (refine CanonL.skip (by rfl) ?_; (try simp only [Act.put, List.setIfInBounds_toArray, List.set_cons_zero, List.set_cons_succ]))
                    | (refine CanonL.callQ (by rfl) (by rfl) ?_ HAX ?_ ?_; (focus (intro w; go_simp; (try (with_reducible rfl)); done)); (focus (rintro w ww hs gg; exact ⟨gg.cellF hs.1, gg.cellF hs.2.1, hs.2.2.trans gg⟩)); (try simp only [Act.put, List.setIfInBounds_toArray, List.set_cons_zero, List.set_cons_succ]))
                    | (refine CanonL.val (v := ?_) (by rfl) ?_ ?_; rotate_left 1; (focus (intro w hSw; (try dsimp only at hSw); go_simp; (try (with_reducible rfl)); done)); (try simp only [Act.put, List.setIfInBounds_toArray, List.set_cons_zero, List.set_cons_succ]))
                  refine CanonL.done ?_
                  intro w9 hS9
                  obtain ⟨_, _, f9⟩ := hS9
                  have HFF := Lib.hid f9
                  clear f9 hF2 l0 l1
                  go_wp2_with fail
                  go_roundw
                  case rel => exact ⟨i + 1, by omega, by go_num, HFF.out⟩
                  case measure => simp [intOf]; omega
         · obtain rfl : i = l.length := by omega
           have HW := Lib.hid awake9_any
           go_wp2_with fail
           refine (HW.out _).mono ?_
           rintro e w6 ⟨rfl, g6⟩
           go_wp2_with fail
           go_ret
           exact ⟨rfl, (HG5.out.trans hF).trans g6⟩
end Go.Proofs.Ytbmlfhiffooilaa
