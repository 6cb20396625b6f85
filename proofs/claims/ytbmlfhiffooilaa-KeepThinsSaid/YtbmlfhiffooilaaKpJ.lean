/- The document's own answers: first, One, Keep; the statements' theirs, has. No condition but that there are at most a thousand versions. -/
import Derived.Test.YtbmlfhiffooilaaKpI
namespace Go.Proofs.Ytbmlfhiffooilaa
open Go.RowKit Go.Shelf

theorem run_eq_st (x y : StI) (w : World) : (Op.equalIn 10000 24 (.agg (stv x)) (.agg (stv y))).run Try.prog w = .ok (decide (x = y)) w := by
  have u3 := Try.underlying22
  have a3 := Try.isAgg22
  have z3 := Try.sizeOf22
  have hS : Try.prog.underlying 24 = some (.struct (Try.prog.fieldsOf 24)) := by kernel_rfl
  rw [show (10000 : Nat) = 9999 + 1 from rfl, run_equalIn_agg w 9999 24 _ _ hS (by kernel_rfl)]
  simp only [Program.fieldsOf, Try.underlying24]
  go_simp
  simp only [Int.natCast_inj]
  by_cases h0 : x.id = y.id
  case neg =>
    have hne : ¬ x = y := fun e => h0 (by rw [e])
    simp [h0, hne]
  by_cases h1 : x.tick = y.tick
  · have he : x = y := StI.ext' h0 h1
    simp [he]
  · have hne : ¬ x = y := fun e => h1 (by rw [e])
    simp [h0, h1, hne]
theorem infoRs : (Try.prog.info? 30).map (fun i => (i.zero, i.size, i.bytes)) = some (some (.agg #[.int .u32 0, .int .u32 0]), 2, 8) := by kernel_rfl
theorem append_rsts (w : World) (v x : Value) (l m : List StI) (h : OwnSt w v l) (hs : StL w x m) (hb : l.length + m.length ≤ 1000001) :
    ∃ v' w', (Builtin.append_ #[42, 42] 42 #[v, x]).run Try.prog w = .ok v' w' ∧ OwnSt w' v' (l ++ m) ∧ w.grownBy w' v.ownBlock ∧ (∀ g, v'.ownBlock = some g → v.ownBlock = some g ∨ w.heap.size ≤ g) := by
  obtain ⟨i0, hi, hz0, hz1, hz2⟩ := info_parts infoRs
  obtain ⟨v', w', h1, h2, h3, h4⟩ := run_append_row w 42 42 42 30 i0 (.agg #[.int .u32 0, .int .u32 0]) 2 8 Try.underlying42 hi hz0 hz1 hz2 rfl h x m.length (flat stc m)
    (Sl.src hs Try.underlying42 (flat_one stc stc_one m)) (by unfold maxLen; omega) (by omega)
  exact ⟨v', w', h1, by unfold OwnSt; rw [List.length_append, flat_append]; exact h2, h3, h4⟩
theorem StL.rone (w : World) (s : StI) : StL (w.alloc (.cells (stv s) 30)) (.slice (some ⟨w.heap.size, 0, none⟩) 1 1) [s] := Sl.built stc stc_len w 30 s (stv s) rfl
set_option maxRecDepth 100000 in
set_option maxHeartbeats 4000000 in
theorem theirs_any (v : Value) (l : List StI) (w : World) (h : StL w v l) (hb : l.length ≤ 1000) :
    Calls Try.prog 18 #[v] w (StTo l w) := by
  obtain ⟨a, cap, rfl, hc1, hc2⟩ := h.slice
  unfold maxLen at hc2
  have HL := Lib.hid h
  clear h
  go_enter Try.func18, Try.ntmps18
  go_wp2_with fail
  go_loopw [3, 4] (fun u i wr => ∃ j : Nat, j ≤ l.length ∧ i = .int .i64 j ∧ OwnSt wr u (l.take j) ∧ (∀ g, u.ownBlock = some g → w.heap.size ≤ g) ∧ Frm (fun _ => False) w wr) (fun _ i _ => l.length - (intOf i).toNat)
  case atStart => exact ⟨0, Nat.zero_le _, rfl, by rw [List.take_zero]; exact OwnSt.nil_ _, fun g e => (by cases e), Frm.refl _ _⟩
  case round =>
    obtain ⟨j, hj, rfl, hO, hN, hF⟩ := hrel
    by_cases hlt : j < l.length
    · have hji : (j : Int) < (l.length : Int) := by omega
      have hj0 : (0 : Int) ≤ (j : Int) := by omega
      obtain ⟨g, off, rfl, e0, e1⟩ := (HL.out.keepF hF).elem j hlt
      obtain ⟨s, hs⟩ : ∃ s, l[j] = s := ⟨_, rfl⟩
      have HT : Hid (l.take (j + 1) = l.take j ++ [s]) := Lib.hid (by rw [List.take_succ_eq_append_getElem hlt, hs])
      rw [hs] at e0 e1
      clear hs
      have g3 : Frm (fun _ => False) wr (wr.alloc (.cells (stv s) 30)) := (Frm.refl _ wr).alloc _
      obtain ⟨a4, c4, rfl, _, _⟩ := hO.sl.slice
      have hl : (l.take j).length = j := by rw [List.length_take]; omega
      obtain ⟨v6, w6, hrun, hrow, hgr, hnew⟩ := append_rsts _ _ _ _ [s] (hO.keep g3 (fun _ _ h => h)) (StL.rone wr s) (by
        have h3 : ([s] : List StI).length = 1 := rfl
        omega)
      have HT6 := Lib.hid (show ∀ g, v6.ownBlock = some g → w.heap.size ≤ g from fun g e => (hnew g e).elim (fun e => hN g e) (fun e => by have := g3.size; have := hF.size; omega))
      have HF6 := Lib.hid (show Frm (fun _ => False) w w6 from (hF.trans g3).grown hgr (fun k hk e => by have := hN k e; omega))
      have HO6 := Lib.hid hrow
      have Hrun := Lib.hid hrun
      clear hO hN hF g3 hrun hrow hgr hnew hl
      go_wp2_with (at_builtin; refine Lib.wpList_append_run _ rfl _ _ _ _ rfl _ _ rfl rfl _ _ Hrun.out ?_)
      go_roundw
      case rel => exact ⟨j + 1, by omega, by go_num, by rw [HT.out]; exact HO6.out, HT6.out, HF6.out⟩
      case measure => simp [intOf]; omega
    · obtain rfl : j = l.length := by omega
      rw [List.take_length] at hO
      go_wp2_with fail
      go_ret
      exact ⟨u3, rfl, hO, hN, hF⟩
set_option maxRecDepth 100000 in
set_option maxHeartbeats 4000000 in
theorem has9_any (v : Value) (l : List StI) (s : StI) (w : World) (h : StL w v l) :
    Calls Try.prog 23 #[v, .agg (stv s)] w fun e w' => e = .returned (.bool (decide (s ∈ l))) ∧ Frm (fun _ => False) w w' := by
  obtain ⟨a, cap, rfl, hc1, hc2⟩ := h.slice
  unfold maxLen at hc2
  have g0 : Frm (fun _ => False) w (w.alloc (.cells (stv s) 24)) := (Frm.refl _ w).alloc _
  have b0 : Blk (w.alloc (.cells (stv s) 24)) w.heap.size 24 (stv s) := Blk.alloc w _ _
  have HL := Lib.hid h
  have HG := Lib.hid g0
  go_enter Try.func23, Try.ntmps23
  go_upto_region 2 with fail
  generalize w.alloc (.cells (stv s) 24) = w1 at *
  obtain ⟨A, hA⟩ : ∃ A, w.heap.size = A := ⟨_, rfl⟩
  rw [hA] at b0 ⊢
  have HB := Lib.hid b0
  clear h b0 g0 hA
  go_wp2_with fail
  go_loopw [5] (fun i wr => ∃ j : Nat, j ≤ l.length ∧ i = .int .i64 j ∧ (∀ t (ht : t < l.length), t < j → ¬ l[t] = s) ∧ Frm (fun _ => False) w1 wr) (fun i _ => l.length - (intOf i).toNat)
  case atStart => exact ⟨0, Nat.zero_le _, rfl, fun t _ h => absurd h (Nat.not_lt_zero _), Frm.refl _ _⟩
  case round =>
    obtain ⟨j, hj, rfl, hD, hF⟩ := hrel
    have HD := Lib.hid hD
    clear hD
    by_cases hlt : j < l.length
    · have hji : (j : Int) < (l.length : Int) := by omega
      have hj0 : (0 : Int) ≤ (j : Int) := by omega
      obtain ⟨g, off, rfl, e0, e1⟩ := (HL.out.keepF (HG.out.trans hF)).elem j hlt
      obtain ⟨t, ht⟩ : ∃ t, l[j] = t := ⟨_, rfl⟩
      have HT := Lib.hid ht
      rw [ht] at e0 e1
      clear ht
      have p0 := (HB.out.keep hF (fun h => h)).cell 0 rfl
      have p1 := (HB.out.keep hF (fun h => h)).cell 1 rfl
      obtain ⟨q, hq⟩ : ∃ q, decide (t = s) = q := ⟨_, rfl⟩
      have hQ : ∀ W, (Op.equalIn 10000 24 (.agg (stv t)) (.agg (stv s))).run Try.prog W = .ok q W := fun W => by rw [run_eq_st, hq]
      have HQ := Lib.hid hq
      clear hq
      go_upto_region 4 with fail
      refine wp_region_canon (fun w' => w'.cell? ⟨g, off + j * 2, none⟩ = some (.int .u32 (t.id : Int)) ∧ w'.cell? ⟨g, off + j * 2 + 1, none⟩ = some (.int .u32 (t.tick : Int)) ∧ w'.cell? ⟨A, 0, none⟩ = some (.int .u32 (s.id : Int)) ∧ w'.cell? ⟨A, 1, none⟩ = some (.int .u32 (s.tick : Int)) ∧ Frm (fun _ => False) w1 w') (by kernel_rfl) rfl (by kernel_rfl) (by kernel_rfl) (⟨e0, e1, p0, p1, hF.drew⟩) ?_
      repeat' first
        | (refine CanonL.skip (by rfl) ?_; (try simp only [Act.put, List.setIfInBounds_toArray, List.set_cons_zero, List.set_cons_succ]))
        | (refine CanonL.val (v := ?_) (by rfl) ?_ ?_; rotate_left 1; (focus (intro w hSw; (try dsimp only at hSw); go_simp; (try (with_reducible rfl)); done)); (try simp only [Act.put, List.setIfInBounds_toArray, List.set_cons_zero, List.set_cons_succ]))
      refine CanonL.done ?_
      intro w9 hS9
      obtain ⟨_, _, _, _, ff⟩ := hS9
      have HFF := Lib.hid ff
      clear ff hF e0 e1 p0 p1 hQ
      cases q with
      | true =>
        go_wp2_with fail
        go_ret
        exact ⟨by rw [decide_eq_true (show s ∈ l by rw [← of_decide_eq_true HQ.out, ← HT.out]; exact List.getElem_mem hlt)]; rfl, HG.out.trans HFF.out⟩
      | false =>
        go_wp2_with fail
        go_roundw
        case rel => exact ⟨j + 1, by omega, by go_num, fun x hx hxj => by
          rcases Nat.lt_or_ge x j with h | h
          · exact HD.out x hx h
          · obtain rfl : x = j := by omega
            rw [HT.out]
            exact of_decide_eq_false HQ.out, HFF.out⟩
        case measure => simp [intOf]; omega
    · obtain rfl : j = l.length := by omega
      go_wp2_with fail
      go_ret
      exact ⟨by rw [decide_eq_false (show ¬ s ∈ l from fun hm => by
        obtain ⟨i, hi, e⟩ := List.getElem_of_mem hm
        exact HD.out i hi hi e)]; rfl, HG.out.trans hF⟩
/-- A version in a bucket, as the document says it. -/
theorem bucket_iff {t s wd : Nat} (hw : 0 < wd) : t / wd = s / wd ↔ (s - s % wd ≤ t ∧ t - (s - s % wd) < wd) := by
  have h1 : s - s % wd = s / wd * wd := by
    have := Nat.div_add_mod s wd
    rw [Nat.mul_comm] at this
    omega
  rw [h1, Nat.div_eq_iff hw]
  constructor
  · intro h
    omega
  · intro h
    omega
set_option maxRecDepth 100000 in
set_option maxHeartbeats 8000000 in
theorem first_any (wd : Nat) (v : Value) (l : List StI) (s : StI) (w : World) (h : StL w v l) (hwd : 0 < wd) (hwl : wd ≤ 1000) :
    Calls Try.prog 31 #[v, .agg (stv s), .int .u32 (wd : Int)] w fun e w' => e = .returned (.bool (firstS l wd s)) ∧ Frm (fun _ => False) w w' := by
  obtain ⟨a, cap, rfl, hc1, hc2⟩ := h.slice
  unfold maxLen at hc2
  have g0 : Frm (fun _ => False) w (w.alloc (.cells (stv s) 30)) := (Frm.refl _ w).alloc _
  have b0 : Blk (w.alloc (.cells (stv s) 30)) w.heap.size 30 (stv s) := Blk.alloc w _ _
  have HL := Lib.hid h
  have HG := Lib.hid g0
  obtain ⟨rm, hrm⟩ : ∃ rm, s.tick % wd = rm := ⟨_, rfl⟩
  obtain ⟨fr, hfr⟩ : ∃ fr, s.tick - rm = fr := ⟨_, rfl⟩
  have hst := s.ht
  have hrl : rm ≤ s.tick := by rw [← hrm]; exact Nat.mod_le _ _
  have hwn : ¬ wd = 0 := by omega
  have hws : IntKind.u32.wrap ((s.tick : Int) - Int.tmod (s.tick : Int) (wd : Int)) = (fr : Int) := by
    rw [show Int.tmod (s.tick : Int) (wd : Int) = ((s.tick % wd : Nat) : Int) from rfl, hrm, IntWalk.u32_in _ (by omega)]; omega
  have HFR : Hid (∀ t, t / wd = s.tick / wd ↔ fr ≤ t ∧ t - fr < wd) := Lib.hid fun t => by rw [← hfr, ← hrm]; exact bucket_iff hwd
  clear hfr hrm
  go_enter Try.func31, Try.ntmps31
  go_upto_region 1 with fail
  generalize w.alloc (.cells (stv s) 30) = w1 at *
  obtain ⟨A, hA⟩ : ∃ A, w.heap.size = A := ⟨_, rfl⟩
  rw [hA] at b0 ⊢
  have HB := Lib.hid b0
  have p0 := b0.cell 0 rfl
  have p1 := b0.cell 1 rfl
  clear h b0 g0 hA
  refine wp_region_canon (fun w' => w'.cell? ⟨A, 0, none⟩ = some (.int .u32 (s.id : Int)) ∧ w'.cell? ⟨A, 1, none⟩ = some (.int .u32 (s.tick : Int)) ∧ Frm (fun _ => False) w1 w') (by kernel_rfl) rfl (by kernel_rfl) (by kernel_rfl) (⟨p0, p1, (Frm.refl _ w1).drew⟩) ?_
  repeat' first
    | (refine CanonL.skip (by rfl) ?_; (try simp only [Act.put, List.setIfInBounds_toArray, List.set_cons_zero, List.set_cons_succ]))
    | (refine CanonL.val (v := ?_) (by rfl) ?_ ?_; rotate_left 1; (focus (intro w hSw; (try dsimp only at hSw); go_simp; (try (with_reducible rfl)); done)); (try simp only [Act.put, List.setIfInBounds_toArray, List.set_cons_zero, List.set_cons_succ]))
  refine CanonL.done ?_
  intro w9 hS9
  obtain ⟨_, _, ff⟩ := hS9
  have HG1 := Lib.hid (HG.out.trans ff)
  have HBW := Lib.hid (HB.out.keep ff (fun h => h))
  generalize hw29 : w9 = w2 at *
  clear hw29 ff p0 p1 HB HG
  go_wp2_with fail
  go_loopw [8] (fun i wr => ∃ j : Nat, j ≤ l.length ∧ i = .int .i64 j ∧ (∀ t (ht : t < l.length), t < j → l[t].tick / wd = s.tick / wd → newer l[t] s = false) ∧ Frm (fun _ => False) w2 wr) (fun i _ => l.length - (intOf i).toNat)
  case atStart => exact ⟨0, Nat.zero_le _, rfl, fun t _ h => absurd h (Nat.not_lt_zero _), Frm.refl _ _⟩
  case round =>
    obtain ⟨j, hj, rfl, hdn, hF⟩ := hrel
    have HDN := Lib.hid hdn
    clear hdn
    by_cases hlt : j < l.length
    · have hji : (j : Int) < (l.length : Int) := by omega
      have hj0 : (0 : Int) ≤ (j : Int) := by omega
      obtain ⟨g, off, rfl, e0, e1⟩ := (HL.out.keepF (HG1.out.trans hF)).elem j hlt
      obtain ⟨t, ht⟩ : ∃ t, l[j] = t := ⟨_, rfl⟩
      have HT := Lib.hid ht
      rw [ht] at e0 e1
      clear ht
      have htb := t.ht
      have q0 := (HBW.out.keep hF (fun h => h)).cell 0 rfl
      have q1 := (HBW.out.keep hF (fun h => h)).cell 1 rfl
      have HN := Lib.hid (fun W => rnewer_any t s W)
      have hB := HFR.out t.tick
      by_cases c1 : fr ≤ t.tick
      · have c1i : (fr : Int) ≤ (t.tick : Int) := by omega
        obtain ⟨df, hdf⟩ : ∃ df, t.tick - fr = df := ⟨_, rfl⟩
        have hsub : IntKind.u32.wrap ((t.tick : Int) - (fr : Int)) = (df : Int) := by rw [IntWalk.u32_in _ (by omega)]; omega
        by_cases c2 : df < wd
        · have c2i : (df : Int) < (wd : Int) := by omega
          have HBK : Hid (t.tick / wd = s.tick / wd) := Lib.hid (hB.2 ⟨c1, by omega⟩)
          obtain ⟨q, hq⟩ : ∃ q, newer t s = q := ⟨_, rfl⟩
          rw [hq] at HN
          have HQ := Lib.hid hq
          clear hB hdf hq
          go_upto_region 5 with fail
          refine wp_region_canon (fun w' => w'.cell? ⟨g, off + j * 2, none⟩ = some (.int .u32 (t.id : Int)) ∧ w'.cell? ⟨g, off + j * 2 + 1, none⟩ = some (.int .u32 (t.tick : Int)) ∧ w'.cell? ⟨A, 0, none⟩ = some (.int .u32 (s.id : Int)) ∧ w'.cell? ⟨A, 1, none⟩ = some (.int .u32 (s.tick : Int)) ∧ Frm (fun _ => False) w2 w') (by kernel_rfl) rfl (by kernel_rfl) (by kernel_rfl) (⟨e0, e1, q0, q1, hF.drew⟩) ?_
          repeat' first
            | (refine CanonL.skip (by rfl) ?_; (try simp only [Act.put, List.setIfInBounds_toArray, List.set_cons_zero, List.set_cons_succ]))
            | (refine CanonL.callQ (by rfl) (by rfl) ?_ HN ?_ ?_; (focus (intro w; go_simp; (try (with_reducible rfl)); done)); (focus (rintro w ww hs gg; exact ⟨gg.cellF hs.1, gg.cellF hs.2.1, gg.cellF hs.2.2.1, gg.cellF hs.2.2.2.1, hs.2.2.2.2.trans gg⟩)); (try simp only [Act.put, List.setIfInBounds_toArray, List.set_cons_zero, List.set_cons_succ]))
            | (refine CanonL.val (v := ?_) (by rfl) ?_ ?_; rotate_left 1; (focus (intro w hSw; (try dsimp only at hSw); go_simp; (try (with_reducible rfl)); done)); (try simp only [Act.put, List.setIfInBounds_toArray, List.set_cons_zero, List.set_cons_succ]))
          refine CanonL.done ?_
          intro w9 hS9
          obtain ⟨_, _, _, _, ff⟩ := hS9
          have HFF := Lib.hid ff
          clear ff hF e0 e1 q0 q1
          cases q with
          | true =>
            go_wp2_with fail
            go_ret
            refine ⟨?_, HG1.out.trans HFF.out⟩
            have e : firstS l wd s = false := by
              rw [Bool.eq_false_iff]
              intro h
              have := firstS_iff.1 h t (by rw [← HT.out]; exact List.getElem_mem hlt) HBK.out
              rw [HQ.out] at this
              cases this
            rw [e]; rfl
          | false =>
            go_wp2_with fail
            go_roundw
            case rel => exact ⟨j + 1, by omega, by go_num, fun x hx hxj hb => by
              rcases Nat.lt_or_ge x j with h | h
              · exact HDN.out x hx h hb
              · obtain rfl : x = j := by omega
                rw [HT.out] at hb ⊢
                exact HQ.out, HFF.out⟩
            case measure => simp [intOf]; omega
        · have c2i : ¬ (df : Int) < (wd : Int) := by omega
          have HBK : Hid (¬ t.tick / wd = s.tick / wd) := Lib.hid (fun h => by have := (hB.1 h).2; omega)
          clear hB hdf
          go_upto_region 5 with fail
          refine wp_region_canon (fun w' => w'.cell? ⟨g, off + j * 2, none⟩ = some (.int .u32 (t.id : Int)) ∧ w'.cell? ⟨g, off + j * 2 + 1, none⟩ = some (.int .u32 (t.tick : Int)) ∧ w'.cell? ⟨A, 0, none⟩ = some (.int .u32 (s.id : Int)) ∧ w'.cell? ⟨A, 1, none⟩ = some (.int .u32 (s.tick : Int)) ∧ Frm (fun _ => False) w2 w') (by kernel_rfl) rfl (by kernel_rfl) (by kernel_rfl) (⟨e0, e1, q0, q1, hF.drew⟩) ?_
          repeat' first
            | (refine CanonL.skip (by rfl) ?_; (try simp only [Act.put, List.setIfInBounds_toArray, List.set_cons_zero, List.set_cons_succ]))
            | (refine CanonL.callQ (by rfl) (by rfl) ?_ HN ?_ ?_; (focus (intro w; go_simp; (try (with_reducible rfl)); done)); (focus (rintro w ww hs gg; exact ⟨gg.cellF hs.1, gg.cellF hs.2.1, gg.cellF hs.2.2.1, gg.cellF hs.2.2.2.1, hs.2.2.2.2.trans gg⟩)); (try simp only [Act.put, List.setIfInBounds_toArray, List.set_cons_zero, List.set_cons_succ]))
            | (refine CanonL.val (v := ?_) (by rfl) ?_ ?_; rotate_left 1; (focus (intro w hSw; (try dsimp only at hSw); go_simp; (try (with_reducible rfl)); done)); (try simp only [Act.put, List.setIfInBounds_toArray, List.set_cons_zero, List.set_cons_succ]))
          refine CanonL.done ?_
          intro w9 hS9
          obtain ⟨_, _, _, _, ff⟩ := hS9
          have HFF := Lib.hid ff
          clear ff hF e0 e1 q0 q1
          go_wp2_with fail
          go_roundw
          case rel => exact ⟨j + 1, by omega, by go_num, fun x hx hxj hb => by
            rcases Nat.lt_or_ge x j with h | h
            · exact HDN.out x hx h hb
            · obtain rfl : x = j := by omega
              rw [HT.out] at hb ⊢
              exact absurd hb HBK.out, HFF.out⟩
          case measure => simp [intOf]; omega
      · have c1i : ¬ (fr : Int) ≤ (t.tick : Int) := by omega
        have HBK : Hid (¬ t.tick / wd = s.tick / wd) := Lib.hid (fun h => by have := (hB.1 h).1; omega)
        clear hB
        go_upto_region 5 with fail
        refine wp_region_canon (fun w' => w'.cell? ⟨g, off + j * 2, none⟩ = some (.int .u32 (t.id : Int)) ∧ w'.cell? ⟨g, off + j * 2 + 1, none⟩ = some (.int .u32 (t.tick : Int)) ∧ w'.cell? ⟨A, 0, none⟩ = some (.int .u32 (s.id : Int)) ∧ w'.cell? ⟨A, 1, none⟩ = some (.int .u32 (s.tick : Int)) ∧ Frm (fun _ => False) w2 w') (by kernel_rfl) rfl (by kernel_rfl) (by kernel_rfl) (⟨e0, e1, q0, q1, hF.drew⟩) ?_
        repeat' first
          | (refine CanonL.skip (by rfl) ?_; (try simp only [Act.put, List.setIfInBounds_toArray, List.set_cons_zero, List.set_cons_succ]))
          | (refine CanonL.callQ (by rfl) (by rfl) ?_ HN ?_ ?_; (focus (intro w; go_simp; (try (with_reducible rfl)); done)); (focus (rintro w ww hs gg; exact ⟨gg.cellF hs.1, gg.cellF hs.2.1, gg.cellF hs.2.2.1, gg.cellF hs.2.2.2.1, hs.2.2.2.2.trans gg⟩)); (try simp only [Act.put, List.setIfInBounds_toArray, List.set_cons_zero, List.set_cons_succ]))
          | (refine CanonL.val (v := ?_) (by rfl) ?_ ?_; rotate_left 1; (focus (intro w hSw; (try dsimp only at hSw); go_simp; (try (with_reducible rfl)); done)); (try simp only [Act.put, List.setIfInBounds_toArray, List.set_cons_zero, List.set_cons_succ]))
        refine CanonL.done ?_
        intro w9 hS9
        obtain ⟨_, _, _, _, ff⟩ := hS9
        have HFF := Lib.hid ff
        clear ff hF e0 e1 q0 q1
        go_wp2_with fail
        go_roundw
        case rel => exact ⟨j + 1, by omega, by go_num, fun x hx hxj hb => by
          rcases Nat.lt_or_ge x j with h | h
          · exact HDN.out x hx h hb
          · obtain rfl : x = j := by omega
            rw [HT.out] at hb ⊢
            exact absurd hb HBK.out, HFF.out⟩
        case measure => simp [intOf]; omega
    · obtain rfl : j = l.length := by omega
      go_wp2_with fail
      go_ret
      refine ⟨?_, HG1.out.trans hF⟩
      have e : firstS l wd s = true := firstS_iff.2 fun t ht hb => by
        obtain ⟨i, hi, e⟩ := List.getElem_of_mem ht
        subst e
        exact HDN.out i hi hi hb
      rw [e]; rfl
end Go.Proofs.Ytbmlfhiffooilaa
