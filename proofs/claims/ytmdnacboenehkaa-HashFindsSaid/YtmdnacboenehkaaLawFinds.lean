/- HashFinds: what the law's call answers. No condition. -/
import Derived.Test.YtmdnacboenehkaaHashP
import Derived.Test.YtmdnacboenehkaaActs
import Derived.Test.YtmdnacboenehkaaEight
namespace Go.Proofs.Ytmdnacboenehkaa
open Go.RowKit Go.Shelf
attribute [local go_sem] Oper.semAt_some

/-- The texts are short. -/
def short8 (t : Nat → List UInt8) : Prop := ∀ i, i < 8 → (t i).length ≤ 300
set_option maxRecDepth 100000 in
set_option maxHeartbeats 4000000 in
theorem finds_in (t : Nat → List UInt8) (v : Value) (L : List ActI) (w : World) (h : It w v L) (hfew : fewP L) (ht : short8 t) :
    CallsIn Fence.wide 9 Try.prog 6 #[.agg (row8 t), v] w fun e w' => e = .returned (.bool true) ∧ Frm (fun _ => False) w w' := by
  have hT := Blk.alloc w 51 (row8 t)
  have f0 := (Frm.refl (fun _ => False) w).alloc (.cells (row8 t) 51)
  obtain ⟨a, cap, rfl, hc1, hc2, hcells⟩ := id h
  obtain ⟨hf1, hf2⟩ := hfew
  have Hf2 := Lib.hid hf2
  have Ht := Lib.hid ht
  have HT : Hid (∀ i, i < 8 → ∀ W, Frm (fun _ => False) (w.alloc (.cells (row8 t) 51)) W → W.cell? ⟨w.heap.size, i, none⟩ = some (.string (bs (t i)))) :=
    Lib.hid fun i hi W hW => (hT.keep hW (fun h => h)).cell i (row8_at t i hi)
  clear hf2 ht hcells hT
  unfold maxLen at hc2
  refine callsIn_of_wp_marks Try.func6 rfl trivial ?_ rfl
  refine wpIn_wide.2 ?_
  refine Code.wp_mono calm_le ?_
  simp only [Try.ntmps6, List.size_toArray, List.length_cons, List.length_nil, Nat.reduceAdd, Nat.reduceSub, Array.replicate_succ, Array.replicate_zero, List.push_toArray, List.append_toArray, List.nil_append, List.cons_append]
  go_wp2_with fail
  generalize hw1 : w.alloc (.cells (row8 t) 51) = w1 at *
  generalize htb : w.heap.size = tb at *
  go_loop [5] (fun i => ∃ k : Nat, k ≤ 8 ∧ i = .int .i64 k) (fun i => 8 - (intOf i).toNat)
  case atStart => exact ⟨0, by omega, rfl⟩
  case round =>
    obtain ⟨k, hk, rfl⟩ := hrel
    by_cases hlt : k < 8
    · have c0 := HT.out k hlt w1 (Frm.refl _ _)
      have hs : ((bs (t k)).size : Int) ≤ 300 := by have := Ht.out k hlt; rw [bs_size]; omega
      have hk0 : (0 : Int) ≤ (k : Int) := by omega
      have hk8 : (k : Int) < 8 := by omega
      go_wp2_with fail
      go_round
      case rel => exact ⟨k + 1, by omega, by go_num⟩
      case measure => simp [intOf]; omega
    · obtain rfl : k = 8 := by omega
      go_wp2_with fail
      refine (new_own w1 w1 (Frm.refl _ _)).mono ?_
      rintro e w2 ⟨b, rfl, h2⟩
      go_wp2_with fail
      have f2 := f0.trans h2.frm
      have hit2 := h.keep f2 (fun _ _ h => h)
      refine (few_yes _ L _ hit2 ⟨hf1, Hf2.out⟩).mono ?_
      rintro e w3 ⟨rfl, rfl⟩
      go_wp2_with fail
      obtain ⟨f, hf⟩ : ∃ f : Nat → Nat, ∀ x, f x = bk (t (x % 8)) := ⟨_, fun _ => rfl⟩
      have HF := Lib.hid hf
      clear hf
      have hj : FJ w1 w2 b (itm f []) [] (.slice none 0 0) := FJ.start h2
      clear h2 hit2 f2
      go_loopw [7, 8] (fun v i wr => ∃ k : Nat, k ≤ L.length ∧ i = .int .i64 k ∧ ∃ ids : List Nat, ids.length ≤ k ∧ (∀ x ∈ ids, x < 200) ∧ FJ w1 wr b (itm f ids) ids v) (fun _ i _ => L.length - (intOf i).toNat)
      case atStart => exact ⟨0, Nat.zero_le _, rfl, [], Nat.le_refl _, by simp, hj⟩
      case round =>
        obtain ⟨k, hk, rfl, ids, hlen, hall, hj⟩ := hrel
        by_cases hlt : k < L.length
        · have hit := h.keep (f0.trans hj.frm) (fun _ _ h => h)
          obtain ⟨a', cap', e', _, _, hcells⟩ := hit
          cases e'
          obtain ⟨bb, off, rfl, hb, c0, c1, c2, q1, q2, q3⟩ := hcells k hlt
          clear hcells c1 q3
          obtain ⟨x, hx⟩ : ∃ x, L[k].n % 200 = x := ⟨_, rfl⟩
          have hx200 : x < 200 := by omega
          have hxi : (L[k].n : Int) % 200 = (x : Int) := by omega
          obtain ⟨y, hy⟩ : ∃ y, x % 8 = y := ⟨_, rfl⟩
          have hy8 : y < 8 := by omega
          have hyi : (x : Int) % 8 = (y : Int) := by omega
          have hy0 : (0 : Int) ≤ (y : Int) := by omega
          have hy8i : (y : Int) < 8 := by omega
          have ct := HT.out y hy8 _ hj.frm
          have hty : (t y).length ≤ 300 := Ht.out y hy8
          have hfx : bk (t y) = f x := by rw [HF.out, hy]
          have HX := Lib.hid hfx
          have Hall := Lib.hid hall
          obtain ⟨c, hc⟩ : ∃ c, L[k].k % 3 = c := ⟨_, rfl⟩
          have hc3 : c < 3 := by omega
          have Hc := Lib.hid hc
          have hkl : k < 101 := by omega
          clear hx hy hfx hall hc
          rcases (show c = 0 ∨ c = 1 ∨ c = 2 by omega) with rfl | rfl | rfl
          · have t0 : ((L[k].k : Int) % 3 == 0) = true := by rw [beq_iff_eq]; have := Hc.out; omega
            by_cases hm : x ∈ ids
            · go_wp2_with fail
              refine (place_yes _ ids x _ hj.reads hm).mono ?_
              rintro e w4 ⟨rfl, rfl⟩
              have hi0 : (0 : Int) ≤ (idx x ids : Int) := by omega
              go_wp2_with fail
              refine (add_again w1 _ b (t y) x f ids _ hj (by omega) (by omega) HX.out hm).mono ?_
              rintro e w5 ⟨rfl, hj5⟩
              go_wp2_with fail
              go_roundw
              case rel => exact ⟨k + 1, by omega, by go_num, ids, by omega, Hall.out, hj5⟩
              case measure => simp [intOf]; omega
            · go_wp2_with fail
              refine (place_no _ ids x _ hj.reads hm).mono ?_
              rintro e w4 ⟨rfl, rfl⟩
              go_wp2_with fail
              refine (add_fresh w1 _ b (t y) x f ids _ hj (by omega) (by omega) HX.out hm).mono ?_
              rintro e w5 ⟨rfl, hj5⟩
              have fa : Frm (fun _ => False) w5 (w5.alloc (.cells #[.int .u32 x] 35)) := (Frm.refl _ w5).alloc _
              obtain ⟨v', w6, hrun, hrow, hg, ho⟩ := append_ids _ _ _ ids [x] (hj5.keep fa).own (Ids.one w5 x) (by simp; omega)
              have hj6 := hj5.grow fa (fun _ h => h) hg hrow ho
              have Hrun := Lib.hid hrun
              clear hrun hg ho hrow
              go_wp2_with (at_builtin; refine Lib.wpList_append_run _ rfl _ _ _ _ rfl _ _ rfl rfl _ _ Hrun.out ?_)
              go_roundw
              case rel =>
                refine ⟨k + 1, by omega, by go_num, ids ++ [x], by simp; omega, fun z hz => ?_, hj6⟩
                rcases List.mem_append.1 hz with hz | hz
                · exact Hall.out z hz
                · simp at hz; omega
              case measure => simp [intOf]; omega
          · have t0 : ((L[k].k : Int) % 3 == 0) = false := by rw [beq_eq_false_iff_ne]; have := Hc.out; omega
            have t1 : ((L[k].k : Int) % 3 == 1) = true := by rw [beq_iff_eq]; have := Hc.out; omega
            by_cases hm : x ∈ ids
            · have hilt := idx_lt hm
              have her := erase_idx hm
              have hP := place_yes _ ids x _ hj.reads hm
              obtain ⟨g, cp, rfl, hcp1, hcp2⟩ : ∃ g cp, u7 = .slice (some ⟨g, 0, none⟩) ids.length cp ∧ ids.length ≤ cp ∧ cp ≤ maxLen := by
                rcases hj.own.2 with ⟨_, e⟩ | ⟨g, cp, e, a1, a2, _⟩
                · omega
                · exact ⟨g, cp, e, a1, a2⟩
              have hD := fun w => drop_there w1 w b (t y) x f ids (.slice (some ⟨g, 0, none⟩) ids.length cp)
              generalize idx x ids = i at *
              generalize ids.erase x = l' at *
              have HP := Lib.hid hP
              have HE := Lib.hid her
              have HD := Lib.hid hD
              clear hP her hD
              unfold maxLen at hcp2
              have hi0 : (0 : Int) ≤ (i : Int) := by omega
              go_wp2_with fail
              refine HP.out.mono ?_
              rintro e w4 ⟨rfl, rfl⟩
              go_wp2_with fail
              refine (HD.out _ hj (by omega) (by omega) HX.out hm).mono ?_
              rintro e w5 ⟨rfl, hj5⟩
              have e1 : IntKind.i64.wrap ((i : Int) + 1) = (i : Int) + 1 := IntWalk.i64_in _ (by omega)
              have e2 : ((i : Int) + 1).toNat = i + 1 := by omega
              have hi1 : (0 : Int) ≤ (i : Int) + 1 := by omega
              have hi2 : (i : Int) + 1 ≤ (ids.length : Int) := by omega
              have hi3 : (i : Int) ≤ (cp : Int) := by omega
              have hcz : ¬ cp = 0 := by omega
              have fa : Frm (fun _ => False) w5 w5.drew := (Frm.refl _ w5).drew
              by_cases hcc : cp = i + 1
              · subst hcc
                have hi4 : (i : Int) ≤ (i : Int) + 1 := by omega
                obtain ⟨v', w6, hrun, hrow, hg, ho⟩ := append_out w5 g ids.length (i + 1) i ids l' _ hj5.own rfl hcp1 hilt (by omega) (Ids.last (a := some ⟨g, 0, none⟩) i (by omega)) HE.out
                have hj6 := hj5.grow (vs := .slice (some ⟨g, 0, none⟩) i i) fa (fun _ h => h) hg hrow ho
                have Hrun := Lib.hid hrun
                clear hrun hg ho hrow
                have e3 : ids.length - (i + 1) = 0 := by omega
                go_wp2_with fail
                go_region_law ((refine step_append_run rfl (.tmp 96) (.tmp 100) 39 39 rfl (.slice (some ⟨g, 0, none⟩) i i) (.slice (some ⟨g, 0, none⟩) 0 0) ?h1 ?h2 v' w6 Hrun.out ?_; (case h1 => go_simp); (case h2 => go_simp)))
                go_wp2_with fail
                go_roundw
                case rel => exact ⟨k + 1, by omega, by go_num, l', out_len HE.out (by omega), out_all HE.out Hall.out, hj6⟩
                case measure => simp [intOf]; omega
              · obtain ⟨v', w6, hrun, hrow, hg, ho⟩ := append_out w5 g ids.length cp i ids l' _ hj5.own rfl hcp1 hilt (by omega) (Ids.behind hj5.reads rfl hilt hcc) HE.out
                have hj6 := hj5.grow (vs := .slice (some ⟨g, 0, none⟩) i i) fa (fun _ h => h) hg hrow ho
                have Hrun := Lib.hid hrun
                clear hrun hg ho hrow
                go_wp2_with fail
                go_region_law ((refine step_append_run rfl (.tmp 96) (.tmp 100) 39 39 rfl (.slice (some ⟨g, 0, none⟩) i i) (.slice (some ⟨g, i + 1, none⟩) (ids.length - (i + 1)) (cp - (i + 1))) ?h1 ?h2 v' w6 Hrun.out ?_; (case h1 => go_simp); (case h2 => go_simp)))
                go_wp2_with fail
                go_roundw
                case rel => exact ⟨k + 1, by omega, by go_num, l', out_len HE.out (by omega), out_all HE.out Hall.out, hj6⟩
                case measure => simp [intOf]; omega
            · go_wp2_with fail
              refine (place_no _ ids x _ hj.reads hm).mono ?_
              rintro e w4 ⟨rfl, rfl⟩
              go_wp2_with fail
              refine (drop_not w1 _ b (t y) x f ids _ hj (by omega) (by omega) HX.out hm).mono ?_
              rintro e w5 ⟨rfl, hj5⟩
              go_wp2_with fail
              go_roundw
              case rel => exact ⟨k + 1, by omega, by go_num, ids, by omega, Hall.out, hj5⟩
              case measure => simp [intOf]; omega
          · have t0 : ((L[k].k : Int) % 3 == 0) = false := by rw [beq_eq_false_iff_ne]; have := Hc.out; omega
            have t1 : ((L[k].k : Int) % 3 == 1) = false := by rw [beq_eq_false_iff_ne]; have := Hc.out; omega
            by_cases hm : x ∈ ids
            · go_wp2_with fail
              refine (place_yes _ ids x _ hj.reads hm).mono ?_
              rintro e w4 ⟨rfl, rfl⟩
              go_wp2_with fail
              go_roundw
              case rel => exact ⟨k + 1, by omega, by go_num, ids, by omega, Hall.out, hj⟩
              case measure => simp [intOf]; omega
            · go_wp2_with fail
              refine (place_no _ ids x _ hj.reads hm).mono ?_
              rintro e w4 ⟨rfl, rfl⟩
              go_wp2_with fail
              go_roundw
              case rel => exact ⟨k + 1, by omega, by go_num, ids, by omega, Hall.out, hj⟩
              case measure => simp [intOf]; omega
        · obtain rfl : k = L.length := by omega
          have hlen9 : ids.length ≤ 100 := by omega
          clear hlen
          have Hall := Lib.hid hall
          clear hall
          go_wp2_with fail
          go_loopw [12] (fun i wq => ∃ k : Nat, k ≤ 8 ∧ i = .int .i64 k ∧ FJ w1 wq b (itm f ids) ids u7) (fun i _ => 8 - (intOf i).toNat)
          case atStart => exact ⟨0, by omega, rfl, hj⟩
          case round =>
            obtain ⟨k, hk, rfl, hj⟩ := hrel
            by_cases hlt : k < 8
            · obtain ⟨wo, rfl⟩ : ∃ wo : World, wo = wr := ⟨_, rfl⟩
              obtain ⟨a7, cp, rfl, hcp1, hcp2⟩ := hj.reads.slice
              obtain ⟨B, hB⟩ : ∃ B, bk (t k) = B := ⟨_, rfl⟩
              have hb2 : ∀ W, Calls Try.prog 8 #[.string (bs (t k))] W fun e w' => e = .returned (.int .u8 (B : Nat)) ∧ ∃ n, w' = W.drewN n := fun W => by rw [← hB]; exact bucket_any _ W (by have := Ht.out k hlt; omega)
              have HB2 := Lib.hid hb2
              have HBk := Lib.hid hB
              have hk0 : (0 : Int) ≤ (k : Int) := by omega
              have hk8 : (k : Int) < 8 := by omega
              clear hb2 hB
              unfold maxLen at hcp2
              go_wp2_with fail
              go_loopw [13, 14] (fun v i wq => ∃ j : Nat, j ≤ ids.length ∧ i = .int .i64 j ∧ Frm (fun _ => False) wo wq ∧ Own wq v ((ids.take j).filter (fun x => f x == B)) ∧ ∀ g, v.ownBlock = some g → wo.heap.size ≤ g) (fun _ i _ => ids.length - (intOf i).toNat)
              case atStart => exact ⟨0, Nat.zero_le _, rfl, Frm.refl _ _, Own.nil_ _, fun g hg => by cases hg⟩
              case round =>
                obtain ⟨j, hjl, rfl, g1, o1, n1⟩ := hrel
                have hj1 := hj.keep g1
                by_cases hlt2 : j < ids.length
                · obtain ⟨x, hx⟩ : ∃ x, ids[j] = x := ⟨_, rfl⟩
                  obtain ⟨bb, off, rfl, hbl, c0⟩ := hj1.reads.at j hlt2
                  have hx200 : x < 200 := by rw [← hx]; exact Hall.out _ (List.getElem_mem hlt2)
                  rw [hx] at c0
                  obtain ⟨y, hy⟩ : ∃ y, x % 8 = y := ⟨_, rfl⟩
                  have hy8 : y < 8 := by omega
                  have hyi : (x : Int) % 8 = (y : Int) := by omega
                  have hy0 : (0 : Int) ≤ (y : Int) := by omega
                  have hy8i : (y : Int) < 8 := by omega
                  have ct := HT.out y hy8 _ hj1.frm
                  have ck := HT.out k hlt _ hj1.frm
                  obtain ⟨A, hA⟩ : ∃ A, f x = A := ⟨_, rfl⟩
                  have hb1 : ∀ W, Calls Try.prog 8 #[.string (bs (t y))] W fun e w' => e = .returned (.int .u8 (A : Nat)) ∧ ∃ n, w' = W.drewN n := fun W => by
                    have := bucket_any (t y) W (by have := Ht.out y hy8; omega)
                    rw [← hy, ← HF.out, hA] at this
                    rw [← hy]; exact this
                  have HB1 := Lib.hid hb1
                  have hts := List.take_succ_eq_append_getElem hlt2
                  have hj0 : (0 : Int) ≤ (j : Int) := by omega
                  have hji : (j : Int) < (ids.length : Int) := by omega
                  have HX := Lib.hid hx
                  have HA := Lib.hid hA
                  have HTS := Lib.hid hts
                  clear hb1 hy hx hA hts
                  by_cases hAB : A = B
                  · have hq : ((A : Int) == (B : Int)) = true := by rw [hAB]; exact beq_self_eq_true _
                    have HAB := Lib.hid hAB
                    clear hAB
                    go_wp2_with fail
                    go_quiet ((go_at_call 8; first | (with_reducible exact Calls.quiet_of (HB1.out _)) | (with_reducible exact Calls.quiet_of (HB2.out _))))
                    have g2 : Frm (fun _ => False) wo (wr.drewN nq) := g1.drewN nq
                    have o2 := o1.keep ((Frm.refl (fun _ => False) wr).drewN nq) (fun _ _ h => h)
                    have hj2 := hj1.keep ((Frm.refl (fun _ => False) wr).drewN nq)
                    generalize wr.drewN nq = w5 at *
                    clear g1 o1 hj1 c0 ct ck
                    obtain ⟨g5, off5, e5, _, c5⟩ := hj2.reads.at j hlt2
                    cases e5
                    rw [HX.out] at c5
                    have fa : Frm (fun _ => False) w5 (w5.alloc (.cells #[.int .u32 x] 35)) := (Frm.refl _ w5).alloc _
                    obtain ⟨v', w6, hrun, hrow, hg, ho⟩ := append_ids _ _ _ _ [x] (o2.keep fa (fun _ _ h => h)) (Ids.one w5 x) (by have := List.length_filter_le (fun x => f x == B) (ids.take j); simp at this ⊢; omega)
                    have g6 : Frm (fun _ => False) wo w6 := (g2.trans fa).grown hg (fun q hq e => by have := n1 q e; omega)
                    have hn6 : ∀ q, v'.ownBlock = some q → wo.heap.size ≤ q := fun q e => by
                      rcases ho q e with e | e
                      · exact n1 q e
                      · exact Nat.le_trans (g2.trans fa).size e
                    have hf6 : (ids.take (j + 1)).filter (fun x => f x == B) = (ids.take j).filter (fun x => f x == B) ++ [x] := by
                      rw [HTS.out, List.filter_append, HX.out]
                      have : (f x == B) = true := by rw [HA.out, HAB.out]; exact beq_self_eq_true _
                      simp [this]
                    rw [← hf6] at hrow
                    have Hrun := Lib.hid hrun
                    clear hrun hg ho hf6
                    go_wp2_with (at_builtin; refine Lib.wpList_append_run _ rfl _ _ _ _ rfl _ _ rfl rfl _ _ Hrun.out ?_)
                    go_roundw
                    case rel => exact ⟨j + 1, by omega, by go_num, g6, hrow, hn6⟩
                    case measure => simp [intOf]; omega
                  · have hq : ((A : Int) == (B : Int)) = false := by rw [beq_eq_false_iff_ne]; omega
                    have hf6 : (ids.take (j + 1)).filter (fun x => f x == B) = (ids.take j).filter (fun x => f x == B) := by
                      rw [HTS.out, List.filter_append, HX.out]
                      have : (f x == B) = false := by rw [HA.out, beq_eq_false_iff_ne]; exact hAB
                      simp [this]
                    rw [← hf6] at o1
                    clear hf6
                    go_wp2_with fail
                    go_quiet ((go_at_call 8; first | (with_reducible exact Calls.quiet_of (HB1.out _)) | (with_reducible exact Calls.quiet_of (HB2.out _))))
                    go_wp2_with fail
                    go_roundw
                    case rel => exact ⟨j + 1, by omega, by go_num, g1.drewN nq, o1.keep ((Frm.refl (fun _ => False) wr).drewN nq) (fun _ _ h => h), n1⟩
                    case measure => simp [intOf]; omega
                · obtain rfl : j = ids.length := by omega
                  have ck := HT.out k hlt _ hj1.frm
                  rw [List.take_length] at o1
                  have hw := o1.ids
                  have e : ids.filter (fun x => f x == B) = sel (itm f ids) (bk (t k)) := by rw [sel_itm, HBk.out]
                  rw [e] at hw
                  clear o1 e
                  go_wp2_with fail
                  refine (finds_fj w1 _ b (t k) (itm f ids) ids _ _ hj1 (by have := Ht.out k hlt; omega) (by rw [itm_len]; omega) hw).mono ?_
                  rintro e w6 ⟨rfl, g6⟩
                  have hj6 := hj1.keep g6
                  clear hw n1 g1 hj1
                  go_wp2_with fail
                  go_roundw
                  case rel => exact ⟨k + 1, by omega, by go_num, hj6⟩
                  case measure => simp [intOf]; omega
            · obtain rfl : k = 8 := by omega
              obtain ⟨a7, cp, rfl, hcp1, hcp2⟩ := hj.reads.slice
              go_wp2_with fail
              have hI16 : ∀ p ∈ itm f ids, p.1 < 16 := fun p hp => by
                obtain ⟨x, _, rfl⟩ := List.mem_map.1 hp
                show f x < 16
                rw [HF.out]; exact bk_lt _
              obtain ⟨T, hTl, hgv⟩ := gives_fj w1 wr b (itm f ids) ids _ hj (by rw [itm_len]; omega) hI16
              rw [itm_len] at hTl
              have hBx := Blk.alloc wr 3 #[.int .i64 0]
              have fx : Frm (fun _ => False) wr (wr.alloc (.cells #[.int .i64 0] 3)) := (Frm.refl _ wr).alloc _
              have hse := seq_eql
              refine (all_any _ _).mono ?_
              rintro e w5 ⟨rfl, rfl⟩
              have hBn := Blk.alloc (wr.alloc (.cells #[.int .i64 0] 3)) 28 #[.pointer (some ⟨b, 0, none⟩)]
              have fy := fx.alloc (.cells #[.pointer (some ⟨b, 0, none⟩)] 28)
              have hBy := hBx.old (.cells #[.pointer (some ⟨b, 0, none⟩)] 28)
              generalize hwy : (wr.alloc (.cells #[.int .i64 0] 3)).alloc (.cells #[.pointer (some ⟨b, 0, none⟩)] 28) = wy at *
              generalize hBq : (wr.alloc (.cells #[.int .i64 0] 3)).heap.size = Bn at *
              have HWY := Lib.hid hwy
              have HBQ := Lib.hid hBq
              clear hwy hBq hBx fx
              go_wp2_with fail
              have hI0 : FnI wr [] wy := ⟨by simp, hBy, fy⟩
              have hwy := fy.size
              have hb16 : ids.length ≤ 100 := hlen9
              refine (wpIn_wide (n := 9)).1 ?_
              refine wpIn_rangeFunc_ownF rfl (by omega) (gf := 26) (lb := #[.pointer (some ⟨Bn, 0, none⟩)]) rfl trivial (enters_of Try.func26 (by kernel_rfl) rfl)
                (hgv _ _ hBn fy) kept.trans (kept.put hwy) (Below.refl _ _) (fun _ => rfl)
                (FnI wr) (fun c pre W => c = .exit 9 ∧ FnX wr pre W) (FnI.own wr _ hwy) (fun c => OwnFrom.and (fun _ _ _ _ e _ _ => e) (FnX.own wr _ hwy)) hI0 ?a1 ?assign ?body ?done ?stop
              case assign =>
                intro l0 x W K hK
                gi_wp2
                simp [aEnc]
                exact hK
              case body =>
                rintro l0 pre x W hv hlen
                have c0 : W.cell? ⟨wr.heap.size, 0, none⟩ = some (.int .i64 pre.length) := hv.n.cell 0 rfl
                have r0 := hv.n.free 0
                have hp2 := hv.few
                have hs1 : FnI wr pre W := hv
                have hko : KeepsOthers W (W.setCell ⟨wr.heap.size, 0, none⟩ (.int .i64 ((pre.length : Int) + 1))) := KeepsOthers.setCell _ _ _
                have hk1 : kept wr.heap.size W (W.setCell ⟨wr.heap.size, 0, none⟩ (.int .i64 ((pre.length : Int) + 1))) := fun q hq => Below.heap_setCell _ _ _ _ (by simp; omega)
                have hn1 := hv.n.set 0 (.int .i64 ((pre.length : Int) + 1))
                have hf1 := hv.frm.setCell (p := ⟨wr.heap.size, 0, none⟩) (fun h => absurd h (by simp)) (.int .i64 ((pre.length : Int) + 1))
                by_cases h3 : pre.length = 2
                · have hq : ((pre.length : Int) + 1 == 3) = true := by rw [h3]; rfl
                  have e3 : (pre.length : Int) + 1 = 3 := by omega
                  have hcs : (#[Value.int .i64 ((pre.length : Int) + 1)] : Array Value) = #[.int .i64 3] := by rw [e3]
                  have hn3 : Blk (W.setCell ⟨wr.heap.size, 0, none⟩ (.int .i64 ((pre.length : Int) + 1))) wr.heap.size 3 #[.int .i64 3] := by rw [← hcs]; exact hn1
                  have hx3 : FnX wr (pre ++ [x]) (W.setCell ⟨wr.heap.size, 0, none⟩ (.int .i64 ((pre.length : Int) + 1))) := ⟨by simp; omega, hn3, hf1⟩
                  clear h3 hs1 hn1 hf1 hk1 e3 hcs hn3
                  gi_wp2
                  exact ⟨hko, rfl, hx3⟩
                · have hq : ((pre.length : Int) + 1 == 3) = false := by rw [beq_eq_false_iff_ne]; omega
                  have e3 : (((pre ++ [x]).length : Nat) : Int) = (pre.length : Int) + 1 := by simp
                  have hn3 : Blk (W.setCell ⟨wr.heap.size, 0, none⟩ (.int .i64 ((pre.length : Int) + 1))) wr.heap.size 3 #[.int .i64 (pre ++ [x]).length] := by rw [e3]; exact hn1
                  have hi3 : FnI wr (pre ++ [x]) (W.setCell ⟨wr.heap.size, 0, none⟩ (.int .i64 ((pre.length : Int) + 1))) := ⟨by simp; omega, hn3, hf1⟩
                  clear h3 hs1 hn1 hf1 e3 hn3
                  gi_wp2
                  exact ⟨hko, hk1, hi3⟩
              case done =>
                rintro D xs W hD rfl hv hK
                have hDlt := (Array.getElem?_eq_some_iff.1 hK).1
                have c0 : W.cell? ⟨wr.heap.size, 0, none⟩ = some (.int .i64 xs.length) := hv.n.cell 0 rfl
                have hle := hv.few
                rw [hTl] at c0 hle
                have hjW := hj.keep hv.frm
                have hq : ((ids.length : Int) == min 3 (ids.length : Int)) = true := by rw [beq_iff_eq]; omega
                have hq2 : ((ids.length : Int) == (ids.length : Int)) = true := beq_self_eq_true _
                have hm3 : min 3 (ids.length : Int) = (ids.length : Int) := by omega
                have fW := (f0.trans hj.frm).trans hv.frm
                have HTL := Lib.hid hTl
                clear hI0 hBn hse hTl hgv
                go_wp2_with fail
                refine (len_fj w1 _ b (itm f ids) ids _ hjW (by rw [itm_len]; omega) hI16).mono ?_
                rw [itm_len]
                rintro e w7 ⟨rfl, g7⟩
                go_wp2_with fail
                refine (awake_any _).mono ?_
                rintro e w8 ⟨rfl, g8⟩
                have hK8 := ((g7.trans g8).block D hDlt (fun h => h)).trans hK
                have f8 := fW.trans (g7.trans g8)
                go_wp2_with fail
                refine calm_ret ?_
                refine ⟨by simp, .inl ⟨_, _, rfl, run_takeDeferred hK8, ?_⟩⟩
                exact ⟨_, results_tmp rfl _ _ _, rfl, f8.grown (grownBy_putObj' w8 D (.deferred none)) (fun q hq e => by have e2 : D = q := Option.some.inj e; have := (f0.trans hj.frm).size; omega)⟩
              case stop =>
                rintro D c pre W hD hS ⟨rfl, hx⟩ hK
                have hDlt := (Array.getElem?_eq_some_iff.1 hK).1
                have c0 : W.cell? ⟨wr.heap.size, 0, none⟩ = some (.int .i64 3) := hx.n.cell 0 rfl
                have hle : 3 ≤ ids.length := by have := hS.1.length_le; rw [hx.three, hTl] at this; exact this
                have hjW := hj.keep hx.frm
                have hm3 : min 3 (ids.length : Int) = 3 := by omega
                have hq2 : ((ids.length : Int) == (ids.length : Int)) = true := beq_self_eq_true _
                have fW := (f0.trans hj.frm).trans hx.frm
                have HTL := Lib.hid hTl
                clear hI0 hBn hse hTl hgv
                refine wpIn_wide.2 ?_
                go_wp2_with fail
                refine (len_fj w1 _ b (itm f ids) ids _ hjW (by rw [itm_len]; omega) hI16).mono ?_
                rw [itm_len]
                rintro e w7 ⟨rfl, g7⟩
                go_wp2_with fail
                refine (awake_any _).mono ?_
                rintro e w8 ⟨rfl, g8⟩
                have hK8 := ((g7.trans g8).block D hDlt (fun h => h)).trans hK
                have f8 := fW.trans (g7.trans g8)
                go_wp2_with fail
                refine calm_ret ?_
                refine ⟨by simp, .inl ⟨_, _, rfl, run_takeDeferred hK8, ?_⟩⟩
                exact ⟨_, results_tmp rfl _ _ _, rfl, f8.grown (grownBy_putObj' w8 D (.deferred none)) (fun q hq e => by have e2 : D = q := Option.some.inj e; have := (f0.trans hj.frm).size; omega)⟩

set_option maxRecDepth 100000 in
set_option maxHeartbeats 1000000 in
theorem finds_long_in (t : Nat → List UInt8) (v : Value) (L : List ActI) (w : World) (h : It w v L) (ht : ¬ short8 t) :
    CallsIn Fence.wide 9 Try.prog 6 #[.agg (row8 t), v] w fun e w' => e = .returned (.bool true) ∧ Frm (fun _ => False) w w' := by
  have hT := Blk.alloc w 51 (row8 t)
  have f0 := (Frm.refl (fun _ => False) w).alloc (.cells (row8 t) 51)
  obtain ⟨a, cap, rfl, hc1, hc2, hcells⟩ := id h
  have HT : Hid (∀ i, i < 8 → ∀ W, Frm (fun _ => False) (w.alloc (.cells (row8 t) 51)) W → W.cell? ⟨w.heap.size, i, none⟩ = some (.string (bs (t i)))) :=
    Lib.hid fun i hi W hW => (hT.keep hW (fun h => h)).cell i (row8_at t i hi)
  clear hcells hT
  unfold maxLen at hc2
  have Ht := Lib.hid ht
  clear ht
  refine callsIn_of_wp_marks Try.func6 rfl trivial ?_ rfl
  refine wpIn_wide.2 ?_
  refine Code.wp_mono calm_le ?_
  simp only [Try.ntmps6, List.size_toArray, List.length_cons, List.length_nil, Nat.reduceAdd, Nat.reduceSub, Array.replicate_succ, Array.replicate_zero, List.push_toArray, List.append_toArray, List.nil_append, List.cons_append]
  go_wp2_with fail
  generalize hw1 : w.alloc (.cells (row8 t) 51) = w1 at *
  generalize htb : w.heap.size = tb at *
  go_loop [5] (fun i => ∃ k : Nat, k ≤ 8 ∧ i = .int .i64 k ∧ ∀ j, j < k → (t j).length ≤ 300) (fun i => 8 - (intOf i).toNat)
  case atStart => exact ⟨0, by omega, rfl, fun j hj => absurd hj (by omega)⟩
  case round =>
    obtain ⟨k, hk, rfl, hall⟩ := hrel
    have Hall := Lib.hid hall
    clear hall
    by_cases hlt : k < 8
    · have c0 := HT.out k hlt w1 (Frm.refl _ _)
      have hk0 : (0 : Int) ≤ (k : Int) := by omega
      have hk8 : (k : Int) < 8 := by omega
      by_cases hl : (t k).length ≤ 300
      · have hs : ((bs (t k)).size : Int) ≤ 300 := by rw [bs_size]; omega
        go_wp2_with fail
        go_round
        case rel =>
          refine ⟨k + 1, by omega, by go_num, fun j hj => ?_⟩
          by_cases e : j = k
          · subst e; exact hl
          · exact Hall.out j (by omega)
        case measure => simp [intOf]; omega
      · have hs : (300 : Int) < ((bs (t k)).size : Int) := by rw [bs_size]; omega
        go_wp2_with fail
        refine (awake_any _).mono ?_
        rintro e w8 ⟨rfl, g8⟩
        go_wp2_with fail
        refine calm_ret ?_
        exact ⟨_, results_tmp rfl _ _ _, rfl, f0.trans g8⟩
    · obtain rfl : k = 8 := by omega
      exact absurd (fun i hi => Hall.out i hi) Ht.out

set_option maxRecDepth 100000 in
set_option maxHeartbeats 1000000 in
theorem finds_many_in (t : Nat → List UInt8) (v : Value) (L : List ActI) (w : World) (h : It w v L) (hfew : ¬ fewP L) (ht : short8 t) :
    CallsIn Fence.wide 9 Try.prog 6 #[.agg (row8 t), v] w fun e w' => e = .returned (.bool true) ∧ Frm (fun _ => False) w w' := by
  have hT := Blk.alloc w 51 (row8 t)
  have f0 := (Frm.refl (fun _ => False) w).alloc (.cells (row8 t) 51)
  obtain ⟨a, cap, rfl, hc1, hc2, hcells⟩ := id h
  have HT : Hid (∀ i, i < 8 → ∀ W, Frm (fun _ => False) (w.alloc (.cells (row8 t) 51)) W → W.cell? ⟨w.heap.size, i, none⟩ = some (.string (bs (t i)))) :=
    Lib.hid fun i hi W hW => (hT.keep hW (fun h => h)).cell i (row8_at t i hi)
  clear hcells hT
  unfold maxLen at hc2
  have Ht := Lib.hid ht
  clear ht
  refine callsIn_of_wp_marks Try.func6 rfl trivial ?_ rfl
  refine wpIn_wide.2 ?_
  refine Code.wp_mono calm_le ?_
  simp only [Try.ntmps6, List.size_toArray, List.length_cons, List.length_nil, Nat.reduceAdd, Nat.reduceSub, Array.replicate_succ, Array.replicate_zero, List.push_toArray, List.append_toArray, List.nil_append, List.cons_append]
  go_wp2_with fail
  generalize hw1 : w.alloc (.cells (row8 t) 51) = w1 at *
  generalize htb : w.heap.size = tb at *
  go_loop [5] (fun i => ∃ k : Nat, k ≤ 8 ∧ i = .int .i64 k) (fun i => 8 - (intOf i).toNat)
  case atStart => exact ⟨0, by omega, rfl⟩
  case round =>
    obtain ⟨k, hk, rfl⟩ := hrel
    by_cases hlt : k < 8
    · have c0 := HT.out k hlt w1 (Frm.refl _ _)
      have hs : ((bs (t k)).size : Int) ≤ 300 := by have := Ht.out k hlt; rw [bs_size]; omega
      have hk0 : (0 : Int) ≤ (k : Int) := by omega
      have hk8 : (k : Int) < 8 := by omega
      go_wp2_with fail
      go_round
      case rel => exact ⟨k + 1, by omega, by go_num⟩
      case measure => simp [intOf]; omega
    · obtain rfl : k = 8 := by omega
      go_wp2_with fail
      refine (new_own w1 w1 (Frm.refl _ _)).mono ?_
      rintro e w2 ⟨b, rfl, h2⟩
      go_wp2_with fail
      have f2 := f0.trans h2.frm
      have hit2 := h.keep f2 (fun _ _ h => h)
      refine (few_no _ L _ hit2 hfew).mono ?_
      rintro e w3 ⟨rfl, rfl⟩
      go_wp2_with fail
      refine (awake_any _).mono ?_
      rintro e w8 ⟨rfl, g8⟩
      go_wp2_with fail
      refine calm_ret ?_
      exact ⟨_, results_tmp rfl _ _ _, rfl, f2.trans g8⟩

theorem hashFinds_any (t : Nat → List UInt8) (v : Value) (L : List ActI) (w : World) (h : It w v L) :
    Calls Try.prog 6 #[.agg (row8 t), v] w fun e w' => e = .returned (.bool true) ∧ Frm (fun _ => False) w w' := by
  by_cases ht : short8 t
  · by_cases hfew : fewP L
    · exact callsIn_wide.1 (finds_in t v L w h hfew ht)
    · exact callsIn_wide.1 (finds_many_in t v L w h hfew ht)
  · exact callsIn_wide.1 (finds_long_in t v L w h ht)
end Go.Proofs.Ytmdnacboenehkaa
