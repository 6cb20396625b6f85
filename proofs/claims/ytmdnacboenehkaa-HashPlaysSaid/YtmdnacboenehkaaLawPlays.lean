/- HashPlays: what the law's call answers. No condition. -/
import Derived.Test.YtmdnacboenehkaaHashT
namespace Go.Proofs.Ytmdnacboenehkaa
open Go.RowKit Go.Shelf
attribute [local go_sem] Oper.semAt_some

set_option maxRecDepth 100000 in
set_option maxHeartbeats 4000000 in
theorem plays_in (v : Value) (L : List ActI) (w : World) (h : It w v L) (hfew : fewP L) :
    CallsIn Fence.wide 9 Try.prog 4 #[v] w fun e w' => e = .returned (.bool true) ∧ Frm (fun _ => False) w w' := by
  have hres := Blk.alloc w 4 #[.bool false]
  have f0 := (Frm.refl (fun _ => False) w).alloc (.cells #[.bool false] 4)
  obtain ⟨a, cap, rfl, hc1, hc2, hcells⟩ := id h
  obtain ⟨hf1, hf2⟩ := hfew
  have Hf2 := Lib.hid hf2
  clear hf2 hcells
  unfold maxLen at hc2
  refine callsIn_of_wp_marks Try.func4 rfl trivial ?_ rfl
  refine wpIn_wide.2 ?_
  refine Code.wp_mono calm_le ?_
  simp only [Try.ntmps4, List.size_toArray, List.length_cons, List.length_nil, Nat.reduceAdd, Nat.reduceSub, Array.replicate_succ, Array.replicate_zero, List.push_toArray, List.append_toArray, List.nil_append, List.cons_append]
  go_wp2_with fail
  have hB0 := hres.lt
  generalize hw1 : w.alloc (.cells #[.bool false] 4) = w1 at *
  generalize hrb : w.heap.size = RB at *
  refine (few_yes _ L _ (h.keep f0 (fun _ _ h => h)) ⟨hf1, Hf2.out⟩).mono ?_
  rintro e w3 ⟨rfl, rfl⟩
  go_wp2_with fail
  refine (new_any _).mono ?_
  rintro e w2 ⟨rfl, hx, fx, hsz⟩
  clear hsz
  have hpg := PG.start fx hx hB0
  clear hx
  go_wp2_with fail
  generalize w2.alloc (.cells #[.slice none 0 0] 33) = w4 at *
  generalize hbq : w1.heap.size = b at *
  have HBQ := Lib.hid hbq
  clear hbq
  generalize w2.heap.size = r at *
  go_loopw [5] (fun i wr => ∃ k : Nat, k ≤ L.length ∧ i = .int .i64 k ∧ ∃ I : List (Nat × Nat), I.length ≤ k ∧ (∀ p ∈ I, p.1 < 16) ∧ PG w1 wr b r I I RB) (fun i _ => L.length - (intOf i).toNat)
  case atStart => exact ⟨0, Nat.zero_le _, rfl, [], Nat.le_refl _, by simp, hpg⟩
  case round =>
    obtain ⟨k, hk, rfl, I, hlen, hI, hp⟩ := hrel
    have HI := Lib.hid hI
    clear hI
    by_cases hlt : k < L.length
    · have hit := h.keep (f0.trans hp.frm) (fun _ _ h => h)
      obtain ⟨a', cap', e', _, _, hcells⟩ := hit
      cases e'
      obtain ⟨bb, off, rfl, hbl, c0, c1, c2, q1, q2, q3⟩ := hcells k hlt
      clear hcells q3
      have hs := Hf2.out k hlt
      have HL2 := Lib.hid (stepI_lt I L[k] HI.out)
      have hl2 := stepI_len I L[k]
      have hone := one_any w1 wr.drew b r RB I L[k] (hp.keep (Frm.refl _ wr).drew) hs (by omega) q1 (by rw [HBQ.out]; exact hB0)
      generalize stepI I L[k] = I' at *
      have hone2 : Calls Try.prog 12 #[.pointer (some ⟨b, 0, none⟩), .pointer (some ⟨r, 0, none⟩), .agg #[.int .u8 L[k].k, .string (bs L[k].s), .int .u32 L[k].n]] wr.drew fun e w' => e = .returned (.bool true) ∧ PG w1 w' b r I' I' RB ∧ ∃ aa cc, w'.cell? ⟨r, 0, none⟩ = some (.slice aa I'.length cc) :=
        hone.mono fun e w' ⟨h1, h2⟩ => ⟨h1, h2, h2.items⟩
      have hlen2 : ∀ W, PG w1 W b r I' I' RB → Calls Try.prog 13 #[.pointer (some ⟨b, 0, none⟩)] W fun e w' => e = .returned (.int .i64 I'.length) ∧ Frm (fun _ => False) W w' := fun W hW => len_pg w1 W b r RB I' I' hW (by omega) HL2.out
      have HONE := Lib.hid hone2
      have HLEN := Lib.hid hlen2
      clear hone hone2 hlen2
      have hq : ((I'.length : Int) != (I'.length : Int)) = false := bne_self_eq_false _
      have hk0 : (0 : Int) ≤ (k : Int) := by omega
      have hki : (k : Int) < (L.length : Int) := by omega
      go_wp2_with fail
      go_region_with (first
        | (go_at_call 12; (with_reducible refine HONE.out.mono ?_); rintro e ww ⟨rfl, hpw, aa, cc, d0⟩)
        | (go_at_call 13; (with_reducible refine (HLEN.out _ hpw).mono ?_); rintro e wz ⟨rfl, gz⟩; have d1 := gz.cellF d0))
      all_goals
        go_wp2_with fail
        go_roundw
        case rel => exact ⟨k + 1, by omega, by go_num, I', by omega, HL2.out, hpw.keep gz⟩
        case measure => simp [intOf]; omega
    · obtain rfl : k = L.length := by omega
      have hIl : I.length ≤ 100 := by omega
      clear hlen
      go_wp2_with fail
      obtain ⟨wo, rfl⟩ : ∃ wo : World, wo = wr := ⟨_, rfl⟩
      go_loopw [6, 7] (fun u i wq => ∃ k : Nat, k ≤ 16 ∧ i = .int .i64 k ∧ Frm (fun _ => False) wo wq ∧ Own wq u ((allF (sel I) k).map (·.2)) ∧ ∀ g, u.ownBlock = some g → wo.heap.size ≤ g) (fun _ i _ => 16 - (intOf i).toNat)
      case atStart => exact ⟨0, by omega, rfl, Frm.refl _ _, Own.nil_ _, fun g hg => by cases hg⟩
      case round =>
        obtain ⟨k, hk, rfl, g1, o1, n1⟩ := hrel
        by_cases hlt : k < 16
        · have hk16 : (k : Int) < 16 := by omega
          have hp1 := hp.keep g1
          go_wp2_with fail
          refine (of_pg w1 _ b r RB k I I hp1 (by omega)).mono ?_
          rintro e w5 ⟨v5, rfl, o5, f5, n5⟩
          have htot : ((allF (sel I) k).map (·.2)).length + (sel I k).length ≤ 100 := by
            have e1 := (allF_pre (sel I) (k + 1) 16 (by omega)).length_le
            rw [allF_total I HI.out, allF_succ, List.length_append, List.length_map] at e1
            rw [List.length_map]; omega
          have hnext : ((allF (sel I) (k + 1)).map (·.2)) = (allF (sel I) k).map (·.2) ++ sel I k := by
            rw [allF_succ, List.map_append]; simp [Function.comp_def]
          obtain ⟨v6, w6, hrun, hrow, hg, hn⟩ := append_ids w5 _ v5 _ _ (o1.keep f5 (fun _ _ h => h)) o5.ids (by omega)
          rw [← hnext] at hrow
          have g6 : Frm (fun _ => False) wo w6 := (g1.trans f5).grown hg (fun q hq e => by have := n1 q e; omega)
          have n6 : ∀ q, v6.ownBlock = some q → wo.heap.size ≤ q := fun q e => (hn q e).elim (n1 q) (fun e => Nat.le_trans (g1.trans f5).size e)
          have Hrun := Lib.hid hrun
          clear hrun hg hn hnext o1 n1 o5 n5
          go_wp2_with (at_builtin; refine Lib.wpList_append_run _ rfl _ _ _ _ rfl _ _ rfl rfl _ _ Hrun.out ?_)
          go_roundw
          case rel => exact ⟨k + 1, by omega, by go_num, g6, hrow, n6⟩
          case measure => simp [intOf]; omega
        · obtain rfl : k = 16 := by omega
          have hp1 := hp.keep g1
          clear hp
          go_wp2_with fail
          have hgv := gives_pg w1 wr b r RB I I hp1 (by omega)
          have hT := allF_total I HI.out
          have hpf := hp1.frm
          have hwant := o1
          clear o1 n1 g1
          refine (all_any _ _).mono ?_
          rintro e w5 ⟨rfl, rfl⟩
          have hse := seq_eql
          have hb1 := (Blk.alloc wr 39 #[.slice none 0 0]).old (.cells #[.pointer (some ⟨b, 0, none⟩)] 28)
          have hb2 := Blk.alloc (wr.alloc (.cells #[.slice none 0 0] 39)) 28 #[.pointer (some ⟨b, 0, none⟩)]
          have fy := ((Frm.refl (fun _ => False) wr).alloc (.cells #[.slice none 0 0] 39)).alloc (.cells #[.pointer (some ⟨b, 0, none⟩)] 28)
          have hz1 : (wr.alloc (.cells #[.slice none 0 0] 39)).heap.size = wr.heap.size + 1 := by simp
          have hz2 : ((wr.alloc (.cells #[.slice none 0 0] 39)).alloc (.cells #[.pointer (some ⟨b, 0, none⟩)] 28)).heap.size = wr.heap.size + 2 := by simp
          rw [hz1] at hb2
          generalize (wr.alloc (.cells #[.slice none 0 0] 39)).alloc (.cells #[.pointer (some ⟨b, 0, none⟩)] 28) = wy at *
          have HZ1 := Lib.hid hz1
          have HZ2 := Lib.hid hz2
          clear hz1 hz2
          go_wp2_with fail
          have hb3 := hb1.old (.cells #[.int .u8 0] 5)
          have hb4 := hb2.old (.cells #[.int .u8 0] 5)
          have hb5 := Blk.alloc wy 5 #[.int .u8 0]
          have fz := fy.alloc (.cells #[.int .u8 0] 5)
          have hlb : wr.heap.size < wy.heap.size := by rw [HZ2.out]; omega
          have hzz : (wy.alloc (.cells #[.int .u8 0] 5)).heap.size = wy.heap.size + 1 := by simp
          generalize wy.alloc (.cells #[.int .u8 0] 5) = wz at *
          clear HZ1 HZ2 hb1 hb2 fy
          generalize wy.heap.size = lb at *
          have HZ := Lib.hid hzz
          clear hzz
          have hI0 : PlI wr lb [] wz := ⟨⟨List.Pairwise.nil, fun p hp => (by cases hp)⟩, ⟨_, hb3, Own.nil_ _, fun g hg => (by cases hg)⟩, hb5, fz⟩
          have hwz := fz.size
          have hresr := hres.keep hpf (fun h => h)
          have hRB : RB < wr.heap.size := hresr.lt
          refine (wpIn_wide (n := 9)).1 ?_
          refine wpIn_rangeFunc_ownF rfl (by omega) (gf := 26) (lb := #[.pointer (some ⟨wr.heap.size + 1, 0, none⟩)]) rfl trivial (enters_of Try.func26 (by kernel_rfl) rfl)
            (hgv _ _ hb4 fz) kept.trans (kept.put hwz) (Below.refl _ _) (fun _ => rfl)
            (PlI wr lb) (fun _ pre _ => ¬ Fine pre) (PlI.own wr lb _ hwz) (fun c => ownFrom_pure _ _) hI0 ?a1 ?assign ?body ?done ?stop
          case assign =>
            intro l0 x W K hK
            gi_wp2
            exact hK
          case body =>
            rintro l0 pre x W hv hlen
            have hlen2 : pre.length ≤ 1000 := by omega
            have cl : W.cell? ⟨lb, 0, none⟩ = some (.int .u8 (lastB pre)) := hv.last.cell 0 rfl
            have fl := hv.last.free 0
            have hbR := hresr.keep hv.frm (fun h => h)
            have cR := hbR.cell 0 rfl
            have fR := hbR.free 0
            by_cases h1 : x.1 < lastB pre
            · have hbad : ¬ Fine (pre ++ [x]) := not_fine_last h1
              gi_wp2
              exact ⟨KeepsOthers.setCell _ _ _, hbad⟩
            · by_cases h2 : 15 < x.1
              · have hbad : ¬ Fine (pre ++ [x]) := not_fine_great h2
                have h3 : lastB pre ≤ x.1 := by omega
                have h4 : (15 : Int) < (x.1 : Int) := by omega
                gi_wp2
                exact ⟨KeepsOthers.setCell _ _ _, hbad⟩
              · have hgood : Fine (pre ++ [x]) := hv.fine.snoc (by omega) (by omega)
                obtain ⟨av, n, cv, a6, c6, W6, e1, e2, hrun, e4, e5, hko, hke, hnext⟩ := hv.step (x := x) hlb hgood hlen2
                have Hrun := Lib.hid hrun
                have h3 : lastB pre ≤ x.1 := by omega
                have h4 : (x.1 : Int) ≤ 15 := by omega
                clear hrun hgood hbR cR fR
                gi_wp2_with (gi_at_builtin; refine wpListIn_append_run rfl _ _ _ _ rfl _ _ rfl rfl _ _ Hrun.out ?_)
                exact ⟨hko, hke, hnext⟩
          case done =>
            rintro D xs W hD rfl hv hK
            have hDlt := (Array.getElem?_eq_some_iff.1 hK).1
            obtain ⟨v, hbg, hov, hvn⟩ := hv.got
            have hwW := hwant.keep hv.frm (fun _ _ h => h)
            generalize (allF (sel I) 16).map (·.2) = q at hov hwW
            obtain ⟨av, cv, rfl, _, _⟩ := Row.slice hov
            have cg : W.cell? ⟨wr.heap.size, 0, none⟩ = some (.slice av q.length cv) := hbg.cell 0 rfl
            have fW := (f0.trans hpf).trans hv.frm
            have hbR := hresr.keep hv.frm (fun h => h)
            clear hI0 hb4 hb5 hse hgv hT
            go_wp2_with fail
            refine (same_yes _ _ _ _ hov.ids hwW.ids).mono ?_
            rintro e w7 ⟨rfl, g7⟩
            go_wp2_with fail
            refine (awake_any _).mono ?_
            rintro e w8 ⟨rfl, g8⟩
            have g := g7.trans g8
            have hb8 := hbR.keep g (fun h => h)
            have c8 := hb8.cell 0 rfl
            have r8 := hb8.free 0
            have hK8 := (g.block D hDlt (fun h => h)).trans hK
            have f8 := fW.trans g
            clear cg g7 g8 g
            go_wp2_with fail
            refine calm_ret ?_
            have hK' := (KeepsOthers.setCell w8 ⟨RB, 0, none⟩ (.bool true)).same D _ hK8 rfl
            refine ⟨by simp, .inl ⟨_, _, rfl, run_takeDeferred hK', ?_⟩⟩
            have hrow : ∀ r, some D = some r → ∃ o : Obj, (w8.setCell ⟨RB, 0, none⟩ (.bool true)).heap[r]? = some o ∧ o.isCells = false := fun r e => by cases e; exact ⟨_, hK', rfl⟩
            have hg := grownBy_putObj' (w8.setCell ⟨RB, 0, none⟩ (.bool true)) D (.deferred none)
            have hb9 := (hb8.set 0 (.bool true)).turned hg hrow
            have hc9 := hb9.cell 0 rfl
            refine ⟨.bool true, ?_, rfl, (f8.setCell (p := ⟨RB, 0, none⟩) (fun h => absurd h (by rw [hrb]; simp)) _).grown hg (fun k hk e => by have e2 : D = k := Option.some.inj e; have := (f0.trans hpf).size; omega)⟩
            simp [results, Try.f4, go_sem, hc9]
          case stop =>
            rintro D c pre W hD hS hx hK
            exact absurd (fine_part hS) hx

set_option maxRecDepth 100000 in
set_option maxHeartbeats 1000000 in
theorem plays_many_in (v : Value) (L : List ActI) (w : World) (h : It w v L) (hfew : ¬ fewP L) :
    CallsIn Fence.wide 9 Try.prog 4 #[v] w fun e w' => e = .returned (.bool true) ∧ Frm (fun _ => False) w w' := by
  have hres := Blk.alloc w 4 #[.bool false]
  have f0 := (Frm.refl (fun _ => False) w).alloc (.cells #[.bool false] 4)
  obtain ⟨a, cap, rfl, hc1, hc2, hcells⟩ := id h
  clear hcells
  unfold maxLen at hc2
  refine callsIn_of_wp_marks Try.func4 rfl trivial ?_ rfl
  refine wpIn_wide.2 ?_
  refine Code.wp_mono calm_le ?_
  simp only [Try.ntmps4, List.size_toArray, List.length_cons, List.length_nil, Nat.reduceAdd, Nat.reduceSub, Array.replicate_succ, Array.replicate_zero, List.push_toArray, List.append_toArray, List.nil_append, List.cons_append]
  go_wp2_with fail
  generalize hw1 : w.alloc (.cells #[.bool false] 4) = w1 at *
  generalize hrb : w.heap.size = RB at *
  refine (few_no _ L _ (h.keep f0 (fun _ _ h => h)) hfew).mono ?_
  rintro e w3 ⟨rfl, rfl⟩
  go_wp2_with fail
  refine (awake_any _).mono ?_
  rintro e w8 ⟨rfl, g8⟩
  have hb8 := hres.keep g8 (fun h => h)
  have c8 := hb8.cell 0 rfl
  have r8 := hb8.free 0
  have f8 := f0.trans g8
  go_wp2_with fail
  refine calm_ret ?_
  have hc9 := (hb8.set 0 (.bool true)).cell 0 rfl
  refine ⟨.bool true, ?_, rfl, f8.setCell (p := ⟨RB, 0, none⟩) (fun h => absurd h (by rw [hrb]; simp)) _⟩
  simp [results, Try.f4, go_sem, hc9]

theorem hashPlays_any (v : Value) (L : List ActI) (w : World) (h : It w v L) :
    Calls Try.prog 4 #[v] w fun e w' => e = .returned (.bool true) ∧ Frm (fun _ => False) w w' := by
  by_cases hfew : fewP L
  · exact callsIn_wide.1 (plays_in v L w h hfew)
  · exact callsIn_wide.1 (plays_many_in v L w h hfew)
end Go.Proofs.Ytmdnacboenehkaa
