/- What the document's Blow, Write and Flush of a line leave. No condition. -/
import Derived.Test.YtdhnidmeeocajaaGreatLnJ
namespace Go.Proofs.YtdhnidmeeocajaaGreat
open Go.RowKit Go.Shelf

theorem LV.blow_live {L : LV} (h : L.down = false) : L.blow = L.fall := by
  unfold LV.blow
  rw [h]
  rfl
theorem writeTo_ok {D : DV} (h : D.ok) (q : Int) (s : List UInt8) : (D.writeTo q s).ok := by
  unfold DV.writeTo DV.writeE DV.bad
  by_cases h1 : q < 0 ∨ (D.n : Int) ≤ q
  · rw [decide_eq_true h1]
    exact h
  · rw [decide_eq_false h1]
    by_cases h2 : 64 < s.length
    · simp only [Bool.false_eq_true, if_false, if_pos h2]
      exact h
    · simp only [Bool.false_eq_true, if_false, if_neg h2, if_true]
      exact h.write (by omega) (by omega)
set_option maxRecDepth 100000 in
set_option maxHeartbeats 4000000 in
theorem rblow_any (p r : Nat) (fp : Nat → Prop) (L : LV) (w : World) (h : RLn w p r fp L) :
    Calls Tryz.prog 24 #[.pointer (some ⟨p, 0, none⟩)] w fun e w' => e = .returned (.tuple #[]) ∧ RLnTo p r fp L.blow w w' := by
  have c4 := h.c4
  cases hd : L.down with
  | true =>
    have HB : RLnTo p r fp L.blow w w := .same (by unfold LV.blow; rw [if_pos hd]; exact h) (Frm.refl _ _)
    rw [hd] at c4
    have HB := Lib.hid HB
    clear hd h
    go_enter Tryz.func24, Tryz.ntmps24
    go_wp2_with fail
    refine bodyPost_ret (results_none rfl _ _ _) rfl ?_
    exact ⟨rfl, HB.out⟩
  | false =>
    rw [LV.blow_live hd]
    rw [hd] at c4
    have f4 := h.free 4
    obtain ⟨W, hW⟩ : ∃ W, w.setCell ⟨p, 4, none⟩ (.bool true) = W := ⟨_, rfl⟩
    have h1 := h.cutDown
    rw [hW] at h1
    obtain ⟨⟨cv, hc⟩, g1⟩ := h1
    have k0 := hc.blk.cell 0 rfl
    have k2 := hc.blk.cell 2 rfl
    have HC : Hid (∀ W', Frm (fun _ => False) W W' → Calls Tryz.prog 56 #[.pointer (some ⟨r, 0, none⟩), cv] W' fun e w' => e = .returned (.tuple #[]) ∧ RefM w' r (L.D.crash L.cs) fp ∧ Frm fp W' w') := Lib.hid fun W' g => rcrash_any r L.D fp cv L.cs W' (hc.ref.keepF g) hc.dok (hc.zs.keepF g) hc.ok.cs hc.ok.few (hc.za.imp id fun q g hg => (q g hg).1)
    have H1 := Lib.hid (And.intro (show RLn W p r fp { L with down := true } from ⟨cv, hc⟩) g1)
    have HOK := Lib.hid (And.intro (hc.dok.crash L.cs) hW)
    clear h hc g1 hd
    go_enter Tryz.func24, Tryz.ntmps24
    go_upto_region 2 with fail
    clear hW c4 f4
    refine wp_region_root (fun w' => w'.cell? ⟨p, 0, none⟩ = some (.pointer (some ⟨r, 0, none⟩)) ∧ w'.cell? ⟨p, 2, none⟩ = some cv ∧ Frm (fun _ => False) W w') (by kernel_rfl) rfl rfl (by kernel_rfl) (by kernel_rfl) (by kernel_rfl) (⟨k0, k2, (Frm.refl _ W).drew⟩) ?_
    repeat' first
      | (refine CanonL.skip (by rfl) ?_; (try simp only [Act.put, List.setIfInBounds_toArray, List.set_cons_zero, List.set_cons_succ]))
      | (refine CanonL.val (v := ?_) (by rfl) ?_ ?_; rotate_left 1; (focus (intro w hSw; (try dsimp only at hSw); go_simp; (try (with_reducible rfl)); done)); (try simp only [Act.put, List.setIfInBounds_toArray, List.set_cons_zero, List.set_cons_succ]))
    refine CanonL.done ?_
    intro w9 hS9
    obtain ⟨_, _, g9⟩ := hS9
    refine wpOp_callD rfl rfl (by rfl) (by go_simp) ((HC.out w9 g9).mono ?_)
    rintro e w1 ⟨rfl, h2, g2⟩
    have hT : RLnTo p r fp L.fall w w1 := RLnTo.of (H1.out.2.trans (g9.mono fun _ _ h => h.elim)) ((H1.out.1.keepF g9).turn HOK.out.1 (.same h2 g2))
    have HT := Lib.hid hT
    clear g9 h2 g2 k0 k2 HC hT
    refine ⟨_, rfl, ?_⟩
    simp only [Act.put, List.setIfInBounds_toArray, List.set_cons_zero, List.set_cons_succ]
    go_wp2_with fail
    go_end0
    exact ⟨rfl, HT.out⟩
set_option maxRecDepth 100000 in
set_option maxHeartbeats 4000000 in
theorem rlwrite_any (p r : Nat) (fp : Nat → Prop) (L : LV) (q : Int) (s : List UInt8) (w : World) (h : RLn w p r fp L) (ha : L.acts ≤ 1000000) (hq : Z64 q) (hs : s.length ≤ 9223372036854775807) :
    Calls Tryz.prog 17 #[.pointer (some ⟨p, 0, none⟩), .int .i64 q, .string (bs s)] w fun e w' => e = .returned (.int .i64 (L.code (L.D.writeE q s) : Nat)) ∧ RLnTo p r fp (L.act (L.D.writeTo q s)) w w' := by
  have c4 := h.c4
  cases hd : L.down with
  | true =>
    have eb : L.act (L.D.writeTo q s) = L := LV.act_over _ hd
    have ec : L.code (L.D.writeE q s) = 8 := code_down hd _
    rw [hd] at c4
    rw [eb, ec]
    have H := Lib.hid (RLnTo.same h (Frm.refl _ _))
    clear hd h eb ec ha hq hs
    go_enter Tryz.func17, Tryz.ntmps17
    go_wp2_with fail
    go_ret
    exact ⟨rfl, H.out⟩
  | false =>
    rw [hd] at c4
    have HC := rcounted_any p r fp L w h ha
    have c0 := h.c0
    have HD := Lib.hid hd
    have HQ := Lib.hid (And.intro hq hs)
    have HH := Lib.hid h
    clear hd hq hs ha h
    by_cases heq : (L.acts : Int) = L.cut
    · have ec : L.code (L.D.writeE q s) = 8 := LV.code_cut heq _
      rw [ec]
      rw [decide_eq_true heq] at HC
      have HC := Lib.hid HC
      have eb := LV.act_cut (L.D.writeTo q s) HD.out heq
      clear heq ec
      cases ho : L.odd with
      | false =>
        rw [ho, if_neg Bool.false_ne_true] at eb
        have EB := Lib.hid eb
        have HO := Lib.hid ho
        clear ho eb
        go_enter Tryz.func17, Tryz.ntmps17
        go_wp2_with fail
        refine HC.out.mono ?_
        rintro e w1 ⟨rfl, h1, g1⟩
        have hL := rodd_any p r fp L.count w1 h1
        rw [show L.count.odd = false from HO.out] at hL
        have HL := Lib.hid hL
        have HB := rblow_any p r fp L.count w1 h1
        rw [LV.blow_live (show L.count.down = false from HD.out)] at HB
        have HB := Lib.hid HB
        have H1 := Lib.hid (And.intro h1 g1)
        clear hL h1 g1 c4 c0 HC
        go_wp2_with fail
        refine HL.out.mono ?_
        rintro e ww ⟨rfl, rfl⟩
        go_wp2_with fail
        refine HB.out.mono ?_
        rintro e w2 ⟨rfl, h2⟩
        have HT := Lib.hid (RLnTo.of H1.out.2 h2)
        clear h2 HB HL
        go_wp2_with fail
        go_ret
        exact ⟨rfl, by rw [EB.out]; exact HT.out⟩
      | true =>
        rw [ho, if_pos rfl] at eb
        have EB := Lib.hid eb
        have HO := Lib.hid ho
        clear ho eb
        go_enter Tryz.func17, Tryz.ntmps17
        go_wp2_with fail
        refine HC.out.mono ?_
        rintro e w1 ⟨rfl, h1, g1⟩
        have hL := rodd_any p r fp L.count w1 h1
        rw [show L.count.odd = true from HO.out] at hL
        have HL := Lib.hid hL
        have HW := Lib.hid (write_ref r L.count.D fp q s w1 h1.ref h1.dok HQ.out.1 HQ.out.2)
        have H1 := Lib.hid (And.intro h1 g1)
        have c0 := h1.c0
        clear hL h1 g1 c4 HC
        go_wp2_with fail
        refine HL.out.mono ?_
        rintro e ww ⟨rfl, rfl⟩
        go_wp2_with fail
        refine HW.out.mono ?_
        rintro e w2 ⟨rfl, h2⟩
        obtain ⟨fp2, h2, g2, n2⟩ := H1.out.1.turn (writeTo_ok H1.out.1.dok q s) h2
        have HB := rblow_any p r fp2 _ w2 h2
        rw [LV.blow_live (show LV.down { L.count with D := L.count.D.writeTo q s } = false from HD.out)] at HB
        have HB := Lib.hid HB
        have H2 := Lib.hid (show RLnTo p r fp { L.count with D := L.count.D.writeTo q s } w1 w2 from ⟨fp2, h2, g2, n2⟩)
        have HN := Lib.hid (And.intro h2 (And.intro g2 n2))
        clear h2 g2 n2 HW HL c0
        go_wp2_with fail
        refine HB.out.mono ?_
        rintro e w3 ⟨rfl, h3⟩
        have hT : RLnTo p r fp ({ L.count with D := L.count.D.writeTo q s } : LV).fall w w3 := RLnTo.of H1.out.2 (by
          obtain ⟨h2, g2, n2⟩ := HN.out
          obtain ⟨fp3, h3, g3, n3⟩ := h3
          have hs := g2.size
          refine ⟨fp3, h3, g2.next g3 fun k hk hX => ?_, fun k hk => ?_⟩
          · rcases hX with e | e
            · exact .inl e
            · rcases n2 k e with e | e
              · exact .inr e
              · omega
          · rcases n3 k hk with e | e
            · exact n2 k e
            · exact .inr (Nat.le_trans hs e))
        have HT := Lib.hid hT
        clear h3 HB hT
        go_wp2_with fail
        go_ret
        exact ⟨rfl, by rw [EB.out]; exact HT.out⟩
    · have ec : L.code (L.D.writeE q s) = L.D.writeE q s := LV.code_live HD.out heq _
      rw [ec]
      rw [decide_eq_false heq] at HC
      have HC := Lib.hid HC
      have eb := LV.act_live (L.D.writeTo q s) HD.out heq
      have EB := Lib.hid eb
      clear heq ec eb
      obtain ⟨cc, hcc⟩ : ∃ cc, L.D.writeE q s = cc := ⟨_, rfl⟩
      rw [hcc]
      have HCC := Lib.hid hcc
      clear hcc
      go_enter Tryz.func17, Tryz.ntmps17
      go_wp2_with fail
      refine HC.out.mono ?_
      rintro e w1 ⟨rfl, h1, g1⟩
      have hW := write_ref r L.count.D fp q s w1 h1.ref h1.dok HQ.out.1 HQ.out.2
      rw [show L.count.D.writeE q s = cc from HCC.out] at hW
      have HW := Lib.hid hW
      have H1 := Lib.hid (And.intro h1 g1)
      have c0 := h1.c0
      clear h1 g1 c4 HC hW
      go_wp2_with fail
      refine HW.out.mono ?_
      rintro e w2 ⟨rfl, h2⟩
      have HT := Lib.hid (RLnTo.of H1.out.2 (H1.out.1.turn (writeTo_ok H1.out.1.dok q s) h2))
      clear h2 HW c0
      go_wp2_with fail
      go_ret
      exact ⟨rfl, by rw [EB.out]; exact HT.out⟩
set_option maxRecDepth 100000 in
set_option maxHeartbeats 4000000 in
theorem rlflush_any (p r : Nat) (fp : Nat → Prop) (L : LV) (w : World) (h : RLn w p r fp L) (ha : L.acts ≤ 1000000) :
    Calls Tryz.prog 41 #[.pointer (some ⟨p, 0, none⟩)] w fun e w' => e = .returned (.int .i64 (L.code 0 : Nat)) ∧ RLnTo p r fp (L.act L.D.flush) w w' := by
  have c4 := h.c4
  cases hd : L.down with
  | true =>
    have eb : L.act L.D.flush = L := LV.act_over _ hd
    have ec : L.code 0 = 8 := code_down hd _
    rw [hd] at c4
    rw [eb, ec]
    have H := Lib.hid (RLnTo.same h (Frm.refl _ _))
    clear hd h eb ec ha
    go_enter Tryz.func41, Tryz.ntmps41
    go_wp2_with fail
    go_ret
    exact ⟨rfl, H.out⟩
  | false =>
    rw [hd] at c4
    have HC := rcounted_any p r fp L w h ha
    have c0 := h.c0
    have HD := Lib.hid hd
    have HH := Lib.hid h
    clear hd ha h
    by_cases heq : (L.acts : Int) = L.cut
    · have ec : L.code 0 = 8 := LV.code_cut heq _
      rw [ec]
      rw [decide_eq_true heq] at HC
      have HC := Lib.hid HC
      have eb := LV.act_cut L.D.flush HD.out heq
      clear heq ec
      cases ho : L.odd with
      | false =>
        rw [ho, if_neg Bool.false_ne_true] at eb
        have EB := Lib.hid eb
        have HO := Lib.hid ho
        clear ho eb
        go_enter Tryz.func41, Tryz.ntmps41
        go_wp2_with fail
        refine HC.out.mono ?_
        rintro e w1 ⟨rfl, h1, g1⟩
        have hL := rodd_any p r fp L.count w1 h1
        rw [show L.count.odd = false from HO.out] at hL
        have HL := Lib.hid hL
        have HB := rblow_any p r fp L.count w1 h1
        rw [LV.blow_live (show L.count.down = false from HD.out)] at HB
        have HB := Lib.hid HB
        have H1 := Lib.hid (And.intro h1 g1)
        clear hL h1 g1 c4 c0 HC
        go_wp2_with fail
        refine HL.out.mono ?_
        rintro e ww ⟨rfl, rfl⟩
        go_wp2_with fail
        refine HB.out.mono ?_
        rintro e w2 ⟨rfl, h2⟩
        have HT := Lib.hid (RLnTo.of H1.out.2 h2)
        clear h2 HB HL
        go_wp2_with fail
        go_ret
        exact ⟨rfl, by rw [EB.out]; exact HT.out⟩
      | true =>
        rw [ho, if_pos rfl] at eb
        have EB := Lib.hid eb
        have HO := Lib.hid ho
        clear ho eb
        go_enter Tryz.func41, Tryz.ntmps41
        go_wp2_with fail
        refine HC.out.mono ?_
        rintro e w1 ⟨rfl, h1, g1⟩
        have hL := rodd_any p r fp L.count w1 h1
        rw [show L.count.odd = true from HO.out] at hL
        have HL := Lib.hid hL
        have HW := Lib.hid (rflush_any r L.count.D fp w1 h1.ref h1.dok)
        have H1 := Lib.hid (And.intro h1 g1)
        have c0 := h1.c0
        clear hL h1 g1 c4 HC
        go_wp2_with fail
        refine HL.out.mono ?_
        rintro e ww ⟨rfl, rfl⟩
        go_wp2_with fail
        refine HW.out.mono ?_
        rintro e w2 ⟨rfl, h2, k2⟩
        obtain ⟨fp2, h2, g2, n2⟩ := H1.out.1.turn H1.out.1.dok.flush (.same h2 k2)
        have HB := rblow_any p r fp2 _ w2 h2
        rw [LV.blow_live (show LV.down { L.count with D := L.count.D.flush } = false from HD.out)] at HB
        have HB := Lib.hid HB
        have H2 := Lib.hid (show RLnTo p r fp { L.count with D := L.count.D.flush } w1 w2 from ⟨fp2, h2, g2, n2⟩)
        have HN := Lib.hid (And.intro h2 (And.intro g2 n2))
        clear h2 g2 n2 k2 HW HL c0
        go_wp2_with fail
        refine HB.out.mono ?_
        rintro e w3 ⟨rfl, h3⟩
        have hT : RLnTo p r fp ({ L.count with D := L.count.D.flush } : LV).fall w w3 := RLnTo.of H1.out.2 (by
          obtain ⟨h2, g2, n2⟩ := HN.out
          obtain ⟨fp3, h3, g3, n3⟩ := h3
          have hs := g2.size
          refine ⟨fp3, h3, g2.next g3 fun k hk hX => ?_, fun k hk => ?_⟩
          · rcases hX with e | e
            · exact .inl e
            · rcases n2 k e with e | e
              · exact .inr e
              · omega
          · rcases n3 k hk with e | e
            · exact n2 k e
            · exact .inr (Nat.le_trans hs e))
        have HT := Lib.hid hT
        clear h3 HB hT
        go_wp2_with fail
        go_ret
        exact ⟨rfl, by rw [EB.out]; exact HT.out⟩
    · have ec : L.code 0 = 0 := LV.code_live HD.out heq _
      rw [ec]
      rw [decide_eq_false heq] at HC
      have HC := Lib.hid HC
      have eb := LV.act_live L.D.flush HD.out heq
      have EB := Lib.hid eb
      clear heq ec eb
      go_enter Tryz.func41, Tryz.ntmps41
      go_wp2_with fail
      refine HC.out.mono ?_
      rintro e w1 ⟨rfl, h1, g1⟩
      have HW := Lib.hid (rflush_any r L.count.D fp w1 h1.ref h1.dok)
      have H1 := Lib.hid (And.intro h1 g1)
      have c0 := h1.c0
      clear h1 g1 c4 HC
      go_wp2_with fail
      refine HW.out.mono ?_
      rintro e w2 ⟨rfl, h2, k2⟩
      have HT := Lib.hid (RLnTo.of H1.out.2 (H1.out.1.turn H1.out.1.dok.flush (.same h2 k2)))
      clear h2 k2 HW c0
      go_wp2_with fail
      go_ret
      exact ⟨rfl, by rw [EB.out]; exact HT.out⟩
end Go.Proofs.YtdhnidmeeocajaaGreat

