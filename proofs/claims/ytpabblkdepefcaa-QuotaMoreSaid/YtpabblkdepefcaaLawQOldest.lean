/- QuotaOldest answers true, of any items, any quota. No condition. -/
import Derived.Test.YtpabblkdepefcaaQS
import Derived.BigQuiet
namespace Go.Proofs.Ytpabblkdepefcaa
open Go.RowKit Go.Shelf
theorem Ids.takeQ {w : World} {a : Option Addr} {n cap : Nat} {l : List Nat} (h : Ids w (.slice a n cap) l) (hn : l.length = n) (k : Nat) (hk : k ≤ n) : Ids w (.slice a k cap) (l.take k) := by
  obtain ⟨a', c', e, h1, h2⟩ := Ids.slice h
  cases e
  have := Sl.take (n := l.length) h k cap (by omega) (by omega) (Nat.le_refl _)
  unfold Ids
  rw [List.length_take, Nat.min_eq_left (by omega)]
  simp only [Nat.mul_one] at this
  have e : u32s (l.take k) = (u32s l).take k := by unfold u32s; rw [List.map_take]
  rw [e]
  exact this
set_option maxRecDepth 100000 in
set_option maxHeartbeats 16000000 in
theorem quotaOldest_any (v : Value) (l : List QI) (most : Int) (w : World) (h : QL w v l) (hm : -9223372036854775808 ≤ most ∧ most ≤ 9223372036854775807) : Calls Try.prog 4 #[v, .int .i64 most] w fun e w' => e = .returned (.bool true) ∧ Frm (fun _ => False) w w' := by
  obtain ⟨a, cap, rfl, hc1, hc2⟩ := h.slice
  unfold maxLen at hc2
  have HL := Lib.hid h
  have HF := Lib.hid (few_any _ l w h)
  have HW := Lib.hid works_any
  clear h
  cases hf : fewB l with
  | false =>
    rw [hf] at HF
    clear hf
    go_enter Try.func4, Try.ntmps4
    go_wp2_with fail
    refine HF.out.mono ?_
    rintro e w1 ⟨rfl, g1⟩
    have G1 := Lib.hid g1
    clear g1
    go_wp2_with fail
    refine (HW.out _).mono ?_
    rintro e w2 ⟨rfl, g2⟩
    have G2 := Lib.hid (G1.out.trans g2)
    clear g2
    go_wp2_with fail
    go_ret
    exact ⟨rfl, G2.out⟩
  | true =>
    rw [hf] at HF
    have hl30 := fewB_len hf
    clear hf
    go_enter Try.func4, Try.ntmps4
    go_wp2_with fail
    refine HF.out.mono ?_
    rintro e w1 ⟨rfl, g1⟩
    have HN := Lib.hid (numbered_any _ l w1 (HL.out.keepF g1) (by omega))
    have G1 := Lib.hid g1
    clear g1
    go_wp2_with fail
    refine HN.out.mono ?_
    rintro e w2 ⟨u, L, rfl, hown, hnum, hlen, g2⟩
    obtain ⟨au, cu, rfl, hcu1, hcu2⟩ := hown.slice
    unfold maxLen at hcu2
    have hL30 : L.length ≤ 30 := by omega
    have HNU := Lib.hid hnum
    have F2 := Lib.hid (And.intro hown (G1.out.trans g2))
    clear hown g2 hnum HN hlen hl30 hc1 hc2 HF HL G1
    have HP := Lib.hid (prune_any _ L most w2 F2.out.1.read (by omega) hm)
    go_wp2_with fail
    refine HP.out.mono ?_
    rintro e w3 ⟨u3, rfl, i3, g3, n3⟩
    obtain ⟨I, b, hI, hb, hb0, hb1⟩ := numQ_prune HNU.out most
    rw [hI] at i3 ⊢
    obtain ⟨ag, cg, rfl, hcg1, hcg2⟩ := Own.sliceQ i3
    unfold maxLen at hcg2
    have F3 := Lib.hid (And.intro (F2.out.1.keep g3 (fun _ _ h => h)) (And.intro i3 (F2.out.2.trans g3)))
    have HB := Lib.hid (And.intro hb (And.intro hb0 hb1))
    clear hI hb hb0 hb1 i3 g3 n3 HP F2
    go_wp2_with fail
    go_loopw [8, 9] (fun t i wr => ∃ (k : Nat) (T : List QI) (t0 : Value), t0 = t ∧ k ≤ L.length ∧ i = .int .i64 k ∧ QOwn wr t T ∧ Frm (fun _ => False) w3 wr ∧ T.length ≤ k ∧ Hid (T ++ topI (L.drop k) = topI L ∧ ∀ g, t.ownBlock = some g → w3.heap.size ≤ g) ∧ ∃ W0, W0 = wr) (fun _ i _ => L.length - (intOf i).toNat)
    case atStart => exact ⟨0, [], _, rfl, Nat.zero_le _, rfl, Row.nil_ _ _, Frm.refl _ _, Nat.le_refl _, (⟨rfl, fun g h => nomatch h⟩ : _ ∧ _), _, rfl⟩
    case round =>
      obtain ⟨k, T, t, ht, hk, rfl, ho, g4, hTk, HT, w4, hw4⟩ := hrel
      subst ht
      subst hw4
      by_cases hlt : k < L.length
      · have hki : (k : Int) < (L.length : Int) := by omega
        have hk0 : (0 : Int) ≤ (k : Int) := by omega
        have K := Lib.hid (And.intro ho g4)
        clear ho g4
        have HC := Lib.hid (newest_any _ L k w4 (F3.out.1.keep K.out.2 (fun _ _ h => h)).read hlt)
        have hdr := topI_drop L k hlt
        obtain ⟨nb, hnb⟩ : ∃ nb, newB L k hlt = nb := ⟨_, rfl⟩
        rw [hnb] at HC hdr
        have HDR := Lib.hid hdr
        clear hdr hnb
        cases nb with
        | false =>
          go_wp2_with fail
          refine HC.out.mono ?_
          rintro e w5 ⟨rfl, q, hw5⟩
          have g5 : Frm (fun _ => False) w4 w5 := by rw [hw5]; exact (Frm.refl _ w4).drewN q
          have E := Lib.hid (And.intro (K.out.1.keep g5 (fun _ _ h => h)) (K.out.2.trans g5))
          clear hw5 g5 HC
          go_wp2_with fail
          go_roundw
          case rel => exact ⟨k + 1, T, t, rfl, hlt, by go_num, E.out.1, E.out.2, by omega, (⟨by have := HT.out.1; rw [HDR.out] at this; simpa using this, HT.out.2⟩ : _ ∧ _), _, rfl⟩
          case measure => simp [intOf]; omega
        | true =>
          go_wp2_with fail
          refine HC.out.mono ?_
          rintro e w5 ⟨rfl, q, hw5⟩
          have g5 : Frm (fun _ => False) w4 w5 := by rw [hw5]; exact (Frm.refl _ w4).drewN q
          have E := Lib.hid (And.intro (K.out.1.keep g5 (fun _ _ h => h)) (K.out.2.trans g5))
          clear hw5 g5 HC
          have ga := (Frm.refl (fun _ => False) w5).alloc (.cells (qiv L[k]) 36)
          obtain ⟨u', w6, hrun, hown, hgr, hnew⟩ := append_qis _ _ _ _ [L[k]] (E.out.1.keep ga (fun _ _ h => h)) (QL.one w5 36 L[k]) (by simp only [List.length_singleton]; omega)
          obtain ⟨g, off, rfl, _, d0, d1, d2, d3⟩ := (F3.out.1.keep E.out.2 (fun _ _ h => h)).read.elem k hlt
          have HR := Lib.hid hrun
          have hdo := HDR.out
          have hto := HT.out.1
          rw [hdo] at hto
          simp only [if_true] at hto
          have E2 := Lib.hid (And.intro hown (And.intro ((E.out.2.trans ga).grown hgr (fun q hq e => by have := HT.out.2 q e; omega)) (And.intro (fun g (e : u'.ownBlock = some g) => (hnew g e).elim (HT.out.2 g) (fun e => by have := ga.size; have := E.out.2.size; omega)) (show (T ++ [L[k]]) ++ topI (L.drop (k + 1)) = topI L by rw [List.append_assoc]; exact hto))))
          obtain ⟨x, hx⟩ : ∃ x, L[k] = x := ⟨_, rfl⟩
          rw [hx] at d0 d1 d2 d3 HR E2
          clear hto hdo hrun hown hgr hnew ga
          go_wp2_with (at_builtin; refine Lib.wpList_append_run _ rfl _ _ _ _ rfl _ _ rfl rfl _ _ HR.out ?_)
          go_roundw
          case rel => exact ⟨k + 1, T ++ [x], u', rfl, hlt, by go_num, E2.out.1, E2.out.2.1, by rw [List.length_append, List.length_singleton]; omega, (⟨E2.out.2.2.2, E2.out.2.2.1⟩ : _ ∧ _), _, rfl⟩
          case measure => simp [intOf]; omega
      · obtain rfl : k = L.length := by omega
        have hTt : T = topI L := by have := HT.out.1; rwa [List.drop_length, topI, List.append_nil] at this
        subst hTt
        have HS := Lib.hid (sum_any _ _ w4 ho.read (by omega))
        have K := Lib.hid (And.intro (F3.out.1.keep g4 (fun _ _ h => h)) (And.intro (Own.keepQ F3.out.2.1 g4) (F3.out.2.2.trans g4)))
        clear ho g4 F3 HT
        go_wp2_with fail
        refine HS.out.mono ?_
        rintro e w5 ⟨rfl, g5⟩
        have K5 := Lib.hid (And.intro (K.out.1.keep g5 (fun _ _ h => h)) (And.intro (Own.keepQ K.out.2.1 g5) (K.out.2.2.trans g5)))
        clear g5 HS K
        obtain ⟨S, hS⟩ : ∃ S, sumQ (topI L) = S := ⟨_, rfl⟩
        rw [hS] at HB ⊢
        clear hS
        cases b with
        | false =>
          have hSm : ¬ (S : Int) ≤ most := of_decide_eq_false HB.out.1.symm
          have hIl : I.length = 0 := by rw [HB.out.2.1 rfl]; rfl
          have hIz : (I.length : Int) = 0 := by omega
          go_wp2_with fail
          refine (HW.out _).mono ?_
          rintro e w6 ⟨rfl, g6⟩
          have K6 := Lib.hid (K5.out.2.2.trans g6)
          clear g6
          go_wp2_with fail
          go_ret
          exact ⟨rfl, K6.out⟩
        | true =>
          have hSm : (S : Int) ≤ most := of_decide_eq_true HB.out.1.symm
          obtain ⟨m, hP⟩ := HB.out.2.2 rfl
          have HPR := Lib.hid hP
          clear hP HB
          have HT := Lib.hid (left_any _ _ L I w5 K5.out.1.read (Own.ids K5.out.2.1) (by omega))
          go_wp2_with fail
          refine HT.out.mono ?_
          rintro e w6 ⟨u6, rfl, o6, g6, _⟩
          have hfits := HPR.out.fits
          have hlenz : ((leftQ L I).length : Int) + (I.length : Int) = (L.length : Int) := by have := HPR.out.len; omega
          obtain ⟨R, hR⟩ : ∃ R, leftQ L I = R := ⟨_, rfl⟩
          rw [hR] at hfits hlenz o6
          clear hR
          have hRl : R.length ≤ 100 := by omega
          obtain ⟨ar, cr, rfl, hcr1, hcr2⟩ := o6.slice
          unfold maxLen at hcr2
          have HS := Lib.hid (sum_any _ _ w6 o6.read (by omega))
          have K6 := Lib.hid (And.intro (K5.out.1.keep g6 (fun _ _ h => h)) (And.intro (Own.keepQ K5.out.2.1 g6) (K5.out.2.2.trans g6)))
          clear g6 o6 K5 HT
          go_wp2_with fail
          refine HS.out.mono ?_
          rintro e w7 ⟨rfl, g7⟩
          have K7 := Lib.hid (And.intro (K6.out.1.keep g7 (fun _ _ h => h)) (And.intro (Own.keepQ K6.out.2.1 g7) (K6.out.2.2.trans g7)))
          clear g7 K6 HS
          obtain ⟨S7, hS7⟩ : ∃ S, sumQ R = S := ⟨_, rfl⟩
          rw [hS7] at hfits ⊢
          clear hS7
          have hfn : ¬ most < (S7 : Int) := by omega
          have hnl : (((R.length : Int) + (I.length : Int)) != (L.length : Int)) = false := by simp; omega
          by_cases hI0 : I.length = 0
          · have hIz : ¬ 0 < (I.length : Int) := by omega
            go_wp2_with fail
            go_loopw [11] (fun i wr => ∃ k : Nat, k ≤ I.length ∧ i = .int .i64 k ∧ Frm (fun _ => False) w7 wr ∧ ∃ W0, W0 = wr) (fun i _ => I.length - (intOf i).toNat)
            case atStart => exact ⟨0, Nat.zero_le _, rfl, Frm.refl _ _, _, rfl⟩
            case round =>
              obtain ⟨k, hk, rfl, g10, w10, hw10⟩ := hrel
              subst hw10
              obtain rfl : k = I.length := by omega
              have K10 := Lib.hid (And.intro (K7.out.1.keep g10 (fun _ _ h => h)) (And.intro (Own.keepQ K7.out.2.1 g10) (K7.out.2.2.trans g10)))
              clear g10
              go_wp2_with fail
              go_loopw [12] (fun i wr => ∃ k : Nat, k ≤ L.length ∧ i = .int .i64 k ∧ Frm (fun _ => False) w10 wr) (fun i _ => L.length - (intOf i).toNat)
              case atStart => exact ⟨0, Nat.zero_le _, rfl, Frm.refl _ _⟩
              case round =>
                obtain ⟨k, hk, rfl, g11⟩ := hrel
                by_cases hlt : k < L.length
                · have hki : (k : Int) < (L.length : Int) := by omega
                  have hk0 : (0 : Int) ≤ (k : Int) := by omega
                  have G11 := Lib.hid g11
                  clear g11
                  go_wp2_with fail
                  go_big_quiet (fail)
                  go_wp2_with fail
                  go_roundw
                  case rel => exact ⟨k + 1, hlt, by go_num, G11.out.drewN _⟩
                  case measure => simp [intOf]; omega
                · obtain rfl : k = L.length := by omega
                  have F10 := Lib.hid (K10.out.2.2.trans g11)
                  clear g11
                  go_wp2_with fail
                  refine (HW.out _).mono ?_
                  rintro e w12 ⟨rfl, g12⟩
                  have F12 := Lib.hid (F10.out.trans g12)
                  clear g12
                  go_wp2_with fail
                  go_ret
                  exact ⟨rfl, F12.out⟩
          · have hIz : 0 < (I.length : Int) := by omega
            have hi1 : ¬ (I.length : Int) - 1 < 0 := by omega
            have hi2 : 0 ≤ (I.length : Int) - 1 := by omega
            have hi3 : (I.length : Int) - 1 ≤ (cg : Int) := by omega
            have HT := Lib.hid (left_any _ _ L (I.take (I.length - 1)) w7 K7.out.1.read ((Own.ids K7.out.2.1).takeQ rfl (I.length - 1) (by omega)) (by omega))
            go_wp2_with fail
            refine HT.out.mono ?_
            rintro e w8 ⟨u8, rfl, o8, g8, _⟩
            have hless := HPR.out.less (I.length - 1) (by have := HPR.out.size; omega)
            have hl8 : (leftQ L (I.take (I.length - 1))).length ≤ L.length := List.length_filter_le _ _
            obtain ⟨R8, hR8⟩ : ∃ R, leftQ L (I.take (I.length - 1)) = R := ⟨_, rfl⟩
            rw [hR8] at hless hl8 o8
            clear hR8
            have HS := Lib.hid (sum_any _ _ w8 o8.read (by omega))
            have K8 := Lib.hid (And.intro (K7.out.1.keep g8 (fun _ _ h => h)) (And.intro (Own.keepQ K7.out.2.1 g8) (K7.out.2.2.trans g8)))
            clear g8 o8 K7 HT
            go_wp2_with fail
            refine HS.out.mono ?_
            rintro e w9 ⟨rfl, g9⟩
            have K9 := Lib.hid (And.intro (K8.out.1.keep g9 (fun _ _ h => h)) (And.intro (Own.keepQ K8.out.2.1 g9) (K8.out.2.2.trans g9)))
            clear g9 K8 HS
            obtain ⟨S9, hS9⟩ : ∃ S, sumQ R8 = S := ⟨_, rfl⟩
            rw [hS9] at hless ⊢
            clear hS9
            have hle : ¬ (S9 : Int) ≤ most := by omega
            go_wp2_with fail
            go_loopw [11] (fun i wr => ∃ k : Nat, k ≤ I.length ∧ i = .int .i64 k ∧ Frm (fun _ => False) w9 wr ∧ ∃ W0, W0 = wr) (fun i _ => I.length - (intOf i).toNat)
            case atStart => exact ⟨0, Nat.zero_le _, rfl, Frm.refl _ _, _, rfl⟩
            case round =>
              obtain ⟨k, hk, rfl, g10, w10, hw10⟩ := hrel
              subst hw10
              by_cases hlt : k < I.length
              · have hki : (k : Int) < (I.length : Int) := by omega
                have hk0 : (0 : Int) ≤ (k : Int) := by omega
                obtain ⟨h1, h2, j, hj, hjx, hjn⟩ := HPR.out.at HNU.out hlt
                have i10 := Own.keepQ K9.out.2.1 g10
                have HC0 := fun n => newest_any _ L j (w10.drewN n) ((K9.out.1.keep g10 (fun _ _ h => h)).read.keepF ((Frm.refl _ w10).drewN n)) hj
                rw [hjn] at HC0
                obtain ⟨x, hx⟩ : ∃ x, I[k] = x := ⟨_, rfl⟩
                have hjz : (j : Int) = (x : Int) - 1 := by omega
                rw [hjz] at HC0
                have HC := Lib.hid HC0
                obtain ⟨gg, og, rfl, _, e0⟩ := (Own.ids i10).at k hlt
                rw [hx] at e0 h1 h2
                have hx1 : decide ((x : Int) < 1) = false := decide_eq_false (by omega)
                have hx12 : decide (x < 1) = false := decide_eq_false (by omega)
                have hx22 : decide (L.length < x) = false := decide_eq_false (by omega)
                have hx2 : decide ((L.length : Int) < (x : Int)) = false := decide_eq_false (by omega)
                have G10 := Lib.hid g10
                have HX := Lib.hid hx
                clear hjx hjn HC0 hjz hx g10
                by_cases hk00 : k = 0
                · have hkz : decide (0 < (k : Int)) = false := decide_eq_false (by omega)
                  have hkz2 : decide (0 < k) = false := decide_eq_false (by omega)
                  clear i10 hk00
                  go_wp2_with fail
                  go_big_quiet ((go_at_call 16; exact Calls.quiet_of (HC.out _)))
                  go_wp2_with fail
                  go_roundw
                  case rel => exact ⟨k + 1, hlt, by go_num, G10.out.drewN _, _, rfl⟩
                  case measure => simp [intOf]; omega
                · have hkz : decide (0 < (k : Int)) = true := decide_eq_true (by omega)
                  have hkz2 : decide (0 < k) = true := decide_eq_true (by omega)
                  obtain ⟨gg', og', he, _, e1⟩ := (Own.ids i10).at (k - 1) (by omega)
                  cases he
                  have hup := HPR.out.up HNU.out (i := k - 1) (j := k) (by omega) hlt (by omega)
                  obtain ⟨y, hy⟩ : ∃ y, I[k - 1]'(by omega) = y := ⟨_, rfl⟩
                  rw [hy] at e1 hup
                  rw [HX.out] at hup
                  have hxy : decide ((x : Int) ≤ (y : Int)) = false := decide_eq_false (by omega)
                  have hxy2 : decide (x ≤ y) = false := decide_eq_false (by omega)
                  have hq1 : ¬ (k : Int) - 1 < 0 := by omega
                  have hq2 : 0 ≤ (k : Int) - 1 := by omega
                  have hq3 : (k : Int) - 1 < (I.length : Int) := by omega
                  clear i10 hy hup
                  go_wp2_with fail
                  go_big_quiet ((go_at_call 16; exact Calls.quiet_of (HC.out _)))
                  go_wp2_with fail
                  go_roundw
                  case rel => exact ⟨k + 1, hlt, by go_num, G10.out.drewN _, _, rfl⟩
                  case measure => simp [intOf]; omega
              · obtain rfl : k = I.length := by omega
                have K10 := Lib.hid (And.intro (K9.out.1.keep g10 (fun _ _ h => h)) (And.intro (Own.keepQ K9.out.2.1 g10) (K9.out.2.2.trans g10)))
                clear g10
                go_wp2_with fail
                go_loopw [12] (fun i wr => ∃ k : Nat, k ≤ L.length ∧ i = .int .i64 k ∧ Frm (fun _ => False) w10 wr) (fun i _ => L.length - (intOf i).toNat)
                case atStart => exact ⟨0, Nat.zero_le _, rfl, Frm.refl _ _⟩
                case round =>
                  obtain ⟨k, hk, rfl, g11⟩ := hrel
                  by_cases hlt : k < L.length
                  · have hki : (k : Int) < (L.length : Int) := by omega
                    have hk0 : (0 : Int) ≤ (k : Int) := by omega
                    have q11 := K10.out.1.keep g11 (fun _ _ h => h)
                    have i11 := Own.keepQ K10.out.2.1 g11
                    obtain ⟨gg, og, rfl, _, e0⟩ := (Own.ids i11).at (I.length - 1) (by omega)
                    have HC := Lib.hid fun n => newest_any _ L k (wr.drewN n) (q11.read.keepF ((Frm.refl _ wr).drewN n)) hlt
                    have HD := Lib.hid fun n => left_any _ _ _ I (wr.drewN n) ((((q11.read.keepF ((Frm.refl _ wr).drewN n))).dropQ rfl k (by omega)).takeQ (by rw [List.length_drop]) 1 (by omega)) ((Own.ids i11).keepF ((Frm.refl _ wr).drewN n)) (by rw [List.length_take]; omega)
                    have hfst := HPR.out.first HNU.out hlt (by omega)
                    have hone : (L.drop k).take 1 = [L[k]] := by rw [List.drop_eq_getElem_cons hlt]; rfl
                    rw [hone] at HD
                    obtain ⟨g, off, rfl, _, _, f1, _, _⟩ := q11.read.elem k hlt
                    obtain ⟨y, hy⟩ : ∃ y, I[I.length - 1]'(by omega) = y := ⟨_, rfl⟩
                    obtain ⟨x, hx⟩ : ∃ x, L[k].id = x := ⟨_, rfl⟩
                    obtain ⟨nb, hnb⟩ : ∃ nb, newB L k hlt = nb := ⟨_, rfl⟩
                    rw [hy] at e0 hfst
                    rw [hx] at f1 hfst
                    rw [hnb] at HC hfst
                    have HY := Lib.hid (And.intro hfst (And.intro hy hx))
                    have G11 := Lib.hid g11
                    have hcuk : ¬ cu = k := by omega
                    rw [if_neg hcuk, show Option.map (fun x : Addr => x.add (k * 4)) (some ⟨g, off, none⟩) = some ⟨g, off + k * 4, none⟩ from by simp [Addr.add]] at HD
                    clear hfst hy hnb q11 i11 g11 hone hx
                    have hi4 : (I.length : Int) - 1 < (I.length : Int) := by omega
                    by_cases hc : x < y
                    · have hcz : decide ((x : Int) < (y : Int)) = true := decide_eq_true (by omega)
                      have hIz2 : decide (0 < (I.length : Int)) = true := decide_eq_true (by omega)
                      have hk1 : (k : Int) ≤ (k : Int) + 1 := by omega
                      have hk2 : (k : Int) + 1 ≤ (cu : Int) := by omega
                      have hk3 : ¬ (k : Int) + 1 < 0 := by omega
                      cases nb with
                      | true =>
                        go_wp2_with fail
                        go_big_quiet ((go_at_call 16; exact Calls.quiet_of (HC.out _)))
                        go_wp2_with fail
                        go_roundw
                        case rel => exact ⟨k + 1, hlt, by go_num, G11.out.drewN _⟩
                        case measure => simp [intOf]; omega
                      | false =>
                        have hin : L[k].id ∈ I := by rw [HY.out.2.2]; exact HY.out.1 hc rfl
                        have hlz : leftQ [L[k]] I = [] := by simp [leftQ, hin]
                        have HE := Lib.hid fun n => (HD.out n).mono (R' := fun e w' => e = .returned (.slice none 0 0) ∧ ∃ m, w' = (wr.drewN n).drewN m) (by rintro e w' ⟨u, rfl, _, _, h⟩; obtain ⟨e1, e2⟩ := h hlz; subst e1; exact ⟨rfl, e2⟩)
                        clear hin hlz HD
                        go_wp2_with fail
                        go_big_quiet (first | (go_at_call 16; exact Calls.quiet_of (HC.out _)) | (go_at_call 17; exact Calls.quiet_of (HE.out _)))
                        go_wp2_with fail
                        go_roundw
                        case rel => exact ⟨k + 1, hlt, by go_num, G11.out.drewN _⟩
                        case measure => simp [intOf]; omega
                    · have hcz : decide ((x : Int) < (y : Int)) = false := decide_eq_false (by omega)
                      have hIz2 : decide (0 < (I.length : Int)) = true := decide_eq_true (by omega)
                      go_wp2_with fail
                      go_big_quiet (fail)
                      go_wp2_with fail
                      go_roundw
                      case rel => exact ⟨k + 1, hlt, by go_num, G11.out.drewN _⟩
                      case measure => simp [intOf]; omega
                  · obtain rfl : k = L.length := by omega
                    have F10 := Lib.hid (K10.out.2.2.trans g11)
                    clear g11
                    go_wp2_with fail
                    refine (HW.out _).mono ?_
                    rintro e w12 ⟨rfl, g12⟩
                    have F12 := Lib.hid (F10.out.trans g12)
                    clear g12
                    go_wp2_with fail
                    go_ret
                    exact ⟨rfl, F12.out⟩
end Go.Proofs.Ytpabblkdepefcaa
