/- QuotaMore answers true, of any items, any quota, any number. No condition. -/
import Derived.Test.YtpabblkdepefcaaLawQOldest
namespace Go.Proofs.Ytpabblkdepefcaa
open Go.RowKit Go.Shelf
theorem goI_fits (most : Int) (l : List QI) (left : Nat) (h : (left : Int) ≤ most) : goI most left l = ([], left) := by
  cases l with
  | nil => rfl
  | cons x l => rw [goI, if_pos h]
theorem pruneQ_fits {M : List QI} {most : Int} (h : (sumQ M : Int) ≤ most) : pruneQ M most = ([], true) := by
  have hp := pruneQ_eq M most ([], sumQ M) (goI_fits most _ _ h)
  dsimp only at hp
  rw [if_neg (by omega)] at hp
  exact hp
/-- With a greater quota the first ones go, or none. -/
theorem PrunedQ.more {L : List QI} {most most' : Int} {I J : List Nat} {m m' : Nat} (h : PrunedQ L most I m) (h' : PrunedQ L most' J m') (hle : most ≤ most') : J.length ≤ I.length ∧ ∀ i (hi : i < I.length) (hj : i < J.length), J[i] = I[i] := by
  have hs := h.size
  have hs' := h'.size
  have hmm : m' ≤ m := by
    rcases Nat.lt_or_ge m m' with hc | hc
    · exfalso
      have h1 := h'.less m hc
      have h2 : J.take m = I := by rw [h'.hI, h.hI, ← List.map_take, List.take_take, Nat.min_eq_left (by omega)]
      rw [h2] at h1
      have := h.fits
      omega
    · exact hc
  refine ⟨by omega, fun i hi hj => ?_⟩
  have e : ∀ (K : List Nat) (q : Nat) (hq : i < K.length) (hqq : i < q) (hl : i < (sprI L).length), K = ((sprI L).take q).map QI.id → K[i] = ((sprI L)[i]'hl).id := by
    intro K q hq hqq hl hK
    have h2 : K[i]? = some ((sprI L)[i]'hl).id := by
      rw [hK, List.getElem?_map, List.getElem?_take_of_lt hqq, List.getElem?_eq_getElem hl]
      rfl
    rw [List.getElem?_eq_getElem hq] at h2
    exact Option.some.inj h2
  have := h.hm
  rw [e J m' hj (by omega) (by omega) h'.hI, e I m hi (by omega) (by omega) h.hI]
set_option maxRecDepth 100000 in
set_option maxHeartbeats 16000000 in
theorem quotaMore_any (v : Value) (l : List QI) (most : Int) (more : Nat) (w : World) (h : QL w v l) (hm : -9223372036854775808 ≤ most ∧ most ≤ 9223372036854775807) (hmo : more < 4294967296) : Calls Try.prog 5 #[v, .int .i64 most, .int .u32 (more : Int)] w fun e w' => e = .returned (.bool true) ∧ Frm (fun _ => False) w w' := by
  obtain ⟨a, cap, rfl, hc1, hc2⟩ := h.slice
  unfold maxLen at hc2
  have HL := Lib.hid h
  have HF := Lib.hid (few_any _ l w h)
  have HW := Lib.hid works_any
  clear h
  cases hf : fewB l with
  | false =>
    rw [hf] at HF
    clear hf
    go_enter Try.func5, Try.ntmps5
    go_wp2_with fail
    refine HF.out.mono ?_
    rintro e w1 ⟨rfl, g1⟩
    have G1 := Lib.hid g1
    clear g1
    go_wp2_with fail
    refine (HW.out _).mono ?_
    rintro e w2 ⟨rfl, g2⟩
    have G2 := Lib.hid (G1.out.trans g2)
    clear g2
    go_wp2_with fail
    go_ret
    exact ⟨rfl, G2.out⟩
  | true =>
    rw [hf] at HF
    have hl30 := fewB_len hf
    clear hf
    go_enter Try.func5, Try.ntmps5
    by_cases hbig : 1099511627776 < most
    · have hbd : decide ((1099511627776 : Int) < most) = true := decide_eq_true hbig
      go_wp2_with fail
      refine HF.out.mono ?_
      rintro e w1 ⟨rfl, g1⟩
      have G1 := Lib.hid g1
      clear g1
      go_wp2_with fail
      refine (HW.out _).mono ?_
      rintro e wz ⟨rfl, gz⟩
      have Gz := Lib.hid (G1.out.trans gz)
      clear gz
      go_wp2_with fail
      go_ret
      exact ⟨rfl, Gz.out⟩
    · have hbd : decide ((1099511627776 : Int) < most) = false := decide_eq_false hbig
      go_wp2_with fail
      refine HF.out.mono ?_
      rintro e w1 ⟨rfl, g1⟩
      have HN := Lib.hid (numbered_any _ l w1 (HL.out.keepF g1) (by omega))
      have G1 := Lib.hid g1
      clear g1
      go_wp2_with fail
      refine HN.out.mono ?_
      rintro e w2 ⟨u, L, rfl, hown, hnum, hlen, g2⟩
      obtain ⟨au, cu, rfl, hcu1, hcu2⟩ := hown.slice
      unfold maxLen at hcu2
      have hL30 : L.length ≤ 30 := by omega
      have HNU := Lib.hid hnum
      have F2 := Lib.hid (And.intro hown (G1.out.trans g2))
      clear hown g2 hnum HN hlen hl30 hc1 hc2 HF HL G1
      have HP := Lib.hid (prune_any _ L most w2 F2.out.1.read (by omega) hm)
      go_wp2_with fail
      refine HP.out.mono ?_
      rintro e w3 ⟨u3, rfl, i3, g3, n3⟩
      obtain ⟨I, b, hI, hb, hb0, hb1⟩ := numQ_prune HNU.out most
      rw [hI] at i3 ⊢
      obtain ⟨ag, cg, rfl, hcg1, hcg2⟩ := Own.sliceQ i3
      unfold maxLen at hcg2
      have F3 := Lib.hid (And.intro (F2.out.1.keep g3 (fun _ _ h => h)) (And.intro i3 (F2.out.2.trans g3)))
      have HB := Lib.hid (And.intro hb hb1)
      clear hI hb hb0 hb1 i3 g3 n3 HP F2
      cases b with
      | false =>
        go_wp2_with fail
        refine (HW.out _).mono ?_
        rintro e wz ⟨rfl, gz⟩
        have Gz := Lib.hid (F3.out.2.2.trans gz)
        clear gz
        go_wp2_with fail
        go_ret
        exact ⟨rfl, Gz.out⟩
      | true =>
        obtain ⟨m, hP⟩ := HB.out.2 rfl
        have hfit := of_decide_eq_true HB.out.1.symm
        have HPR := Lib.hid (And.intro hP hfit)
        clear hP hfit HB
        have hmz1 : -9223372036854775808 ≤ most + (more : Int) := by omega
        have hmz2 : most + (more : Int) ≤ 9223372036854775807 := by omega
        have hmz3 : most + (more : Int) < 9223372036854775808 := by omega
        have HP := Lib.hid (prune_any _ L (most + (more : Int)) w3 F3.out.1.read (by omega) ⟨hmz1, hmz2⟩)
        go_wp2_with fail
        refine HP.out.mono ?_
        rintro e w4 ⟨u4, rfl, i4, g4, n4⟩
        obtain ⟨J, b, hJ, hb, hb0, hb1⟩ := numQ_prune HNU.out (most + (more : Int))
        rw [hJ] at i4 ⊢
        obtain rfl : b = true := by rw [hb]; exact decide_eq_true (by have := HPR.out.2; omega)
        obtain ⟨m', hP'⟩ := hb1 rfl
        obtain ⟨hJI, hJe⟩ := HPR.out.1.more hP' (by omega)
        obtain ⟨aj, cj, rfl, hcj1, hcj2⟩ := Own.sliceQ i4
        unfold maxLen at hcj2
        have F4 := Lib.hid (And.intro (F3.out.1.keep g4 (fun _ _ h => h)) (And.intro (Own.keepQ F3.out.2.1 g4) (And.intro i4 (F3.out.2.2.trans g4))))
        have HJE := Lib.hid hJe
        clear hJ hb hb0 hb1 hP' hJe i4 g4 n4 HP F3
        have HT := Lib.hid (left_any _ _ L I w4 F4.out.1.read (Own.ids F4.out.2.1) (by omega))
        go_wp2_with fail
        refine HT.out.mono ?_
        rintro e w5 ⟨u5, rfl, o5, g5, _⟩
        have hfits := HPR.out.1.fits
        have hl5 : (leftQ L I).length ≤ L.length := List.length_filter_le _ _
        obtain ⟨R, hR⟩ : ∃ R, leftQ L I = R := ⟨_, rfl⟩
        rw [hR] at hfits hl5 o5
        have HP := Lib.hid (prune_any _ R most w5 o5.read (by omega) hm)
        have F5 := Lib.hid (And.intro (Own.keepQ F4.out.2.1 g5) (And.intro (Own.keepQ F4.out.2.2.1 g5) (F4.out.2.2.2.trans g5)))
        have hpf := pruneQ_fits hfits
        have HPF := Lib.hid hpf
        clear hR hfits o5 g5 F4 HT hpf
        go_wp2_with fail
        refine HP.out.mono ?_
        rintro e w6 ⟨u6, rfl, i6, g6, n6⟩
        rw [HPF.out] at i6 ⊢
        obtain ⟨a6, c6, rfl, hc61, hc62⟩ := Own.sliceQ i6
        have F6 := Lib.hid (And.intro (Own.keepQ F5.out.1 g6) (And.intro (Own.keepQ F5.out.2.1 g6) (F5.out.2.2.trans g6)))
        clear i6 g6 n6 HP F5 hc61 hc62
        have hjz : ¬ (I.length : Int) < (J.length : Int) := by omega
        have hjd : decide ((I.length : Int) < (J.length : Int)) = false := decide_eq_false (by omega)
        have hjd2 : decide (I.length < J.length) = false := decide_eq_false (by omega)
        go_wp2_with fail
        go_loopw [14] (fun i wr => ∃ k : Nat, k ≤ J.length ∧ i = .int .i64 k ∧ Frm (fun _ => False) w6 wr) (fun i _ => J.length - (intOf i).toNat)
        case atStart => exact ⟨0, Nat.zero_le _, rfl, Frm.refl _ _⟩
        case round =>
          obtain ⟨k, hk, rfl, g7⟩ := hrel
          by_cases hlt : k < J.length
          · have hki : (k : Int) < (J.length : Int) := by omega
            have hki2 : (k : Int) < (I.length : Int) := by omega
            have hk0 : (0 : Int) ≤ (k : Int) := by omega
            have hlI : k < I.length := by omega
            obtain ⟨g, off, rfl, _, e0⟩ := (Own.ids (Own.keepQ F6.out.1 g7)).at k hlI
            obtain ⟨g', off', rfl, _, e1⟩ := (Own.ids (Own.keepQ F6.out.2.1 g7)).at k hlt
            rw [HJE.out k hlI hlt] at e1
            obtain ⟨x, hx⟩ : ∃ x, I[k] = x := ⟨_, rfl⟩
            rw [hx] at e0 e1
            have G7 := Lib.hid g7
            have hxx : ((x : Int) != (x : Int)) = false := by simp
            clear hx g7
            go_wp2_with fail
            go_quiet (fail)
            go_wp2_with fail
            go_roundw
            case rel => exact ⟨k + 1, hlt, by go_num, G7.out.drewN _⟩
            case measure => simp [intOf]; omega
          · obtain rfl : k = J.length := by omega
            have F7 := Lib.hid (F6.out.2.2.trans g7)
            clear g7
            go_wp2_with fail
            refine (HW.out _).mono ?_
            rintro e wz ⟨rfl, gz⟩
            have Gz := Lib.hid (F7.out.trans gz)
            clear gz
            go_wp2_with fail
            go_ret
            exact ⟨rfl, Gz.out⟩
end Go.Proofs.Ytpabblkdepefcaa
