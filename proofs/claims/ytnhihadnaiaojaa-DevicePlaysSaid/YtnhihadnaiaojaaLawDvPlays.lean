/- DevicePlays answers true, of any number and any acts. No condition. -/
import Derived.Test.YtnhihadnaiaojaaDvZ
import Derived.Deep.DeepCutAuto
namespace Go.Proofs.Ytnhihadnaiaojaa
open Go.RowKit Go.Shelf

set_option maxRecDepth 100000 in
set_option maxHeartbeats 16000000 in
theorem devicePlays_any (n : Int) (v : Value) (L : List ActD) (w : World) (hn : Z64 n) (hA : Acs w v L) :
    Calls Try.prog 3 #[.int .i64 n, v] w fun e w' => e = .returned (.bool true) ∧ Frm (fun _ => False) w w' := by
  have HA := Lib.hid hA
  have HW := Lib.hid awake_any
  have HY := Lib.hid (fun W => may_any n W)
  obtain ⟨a, cap, rfl, h1, h2, h3⟩ := hA
  unfold maxLen at h2
  have H3 := Lib.hid h3
  clear h3
  by_cases hc : 256 ≤ n ∧ n ≤ 2048
  · obtain ⟨k, rfl⟩ : ∃ k : Nat, n = (k : Int) := ⟨n.toNat, by omega⟩
    have hk1 : 256 ≤ k := by omega
    have hk2 : k ≤ 2048 := by omega
    have HN : Hid (Calls Try.prog 8 #[.int .i64 (k : Int)] w fun e w' => ∃ v, e = .returned v ∧ NewDev (DV.new k) w v w') := Lib.hid ((new_any (k : Int) w).mono fun e w' h => by
      unfold NewTo at h
      rw [if_pos hc] at h
      exact h)
    rw [decide_eq_true hc] at HY
    clear hc
    go_enter Try.func3, Try.ntmps3
    go_wp2_with fail
    refine HN.out.mono ?_
    rintro e w1 ⟨_, rfl, b, f, x, rfl, hd, hb, hf, hx, g1⟩
    have HF := Lib.hid (few11_any _ L w1 (HA.out.keepF g1))
    have H1 := Lib.hid (And.intro hd g1)
    have hlt := hd.lt
    clear hd g1
    cases hfew : fewD L with
    | false =>
      rw [hfew] at HF
      clear hfew
      go_wp2_with fail
      refine HF.out.mono ?_
      rintro e w2 ⟨rfl, rfl⟩
      go_wp2_with fail
      refine (HY.out _).mono ?_
      rintro e w2 ⟨rfl, rfl⟩
      go_wp2_with fail
      refine (HW.out _).mono ?_
      rintro e w3 ⟨rfl, g3⟩
      have G3 := Lib.hid (H1.out.2.trans g3)
      clear g3
      go_wp2_with fail
      go_ret
      exact ⟨rfl, G3.out⟩
    | true =>
      rw [hfew] at HF
      have hcs := fewD_cs hfew
      have HFE := Lib.hid hcs
      have h70 := fewD_len hfew
      clear hfew hcs
      go_wp2_with fail
      refine HF.out.mono ?_
      rintro e w2 ⟨rfl, rfl⟩
      go_wp2_with fail
      refine (HY.out _).mono ?_
      rintro e w2 ⟨rfl, rfl⟩
      have HB := Lib.hid (blocks_any b f x (DV.new k) w1 H1.out.1)
      go_wp2_with fail
      refine HB.out.mono ?_
      rintro e w2 ⟨rfl, rfl⟩
      have hnk : (DV.new k).n = k := rfl
      rw [hnk]
      clear hnk
      have HR := Lib.hid (rnew_any k w1 hk2)
      go_wp2_with fail
      refine HR.out.mono ?_
      rintro e w2 ⟨_, rfl, r, fp, rfl, hr, g2, hfp⟩
      have HT : Hid (Two w w2 b f x r (DV.new k) fp) := Lib.hid ⟨H1.out.1.keepF g2, hr, fun e => by have := hfp b e; omega, fun e => by have := hfp f e; omega, fun e => by have := hfp x e; omega, hf, hx, fun j hj => by have := hfp j hj; have := H1.out.2.size; omega, H1.out.2.trans g2⟩
      clear hr g2 hfp HR HB HN HF
      go_wp2_with fail
      go_loopw [5, 6, 7] (fun s5 s6 s7 wr => ∃ i : Nat, i ≤ L.length ∧ s7 = .int .i64 (i : Nat) ∧ ∃ b f x r fp, s5 = .pointer (some ⟨b, 0, none⟩) ∧ s6 = .pointer (some ⟨r, 0, none⟩) ∧ Two w wr b f x r ((DV.new k).acts (L.take i)) fp) (fun _ _ i _ => L.length - (intOf i).toNat)
      case atStart => exact ⟨0, Nat.zero_le _, rfl, b, f, x, r, fp, rfl, rfl, HT.out⟩
      case round =>
        obtain ⟨i, hi, rfl, b, f, x, r, fp, rfl, rfl, hT⟩ := hrel
        obtain ⟨D, hD⟩ : ∃ D, (DV.new k).acts (L.take i) = D := ⟨_, rfl⟩
        rw [hD] at hT
        by_cases hlt : i < L.length
        · obtain ⟨p, off, c, rfl, hat0⟩ := H3.out i hlt
          have hcl := HFE.out i hlt
          have hstep := DV.acts_snoc (DV.new k) L i hlt
          rw [hD] at hstep
          obtain ⟨y, hy⟩ : ∃ y, L[i] = y := ⟨_, rfl⟩
          rw [hy] at hat0 hstep hcl
          have hat := hat0.keepF hT.frm
          have c0 := hat.c0
          obtain ⟨ac, cc, rfl, hc1, hc2⟩ := hat0.zs.slice
          unfold maxLen at hc2
          have hk256 := hat0.fits.k
          obtain ⟨m, hm⟩ : ∃ m, y.k % 6 = m := ⟨_, rfl⟩
          have hm6 : m < 6 := by omega
          have t1 : (y.k : Int) % 6 = (m : Int) := by omega
          have t1' : (y.k : Int).tmod 6 = (m : Int) := by rw [Int.tmod_eq_emod_of_nonneg (by omega)]; exact t1
          have t3 : IntKind.u8.wrap (m : Int) = (m : Int) := IntWalk.u8_in _ (by omega)
          have hli : (i : Int) < (L.length : Int) := by omega
          have hi0 : (0 : Int) ≤ (i : Int) := by omega
          have HAT := Lib.hid (And.intro hat0 (And.intro hcl hstep))
          have HT := Lib.hid hT
          have HHD := Lib.hid hD
          have HHY := Lib.hid hy
          clear hat0 hat hcl hstep hT hm hD hy
          go_upto_if 52 with fail
          go_cut [5, 6] (fun s5 s6 wx => ∃ b f x r fp, s5 = .pointer (some ⟨b, 0, none⟩) ∧ s6 = .pointer (some ⟨r, 0, none⟩) ∧ Two w wx b f x r D fp)
          case first =>
            by_cases e5 : m = 5
            · subst e5
              have HC := Lib.hid (copy_any b f x D wr HT.out.dev)
              go_wp2_with fail
              refine HC.out.mono ?_
              rintro e w3 ⟨_, rfl, b2, f2, x2, rfl, hd3, hb2, hf2, hx2, g3⟩
              have h3 := HT.out.keepF g3
              have HR := Lib.hid (copy_ref r D fp w3 h3.ref h3.dev.ok)
              have H3' := Lib.hid (And.intro h3 (And.intro hd3 g3))
              clear h3 hd3 g3 HC
              go_wp2_with fail
              refine HR.out.mono ?_
              rintro e w4 ⟨_, rfl, r2, fp2, rfl, hr4, g4, hfp2⟩
              have hlt3 := H3'.out.2.1.lt
              have hltw := HT.out.dev.lt
              have hs0 := HT.out.frm.size
              have hs3 := H3'.out.2.2.size
              have hT4 : Two w w4 b2 f2 x2 r2 D fp2 := ⟨H3'.out.2.1.keepF g4, hr4, fun e => by have := hfp2 b2 e; omega, fun e => by have := hfp2 f2 e; omega, fun e => by have := hfp2 x2 e; omega, by omega, by omega, fun j hj => by have := hfp2 j hj; omega, H3'.out.1.frm.trans g4⟩
              have hd4 := H3'.out.1.dev.keepF g4
              have HWR := Lib.hid (write_any b f x D 0 [111, 108, 100] w4 hd4 (by unfold Z64; omega) (by simp))
              have H4 := Lib.hid (And.intro hT4 (And.intro HT.out.lf HT.out.lx))
              have HFP := Lib.hid hfp2
              clear hT4 hd4 hr4 g4 hfp2 HR
              go_wp2_with fail
              refine HWR.out.mono ?_
              rintro e w5 ⟨rfl, hd5, g5⟩
              have hT5 := H4.out.1.keep g5 (by omega) (by omega) (by omega) (fun j hj e => by have := HFP.out j hj; omega) (fun j e => by have := H4.out.2.2; omega)
              have HFL := Lib.hid (flush_any b f x _ w5 hd5)
              have H5 := Lib.hid hT5
              clear hT5 hd5 g5 HWR
              go_wp2_with fail
              refine HFL.out.mono ?_
              rintro e w6 ⟨rfl, hd6, g6⟩
              have hT6 := H5.out.keep g6 (by omega) (by omega) (by omega) (fun j hj e => by have := HFP.out j hj; omega) (fun j e => by have := H4.out.2.1; have := H4.out.2.2; omega)
              have H6 := Lib.hid hT6
              clear hT6 hd6 g6 HFL
              go_wp2_with fail
              go_meet
              exact ⟨b2, f2, x2, r2, fp2, rfl, rfl, H6.out⟩
            · have n5 : ¬ (m : Int) = 5 := by omega
              have b5 : ((m : Int) == 5) = false := by rw [beq_eq_false_iff_ne]; exact n5
              go_wp2_with fail
              go_meet
              exact ⟨b, f, x, r, fp, rfl, rfl, HT.out⟩
          case rest =>
            clear HT c0 t1 t1' t3 hm6
            obtain ⟨b, f, x, r, fp, rfl, rfl, hT⟩ := hcut
            have hat := HAT.out.1.keepF hT.frm
            have c0 := hat.c0
            have c1 := hat.c1
            have c2 := hat.c2
            have c3 := hat.c3
            have HO := Lib.hid (one_any b f x r D fp y _ w _ hT HAT.out.1.fits HAT.out.1.zs HAT.out.2.1)
            have HTT := Lib.hid hT
            have a31 := Try.isAgg31
            have z31 := Try.sizeOf31
            clear hat hT
            go_wp2_with fail
            refine HO.out.mono ?_
            rintro e w1 ⟨rfl, fp1, hT1⟩
            rw [HAT.out.2.2] at hT1
            have hat := HAT.out.1.keepF hT1.frm
            have c1 := hat.c1
            have HK := Lib.hid (alike_any b f x r _ fp1 y.q w1 hT1.dev hT1.ref HAT.out.1.fits.q)
            have HTT := Lib.hid hT1
            clear hat hT1 HO
            go_wp2_with fail
            refine HK.out.mono ?_
            rintro e w2 ⟨rfl, g2⟩
            have HT2 := Lib.hid (HTT.out.keepF g2)
            clear g2 HK
            go_wp2_with fail
            go_roundw
            case rel => exact ⟨i + 1, by omega, by go_num, b, f, x, r, fp1, rfl, rfl, HT2.out⟩
            case measure => simp [intOf]; omega
        · obtain rfl : i = L.length := by omega
          have HFR := Lib.hid (fresh_any b f x D wr hT.dev)
          have HT := Lib.hid hT
          clear hT hD
          go_wp2_with fail
          refine HFR.out.mono ?_
          rintro e w3 ⟨u, rfl, hu, hub, g3⟩
          have hT3 := HT.out.keepF g3
          obtain ⟨au, cu, rfl, hu1, hu2⟩ := hu.zs.slice
          obtain ⟨va, vb, hR3⟩ := hT3.ref
          obtain ⟨al, cl, rfl, hl1, hl2⟩ := hR3.list.frl.slice
          have hlen : (D.fresh.map Int.ofNat).length = D.fresh.length := List.length_map ..
          have hll := FLs_len D
          have d1 := hR3.blk.cell 1 rfl
          have hfl := D.fresh_len
          have hnn := hT3.dev.ok.hi
          obtain ⟨N, hN⟩ : ∃ N, D.fresh.length = N := ⟨_, rfl⟩
          rw [hll, hN] at d1 hl1
          rw [hlen, hN] at hu1
          rw [hN] at hfl
          unfold maxLen at hu2 hl2
          have hN2 : N ≤ 2048 := by omega
          have HX3 := Lib.hid (And.intro hu (And.intro hR3 hT3))
          have HL := Lib.hid (And.intro hlen (And.intro hll hN))
          rw [hlen, hN]
          clear hu hub g3 hT3 hR3 hlen hll hN hfl hnn HT HFR
          go_wp2_with fail
          go_loopw [10] (fun j wr => ∃ k : Nat, k ≤ N ∧ j = .int .i64 (k : Nat) ∧ Frm (fun _ => False) w3 wr) (fun j _ => N - (intOf j).toNat)
          case atStart => exact ⟨0, Nat.zero_le _, rfl, Frm.refl _ _⟩
          case round =>
            obtain ⟨j, hj, rfl, gj⟩ := hrel
            have d1 := dFrm_cell gj d1
            by_cases hjN : j < N
            · have hjf : j < D.fresh.length := by rw [HL.out.2.2]; exact hjN
              obtain ⟨g1, o1, rfl, _, e1⟩ := Zs.at (show Zs w3 (.slice au (D.fresh.map Int.ofNat).length cu) (D.fresh.map Int.ofNat) from HX3.out.1.zs) j (by rw [HL.out.1]; exact hjf)
              obtain ⟨g2, o2, rfl, _, e2, _⟩ := FrL.elem (show FrL w3 (.slice al (FLs D).length cl) (FLs D) from HX3.out.2.1.list.frl) j (by rw [HL.out.2.1]; exact hjf)
              obtain ⟨q, hq⟩ : ∃ q, D.fresh[j] = q := ⟨_, rfl⟩
              rw [List.getElem_map, hq] at e1
              rw [FLs_at D j (by rw [HL.out.2.1]; exact hjf) hjf, hq] at e2
              have e1 : wr.cell? ⟨g1, o1 + j, none⟩ = some (.int .i64 (q : Nat)) := dFrm_cell gj e1
              have e2 := dFrm_cell gj e2
              have hji : (j : Int) < (N : Int) := by omega
              have hj0 : (0 : Int) ≤ (j : Int) := by omega
              have hqq : ((q : Int) == (q : Int)) = true := by rw [beq_iff_eq]
              have GJ := Lib.hid gj
              clear gj hq
              go_wp2_with fail
              go_quiet (fail)
              go_wp2_with fail
              go_roundw
              case rel => exact ⟨j + 1, by omega, by go_num, GJ.out.drewN _⟩
              case measure => simp [intOf]; omega
            · obtain rfl : j = N := by omega
              have hT4 := HX3.out.2.2.keepF gj
              have HT4 := Lib.hid hT4
              clear hT4 gj
              go_wp2_with fail
              go_loopw [11] (fun s wx => ∃ i : Nat, i ≤ L.length ∧ s = .int .i64 (i : Nat) ∧ Frm (fun _ => False) wr wx) (fun s _ => L.length - (intOf s).toNat)
              case atStart => exact ⟨0, Nat.zero_le _, rfl, Frm.refl _ _⟩
              case round =>
                obtain ⟨i, hi, rfl, gi⟩ := hrel
                by_cases hil : i < L.length
                · obtain ⟨p, off, c, rfl, hat0⟩ := H3.out i hil
                  have gw := (HT4.out.keepF gi)
                  obtain ⟨y, hy⟩ : ∃ y, L[i] = y := ⟨_, rfl⟩
                  rw [hy] at hat0
                  have c1 := (hat0.keepF gw.frm).c1
                  have HK := Lib.hid (alike_any b f x r D fp y.q wr gw.dev gw.ref hat0.fits.q)
                  have hii : (i : Int) < (L.length : Int) := by omega
                  have hi0 : (0 : Int) ≤ (i : Int) := by omega
                  have GI := Lib.hid gi
                  clear gw hat0 hy gi
                  go_wp2_with fail
                  refine HK.out.mono ?_
                  rintro e w5 ⟨rfl, g5⟩
                  have G5 := Lib.hid (GI.out.trans g5)
                  clear g5
                  go_wp2_with fail
                  go_roundw
                  case rel => exact ⟨i + 1, by omega, by go_num, G5.out⟩
                  case measure => simp [intOf]; omega
                · obtain rfl : i = L.length := by omega
                  have gw := (HT4.out.keepF gi)
                  have HK := Lib.hid (alike_any b f x r D fp 0 wr gw.dev gw.ref (by unfold Z64; omega))
                  have GW := Lib.hid gw.frm
                  clear gw gi
                  go_wp2_with fail
                  refine HK.out.mono ?_
                  rintro e w5 ⟨rfl, g5⟩
                  have G5 := Lib.hid (GW.out.trans g5)
                  clear g5
                  go_wp2_with fail
                  refine (HW.out _).mono ?_
                  rintro e w6 ⟨rfl, g6⟩
                  have G6 := Lib.hid (G5.out.trans g6)
                  clear g6
                  go_wp2_with fail
                  go_ret
                  exact ⟨rfl, G6.out⟩
    
  · have HN : Hid (Calls Try.prog 8 #[.int .i64 n] w fun e w' => e = .returned (.pointer none) ∧ w = w') := Lib.hid ((new_any n w).mono fun e w' h => by
      unfold NewTo at h
      rw [if_neg hc] at h
      exact h)
    rw [decide_eq_false hc] at HY
    clear hc
    go_enter Try.func3, Try.ntmps3
    go_wp2_with fail
    refine HN.out.mono ?_
    rintro e w1 ⟨rfl, rfl⟩
    have HF := Lib.hid (few11_any _ L w HA.out)
    cases hfew : fewD L with
    | false =>
      rw [hfew] at HF
      clear hfew
      go_wp2_with fail
      refine HF.out.mono ?_
      rintro e w2 ⟨rfl, rfl⟩
      go_wp2_with fail
      refine (HY.out _).mono ?_
      rintro e w2 ⟨rfl, rfl⟩
      go_wp2_with fail
      refine (HW.out _).mono ?_
      rintro e w3 ⟨rfl, g3⟩
      have G3 := Lib.hid g3
      clear g3
      go_wp2_with fail
      go_ret
      exact ⟨rfl, G3.out⟩
    | true =>
      rw [hfew] at HF
      clear hfew
      go_wp2_with fail
      refine HF.out.mono ?_
      rintro e w2 ⟨rfl, rfl⟩
      go_wp2_with fail
      refine (HY.out _).mono ?_
      rintro e w2 ⟨rfl, rfl⟩
      go_wp2_with fail
      refine (HY.out _).mono ?_
      rintro e w2 ⟨rfl, rfl⟩
      go_wp2_with fail
      refine (HW.out _).mono ?_
      rintro e w3 ⟨rfl, g3⟩
      have G3 := Lib.hid g3
      clear g3
      go_wp2_with fail
      go_ret
      exact ⟨rfl, G3.out⟩
end Go.Proofs.Ytnhihadnaiaojaa
