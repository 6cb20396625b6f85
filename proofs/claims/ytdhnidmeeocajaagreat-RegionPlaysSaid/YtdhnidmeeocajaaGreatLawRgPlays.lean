/- RegionPlays: whatever is formatted, appended, sealed and read, over a line that is cut anywhere, is answered, and held, as the document says. No condition. -/
import Derived.Test.YtdhnidmeeocajaaGreatRgPo
namespace Go.Proofs.YtdhnidmeeocajaaGreat
open Go.RowKit Go.Shelf

set_option maxRecDepth 100000 in
set_option maxHeartbeats 64000000 in
theorem regionPlays_any (v : Value) (A : List A5) (q : Int) (v2 : Value) (cs : List Int) (w : World) (hA : A5L w v A) (hq : Z64 q) (hz : Zs w v2 cs) (hzz : ∀ z ∈ cs, Z64 z) :
    Calls Tryz.prog 3 #[v, .agg #[.int .i64 q, v2]] w fun e w' => e = .returned (.bool true) ∧ Frm (fun _ => False) w w' := by
  have HWK := Lib.hid (fun W => awake13_any W)
  obtain ⟨a, cap, rfl, hc1, hc2⟩ := hA.slice
  unfold maxLen at hc2
  obtain ⟨az, capz, rfl, hd1, hd2⟩ := hz.slice
  unfold maxLen at hd2
  obtain ⟨wa, hwa⟩ : ∃ wa, w.alloc (.cells #[.int .i64 q, .slice az cs.length capz] 25) = wa := ⟨_, rfl⟩
  have ga : Frm (fun _ => False) w wa := by rw [← hwa]; exact (Frm.refl _ w).alloc _
  have ba : Blk wa w.heap.size 25 #[.int .i64 q, .slice az cs.length capz] := by rw [← hwa]; exact Blk.alloc w _ _
  have k0 := ba.cell 0 rfl
  have k1 := ba.cell 1 rfl
  have HF := few13_any _ A wa (hA.keepF ga)
  cases hfew : few5 A with
  | false =>
    rw [hfew] at HF
    have HF := Lib.hid HF
    have GA := Lib.hid ga
    clear hfew hA hz hzz hq ba ga
    go_enter Tryz.func3, Tryz.ntmps3
    go_wp2_with fail
    clear hwa
    refine HF.out.mono ?_
    rintro e w1 ⟨rfl, rfl⟩
    go_wp2_with fail
    refine (HWK.out _).mono ?_
    rintro e w1 ⟨rfl, g1⟩
    go_wp2_with fail
    go_ret
    exact ⟨rfl, GA.out.trans g1⟩
  | true =>
    obtain ⟨hl50, hls⟩ := few5_ok hfew
    rw [hfew] at HF
    have HF := Lib.hid HF
    by_cases h20 : cs.length ≤ 20
    · have h20i : ¬ (20 : Int) < (cs.length : Int) := by omega
      have HA := Lib.hid (And.intro hA hls)
      have HV := Lib.hid (And.intro hz (And.intro hzz (And.intro h20 hq)))
      have HN := Lib.hid (new256 wa)
      have HBA := Lib.hid (And.intro ga ba)
      clear hfew hA hz hzz hq ba ga hls
      go_enter Tryz.func3, Tryz.ntmps3
      go_wp2_with fail
      clear hwa
      refine HF.out.mono ?_
      rintro e w1 ⟨rfl, rfl⟩
      go_wp2_with fail
      refine HN.out.mono ?_
      rintro e w1 ⟨_, rfl, b, f, x, rfl, hd, hb, hf, hx, g1⟩
      have HR := Lib.hid (rnew_any 256 w1 (by decide))
      have H1 := Lib.hid (And.intro hd (And.intro (And.intro hb (And.intro hf hx)) g1))
      clear hd hb hf hx g1 HN HF
      go_wp2_with fail
      refine HR.out.mono ?_
      rintro e w2 ⟨_, rfl, r, fp, rfl, hr, g2, nf⟩
      have H2 := Lib.hid (And.intro hr (And.intro g2 nf))
      have gaa := H1.out.2.2.trans g2
      have k0 := (HBA.out.2.keep gaa (fun h => h)).cell 0 rfl
      have k1 := (HBA.out.2.keep gaa (fun h => h)).cell 1 rfl
      have HL := Lib.hid (lnew_any b f x _ q _ cs w2 (H1.out.1.keepF g2) HV.out.2.2.2 (HV.out.1.keepF (HBA.out.1.trans gaa)) HV.out.2.1 (by have := HV.out.2.2.1; omega) (fun g => w2.heap.size ≤ g) (fun _ h => h))
      clear hr g2 nf HR gaa
      go_wp2_with fail
      refine HL.out.mono ?_
      rintro e w3 ⟨_, rfl, l, rfl, h3, hl, g3⟩
      have H3 := Lib.hid (And.intro h3.low2 (And.intro hl g3))
      have gaa := (H1.out.2.2.trans H2.out.2.1).trans g3
      have k0 := (HBA.out.2.keep gaa (fun h => h)).cell 0 rfl
      have k1 := (HBA.out.2.keep gaa (fun h => h)).cell 1 rfl
      have hB := BothL.start13 (w0 := w) (v := .slice az cs.length capz) H1.out.1 (by have := HBA.out.1.size; have := H1.out.2.1; omega) (HBA.out.1.trans H1.out.2.2) H2.out.1 H2.out.2.1 H2.out.2.2 H3.out.1 H3.out.2.1 H3.out.2.2 HV.out.1 ⟨HV.out.2.2.2, HV.out.2.1, by show cs.length ≤ 1000000; have := HV.out.2.2.1; omega⟩
      have HB := Lib.hid hB
      obtain ⟨PP, hPP⟩ : ∃ PP, (fun g => (w2.heap.size ≤ g ∧ g < w3.heap.size ∧ g ≠ l ∧ g ≠ f ∧ g ≠ x) ∨ g < w.heap.size) = PP := ⟨_, rfl⟩
      rw [hPP] at HB
      obtain ⟨p, hp⟩ : ∃ p, w3.heap.size = p := ⟨_, rfl⟩
      rw [hp] at HB
      obtain ⟨w4, hw4⟩ : ∃ w4, w3.alloc (.cells #[.pointer (some ⟨r, 0, none⟩), .int .i64 q, .slice az cs.length capz, .int .i64 0, .bool false] 36) = w4 := ⟨_, rfl⟩
      rw [hw4] at HB
      obtain ⟨L0, hL0⟩ : ∃ L0, LV.new (DV.new 256) q cs PP = L0 := ⟨_, rfl⟩
      have hn0 : L0.D.n = 256 := by rw [← hL0]; rfl
      have ha0 : L0.acts = 0 := by rw [← hL0]; rfl
      rw [hL0] at HB
      have HF1 := Lib.hid (format_any l b f x L0 64 64 w4 HB.out.ln (by omega) ⟨by decide, by decide⟩ ⟨by decide, by decide⟩ (.inr fun k hk => (HB.out.s2 k hk).2.2.2))
      have HL0 := Lib.hid (And.intro hn0 ha0)
      clear hB h3 hl g3 HL gaa H1 H2 H3 hPP hL0 hn0 ha0 HBA HV
      go_wp2_with fail
      clear hw4 hp k0 k1
      refine HF1.out.mono ?_
      rintro e w5 ⟨v5, rfl, h5⟩
      have HT1 : FmtTo l b f x L0 64 64 w4 (.returned (.tuple #[v5, .int .i64 ((fmtR L0 64 64).2 : Nat)])) w5 := ⟨v5, rfl, h5⟩
      have HF2 := Lib.hid (refformat_any p r _ L0 64 64 w5 (HB.out.mid h5.2.1) (by have := HL0.out.2; omega) ⟨by decide, by decide⟩ ⟨by decide, by decide⟩)
      have HT1 := Lib.hid HT1
      clear h5 HF1
      go_wp2_with fail
      refine HF2.out.mono ?_
      rintro e w6 ⟨v6, rfl, h6⟩
      have hPS := (both_format HB.out HL0.out.1 HT1.out ⟨v6, rfl, h6⟩).2
      have hsm := fmtR_sm HL0.out.1 64 64
      obtain ⟨⟨L1, ec⟩, hfm⟩ : ∃ t, fmtR L0 64 64 = t := ⟨_, rfl⟩
      rw [hfm] at hPS hsm
      simp only [hfm]
      have heq : ((ec : Int) != (ec : Int)) = false := by simp
      have HI := Lib.hid (And.intro (show PlS w w6 l b f x p r L1 v5 v6 from hPS) (And.intro (show L1.D.n = 256 from hsm.n.trans HL0.out.1) (show L1.acts ≤ 300 by have := hsm.acts; have := HL0.out.2; have e : (L1, ec).1.acts = L1.acts := rfl; omega)))
      clear h6 HF2 HT1 hPS hsm hfm HB HL0
      go_wp2_with fail
      clear heq
      go_loopw [13, 9, 11] (fun i rv qv wr => ∃ (j : Nat) (L : LV), j ≤ A.length ∧ i = .int .i64 (j : Nat) ∧ PlS w wr l b f x p r L rv qv ∧ L.D.n = 256 ∧ L.acts ≤ 300 * (j + 1)) (fun i _ _ _ => A.length - (intOf i).toNat)
      case atStart => exact ⟨0, L1, Nat.zero_le _, rfl, HI.out.1, HI.out.2.1, by have := HI.out.2.2; omega⟩
      case round =>
        clear HI
        obtain ⟨j, L, hj, rfl, hPS, hn, ha⟩ := hrel
        have hfrm : Frm (fun _ => False) w wr := by
          obtain ⟨fp, hb⟩ := hPS.bl
          exact hb.frm
        by_cases hlt : j < A.length
        · have hki : (j : Int) < (A.length : Int) := by omega
          obtain ⟨gb, off, rfl, hgb, c0, c1, c2, c3, c4⟩ := A5L.elem (HA.out.1.keepF hfrm) j hlt
          have hls := HA.out.2 j hlt
          obtain ⟨y, hy⟩ : ∃ y, A[j] = y := ⟨_, rfl⟩
          rw [hy] at c0 c1 c2 c3 c4 hls
          have gl : Frm (fun _ => False) wr (wr.alloc (.cells #[.int .u8 (y.k : Nat), .string (bs y.s), .int .u32 (y.g : Nat), .int .i64 y.q, .int .i64 y.n] 46)) := (Frm.refl _ wr).alloc _
          have bl := Blk.alloc wr 46 #[.int .u8 (y.k : Nat), .string (bs y.s), .int .u32 (y.g : Nat), .int .i64 y.q, .int .i64 y.n]
          obtain ⟨wl, hwl⟩ : ∃ wl, wr.alloc (.cells #[.int .u8 (y.k : Nat), .string (bs y.s), .int .u32 (y.g : Nat), .int .i64 y.q, .int .i64 y.n] 46) = wl := ⟨_, rfl⟩
          obtain ⟨zb, hzb⟩ : ∃ zb, wr.heap.size = zb := ⟨_, rfl⟩
          rw [hwl] at gl
          rw [hwl, hzb] at bl
          have hPL := hPS.keepF gl
          have d0 := bl.cell 0 rfl
          have d1 := bl.cell 1 rfl
          have d2 := bl.cell 2 rfl
          have d3 := bl.cell 3 rfl
          have d4 := bl.cell 4 rfl
          have hyk := y.hk
          have HY := Lib.hid (And.intro y.hq (And.intro y.hn (And.intro y.hg (And.intro y.hs y.hk))))
          obtain ⟨m, hm⟩ : ∃ m, y.k % 6 = m := ⟨_, rfl⟩
          have hm6 : m < 6 := by omega
          have s1 : (y.k : Int) % 6 = (m : Int) := by omega
          have s1' : (y.k : Int).tmod 6 = (m : Int) := by rw [Int.tmod_eq_emod_of_nonneg (by omega)]; exact s1
          have s3 : IntKind.u8.wrap (m : Int) = (m : Int) := IntWalk.u8_in _ (by omega)
          have HBL := Lib.hid bl
          have HJ := Lib.hid (And.intro hn ha)
          have hac : L.acts ≤ 16000 := by omega
          have hzlt : zb < wl.heap.size := bl.lt
          have HAC := Lib.hid (And.intro hac hls)
          have hnx : ¬ LnX l f x zb := by
            obtain ⟨fp, hb⟩ := hPS.bl
            have hlt := hb.ln.lt
            exact notX (by omega) (by omega) (by omega)
          have HNX := Lib.hid hnx
          have HPL := Lib.hid hPL
          clear hPS hPL gl bl hn ha hfrm hy hm hac hyk hls hnx hzlt

          by_cases m3 : m = 3
          · subst m3
            obtain ⟨fp, hbl⟩ := HPL.out.bl
            have HF1 := Lib.hid (format_any l b f x L y.q y.n wl hbl.ln (by have := HAC.out.1; omega) HY.out.1 HY.out.2.1 (.inr fun k hk => (hbl.s2 k hk).2.2.2))
            have HBB := Lib.hid hbl
            clear hbl
            go_wp2_with fail
            clear hwl hzb
            refine HF1.out.mono ?_
            rintro e w5 ⟨v5, rfl, h5⟩
            have HT1 : FmtTo l b f x L y.q y.n wl (.returned (.tuple #[v5, .int .i64 ((fmtR L y.q y.n).2 : Nat)])) w5 := ⟨v5, rfl, h5⟩
            have HF2 := Lib.hid (refformat_any p r _ L y.q y.n w5 (HBB.out.mid h5.2.1) (by have := HAC.out.1; omega) HY.out.1 HY.out.2.1)
            have d0 := (HBL.out.keep h5.2.1 HNX.out).cell 0 rfl
            have d1 := (HBL.out.keep h5.2.1 HNX.out).cell 1 rfl
            have d2 := (HBL.out.keep h5.2.1 HNX.out).cell 2 rfl
            have d3 := (HBL.out.keep h5.2.1 HNX.out).cell 3 rfl
            have d4 := (HBL.out.keep h5.2.1 HNX.out).cell 4 rfl
            have HT1 := Lib.hid HT1
            clear h5 HF1
            go_wp2_with fail
            refine HF2.out.mono ?_
            rintro e w6 ⟨v6, rfl, h6⟩
            have hPS := (both_format HBB.out HJ.out.1 HT1.out ⟨v6, rfl, h6⟩).2
            have hsm := fmtR_sm HJ.out.1 y.q y.n
            obtain ⟨⟨L1, ec⟩, hfm⟩ : ∃ t, fmtR L y.q y.n = t := ⟨_, rfl⟩
            rw [hfm] at hPS hsm
            simp only [hfm]
            have heq : ((ec : Int) != (ec : Int)) = false := by simp
            have HPS := Lib.hid (show PlS w w6 l b f x p r L1 v5 v6 from hPS)
            have HSM := Lib.hid (show L1.D.n = 256 ∧ L1.acts ≤ 300 * (j + 1 + 1) from ⟨hsm.n.trans HJ.out.1, by have := hsm.acts; have := HJ.out.2; have e : (L1, ec).1.acts = L1.acts := rfl; omega⟩)
            clear h6 HF2 HT1 hPS hsm hfm HBB
            rcases HPS.out with ⟨rfl, rfl, fpz, hbz⟩ | ⟨gz, cz, Rz, fpz, rfl, rfl, hbz⟩
            · have HZ := Lib.hid (show PlS w w6 l b f x p r L1 (.pointer none) (.pointer none) from .inl ⟨rfl, rfl, fpz, hbz⟩)
              clear hbz
              go_wp2_with fail
              go_roundw
              case rel => exact ⟨j + 1, L1, by omega, by go_num, HZ.out, HSM.out.1, HSM.out.2⟩
              case measure => simp [intOf]; omega
            · have HQ1 := Lib.hid (rleft_any gz l b f x Rz L1 w6 hbz.rg)
              have HQ2 := Lib.hid (fun W (gW : Frm (fun _ => False) w6 W) => refleft_any cz p Rz W (hbz.rr.rg.keep gW (fun h => h)))
              have HZ := Lib.hid (show PlS w w6 l b f x p r L1 (.pointer (some ⟨gz, 0, none⟩)) (.pointer (some ⟨cz, 0, none⟩)) from .inr ⟨gz, cz, Rz, fpz, rfl, rfl, hbz⟩)
              have heq : ((Rz.left : Int) != (Rz.left : Int)) = false := by simp
              clear hbz
              go_wp2_with fail
              refine HQ1.out.mono ?_
              rintro e wu ⟨rfl, gu⟩
              have HQ3 := Lib.hid (HQ2.out wu gu)
              have GU := Lib.hid gu
              clear gu HQ1 HQ2
              go_wp2_with fail
              refine HQ3.out.mono ?_
              rintro e wv ⟨rfl, gv⟩
              have HZ2 := Lib.hid (HZ.out.keepF (GU.out.trans gv))
              clear gv HQ3
              go_wp2_with fail
              go_roundw
              case rel => exact ⟨j + 1, L1, by omega, by go_num, HZ2.out, HSM.out.1, HSM.out.2⟩
              case measure => simp [intOf]; omega
          · have m3i : ((m : Int) == 3) = false := by rw [beq_eq_false_iff_ne]; omega
            by_cases m4 : m = 4
            · subst m4
              obtain ⟨fp, hbl⟩ := HPL.out.bl
              have HRd := Lib.hid (reads13_any l b f x p r fp L y.q y.n wl hbl.ln hbl.rl HY.out.1 HY.out.2.1)
              clear hbl
              go_wp2_with fail
              clear hwl hzb
              refine HRd.out.mono ?_
              rintro e w6 ⟨rfl, g6⟩
              have HPS := Lib.hid (HPL.out.keepF g6)
              have HSM := Lib.hid (show L.D.n = 256 ∧ L.acts ≤ 300 * (j + 1 + 1) from ⟨HJ.out.1, by have := HJ.out.2; omega⟩)
              clear g6 HRd
              rcases HPS.out with ⟨rfl, rfl, fpz, hbz⟩ | ⟨gz, cz, Rz, fpz, rfl, rfl, hbz⟩
              · have HZ := Lib.hid (show PlS w w6 l b f x p r L (.pointer none) (.pointer none) from .inl ⟨rfl, rfl, fpz, hbz⟩)
                clear hbz
                go_wp2_with fail
                go_roundw
                case rel => exact ⟨j + 1, L, by omega, by go_num, HZ.out, HSM.out.1, HSM.out.2⟩
                case measure => simp [intOf]; omega
              · have HQ1 := Lib.hid (rleft_any gz l b f x Rz L w6 hbz.rg)
                have HQ2 := Lib.hid (fun W (gW : Frm (fun _ => False) w6 W) => refleft_any cz p Rz W (hbz.rr.rg.keep gW (fun h => h)))
                have HZ := Lib.hid (show PlS w w6 l b f x p r L (.pointer (some ⟨gz, 0, none⟩)) (.pointer (some ⟨cz, 0, none⟩)) from .inr ⟨gz, cz, Rz, fpz, rfl, rfl, hbz⟩)
                have heq : ((Rz.left : Int) != (Rz.left : Int)) = false := by simp
                clear hbz
                go_wp2_with fail
                refine HQ1.out.mono ?_
                rintro e wu ⟨rfl, gu⟩
                have HQ3 := Lib.hid (HQ2.out wu gu)
                have GU := Lib.hid gu
                clear gu HQ1 HQ2
                go_wp2_with fail
                refine HQ3.out.mono ?_
                rintro e wv ⟨rfl, gv⟩
                have HZ2 := Lib.hid (HZ.out.keepF (GU.out.trans gv))
                clear gv HQ3
                go_wp2_with fail
                go_roundw
                case rel => exact ⟨j + 1, L, by omega, by go_num, HZ2.out, HSM.out.1, HSM.out.2⟩
                case measure => simp [intOf]; omega
            · have m4i : ((m : Int) == 4) = false := by rw [beq_eq_false_iff_ne]; omega
              by_cases m5 : m = 5
              · subst m5
                obtain ⟨fp, hbl, hwr⟩ := HPL.out.wrote
                have HWR := Lib.hid hwr
                have hW1 := lwrite_any l b f x L y.q y.s wl hbl.ln (by have := HAC.out.1; omega) HY.out.1 HY.out.2.2.2.1
                obtain ⟨cc, hcc⟩ : ∃ cc, L.code (L.D.writeE y.q y.s) = cc := ⟨_, rfl⟩
                rw [hcc] at hW1
                have HW1 := Lib.hid hW1
                have HCC := Lib.hid hcc
                have heq : ((cc : Int) != (cc : Int)) = false := by simp
                have HBB := Lib.hid hbl
                clear hbl hW1 hcc hwr
                go_wp2_with fail
                clear hwl hzb
                refine HW1.out.mono ?_
                rintro e w5 ⟨rfl, h5, g5⟩
                have hW2 := rlwrite_any p r fp L y.q y.s w5 (HBB.out.mid g5) (by have := HAC.out.1; omega) HY.out.1 HY.out.2.2.2.1
                rw [HCC.out] at hW2
                have HW2 := Lib.hid hW2
                have d1 := (HBL.out.keep g5 HNX.out).cell 1 rfl
                have d3 := (HBL.out.keep g5 HNX.out).cell 3 rfl
                have H5 := Lib.hid (And.intro h5 g5)
                clear h5 g5 hW2 HW1
                go_wp2_with fail
                refine HW2.out.mono ?_
                rintro e w6 ⟨rfl, h6⟩
                have hsm := write_sm L y.q y.s
                have hPS := HWR.out w5 w6 _ H5.out.1 H5.out.2 hsm h6
                obtain ⟨L1, hL1⟩ : ∃ L1, L.act (L.D.writeTo y.q y.s) = L1 := ⟨_, rfl⟩
                rw [hL1] at hPS hsm
                have HPS := Lib.hid hPS
                have HSM := Lib.hid (show L1.D.n = 256 ∧ L1.acts ≤ 300 * (j + 1 + 1) from ⟨hsm.n.trans HJ.out.1, by have := hsm.acts; have := HJ.out.2; omega⟩)
                clear h6 HW2 hPS hsm hL1 HBB H5 HWR
                rcases HPS.out with ⟨rfl, rfl, fpz, hbz⟩ | ⟨gz, cz, Rz, fpz, rfl, rfl, hbz⟩
                · have HZ := Lib.hid (show PlS w w6 l b f x p r L1 (.pointer none) (.pointer none) from .inl ⟨rfl, rfl, fpz, hbz⟩)
                  clear hbz
                  go_wp2_with fail
                  go_roundw
                  case rel => exact ⟨j + 1, L1, by omega, by go_num, HZ.out, HSM.out.1, HSM.out.2⟩
                  case measure => simp [intOf]; omega
                · have HQ1 := Lib.hid (rleft_any gz l b f x Rz L1 w6 hbz.rg)
                  have HQ2 := Lib.hid (fun W (gW : Frm (fun _ => False) w6 W) => refleft_any cz p Rz W (hbz.rr.rg.keep gW (fun h => h)))
                  have HZ := Lib.hid (show PlS w w6 l b f x p r L1 (.pointer (some ⟨gz, 0, none⟩)) (.pointer (some ⟨cz, 0, none⟩)) from .inr ⟨gz, cz, Rz, fpz, rfl, rfl, hbz⟩)
                  have heq : ((Rz.left : Int) != (Rz.left : Int)) = false := by simp
                  clear hbz
                  go_wp2_with fail
                  refine HQ1.out.mono ?_
                  rintro e wu ⟨rfl, gu⟩
                  have HQ3 := Lib.hid (HQ2.out wu gu)
                  have GU := Lib.hid gu
                  clear gu HQ1 HQ2
                  go_wp2_with fail
                  refine HQ3.out.mono ?_
                  rintro e wv ⟨rfl, gv⟩
                  have HZ2 := Lib.hid (HZ.out.keepF (GU.out.trans gv))
                  clear gv HQ3
                  go_wp2_with fail
                  go_roundw
                  case rel => exact ⟨j + 1, L1, by omega, by go_num, HZ2.out, HSM.out.1, HSM.out.2⟩
                  case measure => simp [intOf]; omega
              · have m5i : ((m : Int) == 5) = false := by rw [beq_eq_false_iff_ne]; omega
                rcases HPL.out with ⟨rfl, rfl, fp, hbl⟩ | ⟨g, c, R, fp, rfl, rfl, hbg⟩
                · have HPS := Lib.hid (show PlS w wl l b f x p r L (.pointer none) (.pointer none) from .inl ⟨rfl, rfl, fp, hbl⟩)
                  clear hbl HPL
                  go_wp2_with fail
                  clear hwl hzb
                  go_roundw
                  case rel => exact ⟨j + 1, L, by omega, by go_num, HPS.out, HJ.out.1, by have := HJ.out.2; omega⟩
                  case measure => simp [intOf]; omega
                · have HO := Lib.hid (one13_any l b f x p r g c fp L R y.k y.g y.s y.q y.n w wl hbg (by have := HAC.out.1; omega) (by have := HAC.out.2; omega) HY.out.2.2.2.2 HY.out.2.2.1)
                  have hsm := actR_sm HJ.out.1 hbg.rg.rok y.k y.g y.s
                  obtain ⟨L1, hL1⟩ : ∃ L1, (actR R L y.k y.g y.s).2.1 = L1 := ⟨_, rfl⟩
                  obtain ⟨R1, hR1⟩ : ∃ R1, (actR R L y.k y.g y.s).1 = R1 := ⟨_, rfl⟩
                  rw [hL1] at hsm HO
                  rw [hR1] at HO
                  have HSM := Lib.hid (show L1.D.n = 256 ∧ L1.acts ≤ 300 * (j + 1 + 1) from ⟨hsm.n.trans HJ.out.1, by have := hsm.acts; have := HJ.out.2; omega⟩)
                  clear hbg hsm hL1 hR1 HPL
                  go_wp2_with fail
                  clear hwl hzb
                  refine HO.out.mono ?_
                  rintro e w6 ⟨rfl, fp6, h6⟩
                  have HPS := Lib.hid (show PlS w w6 l b f x p r L1 (.pointer (some ⟨g, 0, none⟩)) (.pointer (some ⟨c, 0, none⟩)) from .inr ⟨g, c, R1, fp6, rfl, rfl, h6⟩)
                  have HQ1 := Lib.hid (rleft_any g l b f x R1 L1 w6 h6.rg)
                  have HQ2 := Lib.hid (fun W (gW : Frm (fun _ => False) w6 W) => refleft_any c p R1 W (h6.rr.rg.keep gW (fun h => h)))
                  have heq : ((R1.left : Int) != (R1.left : Int)) = false := by simp
                  clear h6 HO
                  go_wp2_with fail
                  refine HQ1.out.mono ?_
                  rintro e wu ⟨rfl, gu⟩
                  have HQ3 := Lib.hid (HQ2.out wu gu)
                  have GU := Lib.hid gu
                  clear gu HQ1 HQ2
                  go_wp2_with fail
                  refine HQ3.out.mono ?_
                  rintro e wv ⟨rfl, gv⟩
                  have HZ2 := Lib.hid (HPS.out.keepF (GU.out.trans gv))
                  clear gv HQ3
                  go_wp2_with fail
                  go_roundw
                  case rel => exact ⟨j + 1, L1, by omega, by go_num, HZ2.out, HSM.out.1, HSM.out.2⟩
                  case measure => simp [intOf]; omega
        · obtain rfl : j = A.length := by omega
          obtain ⟨fp, hbl⟩ := hPS.bl
          have HB := Lib.hid hbl
          have HJ := Lib.hid (And.intro hn ha)
          have HN1 := Lib.hid (needs_any ((A.length : Int) * 20) wr ⟨by omega, by omega⟩)
          have hN2 := refneeds_any (A.length * 20) wr (by omega)
          have ecast : ((A.length * 20 : Nat) : Int) = (A.length : Int) * 20 := by omega
          rw [ecast] at hN2
          have HN2 := Lib.hid hN2
          have eNat : ((A.length : Int) * 20).toNat = A.length * 20 := by omega
          rw [eNat] at HN1
          obtain ⟨nn, hnn⟩ : ∃ nn, needs (A.length * 20) = nn := ⟨_, rfl⟩
          rw [hnn] at HN1 HN2
          have heq : ((nn : Int) != (nn : Int)) = false := by simp
          have HB1 := Lib.hid (lblow_any l b f x L wr hbl.ln)
          clear hPS hbl hn ha hfrm hN2 ecast eNat hnn
          go_wp2_with fail
          refine HN1.out.mono ?_
          rintro e wz ⟨rfl, rfl⟩
          go_wp2_with fail
          refine HN2.out.mono ?_
          rintro e wz ⟨rfl, rfl⟩
          clear HN1 HN2
          go_wp2_with fail
          refine HB1.out.mono ?_
          rintro e w7 ⟨rfl, h7, g7⟩
          have HB2 := Lib.hid (rblow_any p r fp L w7 (HB.out.mid g7))
          have H7 := Lib.hid (And.intro h7 g7)
          clear h7 g7 HB1 heq
          go_wp2_with fail
          refine HB2.out.mono ?_
          rintro e w8 ⟨rfl, h8⟩
          obtain ⟨fp8, hb8⟩ := HB.out.step H7.out.1 H7.out.2 (blow_P L).1 h8
          have HB8 := Lib.hid hb8
          have HL2 := Lib.hid (lnew_any b f x _ (-1) (.slice none 0 0) [] w8 hb8.ln.dev ⟨by decide, by decide⟩ (Sl.nil_ w8 1 none 0 (by decide)) (fun z hz => by cases hz) (by decide))
          clear h8 hb8 HB HB2 H7
          go_wp2_with fail
          refine HL2.out.mono ?_
          rintro e w9 ⟨_, rfl, l2, rfl, h9, hl9, g9⟩
          have g10 : Frm (fun _ => False) w9 (w9.alloc (.cells #[.pointer (some ⟨r, 0, none⟩), .int .i64 (-1), .slice none 0 0, .int .i64 0, .bool false] 36)) := (Frm.refl _ w9).alloc _
          have hrl : RLn (w9.alloc (.cells #[.pointer (some ⟨r, 0, none⟩), .int .i64 (-1), .slice none 0 0, .int .i64 0, .bool false] 36)) w9.heap.size r fp8 (LV.new L.blow.D (-1) []) :=
            ⟨.slice none 0 0, Blk.alloc w9 _ _, (HB8.out.rl.ref.keepF g9).keepF g10, HB8.out.ln.dev.ok, ⟨⟨by show (-9223372036854775808 : Int) ≤ -1; decide, by show (-1 : Int) ≤ 9223372036854775807; decide⟩, (fun z hz => by cases hz), by show ([] : List Int).length ≤ 1000000; decide⟩, Sl.nil_ _ 1 none 0 (by decide), fun e => by have := HB8.out.rl.ref.lt _ e; have := g9.size; omega, .inl rfl⟩
          have HRd := Lib.hid (reads13_any l2 b f x w9.heap.size r fp8 (LV.new L.blow.D (-1) []) 64 64 _ (h9.keepF g10) hrl ⟨by decide, by decide⟩ ⟨by decide, by decide⟩)
          have HG := Lib.hid ((HB8.out.frm.trans g9).trans g10)
          clear h9 hl9 g9 g10 hrl HB8 HL2
          go_wp2_with fail
          refine HRd.out.mono ?_
          rintro e w10 ⟨rfl, g11⟩
          have HG2 := Lib.hid (HG.out.trans g11)
          clear g11 HRd HG
          go_wp2_with fail
          refine (HWK.out _).mono ?_
          rintro e w11 ⟨rfl, g12⟩
          have HG3 := Lib.hid (HG2.out.trans g12)
          clear g12
          go_wp2_with fail
          go_ret
          exact ⟨rfl, HG3.out⟩
    · have h20i : (20 : Int) < (cs.length : Int) := by omega
      have GA := Lib.hid ga
      clear hfew hA hz hzz hq ba ga
      go_enter Tryz.func3, Tryz.ntmps3
      go_wp2_with fail
      clear hwa
      refine HF.out.mono ?_
      rintro e w1 ⟨rfl, rfl⟩
      go_wp2_with fail
      refine (HWK.out _).mono ?_
      rintro e w1 ⟨rfl, g1⟩
      go_wp2_with fail
      go_ret
      exact ⟨rfl, GA.out.trans g1⟩
end Go.Proofs.YtdhnidmeeocajaaGreat

