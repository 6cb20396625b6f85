/- RankAll: each dot is in just one of what is seen, and so on. Of any register and name. Conditions: the tables and errors of strconv lie as the program's text lays them. -/
import Derived.Test.YtiokabhidjafeaaDoorLawRkSees
namespace Go.Proofs.YtiokabhidjafeaaDoor
open Go.RowKit Go.Shelf

theorem SL.byte {w : World} {v : Value} {l : List SibI} (h : SL w v l) (k : Nat) (hk : k < l.length) : ∃ g off c, v = .slice (some ⟨g, off, none⟩) l.length c ∧ w.cell? ⟨g, off + k * 3, none⟩ = some (.int .u8 l[k].r) ∧ w.cell? ⟨g, off + k * 3 + 1, none⟩ = some (.int .u32 l[k].n) ∧ w.cell? ⟨g, off + k * 3 + 2, none⟩ = some (.string (bs l[k].s)) := by
  obtain ⟨a, c, rfl, _, _⟩ := h.slice
  obtain ⟨g, off, rfl, h1⟩ := h.cells k hk
  exact ⟨g, off, c, rfl, h1⟩
theorem split_conf {nm : List UInt8} {r n : Nat} (h : okd nm r n) : splitV (conf nm r n) = .tuple #[.string (bs nm), dotV r n, .bool true] := by
  unfold splitV
  rw [splitO_conf h]
theorem flip_text {a b : List UInt8} (h : a ≠ b) : ((bs a).toList == (bs b).toList) = false := by rw [str_eq]; exact decide_eq_false h
theorem same_text (a : List UInt8) : ((bs a).toList == (bs a).toList) = true := by rw [beq_iff_eq]
set_option maxRecDepth 100000 in
set_option maxHeartbeats 16000000 in
theorem rankAll_any (f : Nat → Nat) (nm : List UInt8) (v : Value) (l : List SibI) (w : World) (hV : Vars w) (hf : Fit8 f) (h : SL w v l) (hnl : nm.length ≤ 9223372036854775807) :
    Calls Tryd.prog 5 #[rg f v, .string (bs nm)] w fun e w' => e = .returned (.bool true) ∧ Frm (fun _ => False) w w' := by
  obtain ⟨a0, c0, rfl, _, _⟩ := h.slice
  have a3 := Tryd.isAgg27
  have z3 := Tryd.sizeOf27
  have a4 := Tryd.isAgg39
  have z4 := Tryd.sizeOf39
  have a5 := Tryd.isAgg61
  have z5 := Tryd.sizeOf61
  have a6 := Tryd.isAgg25
  have z6 := Tryd.sizeOf25
  have a7 := Tryd.isAgg63
  have z7 := Tryd.sizeOf63
  have g0 : Frm (fun _ => False) w (w.alloc (.cells (rgc f (.slice a0 l.length c0)) 27)) := (Frm.refl _ w).alloc _
  have bX : Blk (w.alloc (.cells (rgc f (.slice a0 l.length c0)) 27)) w.heap.size 27 (rgc f (.slice a0 l.length c0)) := Blk.alloc _ _ _
  go_enter Tryd.func5, Tryd.ntmps5
  go_upto_region 1 with fail
  generalize w.alloc (.cells (rgc f (.slice a0 l.length c0)) 27) = wb at *
  obtain ⟨N, hN⟩ : ∃ N, w.heap.size = N := ⟨_, rfl⟩
  rw [hN] at bX ⊢
  clear hN
  have HX := Lib.hid (fun W (gW : Frm (fun _ => False) wb W) => And.intro (bX.keep gW (fun h => h)) ((h.keepF g0).keepF gW))
  have G0 := Lib.hid g0
  have HWK := Lib.hid (fun W (gW : Frm (fun _ => False) wb W) => works8_any W (hV.toVarT.keep (g0.trans gW)))
  have HVS := Lib.hid (fun W (gW : Frm (fun _ => False) wb W) => hV.keep (g0.trans gW))
  have HFit := Lib.hid hf
  have lX := load_reg bX
  clear g0 h bX hV hf
  by_cases hfx : few8 l
  · have HFX := Lib.hid (few8_yes f _ l wb (HX.out wb (Frm.refl _ _)).2 hfx)
    have HQX := Lib.hid (few8_in hfx)
    have H30 := Lib.hid hfx.1
    clear hfx
    go_wp2_with (first | ((with_reducible refine wpl_load rfl _ rfl ?_ lX ?_); (focus rfl)) | fail)
    refine HFX.out.mono ?_
    rintro e w1 ⟨rfl, g1⟩
    have G1 := Lib.hid g1
    have cX := rcells (HX.out w1 G1.out).1
    have cX8 := (HX.out w1 G1.out).1.cell 8 rfl
    clear g1 lX HFX
    by_cases h100 : nm.length ≤ 100
    · have h1i : ¬ (100 : Int) < ((bs nm).size : Int) := by rw [bs_size]; omega
      clear h100
      have HCK := Lib.hid (check_any f _ l w1 HFit.out (HX.out w1 G1.out).2 (by have := HQX.out.2; omega))
      go_wp2_with fail
      refine HCK.out.mono ?_
      rintro e w2 ⟨rfl, g2⟩
      have G2 := Lib.hid (G1.out.trans g2)
      clear g2 cX cX8 HCK
      by_cases hok : okR f l = true
      · have HOK := Lib.hid hok
        have hck : chkS f l = 0 := by unfold chkS; rw [if_pos hok]
        rw [hck]
        clear hck hok
        have HNM := Lib.hid (name_any nm w2)
        go_wp2_with fail
        refine HNM.out.mono ?_
        rintro e w3 ⟨rfl, g3⟩
        have G3 := Lib.hid (G2.out.trans g3)
        clear g3 HNM
        by_cases hnm : chk nm = 0
        · have HCN := Lib.hid hnm
          rw [decide_eq_true hnm]
          clear hnm
          obtain ⟨L, hL⟩ : ∃ L, seenA cfR nm (sameR false) isDir l = L := ⟨_, rfl⟩
          have HAF := allF HOK.out HCN.out
          rw [hL] at HAF
          have HAF := Lib.hid HAF
          have hLn : L.length ≤ 2000 := by
            rw [← hL]
            exact seenA_len cfR nm (sameR false) isDir l HQX.out.1 HQX.out.2
          have HAT := Lib.hid (at14_v f nm _ l false w3 (HVS.out w3 G3.out).toVarT (HX.out w3 G3.out).2 HQX.out.1 HQX.out.2 L hL)
          have lX := load_reg (HX.out w3 G3.out).1
          clear hL
          go_wp2_with (first | ((with_reducible refine wpl_load rfl _ rfl ?_ lX ?_); (focus rfl)) | fail)
          refine HAT.out.mono ?_
          rintro e w4 ⟨u, rfl, hU, g4⟩
          have G4 := Lib.hid (G3.out.trans g4)
          have HU := Lib.hid hU
          obtain ⟨au, cu, rfl⟩ := hU.slice
          clear g4 hU HAT lX
          have HX8 := Lib.hid (fun W (gW : Frm (fun _ => False) w4 W) => (HX.out W (G4.out.trans gW)).1.cell 8 rfl)
          have hl30 := H30.out
          go_wp2_with fail
          go_loopw [6] (fun i wr => ∃ k : Nat, k ≤ l.length ∧ i = .int .i64 (k : Nat) ∧ Frm (fun _ => False) w4 wr) (fun i _ => l.length - (intOf i).toNat)
          case atStart => exact ⟨0, Nat.zero_le _, rfl, Frm.refl _ _⟩
          case round =>
            obtain ⟨i, hi, rfl, gr⟩ := hrel
            have cX8 := HX8.out wr gr
            by_cases hli : i < l.length
            · have hii : (i : Int) < (l.length : Int) := by omega
              have HGR := Lib.hid gr
              obtain ⟨x, hx, hone, hv1⟩ : ∃ x, l[i] = x ∧ cntS L x.d = 1 ∧ (∀ k (hk : k < L.length), 0 < tims L[k].g.d x.d → L[k].g.s = x.s) := ⟨_, rfl, HAF.out.one i hli, fun k hk => HAF.out.val i hli k hk⟩
              have HV1 := Lib.hid hv1
              have HON := Lib.hid hone
              obtain ⟨g8, o8, c8, e8, s0, s1, s2⟩ := (HX.out wr (G4.out.trans HGR.out)).2.byte i hli
              cases e8
              rw [hx] at s0 s1 s2
              have HLI := Lib.hid hli
              clear gr hone hx hli hv1
              have HSC := Lib.hid (And.intro s0 (And.intro s1 s2))
              clear s0 s1 s2
              obtain ⟨w5, hw5⟩ : ∃ w5, w5 = wr := ⟨_, rfl⟩
              subst hw5
              go_wp2_with fail
              go_loopw [7, 8] (fun n j wq => ∃ k : Nat, k ≤ L.length ∧ j = .int .i64 (k : Nat) ∧ n = .int .i64 (cntS (L.take k) x.d : Nat) ∧ Frm (fun _ => False) w5 wq) (fun _ j _ => L.length - (intOf j).toNat)
              case atStart => exact ⟨0, Nat.zero_le _, rfl, rfl, Frm.refl _ _⟩
              case round =>
                obtain ⟨k, hk, rfl, rfl, gq⟩ := hrel
                have hsm := cntS_take L k x.d
                rw [HON.out] at hsm
                by_cases hlk : k < L.length
                · have hkk : (k : Int) < (L.length : Int) := by omega
                  have hsu := cntS_succ hlk x.d
                  have hct := cntS_take L (k + 1) x.d
                  rw [HON.out] at hct
                  have hva := HV1.out k hlk
                  obtain ⟨gp, op, cp, ee, _⟩ := HU.out.addr (by omega)
                  cases ee
                  obtain ⟨ad, cd, S⟩ := HU.out.at k hlk
                  obtain ⟨y, hy⟩ : ∃ y, L[k] = y := ⟨_, rfl⟩
                  rw [hy] at hsu hva S
                  obtain ⟨t, ht⟩ : ∃ t, tims y.g.d x.d = t := ⟨_, rfl⟩
                  rw [ht] at hsu hva
                  obtain ⟨b, hb⟩ : ∃ b, cntS (L.take k) x.d = b := ⟨_, rfl⟩
                  rw [hb] at hsu hsm ⊢
                  rw [hsu] at hct
                  have HSU := Lib.hid hsu
                  have HVA := Lib.hid hva
                  have HGQ := Lib.hid gq
                  have gg4 := HGR.out.trans gq
                  have c4 := gg4.cellF S.c4
                  have c3 := gg4.cellF S.c3
                  have s0 := gq.cellF HSC.out.1
                  have s1 := gq.cellF HSC.out.2.1
                  have s2 := gq.cellF HSC.out.2.2
                  have cX8 := HX8.out _ gg4
                  have HDL := Lib.hid (fun W (gW : Frm (fun _ => False) wr W) => by have := times8_any _ y.g.d x.d W (S.dl.keepF (gg4.trans gW)); rw [ht] at this; exact this)
                  have HT : ∀ w', (w'.cell? ⟨gp, op + k * 5 + 4, none⟩ = some (.slice ad y.g.d.length cd) ∧ w'.cell? ⟨N, 8, none⟩ = some (.slice (some ⟨g8, o8, none⟩) l.length c0) ∧ w'.cell? ⟨g8, o8 + i * 3, none⟩ = some (.int .u8 x.r) ∧ w'.cell? ⟨g8, o8 + i * 3 + 1, none⟩ = some (.int .u32 x.n) ∧ w'.cell? ⟨gp, op + k * 5 + 3, none⟩ = some (.string (bs y.g.s)) ∧ w'.cell? ⟨g8, o8 + i * 3 + 2, none⟩ = some (.string (bs x.s)) ∧ Frm (fun _ => False) wr w') → Calls Tryd.prog 18 #[.slice ad y.g.d.length cd, .agg #[.int .u8 x.r, .int .u32 x.n]] w' fun e w'' => e = .returned (.int .i64 (t : Int)) ∧ Frm (fun _ => False) w' w'' := fun w' hw => HDL.out w' hw.2.2.2.2.2.2
                  clear hsu hva hy gq gg4 ht hb S HDL
                  go_upto_region 11 with fail
                  refine wp_region_canon (fun w' => w'.cell? ⟨gp, op + k * 5 + 4, none⟩ = some (.slice ad y.g.d.length cd) ∧ w'.cell? ⟨N, 8, none⟩ = some (.slice (some ⟨g8, o8, none⟩) l.length c0) ∧ w'.cell? ⟨g8, o8 + i * 3, none⟩ = some (.int .u8 x.r) ∧ w'.cell? ⟨g8, o8 + i * 3 + 1, none⟩ = some (.int .u32 x.n) ∧ w'.cell? ⟨gp, op + k * 5 + 3, none⟩ = some (.string (bs y.g.s)) ∧ w'.cell? ⟨g8, o8 + i * 3 + 2, none⟩ = some (.string (bs x.s)) ∧ Frm (fun _ => False) wr w') (by kernel_rfl) rfl (by kernel_rfl) (by kernel_rfl) (⟨c4, cX8, s0, s1, c3, s2, (Frm.refl _ wr).drew⟩) ?_
                  repeat' first
                    | (refine CanonL.skip (by rfl) ?_; (try simp only [Act.put, List.setIfInBounds_toArray, List.set_cons_zero, List.set_cons_succ]))
                    | (refine CanonL.callS (by rfl) (by rfl) ?_ HT ?_ ?_; (focus (intro w; go_simp; (try (with_reducible rfl)); done)); (focus (rintro w ww hs gg; exact ⟨gg.cellF hs.1, gg.cellF hs.2.1, gg.cellF hs.2.2.1, gg.cellF hs.2.2.2.1, gg.cellF hs.2.2.2.2.1, gg.cellF hs.2.2.2.2.2.1, hs.2.2.2.2.2.2.trans gg⟩)); (try simp only [Act.put, List.setIfInBounds_toArray, List.set_cons_zero, List.set_cons_succ]))
                    | (refine CanonL.val (v := ?_) (by rfl) ?_ ?_; rotate_left 1; (focus (intro w hSw; (try dsimp only at hSw); go_simp; (try (with_reducible rfl)); done)); (try simp only [Act.put, List.setIfInBounds_toArray, List.set_cons_zero, List.set_cons_succ]))
                  refine CanonL.done ?_
                  intro w9 hS9
                  obtain ⟨c4, cX8, s0, s1, c3, s2, g9⟩ := hS9
                  have HG9 := Lib.hid (HGQ.out.trans g9)
                  clear g9 HT HGQ c4 s0 s1
                  obtain ⟨wA, hwA⟩ : ∃ wA, wA = w9 := ⟨_, rfl⟩
                  subst hwA
                  by_cases ht0 : t = 0
                  · have htz : ¬ (0 : Int) < (t : Int) := by omega
                    have hd1 : decide ((0 : Int) < (t : Int)) = false := by simpa using htz
                    have hd2 : decide (0 < t) = false := by simp; omega
                    clear ht0
                    go_upto_region 12 with fail
                    go_big_quiet (fail)
                    go_wp2_with fail
                    go_roundw
                    case rel => exact ⟨k + 1, by omega, by go_num, by rw [HSU.out]; go_num, HG9.out.drewN _⟩
                    case measure => simp [intOf]; omega
                  · have htz : (0 : Int) < (t : Int) := by omega
                    have hvs := HVA.out (by omega)
                    rw [hvs] at c3
                    have hss := same_text x.s
                    clear hvs
                    have hd1 : decide ((0 : Int) < (t : Int)) = true := by simpa using htz
                    have hd2 : decide (0 < t) = true := by simp; omega
                    clear ht0
                    go_upto_region 12 with fail
                    go_big_quiet (fail)
                    go_wp2_with fail
                    go_roundw
                    case rel => exact ⟨k + 1, by omega, by go_num, by rw [HSU.out]; go_num, HG9.out.drewN _⟩
                    case measure => simp [intOf]; omega
                · obtain rfl : k = L.length := by omega
                  rw [List.take_length, HON.out]
                  have HG9 := Lib.hid (HGR.out.trans gq)
                  clear gq
                  go_wp2_with fail
                  go_roundw
                  case rel => exact ⟨i + 1, by omega, by go_num, HG9.out⟩
                  case measure => simp [intOf]; omega
            · obtain rfl : i = l.length := by omega
              have HG := Lib.hid gr
              clear gr
              go_wp2_with fail
              clear cX8
              go_loopw [10] (fun i wq => ∃ k : Nat, k ≤ L.length ∧ i = .int .i64 (k : Nat) ∧ Frm (fun _ => False) w4 wq) (fun i _ => L.length - (intOf i).toNat)
              case atStart => exact ⟨0, Nat.zero_le _, rfl, HG.out⟩
              case round =>
                obtain ⟨i, hi, rfl, gr⟩ := hrel
                clear HG
                by_cases hli : i < L.length
                · have hii : (i : Int) < (L.length : Int) := by omega
                  have HGR := Lib.hid gr
                  have hat := HAF.out.con i hli
                  have hdi := HAF.out.dir i hli
                  have hd0 := HAF.out.dir0 i hli
                  obtain ⟨d, dr, hdd, hn0, hn1⟩ := HAF.out.hd i hli
                  have hun := HAF.out.un i hli
                  obtain ⟨gp, op, cp, ee, _⟩ := HU.out.addr (by omega)
                  cases ee
                  obtain ⟨ad, cd, S⟩ := HU.out.at i hli
                  obtain ⟨y, hy⟩ : ∃ y, L[i] = y := ⟨_, rfl⟩
                  rw [hy] at hat hdi hd0 hdd hn0 hn1 S
                  simp only [hy] at hun
                  obtain ⟨gd, od, ea, z0, z1⟩ := S.dl.load 0 (by rw [hdd]; simp)
                  subst ea
                  simp only [hdd, List.getElem_cons_zero, Nat.zero_mul, Nat.add_zero] at z0 z1
                  have HZ := Lib.hid (And.intro z0 z1)
                  have c4 := S.c4
                  obtain ⟨M1, hM1⟩ : ∃ M1, y.g.d.length = M1 := ⟨_, rfl⟩
                  have hM0 : 0 < M1 := by rw [← hM1, hdd]; simp
                  rw [hM1] at c4
                  have hNe : ((M1 : Int) == 0) = false := by rw [beq_eq_false_iff_ne]; omega
                  have hMi : (0 : Int) < (M1 : Int) := by omega
                  have HS := Lib.hid (And.intro S.c0 (And.intro S.c3 c4))
                  have c0 := gr.cellF S.c0
                  have c1 := gr.cellF S.c1
                  have c2 := gr.cellF S.c2
                  have c3 := gr.cellF S.c3
                  have c4 := gr.cellF c4
                  have hb1 : ((bs y.g.s).toList == [47]) = y.dir := by rw [dir_beq]; exact hdi.symm
                  have HUN := Lib.hid hun
                  clear hun hy S z0 z1 hM1 gr hdi hdd
                  by_cases hz : i = 0
                  · have hib : ((i : Int) == 0) = true := by rw [hz]; rfl
                    have hig : ¬ (0 : Int) < (i : Int) := by omega
                    have hig2 : decide ((0 : Int) < (i : Int)) = false := decide_eq_false hig
                    have hig3 : decide (0 < i) = false := decide_eq_false (by omega)
                    have hcn : y.con = false := by rw [hat, hz]; rfl
                    rw [hcn] at c2
                    rw [hn0 hz] at c0
                    have hss := same_text nm
                    clear hat hd0 hn0 hn1 hcn hz HUN
                    obtain ⟨q, hq⟩ : ∃ q, y.dir = q := ⟨_, rfl⟩
                    rw [hq] at hb1 c1
                    clear hq
                    go_upto_region 20 with fail
                    cases q <;> (
                      go_big_quiet (fail)
                      go_wp2_with fail
                      go_loopw [14] (fun j wq => j = .int .i64 (0 : Nat) ∧ Frm (fun _ => False) w4 wq) (fun _ _ => 0)
                      case atStart => exact ⟨rfl, HGR.out.drewN _⟩
                      case round =>
                        obtain ⟨rfl, gq⟩ := hrel
                        have HGQ := Lib.hid gq
                        clear gq
                        go_wp2_with fail
                        go_roundw
                        case rel => exact ⟨i + 1, by omega, by go_num, HGQ.out⟩
                        case measure => simp [intOf]; omega)
                  · have hib : ((i : Int) == 0) = false := by rw [beq_eq_false_iff_ne]; omega
                    have hig : (0 : Int) < (i : Int) := by omega
                    have hcn : y.con = true := by rw [hat]; exact decide_eq_true hz
                    have hdn := hd0 (by omega)
                    obtain ⟨hnn, hokd⟩ := hn1 (by omega)
                    rw [hcn] at c2
                    rw [hdn] at c1 hb1
                    rw [hnn] at c0
                    have hnx : ((bs (conf nm d.r d.n)).toList == (bs nm).toList) = false := flip_text (fun e => conf_not nm d.r d.n (by rw [e]; exact HCN.out))
                    have hle := conf_len hokd
                    have HSP := Lib.hid (fun W (gW : Frm (fun _ => False) wr W) => by have := split_any (conf nm d.r d.n) W (HVS.out W (G4.out.trans (HGR.out.trans gW))) (by omega); unfold SplitTo at this; rw [split_conf hokd] at this; unfold dotV at this; exact this)
                    have HNN := Lib.hid hnn
                    have HZI := Lib.hid hz
                    clear hat hd0 hn0 hn1 hcn hdn hnn hokd hz hle
                    go_upto_region 20 with fail
                    go_big_quiet (fail)
                    go_wp2_with fail
                    refine (HSP.out _ ((Frm.refl _ _).drewN _)).mono ?_
                    rintro e w7 ⟨rfl, g7⟩
                    have D7 : Blk (w7.alloc (.cells #[.int .u8 d.r, .int .u32 d.n] 61)) w7.heap.size 61 #[.int .u8 d.r, .int .u32 d.n] := Blk.alloc _ _ _
                    have g8 : Frm (fun _ => False) w4 (w7.alloc (.cells #[.int .u8 d.r, .int .u32 d.n] 61)) := ((HGR.out.drewN _).trans g7).alloc _
                    clear c0 c1 c2 c3 c4 hb1 hnx g7 HSP
                    go_upto_region 24 with fail
                    generalize w7.alloc (.cells #[.int .u8 d.r, .int .u32 d.n] 61) = w8 at *
                    obtain ⟨M2, hM2⟩ : ∃ M2, w7.heap.size = M2 := ⟨_, rfl⟩
                    rw [hM2] at D7 ⊢
                    clear hM2
                    have e0 := D7.cell 0 rfl
                    have e1 := D7.cell 1 rfl
                    have z0 := g8.cellF HZ.out.1
                    have z1 := g8.cellF HZ.out.2
                    have c4 := g8.cellF HS.out.2.2
                    have hq := fun W => run_eq_dotA d.r d.n W
                    have hss := same_text nm
                    have G8 := Lib.hid g8
                    clear g8 D7
                    go_big_quiet (fail)
                    go_wp2_with fail
                    clear hq e0 e1 z0 z1 c4
                    go_loopw [14] (fun j wq => ∃ k : Nat, k ≤ i ∧ j = .int .i64 (k : Nat) ∧ Frm (fun _ => False) w4 wq) (fun j _ => i - (intOf j).toNat)
                    case atStart => exact ⟨0, Nat.zero_le _, rfl, G8.out.drewN _⟩
                    case round =>
                      obtain ⟨k, hk, rfl, gq⟩ := hrel
                      by_cases hlk : k < i
                      · have hki : (k : Int) < (i : Int) := by omega
                        have hkl : (k : Int) < (L.length : Int) := by omega
                        obtain ⟨a2, c2', S2⟩ := HU.out.at k (by omega)
                        have hu := HUN.out k (by omega) hlk
                        rw [HNN.out] at hu
                        obtain ⟨x, hx⟩ : ∃ x, L[k] = x := ⟨_, rfl⟩
                        rw [hx] at hu S2
                        have c0 := gq.cellF HS.out.1
                        rw [HNN.out] at c0
                        have c3 := gq.cellF HS.out.2.1
                        have x0 := gq.cellF S2.c0
                        have x3 := gq.cellF S2.c3
                        have q1 := flip_text hu.1
                        have q2 := flip_text hu.2
                        have HGQ := Lib.hid gq
                        clear hx hu S2 gq
                        go_upto_region 29 with fail
                        go_big_quiet (fail)
                        go_wp2_with fail
                        go_roundw
                        case rel => exact ⟨k + 1, by omega, by go_num, HGQ.out.drewN _⟩
                        case measure => simp [intOf]; omega
                      · have hkn : ¬ (k : Int) < (i : Int) := by omega
                        have HGQ := Lib.hid gq
                        clear gq
                        go_wp2_with fail
                        go_roundw
                        case rel => exact ⟨i + 1, by omega, by go_num, HGQ.out⟩
                        case measure => simp [intOf]; omega
                · obtain rfl : i = L.length := by omega
                  have HGR := Lib.hid gr
                  have cX8 := HX8.out wr gr
                  clear gr
                  by_cases hl0 : l = []
                  · have hL0 := HAF.out.emp hl0
                    have hLz : ((L.length : Int) == 0) = true := by rw [hL0]; rfl
                    have hlz : ((l.length : Int) == 0) = true := by rw [hl0]; rfl
                    clear hl0 hL0
                    go_wp2_with fail
                    refine (HWK.out _ (G4.out.trans HGR.out)).mono ?_
                    rintro e w99 ⟨rfl, g99⟩
                    have G99 := Lib.hid (G0.out.trans (((G4.out.trans HGR.out)).trans g99))
                    clear g99
                    go_wp2_with fail
                    go_ret
                    exact ⟨rfl, G99.out⟩
                  · obtain ⟨l', x, hl⟩ : ∃ l' x, l = l' ++ [x] := ⟨l.dropLast, l.getLast hl0, (List.dropLast_concat_getLast hl0).symm⟩
                    have hm : l.length = l'.length + 1 := by rw [hl]; simp
                    have hxl : l[l'.length]'(by omega) = x := by subst hl; simp
                    obtain ⟨hL1, hfs⟩ := HAF.out.fst l' x hl
                    obtain ⟨g8, o8, c8, e8, s0, s1, s2⟩ := (HX.out wr (G4.out.trans HGR.out)).2.byte l'.length (by omega)
                    cases e8
                    rw [hxl] at s0 s1 s2
                    clear hxl
                    obtain ⟨gp, op, cp, ee, _⟩ := HU.out.addr hL1
                    cases ee
                    obtain ⟨ad, cd, S⟩ := HU.out.at 0 hL1
                    obtain ⟨d, dr, hdd, _, _⟩ := HAF.out.hd 0 hL1
                    obtain ⟨y, hy⟩ : ∃ y, L[0] = y := ⟨_, rfl⟩
                    rw [hy] at hfs hdd S
                    obtain ⟨gd, od, ea, z0, z1⟩ := S.dl.load 0 (by rw [hdd]; simp)
                    subst ea
                    simp only [hdd, List.getElem_cons_zero, Nat.zero_mul, Nat.add_zero] at z0 z1
                    have hM0 : 0 < y.g.d.length := by rw [hdd]; simp
                    have c1 := HGR.out.cellF S.c1
                    have c3 := HGR.out.cellF S.c3
                    have c4 := HGR.out.cellF S.c4
                    have z0 := HGR.out.cellF z0
                    have z1 := HGR.out.cellF z1
                    simp only [Nat.zero_mul, Nat.add_zero] at c1 c3 c4
                    obtain ⟨M1, hM1⟩ : ∃ M1, y.g.d.length = M1 := ⟨_, rfl⟩
                    rw [hM1] at c4 hM0
                    have hMi : (0 : Int) < (M1 : Int) := by omega
                    obtain ⟨m, hm'⟩ : ∃ m, l'.length = m := ⟨_, rfl⟩
                    rw [hm'] at hm s0 s1 s2
                    have hlz : ((l.length : Int) == 0) = false := by rw [beq_eq_false_iff_ne]; omega
                    have hLi : (0 : Int) < (L.length : Int) := by omega
                    have hlm : (l.length : Int) - 1 = (m : Int) := by omega
                    have hml : (m : Int) < (l.length : Int) := by omega
                    have hd' : y.dir = false → y.g.s = x.s ∧ d.r = x.r ∧ d.n = x.n := by
                      intro e
                      rcases hfs with h | ⟨_, h2, dr', h3⟩
                      · rw [h] at e; cases e
                      · rw [hdd] at h3
                        obtain ⟨rfl, _⟩ := List.cons.inj h3
                        exact ⟨h2, rfl, rfl⟩
                    clear hl hm hfs S hdd hy hM1 hm' hl0
                    have D7 : Blk (wr.alloc (.cells #[.int .u8 x.r, .int .u32 x.n, .string (bs x.s)] 63)) wr.heap.size 63 #[.int .u8 x.r, .int .u32 x.n, .string (bs x.s)] := Blk.alloc _ _ _
                    have g8' : Frm (fun _ => False) wr (wr.alloc (.cells #[.int .u8 x.r, .int .u32 x.n, .string (bs x.s)] 63)) := (Frm.refl _ wr).alloc _
                    go_upto_region 34 with fail
                    generalize wr.alloc (.cells #[.int .u8 x.r, .int .u32 x.n, .string (bs x.s)] 63) = w8 at *
                    obtain ⟨M2, hM2⟩ : ∃ M2, wr.heap.size = M2 := ⟨_, rfl⟩
                    rw [hM2] at D7 ⊢
                    clear hM2
                    have e0 := D7.cell 0 rfl
                    have e1 := D7.cell 1 rfl
                    have e2 := D7.cell 2 rfl
                    have c1 := g8'.cellF c1
                    have c3 := g8'.cellF c3
                    have c4 := g8'.cellF c4
                    have z0 := g8'.cellF z0
                    have z1 := g8'.cellF z1
                    have G8 := Lib.hid (G4.out.trans (HGR.out.trans g8'))
                    clear g8' D7 s0 s1 s2 cX8
                    have hq := fun W => run_eq_dotA x.r x.n W
                    have hss := same_text x.s
                    obtain ⟨q, hq2⟩ : ∃ q, y.dir = q := ⟨_, rfl⟩
                    rw [hq2] at c1 hd'
                    clear hq2
                    cases q
                    · obtain ⟨h1, h2, h3⟩ := hd' rfl
                      rw [h1] at c3
                      rw [h2] at z0
                      rw [h3] at z1
                      clear hd' h1 h2 h3
                      have HT : ∀ w', (w'.cell? ⟨gp, op + 1, none⟩ = some (.bool false) ∧ w'.cell? ⟨gp, op + 3, none⟩ = some (.string (bs x.s)) ∧ w'.cell? ⟨gp, op + 4, none⟩ = some (.slice (some ⟨gd, od, none⟩) M1 cd) ∧ w'.cell? ⟨gd, od, none⟩ = some (.int .u8 x.r) ∧ w'.cell? ⟨gd, od + 1, none⟩ = some (.int .u32 x.n) ∧ w'.cell? ⟨M2, 0, none⟩ = some (.int .u8 x.r) ∧ w'.cell? ⟨M2, 1, none⟩ = some (.int .u32 x.n) ∧ w'.cell? ⟨M2, 2, none⟩ = some (.string (bs x.s)) ∧ Frm (fun _ => False) w8 w') → Calls Tryd.prog 9 #[] w' fun e w'' => e = .returned (.bool true) ∧ Frm (fun _ => False) w' w'' := fun w' hw => HWK.out w' (G8.out.trans hw.2.2.2.2.2.2.2.2)
                      refine wp_region_canon (fun w' => w'.cell? ⟨gp, op + 1, none⟩ = some (.bool false) ∧ w'.cell? ⟨gp, op + 3, none⟩ = some (.string (bs x.s)) ∧ w'.cell? ⟨gp, op + 4, none⟩ = some (.slice (some ⟨gd, od, none⟩) M1 cd) ∧ w'.cell? ⟨gd, od, none⟩ = some (.int .u8 x.r) ∧ w'.cell? ⟨gd, od + 1, none⟩ = some (.int .u32 x.n) ∧ w'.cell? ⟨M2, 0, none⟩ = some (.int .u8 x.r) ∧ w'.cell? ⟨M2, 1, none⟩ = some (.int .u32 x.n) ∧ w'.cell? ⟨M2, 2, none⟩ = some (.string (bs x.s)) ∧ Frm (fun _ => False) w8 w') (by kernel_rfl) rfl (by kernel_rfl) (by kernel_rfl) (⟨c1, c3, c4, z0, z1, e0, e1, e2, (Frm.refl _ w8).drew⟩) ?_
                      repeat' first
                        | (refine CanonL.skip (by rfl) ?_; (try simp only [Act.put, List.setIfInBounds_toArray, List.set_cons_zero, List.set_cons_succ]))
                        | (refine CanonL.callS (by rfl) (by rfl) ?_ HT ?_ ?_; (focus (intro w; go_simp; (try (with_reducible rfl)); done)); (focus (rintro w ww hs gg; exact ⟨gg.cellF hs.1, gg.cellF hs.2.1, gg.cellF hs.2.2.1, gg.cellF hs.2.2.2.1, gg.cellF hs.2.2.2.2.1, gg.cellF hs.2.2.2.2.2.1, gg.cellF hs.2.2.2.2.2.2.1, gg.cellF hs.2.2.2.2.2.2.2.1, hs.2.2.2.2.2.2.2.2.trans gg⟩)); (try simp only [Act.put, List.setIfInBounds_toArray, List.set_cons_zero, List.set_cons_succ]))
                        | (refine CanonL.val (v := ?_) (by rfl) ?_ ?_; rotate_left 1; (focus (intro w hSw; (try dsimp only at hSw); go_simp; (try (with_reducible rfl)); done)); (try simp only [Act.put, List.setIfInBounds_toArray, List.set_cons_zero, List.set_cons_succ]))
                      refine CanonL.done ?_
                      intro w9 hS9
                      have G9 := Lib.hid (G0.out.trans (G8.out.trans hS9.2.2.2.2.2.2.2.2))
                      clear hS9
                      go_wp2_with fail
                      go_ret
                      exact ⟨rfl, G9.out⟩
                    · clear hd' hq hss
                      have HT : ∀ w', (w'.cell? ⟨gp, op + 1, none⟩ = some (.bool true) ∧ w'.cell? ⟨gp, op + 3, none⟩ = some (.string (bs y.g.s)) ∧ w'.cell? ⟨gp, op + 4, none⟩ = some (.slice (some ⟨gd, od, none⟩) M1 cd) ∧ w'.cell? ⟨gd, od, none⟩ = some (.int .u8 d.r) ∧ w'.cell? ⟨gd, od + 1, none⟩ = some (.int .u32 d.n) ∧ w'.cell? ⟨M2, 0, none⟩ = some (.int .u8 x.r) ∧ w'.cell? ⟨M2, 1, none⟩ = some (.int .u32 x.n) ∧ w'.cell? ⟨M2, 2, none⟩ = some (.string (bs x.s)) ∧ Frm (fun _ => False) w8 w') → Calls Tryd.prog 9 #[] w' fun e w'' => e = .returned (.bool true) ∧ Frm (fun _ => False) w' w'' := fun w' hw => HWK.out w' (G8.out.trans hw.2.2.2.2.2.2.2.2)
                      refine wp_region_canon (fun w' => w'.cell? ⟨gp, op + 1, none⟩ = some (.bool true) ∧ w'.cell? ⟨gp, op + 3, none⟩ = some (.string (bs y.g.s)) ∧ w'.cell? ⟨gp, op + 4, none⟩ = some (.slice (some ⟨gd, od, none⟩) M1 cd) ∧ w'.cell? ⟨gd, od, none⟩ = some (.int .u8 d.r) ∧ w'.cell? ⟨gd, od + 1, none⟩ = some (.int .u32 d.n) ∧ w'.cell? ⟨M2, 0, none⟩ = some (.int .u8 x.r) ∧ w'.cell? ⟨M2, 1, none⟩ = some (.int .u32 x.n) ∧ w'.cell? ⟨M2, 2, none⟩ = some (.string (bs x.s)) ∧ Frm (fun _ => False) w8 w') (by kernel_rfl) rfl (by kernel_rfl) (by kernel_rfl) (⟨c1, c3, c4, z0, z1, e0, e1, e2, (Frm.refl _ w8).drew⟩) ?_
                      repeat' first
                        | (refine CanonL.skip (by rfl) ?_; (try simp only [Act.put, List.setIfInBounds_toArray, List.set_cons_zero, List.set_cons_succ]))
                        | (refine CanonL.callS (by rfl) (by rfl) ?_ HT ?_ ?_; (focus (intro w; go_simp; (try (with_reducible rfl)); done)); (focus (rintro w ww hs gg; exact ⟨gg.cellF hs.1, gg.cellF hs.2.1, gg.cellF hs.2.2.1, gg.cellF hs.2.2.2.1, gg.cellF hs.2.2.2.2.1, gg.cellF hs.2.2.2.2.2.1, gg.cellF hs.2.2.2.2.2.2.1, gg.cellF hs.2.2.2.2.2.2.2.1, hs.2.2.2.2.2.2.2.2.trans gg⟩)); (try simp only [Act.put, List.setIfInBounds_toArray, List.set_cons_zero, List.set_cons_succ]))
                        | (refine CanonL.val (v := ?_) (by rfl) ?_ ?_; rotate_left 1; (focus (intro w hSw; (try dsimp only at hSw); go_simp; (try (with_reducible rfl)); done)); (try simp only [Act.put, List.setIfInBounds_toArray, List.set_cons_zero, List.set_cons_succ]))
                      refine CanonL.done ?_
                      intro w9 hS9
                      have G9 := Lib.hid (G0.out.trans (G8.out.trans hS9.2.2.2.2.2.2.2.2))
                      clear hS9
                      go_wp2_with fail
                      go_ret
                      exact ⟨rfl, G9.out⟩
        · rw [decide_eq_false hnm]
          clear hnm
          go_wp2_with fail
          refine (HWK.out _ G3.out).mono ?_
          rintro e w99 ⟨rfl, g99⟩
          have G99 := Lib.hid (G0.out.trans ((G3.out).trans g99))
          clear g99
          go_wp2_with fail
          go_ret
          exact ⟨rfl, G99.out⟩
      · have hck : chkS f l = 4 := by unfold chkS; rw [if_neg hok]
        rw [hck]
        clear hck hok
        go_wp2_with fail
        refine (HWK.out _ G2.out).mono ?_
        rintro e w99 ⟨rfl, g99⟩
        have G99 := Lib.hid (G0.out.trans ((G2.out).trans g99))
        clear g99
        go_wp2_with fail
        go_ret
        exact ⟨rfl, G99.out⟩
    · have h1i : (100 : Int) < ((bs nm).size : Int) := by rw [bs_size]; omega
      clear h100
      go_wp2_with fail
      refine (HWK.out _ G1.out).mono ?_
      rintro e w99 ⟨rfl, g99⟩
      have G99 := Lib.hid (G0.out.trans ((G1.out).trans g99))
      clear g99
      go_wp2_with fail
      go_ret
      exact ⟨rfl, G99.out⟩
  · have HFX := Lib.hid (few8_no f _ l wb (HX.out wb (Frm.refl _ _)).2 hfx)
    clear hfx
    go_wp2_with (first | ((with_reducible refine wpl_load rfl _ rfl ?_ lX ?_); (focus rfl)) | fail)
    refine HFX.out.mono ?_
    rintro e w1 ⟨rfl, g1⟩
    have G1 := Lib.hid g1
    clear g1 lX HFX
    go_wp2_with fail
    refine (HWK.out _ G1.out).mono ?_
    rintro e w99 ⟨rfl, g99⟩
    have G99 := Lib.hid (G0.out.trans ((G1.out).trans g99))
    clear g99
    go_wp2_with fail
    go_ret
    exact ⟨rfl, G99.out⟩
end Go.Proofs.YtiokabhidjafeaaDoor

