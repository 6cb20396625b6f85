/- RegionOnce: no block beside the region is touched; a log block that was written is not written again; a group that is told ErrFull writes nothing. No condition. -/
import Derived.Test.YtfbaleomhghjeaaGreatRgAct
namespace Go.Proofs.YtfbaleomhghjeaaGreat
open Go.RowKit Go.Shelf

theorem zs13_any (n : Nat) (hn : n ≤ 4000) (w : World) : Calls Tryz.prog 25 #[.string ⟨#[0]⟩, .int .i64 (n : Nat)] w fun e w' => e = .returned (.string (bs (List.replicate n 0))) ∧ Frm (fun _ => False) w w' :=
  (Tryz.strings_Repeat ⟨#[0]⟩ n w (by omega) (by show 1 * _ ≤ _; omega)).mono fun e w' ⟨h1, h2⟩ => ⟨by rw [h1, ← repeatL_on]; rfl, (Frm.ofBelow h2).mono fun k hk h => by omega⟩
set_option maxRecDepth 100000 in
set_option maxHeartbeats 64000000 in
theorem regionOnce_any (v : Value) (A : List A5) (w : World) (hA : A5L w v A) :
    Calls Tryz.prog 7 #[v] w fun e w' => e = .returned (.bool true) ∧ Frm (fun _ => False) w w' := by
  have HF := few13_any v A w hA
  have HWK := Lib.hid (fun W => awake13_any W)
  obtain ⟨a, cap, rfl, hc1, hc2⟩ := hA.slice
  unfold maxLen at hc2
  cases hfew : few5 A with
  | false =>
    rw [hfew] at HF
    have HF := Lib.hid HF
    clear hfew hA
    go_enter Tryz.func7, Tryz.ntmps7
    go_wp2_with fail
    refine HF.out.mono ?_
    rintro e w1 ⟨rfl, rfl⟩
    go_wp2_with fail
    refine (HWK.out _).mono ?_
    rintro e w1 ⟨rfl, g1⟩
    go_wp2_with fail
    go_ret
    exact ⟨rfl, g1⟩
  | true =>
    obtain ⟨hl50, hls⟩ := few5_ok hfew
    rw [hfew] at HF
    have HF := Lib.hid HF
    have HA := Lib.hid hA
    have HN := Lib.hid (new256 w)
    have hdn := dev_neqn13
    have hre := rg_eqn
    clear hfew hA
    go_enter Tryz.func7, Tryz.ntmps7
    go_wp2_with fail
    refine HF.out.mono ?_
    rintro e w1 ⟨rfl, rfl⟩
    go_wp2_with fail
    refine HN.out.mono ?_
    rintro e w1 ⟨_, rfl, b, f, x, rfl, hd, hb, hf, hx, g1⟩
    have HO1 := Lib.hid (And.intro hb (And.intro hf hx))
    have HD1 := Lib.hid (And.intro hd g1)
    clear hd hb hf hx g1 HN HF
    go_wp2_with fail
    go_loopw [4] (fun i wr => ∃ (k : Nat) (D : DV), k ≤ 256 ∧ i = .int .i64 (k : Nat) ∧ DevM wr b f x D ∧ D.n = 256 ∧ (∀ q, q < k → D.read q = fullB) ∧ Frm (fun _ => False) w wr) (fun i _ => 256 - (intOf i).toNat)
    case atStart => exact ⟨0, _, by omega, rfl, HD1.out.1, rfl, (fun q hq => by omega), HD1.out.2⟩
    case round =>
      obtain ⟨k, D, hk, rfl, hD, hn, hrd, gr⟩ := hrel
      by_cases hlt : k < 256
      · have hki : (k : Int) < 256 := by omega
        have HW := Lib.hid (write_any b f x D (k : Int) [97, 104, 101, 97, 100] wr hD (by unfold Z64; omega) (by decide))
        have hbs : (⟨#[97, 104, 101, 97, 100]⟩ : ByteArray) = bs [97, 104, 101, 97, 100] := rfl
        have HS := Lib.hid (And.intro hn (And.intro hrd gr))
        clear hD hn hrd gr
        go_wp2_with fail
        refine HW.out.mono ?_
        rintro e W ⟨rfl, hW, gW⟩
        have H5 := Lib.hid (And.intro hW (HS.out.2.2.toNew gW HO1.out.2.2))
        clear hW gW HW
        go_wp2_with fail
        go_roundw
        case rel =>
          refine ⟨k + 1, _, by omega, by go_num, H5.out.1, (writeTo_n D _ _).trans HS.out.1, fun q hq => ?_, H5.out.2⟩
          rw [write_read D k _ (by rw [HS.out.1]; exact hlt) (by decide)]
          split
          · rfl
          · exact HS.out.2.1 q (by omega)
        case measure => simp [intOf]; omega
      · obtain rfl : k = 256 := by omega
        have hok : D.ok := hD.ok
        have hu0 : Uc (LV.new D (-1) []) := ⟨rfl, by show (-1 : Int) < 0; decide⟩
        obtain ⟨L1, f1, s1, u1, a1, c1, _, n1, r1⟩ := fmtR_64 hu0 hok hn
        have HM := Lib.hid (And.intro f1 (And.intro s1 (And.intro u1 (And.intro n1 (And.intro (show L1.acts = 65 from a1) (And.intro (show L1.cs = [] from c1) (show ∀ q, q < 64 ∨ 127 < q → q < 256 → L1.D.read q = fullB from fun q h1 h2 => by rw [r1 q, if_neg (by omega)]; exact hrd q h2)))))))
        have HL := Lib.hid (lnew_any b f x D (-1) _ [] wr hD (by unfold Z64; decide) (nil_zs (w := wr)) (fun _ h => by cases h) (show 0 ≤ 1000000 by decide))
        have G0 := Lib.hid gr
        clear hok hu0 f1 s1 u1 a1 c1 n1 r1 hD hn hrd gr
        go_wp2_with fail
        refine HL.out.mono ?_
        rintro e w2 ⟨_, rfl, l, rfl, hl, hlo, g2⟩
        have HF := format_any l b f x _ 64 64 w2 hl (by show 0 ≤ 900000; decide) (by unfold Z64; decide) (by unfold Z64; decide) (.inl rfl)
        unfold FmtTo at HF
        rw [HM.out.1] at HF
        have HF := Lib.hid HF
        have G2 := Lib.hid (And.intro (show w.heap.size ≤ l from Nat.le_trans G0.out.size hlo) (G0.out.trans g2))
        clear hl hlo g2 HL
        go_wp2_with fail
        refine HF.out.mono ?_
        rintro e w3 ⟨v, rfl, hl3, g3, hz, _⟩
        obtain ⟨g, rfl, hg, hR⟩ := hz trivial
        have hR : RgM w3 g l b f x ⟨64, 64, 0, false⟩ L1 := hR
        have HO := Lib.hid (show w.heap.size ≤ g ∧ w.heap.size ≤ l ∧ w.heap.size ≤ f ∧ w.heap.size ≤ x from ⟨Nat.le_trans G2.out.2.size hg, G2.out.1, HO1.out.2.1, HO1.out.2.2⟩)
        have HR3 := Lib.hid (And.intro hR (G2.out.2.toNewX g3 ⟨G2.out.1, HO1.out.2.1, HO1.out.2.2⟩))
        have HZ := Lib.hid (fun W => zs13_any 64 (by decide) W)
        have HZ2 := Lib.hid (fun W => zs13_any 59 (by decide) W)
        rw [show (List.replicate 64 (0 : UInt8)) = zb from rfl] at HZ
        clear hl3 g3 hz hg hR HF
        go_wp2_with fail
        refine (HZ.out _).mono ?_
        rintro e w4 ⟨rfl, g4⟩
        obtain ⟨rz, hrz⟩ : ∃ rz, List.replicate 59 (0 : UInt8) = rz := ⟨_, rfl⟩
        rw [hrz] at HZ2
        have hns : ¬ 9223372036854775807 < 5 + (bs rz).size := by rw [bs_size, ← hrz, List.length_replicate]; decide
        have hfull : (⟨#[97, 104, 101, 97, 100]⟩ : ByteArray) ++ bs rz = bs fullB := by rw [← hrz]; decide +kernel
        have HR4 := Lib.hid (And.intro (HR3.out.1.keepF g4) (HR3.out.2.trans g4))
        clear hrz g4 HR3 HZ
        go_wp2_with fail
        refine (HZ2.out _).mono ?_
        rintro e w5 ⟨rfl, g5⟩
        have HR5 := Lib.hid (And.intro (HR4.out.1.keepF g5) (HR4.out.2.trans g5))
        clear g5 HR4 HZ2
        go_wp2_with fail
        go_loopw [10] (fun i wr => ∃ (j : Nat) (R : RV) (L : LV), j ≤ A.length ∧ i = .int .i64 (j : Nat) ∧ RgM wr g l b f x R L ∧ (∃ gs fc gen, StR R L gs fc gen) ∧ Uc L ∧ L.D.n = 256 ∧ L.acts ≤ 65 + 65 * j ∧ L.cs = [] ∧ (R.at_ = 64 ∧ R.n = 64) ∧ (∀ q, q < 64 ∨ 127 < q → q < 256 → L.D.read q = fullB) ∧ Frm (fun _ => False) w wr) (fun i _ => A.length - (intOf i).toNat)
        case atStart => exact ⟨0, _, _, Nat.zero_le _, rfl, HR5.out.1, ⟨_, _, _, HM.out.2.1⟩, HM.out.2.2.1, HM.out.2.2.2.1, by rw [HM.out.2.2.2.2.1]; exact Nat.le_refl _, HM.out.2.2.2.2.2.1, ⟨rfl, rfl⟩, HM.out.2.2.2.2.2.2, HR5.out.2⟩
        case round =>
          obtain ⟨j, R, L, hj, rfl, hR, hSt, hu, hn, hac, hcs, hat, hful, gr⟩ := hrel
          by_cases hlt : j < A.length
          · have hji : (j : Int) < (A.length : Int) := by omega
            obtain ⟨gs, fc, gen, hSt⟩ := hSt
            obtain ⟨p, off, rfl, hp, c0, c1, c2, _⟩ := (HA.out.keepF gr).elem j hlt
            have hys := hls j hlt
            have hyg := A[j].hg
            have hyk := A[j].hk
            obtain ⟨y, hy⟩ : ∃ y, A[j] = y := ⟨_, rfl⟩
            rw [hy] at c0 c1 c2 hys hyg hyk
            have HC := Lib.hid (copy_any b f x L.D wr hR.ln.dev)
            have hSt := Lib.hid hSt
            have hu := Lib.hid hu
            have hat := Lib.hid hat
            have HS := Lib.hid (And.intro trivial (And.intro trivial (And.intro hn (And.intro hac (And.intro hcs (And.intro trivial (And.intro hful trivial)))))))
            have HRr := Lib.hid (And.intro hR gr)
            have HP := Lib.hid (And.intro hp (And.intro c0 (And.intro c1 c2)))
            clear hR hn hac hcs hful gr hy hp c0 c1 c2
            go_wp2_with fail
            refine HC.out.mono ?_
            rintro e w3 ⟨_, rfl, b2, f2, x2, rfl, hd2, hb2, hf2, hx2, g3⟩
            have hlt5 := HRr.out.1.lt
            have HNX := Lib.hid (show ¬ RgX g l f x b2 ∧ ¬ RgX g l f x f2 ∧ ¬ RgX g l f x x2 by unfold RgX LnX; omega)
            have HR3 := Lib.hid (And.intro (HRr.out.1.keepF g3) (And.intro hd2 (HRr.out.2.trans g3)))
            have HP3 := Lib.hid g3
            clear hd2 hb2 hf2 hx2 g3 hlt5 HC
            have HLF := Lib.hid (rleft_any g l b f x R L w3 HR3.out.1)
            go_wp2_with fail
            refine HLF.out.mono ?_
            rintro e w4 ⟨rfl, g4⟩
            have HR4 := Lib.hid (HR3.out.1.keepF g4)
            have HD4 := Lib.hid (HR3.out.2.1.keepF g4)
            have G4 := Lib.hid (HR3.out.2.2.trans g4)
            have gc := HP3.out.trans g4
            obtain ⟨c0, c1, c2⟩ := HP.out.2
            have c0 := (World.cell?_of_block (a := ⟨p, off + j * 5, none⟩) (gc.block p HP.out.1 (fun h => h))).trans c0
            have c1 := (World.cell?_of_block (a := ⟨p, off + j * 5 + 1, none⟩) (gc.block p HP.out.1 (fun h => h))).trans c1
            have c2 := (World.cell?_of_block (a := ⟨p, off + j * 5 + 2, none⟩) (gc.block p HP.out.1 (fun h => h))).trans c2
            clear g4 HR3 HRr HLF gc HP HP3
            obtain ⟨m, hmm⟩ : ∃ m, y.k % 6 = m := ⟨_, rfl⟩
            have hm6 : m < 6 := by omega
            have t1 : (y.k : Int) % 6 = (m : Int) := by omega
            have t1' : (y.k : Int).tmod 6 = (m : Int) := by rw [Int.tmod_eq_emod_of_nonneg (by omega)]; exact t1
            have t3 : IntKind.u8.wrap (m : Int) = (m : Int) := IntWalk.u8_in _ (by omega)
            clear hmm
            go_upto_block 4 with fail
            go_cut [13] from 51 to 158 (fun s13 wx => ∃ (R' : RV) (L' : LV) (ec : Nat), StepR R L R' L' ec ∧ (ec = 0 ∧ s13 = .int .i64 0 ∨ ec = 7 ∧ s13 = .int .i64 7 ∨ ec = 2 ∧ s13 = .int .i64 2) ∧ RgM wx g l b f x R' L' ∧ DevM wx b2 f2 x2 L.D ∧ Frm (fun _ => False) w wx)
            case first =>
              by_cases e1 : m = 0 ∨ m = 3 ∨ m = 4
              · rcases e1 with rfl | rfl | rfl
                · have hq := rappend_any g l b f x R L y.s w4 HR4.out (by have := HS.out.2.2.2.1; omega) (by omega) (.inl (by rw [HS.out.2.2.2.2.1]; rfl))
                  obtain ⟨R', L', ec, hap, hst, hec⟩ := step_ap hSt.out hu.out hat.out.1 hat.out.2 y.s
                  rw [hap] at hq
                  unfold RgTo at hq
                  have HQ := Lib.hid hq
                  have HST := Lib.hid hst
                  clear hq hap hst
                  go_wp2_with fail
                  refine HQ.out.mono ?_
                  rintro e w5 ⟨rfl, h5, g5⟩
                  have G5 := Lib.hid (G4.out.toNewR g5 HO.out)
                  have HD2 := Lib.hid (HD4.out.keep g5 HNX.out.1 HNX.out.2.1 HNX.out.2.2)
                  have HR2 := Lib.hid (show RgM w5 g l b f x R' L' from h5)
                  clear h5 g5 HQ
                  go_wp2_with fail
                  go_meet
                  exact ⟨R', L', _, HST.out, by rcases hec with rfl | rfl <;> simp, HR2.out, HD2.out, G5.out⟩
                · have hq := rappend_any g l b f x R L y.s w4 HR4.out (by have := HS.out.2.2.2.1; omega) (by omega) (.inl (by rw [HS.out.2.2.2.2.1]; rfl))
                  obtain ⟨R', L', ec, hap, hst, hec⟩ := step_ap hSt.out hu.out hat.out.1 hat.out.2 y.s
                  rw [hap] at hq
                  unfold RgTo at hq
                  have HQ := Lib.hid hq
                  have HST := Lib.hid hst
                  clear hq hap hst
                  go_wp2_with fail
                  refine HQ.out.mono ?_
                  rintro e w5 ⟨rfl, h5, g5⟩
                  have G5 := Lib.hid (G4.out.toNewR g5 HO.out)
                  have HD2 := Lib.hid (HD4.out.keep g5 HNX.out.1 HNX.out.2.1 HNX.out.2.2)
                  have HR2 := Lib.hid (show RgM w5 g l b f x R' L' from h5)
                  clear h5 g5 HQ
                  go_wp2_with fail
                  go_meet
                  exact ⟨R', L', _, HST.out, by rcases hec with rfl | rfl <;> simp, HR2.out, HD2.out, G5.out⟩
                · have hq := rappend_any g l b f x R L y.s w4 HR4.out (by have := HS.out.2.2.2.1; omega) (by omega) (.inl (by rw [HS.out.2.2.2.2.1]; rfl))
                  obtain ⟨R', L', ec, hap, hst, hec⟩ := step_ap hSt.out hu.out hat.out.1 hat.out.2 y.s
                  rw [hap] at hq
                  unfold RgTo at hq
                  have HQ := Lib.hid hq
                  have HST := Lib.hid hst
                  clear hq hap hst
                  go_wp2_with fail
                  refine HQ.out.mono ?_
                  rintro e w5 ⟨rfl, h5, g5⟩
                  have G5 := Lib.hid (G4.out.toNewR g5 HO.out)
                  have HD2 := Lib.hid (HD4.out.keep g5 HNX.out.1 HNX.out.2.1 HNX.out.2.2)
                  have HR2 := Lib.hid (show RgM w5 g l b f x R' L' from h5)
                  clear h5 g5 HQ
                  go_wp2_with fail
                  go_meet
                  exact ⟨R', L', _, HST.out, by rcases hec with rfl | rfl <;> simp, HR2.out, HD2.out, G5.out⟩
              · by_cases e2 : m = 1
                · subst e2
                  have hq := rflush13_any g l b f x R L w4 HR4.out (by have := HS.out.2.2.2.1; omega)
                  obtain ⟨R', L', hap, hst⟩ := step_fl hSt.out hu.out hat.out.1 hat.out.2
                  rw [hap] at hq
                  unfold RgTo at hq
                  have HQ := Lib.hid hq
                  have HST := Lib.hid hst
                  clear hq hap hst
                  go_wp2_with fail
                  refine HQ.out.mono ?_
                  rintro e w5 ⟨rfl, h5, g5⟩
                  have G5 := Lib.hid (G4.out.toNewR g5 HO.out)
                  have HD2 := Lib.hid (HD4.out.keep g5 HNX.out.1 HNX.out.2.1 HNX.out.2.2)
                  have HR2 := Lib.hid (show RgM w5 g l b f x R' L' from h5)
                  clear h5 g5 HQ
                  go_wp2_with fail
                  go_meet
                  exact ⟨R', L', _, HST.out, .inl ⟨rfl, rfl⟩, HR2.out, HD2.out, G5.out⟩
                · have n0 : ((m : Int) == 0) = false := by rw [beq_eq_false_iff_ne]; omega
                  have n3 : ((m : Int) == 3) = false := by rw [beq_eq_false_iff_ne]; omega
                  have n4 : ((m : Int) == 4) = false := by rw [beq_eq_false_iff_ne]; omega
                  have n1 : ((m : Int) == 1) = false := by rw [beq_eq_false_iff_ne]; omega
                  have hq := rseal_any g l b f x y.g R L w4 HR4.out (by have := HS.out.2.2.2.1; omega) hyg
                  obtain ⟨R', L', ec, hap, hst, hec⟩ := step_sl hSt.out hu.out hat.out.1 hat.out.2 y.g hyg
                  rw [hap] at hq
                  unfold RgTo at hq
                  have HQ := Lib.hid hq
                  have HST := Lib.hid hst
                  clear hq hap hst
                  go_wp2_with fail
                  refine HQ.out.mono ?_
                  rintro e w5 ⟨rfl, h5, g5⟩
                  have G5 := Lib.hid (G4.out.toNewR g5 HO.out)
                  have HD2 := Lib.hid (HD4.out.keep g5 HNX.out.1 HNX.out.2.1 HNX.out.2.2)
                  have HR2 := Lib.hid (show RgM w5 g l b f x R' L' from h5)
                  clear h5 g5 HQ
                  go_wp2_with fail
                  go_meet
                  exact ⟨R', L', _, HST.out, by rcases hec with rfl | rfl <;> simp, HR2.out, HD2.out, G5.out⟩
            case rest =>
              obtain ⟨R', L', ec, hst, hec, hR2, hD2, hg5⟩ := hcut
              have HST := Lib.hid hst
              have HR2 := Lib.hid hR2
              have HD2 := Lib.hid hD2
              have G5 := Lib.hid hg5
              obtain ⟨w5, hw5⟩ : ∃ w5, wc = w5 := ⟨_, rfl⟩
              rw [hw5] at HR2 HD2 G5 ⊢
              clear hst hR2 hD2 hg5 hw5 c0 c1 c2 t1 t1' t3 HD4 HR4 G4
              rcases hec with ⟨rfl, rfl⟩ | ⟨rfl, rfl⟩ | ⟨rfl, rfl⟩
              · obtain ⟨w6, hw6⟩ : ∃ w6, w5 = w6 := ⟨_, rfl⟩
                rw [hw6] at G5 HD2 HR2 ⊢
                clear hw6
                go_wp2_with fail
                go_loopw [14] (fun i wq => ∃ k : Nat, k ≤ 256 ∧ i = .int .i64 (k : Nat) ∧ Frm (fun _ => False) w6 wq) (fun i _ => 256 - (intOf i).toNat)
                case atStart => exact ⟨0, by omega, rfl, Frm.refl _ _⟩
                case round =>
                  obtain ⟨k, hk, rfl, gq⟩ := hrel
                  by_cases hlt : k < 256
                  · have hki : (k : Int) < 256 := by omega
                    have hA : Calls Tryz.prog 28 #[.pointer (some ⟨b2, 0, none⟩), .int .i64 (k : Nat)] wr fun e w' => e = .returned (.tuple #[.string (bs (L.D.read k)), .int .i64 0]) ∧ Frm (fun _ => False) wr w' := by
                      have := read_any b2 f2 x2 L.D k wr (HD2.out.keepF gq) (by unfold Z64; omega)
                      rw [show L.D.bad (k : Int) = false by unfold DV.bad; rw [decide_eq_false]; rw [HS.out.2.2.1]; omega] at this
                      exact this
                    have hB : ∀ W, Frm (fun _ => False) wr W → Calls Tryz.prog 28 #[.pointer (some ⟨b, 0, none⟩), .int .i64 (k : Nat)] W fun e w' => e = .returned (.tuple #[.string (bs (L'.D.read k)), .int .i64 0]) ∧ Frm (fun _ => False) W w' := fun W g => by
                      have := read_any b f x L'.D k W (HR2.out.ln.dev.keepF (gq.trans g)) (by unfold Z64; omega)
                      rw [show L'.D.bad (k : Int) = false by unfold DV.bad; rw [decide_eq_false]; rw [HST.out.dn, HS.out.2.2.1]; omega] at this
                      exact this
                    have f1 : (k < 64 ∨ 127 < k) → L'.D.read k = fullB := fun h => by rw [HST.out.out k h]; exact HS.out.2.2.2.2.2.2.1 k h hlt
                    have f2 : 64 < k → k < 128 → L.D.read k = zb ∨ L'.D.read k = L.D.read k := HST.out.log k
                    skip
                    obtain ⟨S, hS⟩ : ∃ S, L.D.read k = S := ⟨_, rfl⟩
                    obtain ⟨T, hT⟩ : ∃ T, L'.D.read k = T := ⟨_, rfl⟩
                    rw [hS] at hA f2 
                    rw [hT] at hB f1 f2 
                    have HA := Lib.hid hA
                    have HB := Lib.hid hB
                    have G6 := Lib.hid gq
                    clear hA hB hS hT gq
                    have hF : ((bs fullB).toList != (bs fullB).toList) = false := by simp
                    have hZ : ((bs zb).toList != (bs zb).toList) = false := by simp
                    have hss : ((bs S).toList != (bs S).toList) = false := by simp
                    have htt : ((bs T).toList != (bs T).toList) = false := by simp
                    by_cases h1 : k < 64
                    · have h1i : (k : Int) < 64 := by omega
                      have h2i : ¬ (64 : Int) < (k : Int) := by omega
                      obtain rfl := f1 (.inl h1)
                      skip
                      go_wp2_with fail
                      refine HA.out.mono ?_
                      rintro e wa ⟨rfl, ga⟩
                      have HA2 := Lib.hid (HB.out wa ga)
                      have GA := Lib.hid (G6.out.trans ga)
                      clear ga HA HB
                      go_wp2_with fail
                      refine HA2.out.mono ?_
                      rintro e wb ⟨rfl, gb⟩
                      have GB := Lib.hid (GA.out.trans gb)
                      clear gb HA2
                      go_wp2_with fail
                      go_roundw
                      case rel => exact ⟨k + 1, by omega, by go_num, GB.out⟩
                      case measure => simp [intOf]; omega
                    · have h1i : ¬ (k : Int) < 64 := by omega
                      by_cases h2 : 127 < k
                      · have h2i : (127 : Int) < (k : Int) := by omega
                        have h3i : ¬ (k : Int) < 128 := by omega
                        have h4i : (64 : Int) < (k : Int) := by omega
                        obtain rfl := f1 (.inr h2)
                        skip
                        go_wp2_with fail
                        refine HA.out.mono ?_
                        rintro e wa ⟨rfl, ga⟩
                        have HA2 := Lib.hid (HB.out wa ga)
                        have GA := Lib.hid (G6.out.trans ga)
                        clear ga HA HB
                        go_wp2_with fail
                        refine HA2.out.mono ?_
                        rintro e wb ⟨rfl, gb⟩
                        have GB := Lib.hid (GA.out.trans gb)
                        clear gb HA2
                        go_wp2_with fail
                        go_roundw
                        case rel => exact ⟨k + 1, by omega, by go_num, GB.out⟩
                        case measure => simp [intOf]; omega
                      · have h2i : ¬ (127 : Int) < (k : Int) := by omega
                        by_cases h3 : k = 64
                        · have h4i : ¬ (64 : Int) < (k : Int) := by omega
                          clear h3 f1 f2
                          skip
                          go_wp2_with fail
                          refine HA.out.mono ?_
                          rintro e wa ⟨rfl, ga⟩
                          have HA2 := Lib.hid (HB.out wa ga)
                          have GA := Lib.hid (G6.out.trans ga)
                          clear ga HA HB
                          go_wp2_with fail
                          refine HA2.out.mono ?_
                          rintro e wb ⟨rfl, gb⟩
                          have GB := Lib.hid (GA.out.trans gb)
                          clear gb HA2
                          go_wp2_with fail
                          go_roundw
                          case rel => exact ⟨k + 1, by omega, by go_num, GB.out⟩
                          case measure => simp [intOf]; omega
                        · have h3i : (k : Int) < 128 := by omega
                          have h4i : (64 : Int) < (k : Int) := by omega
                          by_cases hSz : S = zb
                          · subst hSz
                            skip
                            go_wp2_with fail
                            refine HA.out.mono ?_
                            rintro e wa ⟨rfl, ga⟩
                            have HA2 := Lib.hid (HB.out wa ga)
                            have GA := Lib.hid (G6.out.trans ga)
                            clear ga HA HB
                            go_wp2_with fail
                            refine HA2.out.mono ?_
                            rintro e wb ⟨rfl, gb⟩
                            have GB := Lib.hid (GA.out.trans gb)
                            clear gb HA2
                            go_wp2_with fail
                            go_roundw
                            case rel => exact ⟨k + 1, by omega, by go_num, GB.out⟩
                            case measure => simp [intOf]; omega
                          · have hSz : ((bs S).toList != (bs zb).toList) = true := by
                              rw [bs_toList, bs_toList, bne_iff_ne]; exact hSz
                            obtain rfl : T = S := (f2 (by omega) (by omega)).resolve_left (fun h => by rw [h] at hSz; simp at hSz)
                            go_wp2_with fail
                            refine HA.out.mono ?_
                            rintro e wa ⟨rfl, ga⟩
                            have HA2 := Lib.hid (HB.out wa ga)
                            have GA := Lib.hid (G6.out.trans ga)
                            clear ga HA HB
                            go_wp2_with fail
                            refine HA2.out.mono ?_
                            rintro e wb ⟨rfl, gb⟩
                            have GB := Lib.hid (GA.out.trans gb)
                            clear gb HA2
                            go_wp2_with fail
                            all_goals exact ⟨⟨k + 1, by omega, by go_num, GB.out⟩, by simp [intOf]; omega⟩
                  · obtain rfl : k = 256 := by omega
                    have G6 := Lib.hid gq
                    clear gq
                    go_wp2_with fail
                    go_roundw
                    case rel => exact ⟨j + 1, R', L', by omega, by go_num, HR2.out.keepF G6.out, HST.out.st, HST.out.uc, HST.out.dn.trans HS.out.2.2.1, by have := HST.out.acts; have := HS.out.2.2.2.1; omega, HST.out.cs.trans HS.out.2.2.2.2.1, ⟨HST.out.at_, HST.out.n⟩, (fun k h hl => by rw [HST.out.out k h]; exact HS.out.2.2.2.2.2.2.1 k h hl), G5.out.trans G6.out⟩
                    case measure => simp [intOf]; omega
              · have hee : (7 : Nat) ≠ 0 := by decide
                have HLF := Lib.hid (rleft_any g l b f x R' L' w5 HR2.out)
                rw [(HST.out.err hee).2.1] at HLF
                go_wp2_with fail
                refine HLF.out.mono ?_
                rintro e w6 ⟨rfl, g6⟩
                have G5 := Lib.hid (G5.out.trans g6)
                have HD2 := Lib.hid (HD2.out.keepF g6)
                have HR2 := Lib.hid (HR2.out.keepF g6)
                clear g6 HLF
                go_wp2_with fail
                go_loopw [14] (fun i wq => ∃ k : Nat, k ≤ 256 ∧ i = .int .i64 (k : Nat) ∧ Frm (fun _ => False) w6 wq) (fun i _ => 256 - (intOf i).toNat)
                case atStart => exact ⟨0, by omega, rfl, Frm.refl _ _⟩
                case round =>
                  obtain ⟨k, hk, rfl, gq⟩ := hrel
                  by_cases hlt : k < 256
                  · have hki : (k : Int) < 256 := by omega
                    have hA : Calls Tryz.prog 28 #[.pointer (some ⟨b2, 0, none⟩), .int .i64 (k : Nat)] wr fun e w' => e = .returned (.tuple #[.string (bs (L.D.read k)), .int .i64 0]) ∧ Frm (fun _ => False) wr w' := by
                      have := read_any b2 f2 x2 L.D k wr (HD2.out.keepF gq) (by unfold Z64; omega)
                      rw [show L.D.bad (k : Int) = false by unfold DV.bad; rw [decide_eq_false]; rw [HS.out.2.2.1]; omega] at this
                      exact this
                    have hB : ∀ W, Frm (fun _ => False) wr W → Calls Tryz.prog 28 #[.pointer (some ⟨b, 0, none⟩), .int .i64 (k : Nat)] W fun e w' => e = .returned (.tuple #[.string (bs (L'.D.read k)), .int .i64 0]) ∧ Frm (fun _ => False) W w' := fun W g => by
                      have := read_any b f x L'.D k W (HR2.out.ln.dev.keepF (gq.trans g)) (by unfold Z64; omega)
                      rw [show L'.D.bad (k : Int) = false by unfold DV.bad; rw [decide_eq_false]; rw [HST.out.dn, HS.out.2.2.1]; omega] at this
                      exact this
                    have f1 : (k < 64 ∨ 127 < k) → L'.D.read k = fullB := fun h => by rw [HST.out.out k h]; exact HS.out.2.2.2.2.2.2.1 k h hlt
                    have f2 : 64 < k → k < 128 → L.D.read k = zb ∨ L'.D.read k = L.D.read k := HST.out.log k
                    have f3 : L.D.read k = L'.D.read k := by rw [(HST.out.err hee).2.2]
                    obtain ⟨S, hS⟩ : ∃ S, L.D.read k = S := ⟨_, rfl⟩
                    obtain ⟨T, hT⟩ : ∃ T, L'.D.read k = T := ⟨_, rfl⟩
                    rw [hS] at hA f2 f3
                    rw [hT] at hB f1 f2 f3
                    have HA := Lib.hid hA
                    have HB := Lib.hid hB
                    have G6 := Lib.hid gq
                    clear hA hB hS hT gq
                    have hF : ((bs fullB).toList != (bs fullB).toList) = false := by simp
                    have hZ : ((bs zb).toList != (bs zb).toList) = false := by simp
                    have hss : ((bs S).toList != (bs S).toList) = false := by simp
                    have htt : ((bs T).toList != (bs T).toList) = false := by simp
                    by_cases h1 : k < 64
                    · have h1i : (k : Int) < 64 := by omega
                      have h2i : ¬ (64 : Int) < (k : Int) := by omega
                      obtain rfl := f1 (.inl h1)
                      obtain rfl := f3
                      go_wp2_with fail
                      refine HA.out.mono ?_
                      rintro e wa ⟨rfl, ga⟩
                      have HA2 := Lib.hid (HB.out wa ga)
                      have GA := Lib.hid (G6.out.trans ga)
                      clear ga HA HB
                      go_wp2_with fail
                      refine HA2.out.mono ?_
                      rintro e wb ⟨rfl, gb⟩
                      have GB := Lib.hid (GA.out.trans gb)
                      clear gb HA2
                      go_wp2_with fail
                      go_roundw
                      case rel => exact ⟨k + 1, by omega, by go_num, GB.out⟩
                      case measure => simp [intOf]; omega
                    · have h1i : ¬ (k : Int) < 64 := by omega
                      by_cases h2 : 127 < k
                      · have h2i : (127 : Int) < (k : Int) := by omega
                        have h3i : ¬ (k : Int) < 128 := by omega
                        have h4i : (64 : Int) < (k : Int) := by omega
                        obtain rfl := f1 (.inr h2)
                        obtain rfl := f3
                        go_wp2_with fail
                        refine HA.out.mono ?_
                        rintro e wa ⟨rfl, ga⟩
                        have HA2 := Lib.hid (HB.out wa ga)
                        have GA := Lib.hid (G6.out.trans ga)
                        clear ga HA HB
                        go_wp2_with fail
                        refine HA2.out.mono ?_
                        rintro e wb ⟨rfl, gb⟩
                        have GB := Lib.hid (GA.out.trans gb)
                        clear gb HA2
                        go_wp2_with fail
                        go_roundw
                        case rel => exact ⟨k + 1, by omega, by go_num, GB.out⟩
                        case measure => simp [intOf]; omega
                      · have h2i : ¬ (127 : Int) < (k : Int) := by omega
                        by_cases h3 : k = 64
                        · have h4i : ¬ (64 : Int) < (k : Int) := by omega
                          clear h3 f1 f2
                          obtain rfl := f3
                          go_wp2_with fail
                          refine HA.out.mono ?_
                          rintro e wa ⟨rfl, ga⟩
                          have HA2 := Lib.hid (HB.out wa ga)
                          have GA := Lib.hid (G6.out.trans ga)
                          clear ga HA HB
                          go_wp2_with fail
                          refine HA2.out.mono ?_
                          rintro e wb ⟨rfl, gb⟩
                          have GB := Lib.hid (GA.out.trans gb)
                          clear gb HA2
                          go_wp2_with fail
                          go_roundw
                          case rel => exact ⟨k + 1, by omega, by go_num, GB.out⟩
                          case measure => simp [intOf]; omega
                        · have h3i : (k : Int) < 128 := by omega
                          have h4i : (64 : Int) < (k : Int) := by omega
                          by_cases hSz : S = zb
                          · subst hSz
                            obtain rfl := f3
                            go_wp2_with fail
                            refine HA.out.mono ?_
                            rintro e wa ⟨rfl, ga⟩
                            have HA2 := Lib.hid (HB.out wa ga)
                            have GA := Lib.hid (G6.out.trans ga)
                            clear ga HA HB
                            go_wp2_with fail
                            refine HA2.out.mono ?_
                            rintro e wb ⟨rfl, gb⟩
                            have GB := Lib.hid (GA.out.trans gb)
                            clear gb HA2
                            go_wp2_with fail
                            go_roundw
                            case rel => exact ⟨k + 1, by omega, by go_num, GB.out⟩
                            case measure => simp [intOf]; omega
                          · have hSz : ((bs S).toList != (bs zb).toList) = true := by
                              rw [bs_toList, bs_toList, bne_iff_ne]; exact hSz
                            obtain rfl : T = S := (f2 (by omega) (by omega)).resolve_left (fun h => by rw [h] at hSz; simp at hSz)
                            go_wp2_with fail
                            refine HA.out.mono ?_
                            rintro e wa ⟨rfl, ga⟩
                            have HA2 := Lib.hid (HB.out wa ga)
                            have GA := Lib.hid (G6.out.trans ga)
                            clear ga HA HB
                            go_wp2_with fail
                            refine HA2.out.mono ?_
                            rintro e wb ⟨rfl, gb⟩
                            have GB := Lib.hid (GA.out.trans gb)
                            clear gb HA2
                            go_wp2_with fail
                            all_goals exact ⟨⟨k + 1, by omega, by go_num, GB.out⟩, by simp [intOf]; omega⟩
                  · obtain rfl : k = 256 := by omega
                    have G6 := Lib.hid gq
                    clear gq
                    go_wp2_with fail
                    go_roundw
                    case rel => exact ⟨j + 1, R', L', by omega, by go_num, HR2.out.keepF G6.out, HST.out.st, HST.out.uc, HST.out.dn.trans HS.out.2.2.1, by have := HST.out.acts; have := HS.out.2.2.2.1; omega, HST.out.cs.trans HS.out.2.2.2.2.1, ⟨HST.out.at_, HST.out.n⟩, (fun k h hl => by rw [HST.out.out k h]; exact HS.out.2.2.2.2.2.2.1 k h hl), G5.out.trans G6.out⟩
                    case measure => simp [intOf]; omega
              · have hee : (2 : Nat) ≠ 0 := by decide
                have HLF := Lib.hid (rleft_any g l b f x R' L' w5 HR2.out)
                rw [(HST.out.err hee).2.1] at HLF
                go_wp2_with fail
                refine HLF.out.mono ?_
                rintro e w6 ⟨rfl, g6⟩
                have G5 := Lib.hid (G5.out.trans g6)
                have HD2 := Lib.hid (HD2.out.keepF g6)
                have HR2 := Lib.hid (HR2.out.keepF g6)
                clear g6 HLF
                go_wp2_with fail
                go_loopw [14] (fun i wq => ∃ k : Nat, k ≤ 256 ∧ i = .int .i64 (k : Nat) ∧ Frm (fun _ => False) w6 wq) (fun i _ => 256 - (intOf i).toNat)
                case atStart => exact ⟨0, by omega, rfl, Frm.refl _ _⟩
                case round =>
                  obtain ⟨k, hk, rfl, gq⟩ := hrel
                  by_cases hlt : k < 256
                  · have hki : (k : Int) < 256 := by omega
                    have hA : Calls Tryz.prog 28 #[.pointer (some ⟨b2, 0, none⟩), .int .i64 (k : Nat)] wr fun e w' => e = .returned (.tuple #[.string (bs (L.D.read k)), .int .i64 0]) ∧ Frm (fun _ => False) wr w' := by
                      have := read_any b2 f2 x2 L.D k wr (HD2.out.keepF gq) (by unfold Z64; omega)
                      rw [show L.D.bad (k : Int) = false by unfold DV.bad; rw [decide_eq_false]; rw [HS.out.2.2.1]; omega] at this
                      exact this
                    have hB : ∀ W, Frm (fun _ => False) wr W → Calls Tryz.prog 28 #[.pointer (some ⟨b, 0, none⟩), .int .i64 (k : Nat)] W fun e w' => e = .returned (.tuple #[.string (bs (L'.D.read k)), .int .i64 0]) ∧ Frm (fun _ => False) W w' := fun W g => by
                      have := read_any b f x L'.D k W (HR2.out.ln.dev.keepF (gq.trans g)) (by unfold Z64; omega)
                      rw [show L'.D.bad (k : Int) = false by unfold DV.bad; rw [decide_eq_false]; rw [HST.out.dn, HS.out.2.2.1]; omega] at this
                      exact this
                    have f1 : (k < 64 ∨ 127 < k) → L'.D.read k = fullB := fun h => by rw [HST.out.out k h]; exact HS.out.2.2.2.2.2.2.1 k h hlt
                    have f2 : 64 < k → k < 128 → L.D.read k = zb ∨ L'.D.read k = L.D.read k := HST.out.log k
                    have f3 : L.D.read k = L'.D.read k := by rw [(HST.out.err hee).2.2]
                    obtain ⟨S, hS⟩ : ∃ S, L.D.read k = S := ⟨_, rfl⟩
                    obtain ⟨T, hT⟩ : ∃ T, L'.D.read k = T := ⟨_, rfl⟩
                    rw [hS] at hA f2 f3
                    rw [hT] at hB f1 f2 f3
                    have HA := Lib.hid hA
                    have HB := Lib.hid hB
                    have G6 := Lib.hid gq
                    clear hA hB hS hT gq
                    have hF : ((bs fullB).toList != (bs fullB).toList) = false := by simp
                    have hZ : ((bs zb).toList != (bs zb).toList) = false := by simp
                    have hss : ((bs S).toList != (bs S).toList) = false := by simp
                    have htt : ((bs T).toList != (bs T).toList) = false := by simp
                    by_cases h1 : k < 64
                    · have h1i : (k : Int) < 64 := by omega
                      have h2i : ¬ (64 : Int) < (k : Int) := by omega
                      obtain rfl := f1 (.inl h1)
                      obtain rfl := f3
                      go_wp2_with fail
                      refine HA.out.mono ?_
                      rintro e wa ⟨rfl, ga⟩
                      have HA2 := Lib.hid (HB.out wa ga)
                      have GA := Lib.hid (G6.out.trans ga)
                      clear ga HA HB
                      go_wp2_with fail
                      refine HA2.out.mono ?_
                      rintro e wb ⟨rfl, gb⟩
                      have GB := Lib.hid (GA.out.trans gb)
                      clear gb HA2
                      go_wp2_with fail
                      go_roundw
                      case rel => exact ⟨k + 1, by omega, by go_num, GB.out⟩
                      case measure => simp [intOf]; omega
                    · have h1i : ¬ (k : Int) < 64 := by omega
                      by_cases h2 : 127 < k
                      · have h2i : (127 : Int) < (k : Int) := by omega
                        have h3i : ¬ (k : Int) < 128 := by omega
                        have h4i : (64 : Int) < (k : Int) := by omega
                        obtain rfl := f1 (.inr h2)
                        obtain rfl := f3
                        go_wp2_with fail
                        refine HA.out.mono ?_
                        rintro e wa ⟨rfl, ga⟩
                        have HA2 := Lib.hid (HB.out wa ga)
                        have GA := Lib.hid (G6.out.trans ga)
                        clear ga HA HB
                        go_wp2_with fail
                        refine HA2.out.mono ?_
                        rintro e wb ⟨rfl, gb⟩
                        have GB := Lib.hid (GA.out.trans gb)
                        clear gb HA2
                        go_wp2_with fail
                        go_roundw
                        case rel => exact ⟨k + 1, by omega, by go_num, GB.out⟩
                        case measure => simp [intOf]; omega
                      · have h2i : ¬ (127 : Int) < (k : Int) := by omega
                        by_cases h3 : k = 64
                        · have h4i : ¬ (64 : Int) < (k : Int) := by omega
                          clear h3 f1 f2
                          obtain rfl := f3
                          go_wp2_with fail
                          refine HA.out.mono ?_
                          rintro e wa ⟨rfl, ga⟩
                          have HA2 := Lib.hid (HB.out wa ga)
                          have GA := Lib.hid (G6.out.trans ga)
                          clear ga HA HB
                          go_wp2_with fail
                          refine HA2.out.mono ?_
                          rintro e wb ⟨rfl, gb⟩
                          have GB := Lib.hid (GA.out.trans gb)
                          clear gb HA2
                          go_wp2_with fail
                          go_roundw
                          case rel => exact ⟨k + 1, by omega, by go_num, GB.out⟩
                          case measure => simp [intOf]; omega
                        · have h3i : (k : Int) < 128 := by omega
                          have h4i : (64 : Int) < (k : Int) := by omega
                          by_cases hSz : S = zb
                          · subst hSz
                            obtain rfl := f3
                            go_wp2_with fail
                            refine HA.out.mono ?_
                            rintro e wa ⟨rfl, ga⟩
                            have HA2 := Lib.hid (HB.out wa ga)
                            have GA := Lib.hid (G6.out.trans ga)
                            clear ga HA HB
                            go_wp2_with fail
                            refine HA2.out.mono ?_
                            rintro e wb ⟨rfl, gb⟩
                            have GB := Lib.hid (GA.out.trans gb)
                            clear gb HA2
                            go_wp2_with fail
                            go_roundw
                            case rel => exact ⟨k + 1, by omega, by go_num, GB.out⟩
                            case measure => simp [intOf]; omega
                          · have hSz : ((bs S).toList != (bs zb).toList) = true := by
                              rw [bs_toList, bs_toList, bne_iff_ne]; exact hSz
                            obtain rfl : T = S := (f2 (by omega) (by omega)).resolve_left (fun h => by rw [h] at hSz; simp at hSz)
                            go_wp2_with fail
                            refine HA.out.mono ?_
                            rintro e wa ⟨rfl, ga⟩
                            have HA2 := Lib.hid (HB.out wa ga)
                            have GA := Lib.hid (G6.out.trans ga)
                            clear ga HA HB
                            go_wp2_with fail
                            refine HA2.out.mono ?_
                            rintro e wb ⟨rfl, gb⟩
                            have GB := Lib.hid (GA.out.trans gb)
                            clear gb HA2
                            go_wp2_with fail
                            all_goals exact ⟨⟨k + 1, by omega, by go_num, GB.out⟩, by simp [intOf]; omega⟩
                  · obtain rfl : k = 256 := by omega
                    have G6 := Lib.hid gq
                    clear gq
                    go_wp2_with fail
                    go_roundw
                    case rel => exact ⟨j + 1, R', L', by omega, by go_num, HR2.out.keepF G6.out, HST.out.st, HST.out.uc, HST.out.dn.trans HS.out.2.2.1, by have := HST.out.acts; have := HS.out.2.2.2.1; omega, HST.out.cs.trans HS.out.2.2.2.2.1, ⟨HST.out.at_, HST.out.n⟩, (fun k h hl => by rw [HST.out.out k h]; exact HS.out.2.2.2.2.2.2.1 k h hl), G5.out.trans G6.out⟩
                    case measure => simp [intOf]; omega
          · obtain rfl : j = A.length := by omega
            have G9 := Lib.hid gr
            clear hR hSt hu hn hac hcs hat hful gr
            go_wp2_with fail
            refine (HWK.out _).mono ?_
            rintro e w9 ⟨rfl, g9⟩
            have G9 := Lib.hid (G9.out.trans g9)
            clear g9
            go_wp2_with fail
            go_ret
            exact ⟨rfl, G9.out⟩
end Go.Proofs.YtfbaleomhghjeaaGreat

