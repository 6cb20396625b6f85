/- RegionTorn: wherever the line is cut behind a Format, a region tells the first groups that were appended, as they were. No condition. -/
import Derived.Test.YtfbaleomhghjeaaGreatRgAct
namespace Go.Proofs.YtfbaleomhghjeaaGreat
open Go.RowKit Go.Shelf

theorem Tryz.info44r : (Tryz.prog.info? 44).map (fun i => (i.zero, i.size, i.bytes)) = some (some (.int .u32 0), 1, 4) := by kernel_rfl
theorem u_one (w : World) (g : Nat) : Sl (w.alloc (.cells #[.int .u32 (g : Nat)] 44)) 1 (.slice (some ⟨w.heap.size, 0, none⟩) 1 1) 1 [.int .u32 (g : Nat)] := by
  refine ⟨rfl, _, 1, rfl, Nat.le_refl _, by decide, .inr ⟨_, 0, rfl, by simp, fun j hj => ?_⟩⟩
  obtain rfl : j = 0 := by omega
  exact (Blk.alloc w 44 #[.int .u32 (g : Nat)]).cell 0 rfl
theorem rappend_u (w : World) (x : Value) (g : Nat) (hs : Sl w 1 x 1 [.int .u32 (g : Nat)]) :
    ∃ v' w', (Builtin.append_ #[67, 67] 67 #[.slice none 0 0, x]).run Tryz.prog w = .ok v' w' ∧ Row w' 1 v' 1 [.int .u32 (g : Nat)] ∧ w.grownBy w' (Value.slice none 0 0).ownBlock ∧ (∀ k, v'.ownBlock = some k → w.heap.size ≤ k) := by
  obtain ⟨i0, hi, hz0, hz1, hz2⟩ := info_parts Tryz.info44r
  obtain ⟨v', w', h1, h2, h3, h4⟩ := run_append_row w 67 67 67 44 i0 (.int .u32 0) 1 4 Tryz.underlying67 hi hz0 hz1 hz2 rfl (Row.nil_ w 1) x 1 [.int .u32 (g : Nat)]
    (Sl.src hs Tryz.underlying67 (fun u hu => by rw [List.mem_singleton.1 hu]; rfl)) (by decide) (by decide)
  exact ⟨v', w', h1, h2, h3, fun k hk => (h4 k hk).resolve_left (fun h => by cases h)⟩
theorem u_own {w : World} {v : Value} {g n : Nat} (h : Row w 1 v 1 [.int .u32 (g : Nat)]) (hn : ∀ k, v.ownBlock = some k → n ≤ k) : ∃ gb o c, v = .slice (some ⟨gb, o, none⟩) 1 c ∧ gb < w.heap.size ∧ n ≤ gb ∧ w.cell? ⟨gb, o, none⟩ = some (.int .u32 (g : Nat)) := by
  rcases h.2 with ⟨_, h0⟩ | ⟨gb, cap, rfl, _, _, ⟨o, ho, _⟩, hc, _⟩
  · cases h0
  · exact ⟨gb, 0, cap, rfl, (Array.getElem?_eq_some_iff.1 ho).1, hn gb rfl, hc 0 (by decide)⟩
/-- What was to be sealed, as the statement notes it. -/
def GensV (w : World) (base : Nat) (v : Value) (gens : List Nat) : Prop := (gens = [] ∧ v = .slice none 0 0) ∨
  ∃ g gb o c, gens = [g] ∧ v = .slice (some ⟨gb, o, none⟩) 1 c ∧ gb < w.heap.size ∧ base ≤ gb ∧ w.cell? ⟨gb, o, none⟩ = some (.int .u32 (g : Nat))
theorem GensV.keep {X : Nat → Prop} {w w' : World} {base : Nat} {v : Value} {gens : List Nat} (h : GensV w base v gens) (hf : Frm X w w') (hn : ∀ k, base ≤ k → X k → False) : GensV w' base v gens := by
  rcases h with h | ⟨g, gb, o, c, h1, h2, h3, h4, h5⟩
  · exact .inl h
  · exact .inr ⟨g, gb, o, c, h1, h2, Nat.lt_of_lt_of_le h3 hf.size, h4, (World.cell?_of_block (a := ⟨gb, o, none⟩) (hf.block gb h3 (hn gb h4))).trans h5⟩
theorem GensV.nil {w : World} {base : Nat} {v : Value} {gens : List Nat} (h : GensV w base v gens) (he : gens = []) : gens = [] ∧ v = .slice none 0 0 := by
  rcases h with h | ⟨g, gb, o, c, h1, _⟩
  · exact h
  · rw [he] at h1; cases h1
def stoodB : List UInt8 := [115, 111, 109, 101, 116, 104, 105, 110, 103, 32, 116, 104, 97, 116, 32, 115, 116, 111, 111, 100, 32, 116, 104, 101, 114, 101, 32, 97, 104, 101, 97, 100, 32, 111, 102, 32, 105, 116]
set_option maxRecDepth 100000 in
set_option maxHeartbeats 64000000 in
theorem regionTorn_any (v : Value) (A : List A5) (n0 : Nat) (v2 : Value) (cs : List Int) (w : World) (hA : A5L w v A) (hn0 : n0 < 65536) (hz : Zs w v2 cs) (hzz : ∀ z ∈ cs, Z64 z) :
    Calls Tryz.prog 5 #[v, .int .u16 (n0 : Nat), v2] w fun e w' => e = .returned (.bool true) ∧ Frm (fun _ => False) w w' := by
  have HF := few13_any v A w hA
  have HWK := Lib.hid (fun W => awake13_any W)
  obtain ⟨a, cap, rfl, hc1, hc2⟩ := hA.slice
  unfold maxLen at hc2
  obtain ⟨az, capz, rfl, hd1, hd2⟩ := hz.slice
  unfold maxLen at hd2
  cases hfew : few5 A with
  | false =>
    rw [hfew] at HF
    have HF := Lib.hid HF
    clear hfew hA hz hzz
    go_enter Tryz.func5, Tryz.ntmps5
    go_wp2_with fail
    refine HF.out.mono ?_
    rintro e w1 ⟨rfl, rfl⟩
    go_wp2_with fail
    refine (HWK.out _).mono ?_
    rintro e w1 ⟨rfl, g1⟩
    go_wp2_with fail
    go_ret
    exact ⟨rfl, g1⟩
  | true =>
    obtain ⟨hl50, hls⟩ := few5_ok hfew
    rw [hfew] at HF
    have HF := Lib.hid HF
    by_cases h20 : cs.length ≤ 20
    · have h20i : ¬ (20 : Int) < (cs.length : Int) := by omega
      obtain ⟨c, hc⟩ : ∃ c, n0 % 400 = c := ⟨_, rfl⟩
      have hc400 : c < 400 := by omega
      have t1 : (n0 : Int) % 400 = (c : Int) := by omega
      have t1' : (n0 : Int).tmod 400 = (c : Int) := by rw [Int.tmod_eq_emod_of_nonneg (by omega)]; exact t1
      have t3 : IntKind.u16.wrap (c : Int) = (c : Int) := by rw [IntKind.wrap_u16]; omega
      have t4 : IntKind.i64.wrap (c : Int) = (c : Int) := IntWalk.i64_in _ (by omega)
      have t5 : IntKind.i64.wrap (65 + (c : Int)) = 65 + (c : Int) := IntWalk.i64_in _ (by omega)
      have HA := Lib.hid hA
      have HV := Lib.hid (And.intro hz (And.intro hzz h20))
      have HN := Lib.hid (new256 w)
      have hdn := dev_neqn13
      have hre := rg_eqn
      clear hfew hA hz hzz hc
      go_enter Tryz.func5, Tryz.ntmps5
      go_wp2_with fail
      refine HF.out.mono ?_
      rintro e w1 ⟨rfl, rfl⟩
      go_wp2_with fail
      refine HN.out.mono ?_
      rintro e w1 ⟨_, rfl, b, f, x, rfl, hd, hb, hf, hx, g1⟩
      have HO1 := Lib.hid (And.intro hb (And.intro hf hx))
      have HD1 := Lib.hid (And.intro hd g1)
      clear hd hb hf hx g1 HN HF
      go_wp2_with fail
      go_loopw [8] (fun i wr => ∃ (k : Nat) (D : DV), 64 ≤ k ∧ k ≤ 128 ∧ i = .int .i64 (k : Nat) ∧ DevM wr b f x D ∧ D.n = 256 ∧ Frm (fun _ => False) w wr) (fun i _ => 128 - (intOf i).toNat)
      case atStart => exact ⟨64, _, by omega, by omega, rfl, HD1.out.1, rfl, HD1.out.2⟩
      case round =>
        obtain ⟨k, D, hk64, hk, rfl, hD, hn, gr⟩ := hrel
        by_cases hlt : k < 128
        · have hki : (k : Int) < 128 := by omega
          have HW := Lib.hid (write_any b f x D (k : Int) stoodB wr hD (by unfold Z64; omega) (by decide))
          have HS := Lib.hid (And.intro hn gr)
          clear hD hn gr
          go_wp2_with fail
          refine HW.out.mono ?_
          rintro e W ⟨rfl, hW, gW⟩
          have H5 := Lib.hid (And.intro hW (HS.out.2.toNew gW HO1.out.2.2))
          clear hW gW HW
          go_wp2_with fail
          go_roundw
          case rel => exact ⟨k + 1, _, by omega, by omega, by go_num, H5.out.1, (writeTo_n D _ _).trans HS.out.1, H5.out.2⟩
          case measure => simp [intOf]; omega
        · obtain rfl : k = 128 := by omega
          have HL := Lib.hid (lnew_any b f x D (65 + (c : Int)) _ cs wr hD (by unfold Z64; omega) (HV.out.1.keepF gr) HV.out.2.1 (by have := HV.out.2.2; omega) (fun g => wr.heap.size ≤ g) (fun _ h => h))
          have HDN := Lib.hid (And.intro hn (And.intro hD.ok gr))
          clear hD hn gr hk64 hk hlt
          go_wp2_with fail
          refine HL.out.mono ?_
          rintro e w2 ⟨_, rfl, l, rfl, hl, hlo, g2⟩
          have hl := hl.low
          obtain ⟨L0, hL0⟩ : ∃ L0 : LV, ({ LV.new D (65 + (c : Int)) cs (fun g => wr.heap.size ≤ g) with P := fun g => (LV.new D (65 + (c : Int)) cs (fun g => wr.heap.size ≤ g)).P g ∧ g < w2.heap.size } : LV) = L0 := ⟨_, rfl⟩
          have q1 : L0.down = false := by rw [← hL0]; rfl
          have q2 : L0.acts = 0 := by rw [← hL0]; rfl
          have q3 : L0.cut = 65 + (c : Int) := by rw [← hL0]; rfl
          have q4 : L0.D = D := by rw [← hL0]; rfl
          have q5 : L0.cs = cs := by rw [← hL0]; rfl
          have q6 : ∀ k, L0.P k → k < w2.heap.size := by rw [← hL0]; exact fun k h => h.2
          rw [hL0] at hl
          clear hL0
          have hst := fmtR_st (L := L0) (A := 64) (n := 64) q1 (fun k hk => by rw [q2, q3]; omega) (by rw [q4]; exact HDN.out.2.1) (by decide) (by decide) (by rw [q4, HDN.out.1]; decide)
          have hst : (fmtR L0 64 64).2 = 0 ∧ (fmtR L0 64 64).1.acts = L0.acts + 65 ∧ (fmtR L0 64 64).1.cut = L0.cut ∧ (fmtR L0 64 64).1.cs = L0.cs ∧ (fmtR L0 64 64).1.P = L0.P ∧ (fmtR L0 64 64).1.D.n = L0.D.n ∧ _ ∧ StR ⟨64, 64, 0, false⟩ (fmtR L0 64 64).1 [] 0 0 := hst
          obtain ⟨r1, r2, _, r4, r5, _, _, r8⟩ := hst
          have HF := format_any l b f x L0 64 64 w2 hl (by rw [q2]; decide) (by unfold Z64; decide) (by unfold Z64; decide) (.inr q6)
          obtain ⟨L1, hL1⟩ : ∃ L1, (fmtR L0 64 64).1 = L1 := ⟨_, rfl⟩
          have hf2 : fmtR L0 64 64 = (L1, 0) := by rw [← hL1, ← r1]
          unfold FmtTo at HF
          rw [hf2] at HF
          have HF := Lib.hid HF
          rw [hL1] at r2 r4 r5 r8
          obtain ⟨P0, hP0⟩ : ∃ P0, L0.P = P0 := ⟨_, rfl⟩
          rw [hP0] at r5 q6
          have HM := Lib.hid (And.intro (show L1.acts = 65 by rw [r2, q2]) (And.intro r5 (And.intro (r4.trans q5) (And.intro r8 q6))))
          have G2 := Lib.hid (And.intro (show w.heap.size ≤ l from Nat.le_trans HDN.out.2.2.size hlo) (HDN.out.2.2.trans g2))
          clear hl hlo g2 HL q1 q2 q3 q4 q5 q6 hst r1 r2 r4 r5 r8 hL1 hf2 hP0
          go_wp2_with fail
          refine HF.out.mono ?_
          rintro e w3 ⟨v, rfl, hl3, g3, hz, _⟩
          obtain ⟨g, rfl, hg, hR⟩ := hz trivial
          have hR : RgM w3 g l b f x ⟨64, 64, 0, false⟩ L1 := hR
          have HO := Lib.hid (show w.heap.size ≤ g ∧ w.heap.size ≤ l ∧ w.heap.size ≤ f ∧ w.heap.size ≤ x from ⟨Nat.le_trans G2.out.2.size hg, G2.out.1, HO1.out.2.1, HO1.out.2.2⟩)
          obtain ⟨B4, hB4⟩ : ∃ B4, w3.heap.size = B4 := ⟨_, rfl⟩
          have hlt5 := hR.lt
          have hwB : w.heap.size ≤ B4 := by rw [← hB4]; exact (G2.out.2.toNewX g3 ⟨G2.out.1, HO1.out.2.1, HO1.out.2.2⟩).size
          have HNB := Lib.hid (show g < B4 ∧ l < B4 ∧ b < B4 ∧ f < B4 ∧ x < B4 by rw [← hB4]; exact ⟨hlt5.1, hlt5.2.1, hlt5.2.2.1, hlt5.2.2.2.1, hlt5.2.2.2.2⟩)
          have HWB := Lib.hid hwB
          have HPB := Lib.hid (show ∀ k, P0 k → k < B4 from fun k hk => by have := HM.out.2.2.2.2 k hk; have := g3.size; omega)
          have HR3 := Lib.hid (And.intro hR (And.intro (G2.out.2.toNewX g3 ⟨G2.out.1, HO1.out.2.1, HO1.out.2.2⟩) (show B4 ≤ w3.heap.size by omega)))
          have HNG := Lib.hid (show ∀ k, B4 ≤ k → RgX g l f x k → False from fun k hk hX => by have := HNB.out; unfold RgX LnX at hX; omega)
          clear hl3 g3 hz hg hR HF hlt5 hwB hB4
          go_wp2_with fail
          go_loopw [12, 13, 14, 15, 16, 17] (fun va vgv sr slv opv i wr => ∃ (j : Nat) (R : RV) (L : LV) (gs : List (List UInt8)) (sure sl : Nat) (gens : List Nat) (op : Bool) (ga vg : Value), ga = va ∧ vg = vgv ∧ j ≤ A.length ∧ i = .int .i64 (j : Nat) ∧ sr = .int .i64 (sure : Nat) ∧ slv = .int .u32 (sl : Nat) ∧ opv = .bool op ∧
            RgM wr g l b f x R L ∧ TS R L gs sure sl gens op ∧ L.acts ≤ 65 + 65 * j ∧ L.P = P0 ∧ L.cs = cs ∧ OwnS wr ga gs ∧ (∀ k, ga.ownBlock = some k → B4 ≤ k) ∧ GensV wr B4 vg gens ∧ Frm (fun _ => False) w wr ∧ B4 ≤ wr.heap.size) (fun _ _ _ _ _ i _ => A.length - (intOf i).toNat)
          case atStart => exact ⟨0, _, _, [], 0, 0, [], false, _, _, rfl, rfl, Nat.zero_le _, rfl, rfl, rfl, rfl, HR3.out.1, ⟨rfl, rfl, 0, Nat.le_refl _, Nat.le_refl _, .inl ⟨HM.out.2.2.2.1, rfl, rfl⟩⟩, by rw [HM.out.1]; exact Nat.le_refl _, HM.out.2.1, HM.out.2.2.1, OwnS.nil_ _, (fun k h => by cases h), .inl ⟨rfl, rfl⟩, HR3.out.2.1, HR3.out.2.2⟩
          case round =>
            obtain ⟨j, R, L, gs, sure, sl, gens, op, ga, vg, rfl, rfl, hj, rfl, rfl, rfl, rfl, hR, hts, hac, hP, hcs, hoa, hob, hvg, gr, hbw⟩ := hrel
            by_cases hlt : j < A.length
            · have hji : (j : Int) < (A.length : Int) := by omega
              obtain ⟨p, off, rfl, hp, d0, d1, d2, _⟩ := HA.out.elem j hlt
              have hys := hls j hlt
              have hyg := A[j].hg
              have hyk := A[j].hk
              obtain ⟨y, hy⟩ : ∃ y, A[j] = y := ⟨_, rfl⟩
              rw [hy] at d0 d1 d2 hys hyg hyk
              have HPD := Lib.hid (And.intro hp (And.intro d1 d2))
              have c0 := (World.cell?_of_block (a := ⟨p, off + j * 5, none⟩) (gr.block p hp (fun h => h))).trans d0
              have c1 := (World.cell?_of_block (a := ⟨p, off + j * 5 + 1, none⟩) (gr.block p hp (fun h => h))).trans d1
              have c2 := (World.cell?_of_block (a := ⟨p, off + j * 5 + 2, none⟩) (gr.block p hp (fun h => h))).trans d2
              clear d0 d1 d2
              have HGN := Lib.hid (ts_n hts)
              have HTS := Lib.hid hts
              have HS := Lib.hid (show L.acts ≤ 3400 ∧ L.P = P0 ∧ L.cs = cs from ⟨by omega, hP, hcs⟩)
              have HAC := Lib.hid hac
              have HRr := Lib.hid hR
              have HGr := Lib.hid gr
              have HG4 := Lib.hid (And.intro hbw HWB.out)
              have HOA := Lib.hid (And.intro hoa hob)
              have HVG := Lib.hid hvg
              have HPW := Lib.hid (show ∀ k, P0 k → k < wr.heap.size from fun k hk => by have := HPB.out k hk; omega)
              have HNA := Lib.hid (show ∀ k, k < B4 → ga.ownBlock = some k → False from fun k hk e => by have := HOA.out.2 k e; omega)
              have hoaS := (OwnS.reads hoa).slice
              obtain ⟨aga, cga, hgae, hgc1, hgc2⟩ := hoaS
              unfold maxLen at hgc2
              have hgc3 : gs.length ≤ 63 := HGN.out
              obtain ⟨m, hmm⟩ : ∃ m, y.k % 6 = m := ⟨_, rfl⟩
              have hm6 : m < 6 := by omega
              have t1 : (y.k : Int) % 6 = (m : Int) := by omega
              have t1' : (y.k : Int).tmod 6 = (m : Int) := by rw [Int.tmod_eq_emod_of_nonneg (by omega)]; exact t1
              have t3 : IntKind.u8.wrap (m : Int) = (m : Int) := IntWalk.u8_in _ (by omega)
              clear hmm hR hts hac hP hcs hoa hob hvg gr hbw hy hp
              by_cases e1 : m = 0 ∨ m = 3 ∨ m = 4
              · rcases e1 with rfl | rfl | rfl
                · clear hgae
                  have hq := rappend_any g l b f x R L y.s wr HRr.out (by have := HS.out.1; omega) (by omega) (.inr fun k hk => HPW.out k (by rw [← HS.out.2.1]; exact hk))
                  obtain ⟨R', L', ec, hap, hsm, hts⟩ := ts_ap HTS.out y.s
                  rw [hap] at hq
                  unfold RgTo at hq
                  have HQ := Lib.hid hq
                  have HSM := Lib.hid hsm
                  clear hq hap hsm
                  rcases hts with ⟨hec, hge, hts⟩ | ⟨hec, hts⟩
                  · have HT := Lib.hid hts
                    have HGE := Lib.hid hge
                    clear hts
                    rcases hec with rfl | rfl
                    · go_wp2_with fail
                      refine HQ.out.mono ?_
                      rintro e w5 ⟨rfl, h5, g5⟩
                      have HR5 := Lib.hid (And.intro (show RgM w5 g l b f x R' L' from h5) (HGr.out.toNewR g5 HO.out))
                      have HW5 := Lib.hid g5.size
                      have HOA := Lib.hid (And.intro (HOA.out.1.keep g5 (fun k hk e => HNG.out k (HOA.out.2 k hk) e)) HOA.out.2)
                      have HVG := Lib.hid (HVG.out.keep g5 (fun k hk e => HNG.out k hk e))
                      have c1 := (World.cell?_of_block (a := ⟨p, off + j * 5 + 1, none⟩) (HR5.out.2.block p HPD.out.1 (fun h => h))).trans HPD.out.2.1
                      have c2 := (World.cell?_of_block (a := ⟨p, off + j * 5 + 2, none⟩) (HR5.out.2.block p HPD.out.1 (fun h => h))).trans HPD.out.2.2
                      clear h5 g5 HQ
                      have gb5 : Frm (fun _ => False) w5 (w5.alloc (.cells #[.string (bs y.s)] 9)) := (Frm.refl _ w5).alloc _
                      obtain ⟨va', w6, hrun, ho, hgr, hnew⟩ := rappend_strs (w5.alloc (.cells #[.string (bs y.s)] 9)) ga (.slice (some ⟨w5.heap.size, 0, none⟩) 1 1) gs [y.s] (HOA.out.1.keep gb5 (fun _ _ h => h)) (rstrs_one w5 y.s) (by show gs.length + 1 ≤ 1000000; have := HGN.out; omega)
                      have g6 : Frm (fun k => ga.ownBlock = some k) (w5.alloc (.cells #[.string (bs y.s)] 9)) w6 := (Frm.refl _ _).grown hgr (fun _ _ e => e)
                      obtain ⟨ava, cva, rfl, _, _⟩ := Row.slice ho
                      have el : (gs ++ [y.s]).length = gs.length + 1 := by simp
                      rw [el] at hrun ho hnew
                      have H6 := Lib.hid (And.intro hrun (And.intro ho (And.intro hnew (And.intro gb5 g6))))
                      clear hrun ho hgr hnew gb5 g6
                      go_wp2_with (first | (at_builtin; refine Lib.wpList_append_run _ rfl _ _ _ _ rfl _ _ rfl rfl _ _ H6.out.1 ?_) | fail)
                      go_roundw
                      case rel =>
                        have hsz := H6.out.2.2.2.1.size
                        have hR6 := HR5.out.1.keepF H6.out.2.2.2.1
                        have hlt := HR5.out.1.lt
                        refine ⟨j + 1, R', L', gs ++ [y.s], sure, sl, gens, op, _, vg, rfl, rfl, by omega, by go_num, rfl, rfl, rfl, hR6.keep H6.out.2.2.2.2 (HNA.out g HNB.out.1) (HNA.out l HNB.out.2.1) (HNA.out b HNB.out.2.2.1) (HNA.out f HNB.out.2.2.2.1) (HNA.out x HNB.out.2.2.2.2) (.inr fun k hk => HNA.out k (HPB.out k (by rw [← HS.out.2.1, ← HSM.out.P]; exact hk))), HT.out, by have := HSM.out.acts; have := HAC.out; omega, HSM.out.P.trans HS.out.2.1, HSM.out.cs.trans HS.out.2.2, H6.out.2.1, fun k hk => ?_, .inl (HVG.out.nil HGE.out), ((HR5.out.2.trans H6.out.2.2.2.1).next H6.out.2.2.2.2 fun k hk e => by have := HNA.out k |> fun h => HOA.out.2 k e; have := HG4.out; omega), by have := HW5.out; have := HG4.out; have := H6.out.2.2.2.1.size; have := H6.out.2.2.2.2.size; omega⟩
                        rcases H6.out.2.2.1 k hk with h | h
                        · exact HOA.out.2 k h
                        · have := HR5.out.2.size
                          have := HG4.out
                          have := HW5.out
                          omega
                      case measure => simp [intOf]; omega
                    · go_wp2_with fail
                      refine HQ.out.mono ?_
                      rintro e w5 ⟨rfl, h5, g5⟩
                      have HR5 := Lib.hid (And.intro (show RgM w5 g l b f x R' L' from h5) (HGr.out.toNewR g5 HO.out))
                      have HW5 := Lib.hid g5.size
                      have HOA := Lib.hid (And.intro (HOA.out.1.keep g5 (fun k hk e => HNG.out k (HOA.out.2 k hk) e)) HOA.out.2)
                      have HVG := Lib.hid (HVG.out.keep g5 (fun k hk e => HNG.out k hk e))
                      have c1 := (World.cell?_of_block (a := ⟨p, off + j * 5 + 1, none⟩) (HR5.out.2.block p HPD.out.1 (fun h => h))).trans HPD.out.2.1
                      have c2 := (World.cell?_of_block (a := ⟨p, off + j * 5 + 2, none⟩) (HR5.out.2.block p HPD.out.1 (fun h => h))).trans HPD.out.2.2
                      clear h5 g5 HQ
                      have gb5 : Frm (fun _ => False) w5 (w5.alloc (.cells #[.string (bs y.s)] 9)) := (Frm.refl _ w5).alloc _
                      obtain ⟨va', w6, hrun, ho, hgr, hnew⟩ := rappend_strs (w5.alloc (.cells #[.string (bs y.s)] 9)) ga (.slice (some ⟨w5.heap.size, 0, none⟩) 1 1) gs [y.s] (HOA.out.1.keep gb5 (fun _ _ h => h)) (rstrs_one w5 y.s) (by show gs.length + 1 ≤ 1000000; have := HGN.out; omega)
                      have g6 : Frm (fun k => ga.ownBlock = some k) (w5.alloc (.cells #[.string (bs y.s)] 9)) w6 := (Frm.refl _ _).grown hgr (fun _ _ e => e)
                      obtain ⟨ava, cva, rfl, _, _⟩ := Row.slice ho
                      have el : (gs ++ [y.s]).length = gs.length + 1 := by simp
                      rw [el] at hrun ho hnew
                      have H6 := Lib.hid (And.intro hrun (And.intro ho (And.intro hnew (And.intro gb5 g6))))
                      clear hrun ho hgr hnew gb5 g6
                      go_wp2_with (first | (at_builtin; refine Lib.wpList_append_run _ rfl _ _ _ _ rfl _ _ rfl rfl _ _ H6.out.1 ?_) | fail)
                      go_roundw
                      case rel =>
                        have hsz := H6.out.2.2.2.1.size
                        have hR6 := HR5.out.1.keepF H6.out.2.2.2.1
                        have hlt := HR5.out.1.lt
                        refine ⟨j + 1, R', L', gs ++ [y.s], sure, sl, gens, op, _, vg, rfl, rfl, by omega, by go_num, rfl, rfl, rfl, hR6.keep H6.out.2.2.2.2 (HNA.out g HNB.out.1) (HNA.out l HNB.out.2.1) (HNA.out b HNB.out.2.2.1) (HNA.out f HNB.out.2.2.2.1) (HNA.out x HNB.out.2.2.2.2) (.inr fun k hk => HNA.out k (HPB.out k (by rw [← HS.out.2.1, ← HSM.out.P]; exact hk))), HT.out, by have := HSM.out.acts; have := HAC.out; omega, HSM.out.P.trans HS.out.2.1, HSM.out.cs.trans HS.out.2.2, H6.out.2.1, fun k hk => ?_, .inl (HVG.out.nil HGE.out), ((HR5.out.2.trans H6.out.2.2.2.1).next H6.out.2.2.2.2 fun k hk e => by have := HNA.out k |> fun h => HOA.out.2 k e; have := HG4.out; omega), by have := HW5.out; have := HG4.out; have := H6.out.2.2.2.1.size; have := H6.out.2.2.2.2.size; omega⟩
                        rcases H6.out.2.2.1 k hk with h | h
                        · exact HOA.out.2 k h
                        · have := HR5.out.2.size
                          have := HG4.out
                          have := HW5.out
                          omega
                      case measure => simp [intOf]; omega
                  · have HT := Lib.hid hts
                    clear hts
                    rcases hec with rfl | rfl
                    · go_wp2_with fail
                      refine HQ.out.mono ?_
                      rintro e w5 ⟨rfl, h5, g5⟩
                      have HR5 := Lib.hid (And.intro (show RgM w5 g l b f x R' L' from h5) (HGr.out.toNewR g5 HO.out))
                      have HW5 := Lib.hid g5.size
                      have HOA := Lib.hid (And.intro (HOA.out.1.keep g5 (fun k hk e => HNG.out k (HOA.out.2 k hk) e)) HOA.out.2)
                      have HVG := Lib.hid (HVG.out.keep g5 (fun k hk e => HNG.out k hk e))
                      have c1 := (World.cell?_of_block (a := ⟨p, off + j * 5 + 1, none⟩) (HR5.out.2.block p HPD.out.1 (fun h => h))).trans HPD.out.2.1
                      have c2 := (World.cell?_of_block (a := ⟨p, off + j * 5 + 2, none⟩) (HR5.out.2.block p HPD.out.1 (fun h => h))).trans HPD.out.2.2
                      clear h5 g5 HQ
                      go_wp2_with fail
                      go_roundw
                      case rel => exact ⟨j + 1, R', L', gs, sure, sl, gens, op, _, _, rfl, rfl, by omega, by go_num, rfl, rfl, rfl, HR5.out.1, HT.out, by have := HSM.out.acts; have := HAC.out; omega, HSM.out.P.trans HS.out.2.1, HSM.out.cs.trans HS.out.2.2, HOA.out.1, HOA.out.2, HVG.out, HR5.out.2, by have := HW5.out; have := HG4.out; omega⟩
                      case measure => simp [intOf]; omega
                    · go_wp2_with fail
                      refine HQ.out.mono ?_
                      rintro e w5 ⟨rfl, h5, g5⟩
                      have HR5 := Lib.hid (And.intro (show RgM w5 g l b f x R' L' from h5) (HGr.out.toNewR g5 HO.out))
                      have HW5 := Lib.hid g5.size
                      have HOA := Lib.hid (And.intro (HOA.out.1.keep g5 (fun k hk e => HNG.out k (HOA.out.2 k hk) e)) HOA.out.2)
                      have HVG := Lib.hid (HVG.out.keep g5 (fun k hk e => HNG.out k hk e))
                      have c1 := (World.cell?_of_block (a := ⟨p, off + j * 5 + 1, none⟩) (HR5.out.2.block p HPD.out.1 (fun h => h))).trans HPD.out.2.1
                      have c2 := (World.cell?_of_block (a := ⟨p, off + j * 5 + 2, none⟩) (HR5.out.2.block p HPD.out.1 (fun h => h))).trans HPD.out.2.2
                      clear h5 g5 HQ
                      go_wp2_with fail
                      go_roundw
                      case rel => exact ⟨j + 1, R', L', gs, sure, sl, gens, op, _, _, rfl, rfl, by omega, by go_num, rfl, rfl, rfl, HR5.out.1, HT.out, by have := HSM.out.acts; have := HAC.out; omega, HSM.out.P.trans HS.out.2.1, HSM.out.cs.trans HS.out.2.2, HOA.out.1, HOA.out.2, HVG.out, HR5.out.2, by have := HW5.out; have := HG4.out; omega⟩
                      case measure => simp [intOf]; omega
                · clear hgae
                  have hq := rappend_any g l b f x R L y.s wr HRr.out (by have := HS.out.1; omega) (by omega) (.inr fun k hk => HPW.out k (by rw [← HS.out.2.1]; exact hk))
                  obtain ⟨R', L', ec, hap, hsm, hts⟩ := ts_ap HTS.out y.s
                  rw [hap] at hq
                  unfold RgTo at hq
                  have HQ := Lib.hid hq
                  have HSM := Lib.hid hsm
                  clear hq hap hsm
                  rcases hts with ⟨hec, hge, hts⟩ | ⟨hec, hts⟩
                  · have HT := Lib.hid hts
                    have HGE := Lib.hid hge
                    clear hts
                    rcases hec with rfl | rfl
                    · go_wp2_with fail
                      refine HQ.out.mono ?_
                      rintro e w5 ⟨rfl, h5, g5⟩
                      have HR5 := Lib.hid (And.intro (show RgM w5 g l b f x R' L' from h5) (HGr.out.toNewR g5 HO.out))
                      have HW5 := Lib.hid g5.size
                      have HOA := Lib.hid (And.intro (HOA.out.1.keep g5 (fun k hk e => HNG.out k (HOA.out.2 k hk) e)) HOA.out.2)
                      have HVG := Lib.hid (HVG.out.keep g5 (fun k hk e => HNG.out k hk e))
                      have c1 := (World.cell?_of_block (a := ⟨p, off + j * 5 + 1, none⟩) (HR5.out.2.block p HPD.out.1 (fun h => h))).trans HPD.out.2.1
                      have c2 := (World.cell?_of_block (a := ⟨p, off + j * 5 + 2, none⟩) (HR5.out.2.block p HPD.out.1 (fun h => h))).trans HPD.out.2.2
                      clear h5 g5 HQ
                      have gb5 : Frm (fun _ => False) w5 (w5.alloc (.cells #[.string (bs y.s)] 9)) := (Frm.refl _ w5).alloc _
                      obtain ⟨va', w6, hrun, ho, hgr, hnew⟩ := rappend_strs (w5.alloc (.cells #[.string (bs y.s)] 9)) ga (.slice (some ⟨w5.heap.size, 0, none⟩) 1 1) gs [y.s] (HOA.out.1.keep gb5 (fun _ _ h => h)) (rstrs_one w5 y.s) (by show gs.length + 1 ≤ 1000000; have := HGN.out; omega)
                      have g6 : Frm (fun k => ga.ownBlock = some k) (w5.alloc (.cells #[.string (bs y.s)] 9)) w6 := (Frm.refl _ _).grown hgr (fun _ _ e => e)
                      obtain ⟨ava, cva, rfl, _, _⟩ := Row.slice ho
                      have el : (gs ++ [y.s]).length = gs.length + 1 := by simp
                      rw [el] at hrun ho hnew
                      have H6 := Lib.hid (And.intro hrun (And.intro ho (And.intro hnew (And.intro gb5 g6))))
                      clear hrun ho hgr hnew gb5 g6
                      go_wp2_with (first | (at_builtin; refine Lib.wpList_append_run _ rfl _ _ _ _ rfl _ _ rfl rfl _ _ H6.out.1 ?_) | fail)
                      go_roundw
                      case rel =>
                        have hsz := H6.out.2.2.2.1.size
                        have hR6 := HR5.out.1.keepF H6.out.2.2.2.1
                        have hlt := HR5.out.1.lt
                        refine ⟨j + 1, R', L', gs ++ [y.s], sure, sl, gens, op, _, vg, rfl, rfl, by omega, by go_num, rfl, rfl, rfl, hR6.keep H6.out.2.2.2.2 (HNA.out g HNB.out.1) (HNA.out l HNB.out.2.1) (HNA.out b HNB.out.2.2.1) (HNA.out f HNB.out.2.2.2.1) (HNA.out x HNB.out.2.2.2.2) (.inr fun k hk => HNA.out k (HPB.out k (by rw [← HS.out.2.1, ← HSM.out.P]; exact hk))), HT.out, by have := HSM.out.acts; have := HAC.out; omega, HSM.out.P.trans HS.out.2.1, HSM.out.cs.trans HS.out.2.2, H6.out.2.1, fun k hk => ?_, .inl (HVG.out.nil HGE.out), ((HR5.out.2.trans H6.out.2.2.2.1).next H6.out.2.2.2.2 fun k hk e => by have := HNA.out k |> fun h => HOA.out.2 k e; have := HG4.out; omega), by have := HW5.out; have := HG4.out; have := H6.out.2.2.2.1.size; have := H6.out.2.2.2.2.size; omega⟩
                        rcases H6.out.2.2.1 k hk with h | h
                        · exact HOA.out.2 k h
                        · have := HR5.out.2.size
                          have := HG4.out
                          have := HW5.out
                          omega
                      case measure => simp [intOf]; omega
                    · go_wp2_with fail
                      refine HQ.out.mono ?_
                      rintro e w5 ⟨rfl, h5, g5⟩
                      have HR5 := Lib.hid (And.intro (show RgM w5 g l b f x R' L' from h5) (HGr.out.toNewR g5 HO.out))
                      have HW5 := Lib.hid g5.size
                      have HOA := Lib.hid (And.intro (HOA.out.1.keep g5 (fun k hk e => HNG.out k (HOA.out.2 k hk) e)) HOA.out.2)
                      have HVG := Lib.hid (HVG.out.keep g5 (fun k hk e => HNG.out k hk e))
                      have c1 := (World.cell?_of_block (a := ⟨p, off + j * 5 + 1, none⟩) (HR5.out.2.block p HPD.out.1 (fun h => h))).trans HPD.out.2.1
                      have c2 := (World.cell?_of_block (a := ⟨p, off + j * 5 + 2, none⟩) (HR5.out.2.block p HPD.out.1 (fun h => h))).trans HPD.out.2.2
                      clear h5 g5 HQ
                      have gb5 : Frm (fun _ => False) w5 (w5.alloc (.cells #[.string (bs y.s)] 9)) := (Frm.refl _ w5).alloc _
                      obtain ⟨va', w6, hrun, ho, hgr, hnew⟩ := rappend_strs (w5.alloc (.cells #[.string (bs y.s)] 9)) ga (.slice (some ⟨w5.heap.size, 0, none⟩) 1 1) gs [y.s] (HOA.out.1.keep gb5 (fun _ _ h => h)) (rstrs_one w5 y.s) (by show gs.length + 1 ≤ 1000000; have := HGN.out; omega)
                      have g6 : Frm (fun k => ga.ownBlock = some k) (w5.alloc (.cells #[.string (bs y.s)] 9)) w6 := (Frm.refl _ _).grown hgr (fun _ _ e => e)
                      obtain ⟨ava, cva, rfl, _, _⟩ := Row.slice ho
                      have el : (gs ++ [y.s]).length = gs.length + 1 := by simp
                      rw [el] at hrun ho hnew
                      have H6 := Lib.hid (And.intro hrun (And.intro ho (And.intro hnew (And.intro gb5 g6))))
                      clear hrun ho hgr hnew gb5 g6
                      go_wp2_with (first | (at_builtin; refine Lib.wpList_append_run _ rfl _ _ _ _ rfl _ _ rfl rfl _ _ H6.out.1 ?_) | fail)
                      go_roundw
                      case rel =>
                        have hsz := H6.out.2.2.2.1.size
                        have hR6 := HR5.out.1.keepF H6.out.2.2.2.1
                        have hlt := HR5.out.1.lt
                        refine ⟨j + 1, R', L', gs ++ [y.s], sure, sl, gens, op, _, vg, rfl, rfl, by omega, by go_num, rfl, rfl, rfl, hR6.keep H6.out.2.2.2.2 (HNA.out g HNB.out.1) (HNA.out l HNB.out.2.1) (HNA.out b HNB.out.2.2.1) (HNA.out f HNB.out.2.2.2.1) (HNA.out x HNB.out.2.2.2.2) (.inr fun k hk => HNA.out k (HPB.out k (by rw [← HS.out.2.1, ← HSM.out.P]; exact hk))), HT.out, by have := HSM.out.acts; have := HAC.out; omega, HSM.out.P.trans HS.out.2.1, HSM.out.cs.trans HS.out.2.2, H6.out.2.1, fun k hk => ?_, .inl (HVG.out.nil HGE.out), ((HR5.out.2.trans H6.out.2.2.2.1).next H6.out.2.2.2.2 fun k hk e => by have := HNA.out k |> fun h => HOA.out.2 k e; have := HG4.out; omega), by have := HW5.out; have := HG4.out; have := H6.out.2.2.2.1.size; have := H6.out.2.2.2.2.size; omega⟩
                        rcases H6.out.2.2.1 k hk with h | h
                        · exact HOA.out.2 k h
                        · have := HR5.out.2.size
                          have := HG4.out
                          have := HW5.out
                          omega
                      case measure => simp [intOf]; omega
                  · have HT := Lib.hid hts
                    clear hts
                    rcases hec with rfl | rfl
                    · go_wp2_with fail
                      refine HQ.out.mono ?_
                      rintro e w5 ⟨rfl, h5, g5⟩
                      have HR5 := Lib.hid (And.intro (show RgM w5 g l b f x R' L' from h5) (HGr.out.toNewR g5 HO.out))
                      have HW5 := Lib.hid g5.size
                      have HOA := Lib.hid (And.intro (HOA.out.1.keep g5 (fun k hk e => HNG.out k (HOA.out.2 k hk) e)) HOA.out.2)
                      have HVG := Lib.hid (HVG.out.keep g5 (fun k hk e => HNG.out k hk e))
                      have c1 := (World.cell?_of_block (a := ⟨p, off + j * 5 + 1, none⟩) (HR5.out.2.block p HPD.out.1 (fun h => h))).trans HPD.out.2.1
                      have c2 := (World.cell?_of_block (a := ⟨p, off + j * 5 + 2, none⟩) (HR5.out.2.block p HPD.out.1 (fun h => h))).trans HPD.out.2.2
                      clear h5 g5 HQ
                      go_wp2_with fail
                      go_roundw
                      case rel => exact ⟨j + 1, R', L', gs, sure, sl, gens, op, _, _, rfl, rfl, by omega, by go_num, rfl, rfl, rfl, HR5.out.1, HT.out, by have := HSM.out.acts; have := HAC.out; omega, HSM.out.P.trans HS.out.2.1, HSM.out.cs.trans HS.out.2.2, HOA.out.1, HOA.out.2, HVG.out, HR5.out.2, by have := HW5.out; have := HG4.out; omega⟩
                      case measure => simp [intOf]; omega
                    · go_wp2_with fail
                      refine HQ.out.mono ?_
                      rintro e w5 ⟨rfl, h5, g5⟩
                      have HR5 := Lib.hid (And.intro (show RgM w5 g l b f x R' L' from h5) (HGr.out.toNewR g5 HO.out))
                      have HW5 := Lib.hid g5.size
                      have HOA := Lib.hid (And.intro (HOA.out.1.keep g5 (fun k hk e => HNG.out k (HOA.out.2 k hk) e)) HOA.out.2)
                      have HVG := Lib.hid (HVG.out.keep g5 (fun k hk e => HNG.out k hk e))
                      have c1 := (World.cell?_of_block (a := ⟨p, off + j * 5 + 1, none⟩) (HR5.out.2.block p HPD.out.1 (fun h => h))).trans HPD.out.2.1
                      have c2 := (World.cell?_of_block (a := ⟨p, off + j * 5 + 2, none⟩) (HR5.out.2.block p HPD.out.1 (fun h => h))).trans HPD.out.2.2
                      clear h5 g5 HQ
                      go_wp2_with fail
                      go_roundw
                      case rel => exact ⟨j + 1, R', L', gs, sure, sl, gens, op, _, _, rfl, rfl, by omega, by go_num, rfl, rfl, rfl, HR5.out.1, HT.out, by have := HSM.out.acts; have := HAC.out; omega, HSM.out.P.trans HS.out.2.1, HSM.out.cs.trans HS.out.2.2, HOA.out.1, HOA.out.2, HVG.out, HR5.out.2, by have := HW5.out; have := HG4.out; omega⟩
                      case measure => simp [intOf]; omega
                · clear hgae
                  have hq := rappend_any g l b f x R L y.s wr HRr.out (by have := HS.out.1; omega) (by omega) (.inr fun k hk => HPW.out k (by rw [← HS.out.2.1]; exact hk))
                  obtain ⟨R', L', ec, hap, hsm, hts⟩ := ts_ap HTS.out y.s
                  rw [hap] at hq
                  unfold RgTo at hq
                  have HQ := Lib.hid hq
                  have HSM := Lib.hid hsm
                  clear hq hap hsm
                  rcases hts with ⟨hec, hge, hts⟩ | ⟨hec, hts⟩
                  · have HT := Lib.hid hts
                    have HGE := Lib.hid hge
                    clear hts
                    rcases hec with rfl | rfl
                    · go_wp2_with fail
                      refine HQ.out.mono ?_
                      rintro e w5 ⟨rfl, h5, g5⟩
                      have HR5 := Lib.hid (And.intro (show RgM w5 g l b f x R' L' from h5) (HGr.out.toNewR g5 HO.out))
                      have HW5 := Lib.hid g5.size
                      have HOA := Lib.hid (And.intro (HOA.out.1.keep g5 (fun k hk e => HNG.out k (HOA.out.2 k hk) e)) HOA.out.2)
                      have HVG := Lib.hid (HVG.out.keep g5 (fun k hk e => HNG.out k hk e))
                      have c1 := (World.cell?_of_block (a := ⟨p, off + j * 5 + 1, none⟩) (HR5.out.2.block p HPD.out.1 (fun h => h))).trans HPD.out.2.1
                      have c2 := (World.cell?_of_block (a := ⟨p, off + j * 5 + 2, none⟩) (HR5.out.2.block p HPD.out.1 (fun h => h))).trans HPD.out.2.2
                      clear h5 g5 HQ
                      have gb5 : Frm (fun _ => False) w5 (w5.alloc (.cells #[.string (bs y.s)] 9)) := (Frm.refl _ w5).alloc _
                      obtain ⟨va', w6, hrun, ho, hgr, hnew⟩ := rappend_strs (w5.alloc (.cells #[.string (bs y.s)] 9)) ga (.slice (some ⟨w5.heap.size, 0, none⟩) 1 1) gs [y.s] (HOA.out.1.keep gb5 (fun _ _ h => h)) (rstrs_one w5 y.s) (by show gs.length + 1 ≤ 1000000; have := HGN.out; omega)
                      have g6 : Frm (fun k => ga.ownBlock = some k) (w5.alloc (.cells #[.string (bs y.s)] 9)) w6 := (Frm.refl _ _).grown hgr (fun _ _ e => e)
                      obtain ⟨ava, cva, rfl, _, _⟩ := Row.slice ho
                      have el : (gs ++ [y.s]).length = gs.length + 1 := by simp
                      rw [el] at hrun ho hnew
                      have H6 := Lib.hid (And.intro hrun (And.intro ho (And.intro hnew (And.intro gb5 g6))))
                      clear hrun ho hgr hnew gb5 g6
                      go_wp2_with (first | (at_builtin; refine Lib.wpList_append_run _ rfl _ _ _ _ rfl _ _ rfl rfl _ _ H6.out.1 ?_) | fail)
                      go_roundw
                      case rel =>
                        have hsz := H6.out.2.2.2.1.size
                        have hR6 := HR5.out.1.keepF H6.out.2.2.2.1
                        have hlt := HR5.out.1.lt
                        refine ⟨j + 1, R', L', gs ++ [y.s], sure, sl, gens, op, _, vg, rfl, rfl, by omega, by go_num, rfl, rfl, rfl, hR6.keep H6.out.2.2.2.2 (HNA.out g HNB.out.1) (HNA.out l HNB.out.2.1) (HNA.out b HNB.out.2.2.1) (HNA.out f HNB.out.2.2.2.1) (HNA.out x HNB.out.2.2.2.2) (.inr fun k hk => HNA.out k (HPB.out k (by rw [← HS.out.2.1, ← HSM.out.P]; exact hk))), HT.out, by have := HSM.out.acts; have := HAC.out; omega, HSM.out.P.trans HS.out.2.1, HSM.out.cs.trans HS.out.2.2, H6.out.2.1, fun k hk => ?_, .inl (HVG.out.nil HGE.out), ((HR5.out.2.trans H6.out.2.2.2.1).next H6.out.2.2.2.2 fun k hk e => by have := HNA.out k |> fun h => HOA.out.2 k e; have := HG4.out; omega), by have := HW5.out; have := HG4.out; have := H6.out.2.2.2.1.size; have := H6.out.2.2.2.2.size; omega⟩
                        rcases H6.out.2.2.1 k hk with h | h
                        · exact HOA.out.2 k h
                        · have := HR5.out.2.size
                          have := HG4.out
                          have := HW5.out
                          omega
                      case measure => simp [intOf]; omega
                    · go_wp2_with fail
                      refine HQ.out.mono ?_
                      rintro e w5 ⟨rfl, h5, g5⟩
                      have HR5 := Lib.hid (And.intro (show RgM w5 g l b f x R' L' from h5) (HGr.out.toNewR g5 HO.out))
                      have HW5 := Lib.hid g5.size
                      have HOA := Lib.hid (And.intro (HOA.out.1.keep g5 (fun k hk e => HNG.out k (HOA.out.2 k hk) e)) HOA.out.2)
                      have HVG := Lib.hid (HVG.out.keep g5 (fun k hk e => HNG.out k hk e))
                      have c1 := (World.cell?_of_block (a := ⟨p, off + j * 5 + 1, none⟩) (HR5.out.2.block p HPD.out.1 (fun h => h))).trans HPD.out.2.1
                      have c2 := (World.cell?_of_block (a := ⟨p, off + j * 5 + 2, none⟩) (HR5.out.2.block p HPD.out.1 (fun h => h))).trans HPD.out.2.2
                      clear h5 g5 HQ
                      have gb5 : Frm (fun _ => False) w5 (w5.alloc (.cells #[.string (bs y.s)] 9)) := (Frm.refl _ w5).alloc _
                      obtain ⟨va', w6, hrun, ho, hgr, hnew⟩ := rappend_strs (w5.alloc (.cells #[.string (bs y.s)] 9)) ga (.slice (some ⟨w5.heap.size, 0, none⟩) 1 1) gs [y.s] (HOA.out.1.keep gb5 (fun _ _ h => h)) (rstrs_one w5 y.s) (by show gs.length + 1 ≤ 1000000; have := HGN.out; omega)
                      have g6 : Frm (fun k => ga.ownBlock = some k) (w5.alloc (.cells #[.string (bs y.s)] 9)) w6 := (Frm.refl _ _).grown hgr (fun _ _ e => e)
                      obtain ⟨ava, cva, rfl, _, _⟩ := Row.slice ho
                      have el : (gs ++ [y.s]).length = gs.length + 1 := by simp
                      rw [el] at hrun ho hnew
                      have H6 := Lib.hid (And.intro hrun (And.intro ho (And.intro hnew (And.intro gb5 g6))))
                      clear hrun ho hgr hnew gb5 g6
                      go_wp2_with (first | (at_builtin; refine Lib.wpList_append_run _ rfl _ _ _ _ rfl _ _ rfl rfl _ _ H6.out.1 ?_) | fail)
                      go_roundw
                      case rel =>
                        have hsz := H6.out.2.2.2.1.size
                        have hR6 := HR5.out.1.keepF H6.out.2.2.2.1
                        have hlt := HR5.out.1.lt
                        refine ⟨j + 1, R', L', gs ++ [y.s], sure, sl, gens, op, _, vg, rfl, rfl, by omega, by go_num, rfl, rfl, rfl, hR6.keep H6.out.2.2.2.2 (HNA.out g HNB.out.1) (HNA.out l HNB.out.2.1) (HNA.out b HNB.out.2.2.1) (HNA.out f HNB.out.2.2.2.1) (HNA.out x HNB.out.2.2.2.2) (.inr fun k hk => HNA.out k (HPB.out k (by rw [← HS.out.2.1, ← HSM.out.P]; exact hk))), HT.out, by have := HSM.out.acts; have := HAC.out; omega, HSM.out.P.trans HS.out.2.1, HSM.out.cs.trans HS.out.2.2, H6.out.2.1, fun k hk => ?_, .inl (HVG.out.nil HGE.out), ((HR5.out.2.trans H6.out.2.2.2.1).next H6.out.2.2.2.2 fun k hk e => by have := HNA.out k |> fun h => HOA.out.2 k e; have := HG4.out; omega), by have := HW5.out; have := HG4.out; have := H6.out.2.2.2.1.size; have := H6.out.2.2.2.2.size; omega⟩
                        rcases H6.out.2.2.1 k hk with h | h
                        · exact HOA.out.2 k h
                        · have := HR5.out.2.size
                          have := HG4.out
                          have := HW5.out
                          omega
                      case measure => simp [intOf]; omega
                  · have HT := Lib.hid hts
                    clear hts
                    rcases hec with rfl | rfl
                    · go_wp2_with fail
                      refine HQ.out.mono ?_
                      rintro e w5 ⟨rfl, h5, g5⟩
                      have HR5 := Lib.hid (And.intro (show RgM w5 g l b f x R' L' from h5) (HGr.out.toNewR g5 HO.out))
                      have HW5 := Lib.hid g5.size
                      have HOA := Lib.hid (And.intro (HOA.out.1.keep g5 (fun k hk e => HNG.out k (HOA.out.2 k hk) e)) HOA.out.2)
                      have HVG := Lib.hid (HVG.out.keep g5 (fun k hk e => HNG.out k hk e))
                      have c1 := (World.cell?_of_block (a := ⟨p, off + j * 5 + 1, none⟩) (HR5.out.2.block p HPD.out.1 (fun h => h))).trans HPD.out.2.1
                      have c2 := (World.cell?_of_block (a := ⟨p, off + j * 5 + 2, none⟩) (HR5.out.2.block p HPD.out.1 (fun h => h))).trans HPD.out.2.2
                      clear h5 g5 HQ
                      go_wp2_with fail
                      go_roundw
                      case rel => exact ⟨j + 1, R', L', gs, sure, sl, gens, op, _, _, rfl, rfl, by omega, by go_num, rfl, rfl, rfl, HR5.out.1, HT.out, by have := HSM.out.acts; have := HAC.out; omega, HSM.out.P.trans HS.out.2.1, HSM.out.cs.trans HS.out.2.2, HOA.out.1, HOA.out.2, HVG.out, HR5.out.2, by have := HW5.out; have := HG4.out; omega⟩
                      case measure => simp [intOf]; omega
                    · go_wp2_with fail
                      refine HQ.out.mono ?_
                      rintro e w5 ⟨rfl, h5, g5⟩
                      have HR5 := Lib.hid (And.intro (show RgM w5 g l b f x R' L' from h5) (HGr.out.toNewR g5 HO.out))
                      have HW5 := Lib.hid g5.size
                      have HOA := Lib.hid (And.intro (HOA.out.1.keep g5 (fun k hk e => HNG.out k (HOA.out.2 k hk) e)) HOA.out.2)
                      have HVG := Lib.hid (HVG.out.keep g5 (fun k hk e => HNG.out k hk e))
                      have c1 := (World.cell?_of_block (a := ⟨p, off + j * 5 + 1, none⟩) (HR5.out.2.block p HPD.out.1 (fun h => h))).trans HPD.out.2.1
                      have c2 := (World.cell?_of_block (a := ⟨p, off + j * 5 + 2, none⟩) (HR5.out.2.block p HPD.out.1 (fun h => h))).trans HPD.out.2.2
                      clear h5 g5 HQ
                      go_wp2_with fail
                      go_roundw
                      case rel => exact ⟨j + 1, R', L', gs, sure, sl, gens, op, _, _, rfl, rfl, by omega, by go_num, rfl, rfl, rfl, HR5.out.1, HT.out, by have := HSM.out.acts; have := HAC.out; omega, HSM.out.P.trans HS.out.2.1, HSM.out.cs.trans HS.out.2.2, HOA.out.1, HOA.out.2, HVG.out, HR5.out.2, by have := HW5.out; have := HG4.out; omega⟩
                      case measure => simp [intOf]; omega
              · by_cases e2 : m = 1
                · subst e2
                  subst hgae
                  have hq := rflush13_any g l b f x R L wr HRr.out (by have := HS.out.1; omega)
                  obtain ⟨R', L', ec, hap, hsm, hts⟩ := ts_fl HTS.out
                  rw [hap] at hq
                  unfold RgTo at hq
                  have HQ := Lib.hid hq
                  have HSM := Lib.hid hsm
                  clear hq hap hsm
                  rcases hts with ⟨rfl, hts⟩ | ⟨hec, hts⟩
                  · have HT := Lib.hid hts
                    clear hts
                    go_wp2_with fail
                    refine HQ.out.mono ?_
                    rintro e w5 ⟨rfl, h5, g5⟩
                    have HR5 := Lib.hid (And.intro (show RgM w5 g l b f x R' L' from h5) (HGr.out.toNewR g5 HO.out))
                    have HW5 := Lib.hid g5.size
                    have HOA := Lib.hid (And.intro (HOA.out.1.keep g5 (fun k hk e => HNG.out k (HOA.out.2 k hk) e)) HOA.out.2)
                    have HVG := Lib.hid (HVG.out.keep g5 (fun k hk e => HNG.out k hk e))
                    have c1 := (World.cell?_of_block (a := ⟨p, off + j * 5 + 1, none⟩) (HR5.out.2.block p HPD.out.1 (fun h => h))).trans HPD.out.2.1
                    have c2 := (World.cell?_of_block (a := ⟨p, off + j * 5 + 2, none⟩) (HR5.out.2.block p HPD.out.1 (fun h => h))).trans HPD.out.2.2
                    clear h5 g5 HQ
                    go_wp2_with fail
                    go_roundw
                    case rel => exact ⟨j + 1, R', L', gs, gs.length, sl, gens, op, _, _, rfl, rfl, by omega, by go_num, rfl, rfl, rfl, HR5.out.1, HT.out, by have := HSM.out.acts; have := HAC.out; omega, HSM.out.P.trans HS.out.2.1, HSM.out.cs.trans HS.out.2.2, HOA.out.1, HOA.out.2, HVG.out, HR5.out.2, by have := HW5.out; have := HG4.out; omega⟩
                    case measure => simp [intOf]; omega
                  · have HT := Lib.hid hts
                    clear hts
                    rcases hec with rfl | rfl
                    · go_wp2_with fail
                      refine HQ.out.mono ?_
                      rintro e w5 ⟨rfl, h5, g5⟩
                      have HR5 := Lib.hid (And.intro (show RgM w5 g l b f x R' L' from h5) (HGr.out.toNewR g5 HO.out))
                      have HW5 := Lib.hid g5.size
                      have HOA := Lib.hid (And.intro (HOA.out.1.keep g5 (fun k hk e => HNG.out k (HOA.out.2 k hk) e)) HOA.out.2)
                      have HVG := Lib.hid (HVG.out.keep g5 (fun k hk e => HNG.out k hk e))
                      have c1 := (World.cell?_of_block (a := ⟨p, off + j * 5 + 1, none⟩) (HR5.out.2.block p HPD.out.1 (fun h => h))).trans HPD.out.2.1
                      have c2 := (World.cell?_of_block (a := ⟨p, off + j * 5 + 2, none⟩) (HR5.out.2.block p HPD.out.1 (fun h => h))).trans HPD.out.2.2
                      clear h5 g5 HQ
                      go_wp2_with fail
                      go_roundw
                      case rel => exact ⟨j + 1, R', L', gs, sure, sl, gens, op, _, _, rfl, rfl, by omega, by go_num, rfl, rfl, rfl, HR5.out.1, HT.out, by have := HSM.out.acts; have := HAC.out; omega, HSM.out.P.trans HS.out.2.1, HSM.out.cs.trans HS.out.2.2, HOA.out.1, HOA.out.2, HVG.out, HR5.out.2, by have := HW5.out; have := HG4.out; omega⟩
                      case measure => simp [intOf]; omega
                    · go_wp2_with fail
                      refine HQ.out.mono ?_
                      rintro e w5 ⟨rfl, h5, g5⟩
                      have HR5 := Lib.hid (And.intro (show RgM w5 g l b f x R' L' from h5) (HGr.out.toNewR g5 HO.out))
                      have HW5 := Lib.hid g5.size
                      have HOA := Lib.hid (And.intro (HOA.out.1.keep g5 (fun k hk e => HNG.out k (HOA.out.2 k hk) e)) HOA.out.2)
                      have HVG := Lib.hid (HVG.out.keep g5 (fun k hk e => HNG.out k hk e))
                      have c1 := (World.cell?_of_block (a := ⟨p, off + j * 5 + 1, none⟩) (HR5.out.2.block p HPD.out.1 (fun h => h))).trans HPD.out.2.1
                      have c2 := (World.cell?_of_block (a := ⟨p, off + j * 5 + 2, none⟩) (HR5.out.2.block p HPD.out.1 (fun h => h))).trans HPD.out.2.2
                      clear h5 g5 HQ
                      go_wp2_with fail
                      go_roundw
                      case rel => exact ⟨j + 1, R', L', gs, sure, sl, gens, op, _, _, rfl, rfl, by omega, by go_num, rfl, rfl, rfl, HR5.out.1, HT.out, by have := HSM.out.acts; have := HAC.out; omega, HSM.out.P.trans HS.out.2.1, HSM.out.cs.trans HS.out.2.2, HOA.out.1, HOA.out.2, HVG.out, HR5.out.2, by have := HW5.out; have := HG4.out; omega⟩
                      case measure => simp [intOf]; omega
                · have n0 : ((m : Int) == 0) = false := by rw [beq_eq_false_iff_ne]; omega
                  have n3 : ((m : Int) == 3) = false := by rw [beq_eq_false_iff_ne]; omega
                  have n4 : ((m : Int) == 4) = false := by rw [beq_eq_false_iff_ne]; omega
                  have n1 : ((m : Int) == 1) = false := by rw [beq_eq_false_iff_ne]; omega
                  subst hgae
                  by_cases hg0 : y.g = 0
                  · have hg0i : ((y.g : Int) == 0) = true := by rw [beq_iff_eq]; omega
                    go_wp2_with fail
                    go_roundw
                    case rel => exact ⟨j + 1, R, L, gs, sure, sl, gens, op, _, _, rfl, rfl, by omega, by go_num, rfl, rfl, rfl, HRr.out, HTS.out, by have := HAC.out; omega, HS.out.2.1, HS.out.2.2, HOA.out.1, HOA.out.2, HVG.out, HGr.out, HG4.out.1⟩
                    case measure => simp [intOf]; omega
                  · have hg0i : ((y.g : Int) == 0) = false := by rw [beq_eq_false_iff_ne]; omega
                    have hq := rseal_any g l b f x y.g R L wr HRr.out (by have := HS.out.1; omega) hyg
                    obtain ⟨R', L', ec, hap, hsm, hts⟩ := ts_sl HTS.out hg0 hyg
                    rw [hap] at hq
                    unfold RgTo at hq
                    have HQ := Lib.hid hq
                    have HSM := Lib.hid hsm
                    clear hq hap hsm
                    clear hg0
                    rcases hts with ⟨rfl, hts⟩ | ⟨rfl, hge, hts⟩ | ⟨rfl, hts⟩
                    · have HT := Lib.hid hts
                      clear hts
                      go_wp2_with fail
                      refine HQ.out.mono ?_
                      rintro e w5 ⟨rfl, h5, g5⟩
                      have HR5 := Lib.hid (And.intro (show RgM w5 g l b f x R' L' from h5) (HGr.out.toNewR g5 HO.out))
                      have HW5 := Lib.hid g5.size
                      have HOA := Lib.hid (And.intro (HOA.out.1.keep g5 (fun k hk e => HNG.out k (HOA.out.2 k hk) e)) HOA.out.2)
                      have HVG := Lib.hid (HVG.out.keep g5 (fun k hk e => HNG.out k hk e))
                      have c1 := (World.cell?_of_block (a := ⟨p, off + j * 5 + 1, none⟩) (HR5.out.2.block p HPD.out.1 (fun h => h))).trans HPD.out.2.1
                      have c2 := (World.cell?_of_block (a := ⟨p, off + j * 5 + 2, none⟩) (HR5.out.2.block p HPD.out.1 (fun h => h))).trans HPD.out.2.2
                      clear h5 g5 HQ
                      go_wp2_with fail
                      go_roundw
                      case rel => exact ⟨j + 1, R', L', gs, gs.length, y.g, [], false, _, _, rfl, rfl, by omega, by go_num, rfl, rfl, rfl, HR5.out.1, HT.out, by have := HSM.out.acts; have := HAC.out; omega, HSM.out.P.trans HS.out.2.1, HSM.out.cs.trans HS.out.2.2, HOA.out.1, HOA.out.2, .inl ⟨rfl, rfl⟩, HR5.out.2, by have := HW5.out; have := HG4.out; omega⟩
                      case measure => simp [intOf]; omega
                    · have HT := Lib.hid hts
                      have HG2 := Lib.hid (HVG.out.nil hge).2
                      clear hts
                      go_wp2_with fail
                      refine HQ.out.mono ?_
                      rintro e w5 ⟨rfl, h5, g5⟩
                      have HR5 := Lib.hid (And.intro (show RgM w5 g l b f x R' L' from h5) (HGr.out.toNewR g5 HO.out))
                      have HW5 := Lib.hid g5.size
                      have HOA := Lib.hid (And.intro (HOA.out.1.keep g5 (fun k hk e => HNG.out k (HOA.out.2 k hk) e)) HOA.out.2)
                      have HVG := Lib.hid (HVG.out.keep g5 (fun k hk e => HNG.out k hk e))
                      have c1 := (World.cell?_of_block (a := ⟨p, off + j * 5 + 1, none⟩) (HR5.out.2.block p HPD.out.1 (fun h => h))).trans HPD.out.2.1
                      have c2 := (World.cell?_of_block (a := ⟨p, off + j * 5 + 2, none⟩) (HR5.out.2.block p HPD.out.1 (fun h => h))).trans HPD.out.2.2
                      clear h5 g5 HQ
                      have gb5 : Frm (fun _ => False) w5 (w5.alloc (.cells #[.int .u32 (y.g : Nat)] 44)) := (Frm.refl _ w5).alloc _
                      obtain ⟨vu, w6, hrun, ho, hgr, hnew⟩ := rappend_u (w5.alloc (.cells #[.int .u32 (y.g : Nat)] 44)) (.slice (some ⟨w5.heap.size, 0, none⟩) 1 1) y.g (u_one w5 y.g)
                      have g6 : Frm (fun _ => False) (w5.alloc (.cells #[.int .u32 (y.g : Nat)] 44)) w6 := (Frm.refl _ _).grown hgr (fun _ _ e => by cases e)
                      have H6 := Lib.hid (And.intro ho (And.intro hnew (gb5.trans g6)))
                      have Hrun := Lib.hid hrun
                      obtain ⟨avu, cvu, rfl, _, _⟩ := Row.slice ho
                      clear hrun
                      have hsz0 : w5.heap.size ≤ (w5.alloc (.cells #[.int .u32 (y.g : Nat)] 44)).heap.size := gb5.size
                      have HSZ := Lib.hid hsz0
                      clear ho hgr hnew gb5 g6 hsz0
                      have HR6 := Lib.hid (show (Builtin.append_ #[67, 67] 67 #[vg, .slice (some ⟨w5.heap.size, 0, none⟩) 1 1]).run Tryz.prog (w5.alloc (.cells #[.int .u32 (y.g : Nat)] 44)) = .ok _ w6 from by rw [HG2.out]; exact Hrun.out)
                      go_wp2_with (first | (at_builtin; refine Lib.wpList_append_run _ rfl _ _ _ _ rfl _ _ rfl rfl _ _ HR6.out ?_) | fail)
                      go_roundw
                      case rel =>
                        obtain ⟨gb, o, c, e1, e2, e3, e4⟩ := u_own H6.out.1 H6.out.2.1
                        exact ⟨j + 1, R', L', gs, sure, sl, [y.g], true, _, _, rfl, rfl, by omega, by go_num, rfl, rfl, rfl, HR5.out.1.keepF H6.out.2.2, HT.out, by have := HSM.out.acts; have := HAC.out; omega, HSM.out.P.trans HS.out.2.1, HSM.out.cs.trans HS.out.2.2, HOA.out.1.keep H6.out.2.2 (fun _ _ h => h), HOA.out.2, .inr ⟨y.g, gb, o, c, rfl, e1, e2, by have := HSZ.out; have := HR5.out.2.size; have := HG4.out; have := HW5.out; omega, e4⟩, HR5.out.2.trans H6.out.2.2, by have := HW5.out; have := HG4.out; have := H6.out.2.2.size; omega⟩
                      case measure => simp [intOf]; omega
                    · have HT := Lib.hid hts
                      clear hts
                      go_wp2_with fail
                      refine HQ.out.mono ?_
                      rintro e w5 ⟨rfl, h5, g5⟩
                      have HR5 := Lib.hid (And.intro (show RgM w5 g l b f x R' L' from h5) (HGr.out.toNewR g5 HO.out))
                      have HW5 := Lib.hid g5.size
                      have HOA := Lib.hid (And.intro (HOA.out.1.keep g5 (fun k hk e => HNG.out k (HOA.out.2 k hk) e)) HOA.out.2)
                      have HVG := Lib.hid (HVG.out.keep g5 (fun k hk e => HNG.out k hk e))
                      have c1 := (World.cell?_of_block (a := ⟨p, off + j * 5 + 1, none⟩) (HR5.out.2.block p HPD.out.1 (fun h => h))).trans HPD.out.2.1
                      have c2 := (World.cell?_of_block (a := ⟨p, off + j * 5 + 2, none⟩) (HR5.out.2.block p HPD.out.1 (fun h => h))).trans HPD.out.2.2
                      clear h5 g5 HQ
                      go_wp2_with fail
                      go_roundw
                      case rel => exact ⟨j + 1, R', L', gs, sure, sl, gens, op, _, _, rfl, rfl, by omega, by go_num, rfl, rfl, rfl, HR5.out.1, HT.out, by have := HSM.out.acts; have := HAC.out; omega, HSM.out.P.trans HS.out.2.1, HSM.out.cs.trans HS.out.2.2, HOA.out.1, HOA.out.2, HVG.out, HR5.out.2, by have := HW5.out; have := HG4.out; omega⟩
                      case measure => simp [intOf]; omega
            · obtain rfl : j = A.length := by omega
              have HB := Lib.hid (lblow_any l b f x L wr hR.ln)
              have HTS := Lib.hid hts
              have HOA := Lib.hid (And.intro hoa hob)
              have HVG := Lib.hid hvg
              have HGr := Lib.hid (And.intro gr hbw)
              have hgs63 := ts_n hts
              obtain ⟨aga, cga, rfl, hgc1, hgc2⟩ := (OwnS.reads hoa).slice
              unfold maxLen at hgc2
              clear hR hts hac hP hcs hoa hob hvg gr hbw
              go_wp2_with fail
              refine HB.out.mono ?_
              rintro e w5 ⟨rfl, h5, g5⟩
              have g5' : Frm (RgX g l f x) wr w5 := g5.mono fun _ _ h => .inr h
              have HL := Lib.hid (lnew_any b f x L.blow.D (-1) _ [] w5 h5.dev (by unfold Z64; decide) (nil_zs (w := w5)) (fun _ h => by cases h) (show 0 ≤ 1000000 by decide))
              have HOA5 := Lib.hid (HOA.out.1.keep g5' (fun k hk e => HNG.out k (HOA.out.2 k hk) e))
              have HVG5 := Lib.hid (HVG.out.keep g5' (fun k hk e => HNG.out k hk e))
              have G5 := Lib.hid (HGr.out.1.toNewX g5 ⟨HO.out.2.1, HO.out.2.2.1, HO.out.2.2.2⟩)
              clear h5 g5 g5' HB HOA HVG HGr
              go_wp2_with fail
              refine HL.out.mono ?_
              rintro e w6 ⟨_, rfl, l2, rfl, h6, _, g6⟩
              obtain ⟨gg, m, hrd, hm1, hm2, hend⟩ := ts_end HTS.out (L' := LV.new L.blow.D (-1) []) rfl rfl
              have hq := rgread_any l2 b f x _ 64 64 w6 h6 (by unfold Z64; decide) (by unfold Z64; decide)
              rw [hrd] at hq
              unfold ReadTo at hq
              have HR := Lib.hid hq
              have HOA6 := Lib.hid (HOA5.out.keep g6 (fun _ _ h => h))
              have HVG6 := Lib.hid (HVG5.out.keep g6 (fun _ _ h => h))
              have G6 := Lib.hid (G5.out.trans g6)
              have HE := Lib.hid hend
              clear h6 g6 hq hrd hend HL HOA5 HVG5 G5 HTS
              go_wp2_with fail
              refine HR.out.mono ?_
              rintro e w7 ⟨v7, rfl, hn7⟩
              have hml : (gs.take m).length = m := by rw [List.length_take]; omega
              obtain ⟨a7, c7, hv7, hx1, hx2⟩ := (OwnS.reads hn7.own).slice
              unfold maxLen at hx2
              rw [hml] at hv7 hx1
              subst hv7
              have HN7 := Lib.hid (OwnS.reads hn7.own)
              have HOA7 := Lib.hid (OwnS.reads (HOA6.out.keep hn7.frm (fun _ _ h => h)))
              have HVG7 := Lib.hid (HVG6.out.keep hn7.frm (fun _ _ h => h))
              have G7 := Lib.hid (G6.out.trans hn7.frm)
              have hmi1 : ¬ (m : Int) < (sure : Int) := by omega
              have hmi2 : ¬ (gs.length : Int) < (m : Int) := by omega
              clear hn7 HR HOA6 HVG6 G6
              go_wp2_with fail
              go_loopw [22] (fun i wq => ∃ k : Nat, k ≤ m ∧ i = .int .i64 (k : Nat) ∧ Frm (fun _ => False) w7 wq) (fun i _ => m - (intOf i).toNat)
              case atStart => exact ⟨0, Nat.zero_le _, rfl, Frm.refl _ _⟩
              case round =>
                obtain ⟨k, hk, rfl, gk⟩ := hrel
                by_cases hlt : k < m
                · obtain ⟨ga0, oa0, rfl, _, c0⟩ := Strs.at (HN7.out.keepF gk) k (by rw [hml]; exact hlt)
                  obtain ⟨ga1, oa1, rfl, _, c1⟩ := Strs.at (HOA7.out.keepF gk) k (by omega)
                  rw [List.getElem_take] at c0
                  obtain ⟨s, hs⟩ : ∃ s, gs[k]'(by omega) = s := ⟨_, rfl⟩
                  rw [hs] at c0 c1
                  have hki : (k : Int) < (m : Int) := by omega
                  have hki2 : (k : Int) < (gs.length : Int) := by omega
                  have hq : ((bs s).toList != (bs s).toList) = false := by simp
                  clear hs
                  go_wp2_with fail
                  refine wp_region_canon (fun W => W.cell? ⟨ga0, oa0 + k, none⟩ = some (.string (bs s)) ∧ W.cell? ⟨ga1, oa1 + k, none⟩ = some (.string (bs s)) ∧ Frm (fun _ => False) wr W) (by kernel_rfl) rfl (by kernel_rfl) (by kernel_rfl) (⟨c0, c1, (Frm.refl _ wr).drew⟩) ?_
                  repeat' first
                    | (refine CanonL.skip (by rfl) ?_; (try simp only [Act.put, List.setIfInBounds_toArray, List.set_cons_zero, List.set_cons_succ]))
                    | (refine CanonL.val (v := ?_) (by rfl) ?_ ?_; rotate_left 1; (focus (intro w hSw; (try dsimp only at hSw); go_simp; (try (with_reducible rfl)); done)); (try simp only [Act.put, List.setIfInBounds_toArray, List.set_cons_zero, List.set_cons_succ]))
                  refine CanonL.done ?_
                  intro w9 hS9
                  have GK := Lib.hid (gk.trans hS9.2.2)
                  clear hS9 c0 c1
                  go_wp2_with fail
                  go_roundw
                  case rel => exact ⟨k + 1, by omega, by go_num, GK.out⟩
                  case measure => simp [intOf]; omega
                · obtain rfl : k = m := by omega
                  obtain ⟨w9, hw9⟩ : ∃ w9, wr = w9 := ⟨_, rfl⟩
                  rw [hw9] at gk ⊢
                  have G9 := Lib.hid (G7.out.trans gk)
                  have HVG9 := Lib.hid (HVG7.out.keep gk (fun _ _ h => h))
                  clear gk hw9 G7 HVG7 HOA7 HN7
                  rcases HE.out with ⟨rfl, rfl⟩ | ⟨rfl, g', rfl, hgg⟩
                  · have hgeq : ((gg : Int) == (gg : Int)) = true := by simp
                    go_wp2_with fail
                    refine (HWK.out _).mono ?_
                    rintro e wz ⟨rfl, gz⟩
                    have GZ := Lib.hid (G9.out.trans gz)
                    clear gz
                    go_wp2_with fail
                    go_ret
                    exact ⟨rfl, GZ.out⟩
                  · rcases HVG9.out with ⟨h0, _⟩ | ⟨g'', gb, o, c, h1, rfl, h3, _, h5⟩
                    · cases h0
                    · obtain rfl : g' = g'' := by simpa using h1
                      have HU := Lib.hid (And.intro h3 h5)
                      clear h1 h3 h5 HVG9
                      by_cases hg0 : gg = 0
                      · have hg0i : ((gg : Int) == 0) = true := by rw [beq_iff_eq]; omega
                        clear hgg hg0
                        go_wp2_with fail
                        go_loopw [23, 24] (fun is i wq => ∃ k : Nat, k ≤ 1 ∧ i = .int .i64 (k : Nat) ∧ Frm (fun _ => False) w9 wq ∧ (is = .bool true ∨ (is = .bool false ∧ k = 0 ∧ gg = g'))) (fun _ i _ => 1 - (intOf i).toNat)
                        case atStart => exact ⟨0, by omega, rfl, Frm.refl _ _, .inl rfl⟩
                        case round =>
                          obtain ⟨k, hk, rfl, gk, his⟩ := hrel
                          by_cases hk0 : k = 0
                          · subst hk0
                            have c9 := (World.cell?_of_block (a := ⟨gb, o, none⟩) (gk.block gb HU.out.1 (fun h => h))).trans HU.out.2
                            have GK := Lib.hid gk
                            clear gk
                            rcases his with rfl | ⟨rfl, _, rfl⟩
                            · go_wp2_with fail
                              go_roundw
                              case rel => exact ⟨1, by omega, by go_num, GK.out, .inl rfl⟩
                              case measure => simp [intOf]
                            · have hgeq : ((gg : Int) == (gg : Int)) = true := by simp
                              go_wp2_with fail
                              go_roundw
                              case rel => exact ⟨1, by omega, by go_num, GK.out, .inl rfl⟩
                              case measure => simp [intOf]
                          · obtain rfl : k = 1 := by omega
                            rcases his with rfl | ⟨_, h0, _⟩
                            · have GK := Lib.hid gk
                              clear gk
                              go_wp2_with fail
                              refine (HWK.out _).mono ?_
                              rintro e wz ⟨rfl, gz⟩
                              have GZ := Lib.hid ((G9.out.trans GK.out).trans gz)
                              clear gz
                              go_wp2_with fail
                              go_ret
                              exact ⟨rfl, GZ.out⟩
                            · cases h0
                      · have hg0i : ((gg : Int) == 0) = false := by rw [beq_eq_false_iff_ne]; omega
                        by_cases hgs : gg = sl
                        · subst hgs
                          have hgeq : ((gg : Int) == (gg : Int)) = true := by simp
                          clear hgg
                          go_wp2_with fail
                          go_loopw [23, 24] (fun is i wq => ∃ k : Nat, k ≤ 1 ∧ i = .int .i64 (k : Nat) ∧ Frm (fun _ => False) w9 wq ∧ (is = .bool true ∨ (is = .bool false ∧ k = 0 ∧ gg = g'))) (fun _ i _ => 1 - (intOf i).toNat)
                          case atStart => exact ⟨0, by omega, rfl, Frm.refl _ _, .inl rfl⟩
                          case round =>
                            obtain ⟨k, hk, rfl, gk, his⟩ := hrel
                            by_cases hk0 : k = 0
                            · subst hk0
                              have c9 := (World.cell?_of_block (a := ⟨gb, o, none⟩) (gk.block gb HU.out.1 (fun h => h))).trans HU.out.2
                              have GK := Lib.hid gk
                              clear gk
                              rcases his with rfl | ⟨rfl, _, rfl⟩
                              · go_wp2_with fail
                                go_roundw
                                case rel => exact ⟨1, by omega, by go_num, GK.out, .inl rfl⟩
                                case measure => simp [intOf]
                              · have hgeq : ((gg : Int) == (gg : Int)) = true := by simp
                                go_wp2_with fail
                                go_roundw
                                case rel => exact ⟨1, by omega, by go_num, GK.out, .inl rfl⟩
                                case measure => simp [intOf]
                            · obtain rfl : k = 1 := by omega
                              rcases his with rfl | ⟨_, h0, _⟩
                              · have GK := Lib.hid gk
                                clear gk
                                go_wp2_with fail
                                refine (HWK.out _).mono ?_
                                rintro e wz ⟨rfl, gz⟩
                                have GZ := Lib.hid ((G9.out.trans GK.out).trans gz)
                                clear gz
                                go_wp2_with fail
                                go_ret
                                exact ⟨rfl, GZ.out⟩
                              · cases h0
                        · have hgsi : ((gg : Int) == (sl : Int)) = false := by rw [beq_eq_false_iff_ne]; omega
                          have hge : gg = g' := (hgg.resolve_left hg0).resolve_left hgs
                          have HGE := Lib.hid hge
                          clear hgg hge
                          go_wp2_with fail
                          go_loopw [23, 24] (fun is i wq => ∃ k : Nat, k ≤ 1 ∧ i = .int .i64 (k : Nat) ∧ Frm (fun _ => False) w9 wq ∧ (is = .bool true ∨ (is = .bool false ∧ k = 0 ∧ gg = g'))) (fun _ i _ => 1 - (intOf i).toNat)
                          case atStart => exact ⟨0, by omega, rfl, Frm.refl _ _, .inr ⟨rfl, rfl, HGE.out⟩⟩
                          case round =>
                            obtain ⟨k, hk, rfl, gk, his⟩ := hrel
                            by_cases hk0 : k = 0
                            · subst hk0
                              have c9 := (World.cell?_of_block (a := ⟨gb, o, none⟩) (gk.block gb HU.out.1 (fun h => h))).trans HU.out.2
                              have GK := Lib.hid gk
                              clear gk
                              rcases his with rfl | ⟨rfl, _, rfl⟩
                              · go_wp2_with fail
                                go_roundw
                                case rel => exact ⟨1, by omega, by go_num, GK.out, .inl rfl⟩
                                case measure => simp [intOf]
                              · have hgeq : ((gg : Int) == (gg : Int)) = true := by simp
                                go_wp2_with fail
                                go_roundw
                                case rel => exact ⟨1, by omega, by go_num, GK.out, .inl rfl⟩
                                case measure => simp [intOf]
                            · obtain rfl : k = 1 := by omega
                              rcases his with rfl | ⟨_, h0, _⟩
                              · have GK := Lib.hid gk
                                clear gk
                                go_wp2_with fail
                                refine (HWK.out _).mono ?_
                                rintro e wz ⟨rfl, gz⟩
                                have GZ := Lib.hid ((G9.out.trans GK.out).trans gz)
                                clear gz
                                go_wp2_with fail
                                go_ret
                                exact ⟨rfl, GZ.out⟩
                              · cases h0
    · have h20i : (20 : Int) < (cs.length : Int) := by omega
      clear hfew hA hz hzz
      go_enter Tryz.func5, Tryz.ntmps5
      go_wp2_with fail
      refine HF.out.mono ?_
      rintro e w1 ⟨rfl, rfl⟩
      go_wp2_with fail
      refine (HWK.out _).mono ?_
      rintro e w1 ⟨rfl, g1⟩
      go_wp2_with fail
      go_ret
      exact ⟨rfl, g1⟩
end Go.Proofs.YtfbaleomhghjeaaGreat

