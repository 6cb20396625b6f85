/- LineAnswers: up to the act that cuts it, a line answers as one that is never cut; from then on it answers that it is down. No condition. -/
import Derived.Test.YtdhngbfigklaoaaLawLnCuts
namespace Go.Proofs.Ytdhngbfigklaoaa
open Go.RowKit Go.Shelf

theorem DevM.n256 {L L2 : LV} (h : L.D = L2.D) (q : Int) (s : List UInt8) : L.D.writeE q s = L2.D.writeE q s := by rw [h]
theorem PairL.both {w0 w w1 w2 : World} {l b f x : Nat} {L L' : LV} {l2 b2 f2 x2 : Nat} {L2 L2' : LV} (h : PairL w0 w l b f x L l2 b2 f2 x2 L2) (h1 : LnM w1 l b f x L') (hP : L'.P = L.P) (g1 : Frm (LnX l f x) w w1) (h2 : PairL w0 w1 l b f x L' l2 b2 f2 x2 L2 → LnM w2 l2 b2 f2 x2 L2') (hc : L2'.cs = L2.cs) (g2 : Frm (LnX l2 f2 x2) w1 w2) : PairL w0 w2 l b f x L' l2 b2 f2 x2 L2' :=
  (h.left h1 hP g1).right (h2 (h.left h1 hP g1)) hc g2
set_option maxRecDepth 100000 in
set_option maxHeartbeats 16000000 in
theorem lineAnswers_any (k : Nat) (v : Value) (cs : List Int) (v2 : Value) (A : List A3) (w : World) (hk : k < 256) (hz : Zs w v cs) (hzz : ∀ z ∈ cs, Z64 z) (hA : A3L w v2 A) :
    Calls Try.prog 6 #[.int .u8 (k : Nat), v, v2] w fun e w' => e = .returned (.bool true) ∧ Frm (fun _ => False) w w' := by
  obtain ⟨a, cap, rfl, hc1, hc2⟩ := hz.slice
  unfold maxLen at hc2
  have HF := few12_any v2 A w hA
  have HWK := Lib.hid (fun W => lnWorks_any W)
  cases hfew : few3 A with
  | false =>
    rw [hfew] at HF
    have HF := Lib.hid HF
    clear hfew hz hzz hA
    go_enter Try.func6, Try.ntmps6
    go_wp2_with fail
    refine HF.out.mono ?_
    rintro e w1 ⟨rfl, rfl⟩
    go_wp2_with fail
    refine (HWK.out _).mono ?_
    rintro e w1 ⟨rfl, g1⟩
    go_wp2_with fail
    go_ret
    exact ⟨rfl, g1⟩
  | true =>
    have hlen := few3_len hfew
    rw [hfew] at HF
    have HF := Lib.hid HF
    clear hfew
    by_cases h10 : cs.length ≤ 10
    · have h10i : ¬ (10 : Int) < (cs.length : Int) := by omega
      have hcl : cs.length ≤ 1000000 := by omega
      obtain ⟨n, hn⟩ : ∃ n, k % 70 = n := ⟨_, rfl⟩
      have hn70 : n < 70 := by omega
      have t1 : (k : Int) % 70 = (n : Int) := by omega
      have t1' : (k : Int).tmod 70 = (n : Int) := by rw [Int.tmod_eq_emod_of_nonneg (by omega)]; exact t1
      have t3 : IntKind.u8.wrap (n : Int) = (n : Int) := IntWalk.u8_in _ (by omega)
      have HV := Lib.hid (And.intro hz (And.intro hzz hcl))
      have HA := Lib.hid hA
      have HN := Lib.hid (new256 w)
      clear hz hzz hA hcl hn
      go_enter Try.func6, Try.ntmps6
      go_wp2_with fail
      refine HF.out.mono ?_
      rintro e w1 ⟨rfl, rfl⟩
      go_wp2_with fail
      refine HN.out.mono ?_
      rintro e w1 ⟨_, rfl, b, f, x, rfl, hd, hb, hf, hx, g1⟩
      have H1 := Lib.hid (And.intro hd (And.intro (And.intro hb (And.intro hf hx)) g1))
      have HL := Lib.hid (lnew_any b f x _ n _ cs w1 hd (by unfold Z64; omega) (HV.out.1.keepF g1) HV.out.2.1 HV.out.2.2 (fun g => w1.heap.size ≤ g) (fun _ h => h))
      clear hd hb hf hx g1 HN HF
      go_wp2_with fail
      refine HL.out.mono ?_
      rintro e w2 ⟨_, rfl, l, rfl, h3, hl, g3⟩
      have H3 := Lib.hid (And.intro h3 (And.intro hl g3))
      have HN2 := Lib.hid (new256 w2)
      clear h3 hl g3 HL
      go_wp2_with fail
      refine HN2.out.mono ?_
      rintro e w3 ⟨_, rfl, b2, f2, x2, rfl, hd, hb, hf, hx, g1⟩
      have H2 := Lib.hid (And.intro hd (And.intro (And.intro hb (And.intro hf hx)) g1))
      have HL := Lib.hid (lnew_any b2 f2 x2 _ (-1) _ [] w3 hd (by unfold Z64; decide) nil_zs (fun z hz => by cases hz) (by decide))
      clear hd hb hf hx g1 HN2
      go_wp2_with fail
      refine HL.out.mono ?_
      rintro e w4 ⟨_, rfl, l2, rfl, h4, hl, g4⟩
      have HP := Lib.hid (PairL.start2 H1.out.1 H1.out.2.1 H1.out.2.2 H3.out.1 H3.out.2.1 H3.out.2.2 H2.out.1 H2.out.2.1 H2.out.2.2 h4 hl g4)
      clear h4 hl g4 H1 H2 H3 HL
      obtain ⟨P, hP⟩ : ∃ P, (fun g => w1.heap.size ≤ g ∧ g < w2.heap.size) = P := ⟨_, rfl⟩
      rw [hP] at HP
      clear hP
      have hI0 : InvL n (LV.new (DV.new 256) n cs P) (LV.new (DV.new 256) (-1) []) := ⟨rfl, rfl, rfl, fun _ => ⟨rfl, rfl, rfl⟩, fun h => absurd h (Nat.not_lt_zero _)⟩
      have HP := Lib.hid (And.intro HP.out hI0)
      clear hI0
      have hq2 := ln_nil2
      obtain ⟨aA, capA, rfl, hA1, hA2⟩ := HA.out.slice
      unfold maxLen at hA2
      go_wp2_with fail
      clear hq2
      go_loopw [10] (fun i wr => ∃ j : Nat, j ≤ A.length ∧ i = .int .i64 (j : Nat) ∧ ∃ M M2 : LV, PairL w wr l b f x M l2 b2 f2 x2 M2 ∧ InvL n M M2 ∧ M2.acts ≤ j) (fun i _ => A.length - (intOf i).toNat)
      case atStart => exact ⟨0, Nat.zero_le _, rfl, _, _, HP.out.1, HP.out.2, Nat.le_refl _⟩
      case round =>
        obtain ⟨j, hj, rfl, M, M2, hP, hI, hMj⟩ := hrel
        clear HP
        by_cases hlt : j < A.length
        · obtain ⟨p, off, rfl, hp, c0, c1, c2⟩ := A3L.elem (show A3L wr (.slice _ A.length _) A from HA.out.keepF hP.frm) j hlt
          have hy := And.intro A[j].hk (And.intro A[j].hq A[j].hs)
          obtain ⟨y, hyy⟩ : ∃ y, A[j] = y := ⟨_, rfl⟩
          rw [hyy] at c0 c1 c2 hy
          have hk256 := hy.1
          have HY := Lib.hid hy
          obtain ⟨m, hmm⟩ : ∃ m, y.k % 5 = m := ⟨_, rfl⟩
          have hm6 : m < 5 := by omega
          have s1 : (y.k : Int) % 5 = (m : Int) := by omega
          have s1' : (y.k : Int).tmod 5 = (m : Int) := by rw [Int.tmod_eq_emod_of_nonneg (by omega)]; exact s1
          have s3 : IntKind.u8.wrap (m : Int) = (m : Int) := IntWalk.u8_in _ (by omega)
          have hji : (j : Int) < (A.length : Int) := by omega
          obtain ⟨N, hN⟩ : ∃ N, M2.acts = N := ⟨_, rfl⟩
          have hMa : M.acts ≤ 1000000 := by
            by_cases e : M2.acts ≤ n
            · have := (hI.ahead e).2.1; omega
            · have := (hI.over (by omega)).2; omega
          have hM2a : M2.acts ≤ 1000000 := by omega
          have HM := Lib.hid (And.intro hmm (And.intro hMa (And.intro hM2a hN)))
          have HPI := Lib.hid (And.intro hP hI)
          have hNj : N ≤ j := by omega
          have gw := (Frm.refl (fun _ => False) wr).alloc (.cells #[.int .u8 (y.k : Nat), .int .i64 y.q, .string (bs y.s)] 38)
          obtain ⟨W, hW⟩ : ∃ W, wr.alloc (.cells #[.int .u8 (y.k : Nat), .int .i64 y.q, .string (bs y.s)] 38) = W := ⟨_, rfl⟩
          have bW : Blk W wr.heap.size 38 #[.int .u8 (y.k : Nat), .int .i64 y.q, .string (bs y.s)] := by rw [← hW]; exact Blk.alloc wr _ _
          rw [hW] at gw
          have HW := Lib.hid (And.intro (hP.keepF gw) (And.intro gw bW))
          have hAC := lacts_any l2 b2 f2 x2 M2 W (hP.keepF gw).two
          rw [hN] at hAC
          have HAC := Lib.hid hAC
          clear hy hyy hmm hMa hM2a hN hP hI gw bW hAC hMj
          have a38 := Try.isAgg38
          have z38 := Try.sizeOf38
          rcases Nat.lt_trichotomy N n with hNn | hNn | hNn
          · -- A
            have q1 : ((N : Int) == (n : Int)) = false := by rw [beq_eq_false_iff_ne]; omega
            have q2 : ¬ (n : Int) < (N : Int) := by omega
            have q3 : decide ((n : Int) < (N : Int)) = false := decide_eq_false q2
            have q4 : decide (n < N) = false := decide_eq_false (by omega)
            have HNn := Lib.hid hNn
            clear hNn
            have hm5 : m = 0 ∨ m = 1 ∨ m = 2 ∨ m = 3 ∨ m = 4 := by omega
            rcases hm5 with rfl | rfl | rfl | rfl | rfl
            · clear s1 s1' s3 hm6
              have t1 : (y.k : Int) % 5 = 0 := by have := HM.out.1; omega
              have t1' : (y.k : Int).tmod 5 = 0 := by rw [Int.tmod_eq_emod_of_nonneg (by omega)]; exact t1
              have j0 := HW.out.2.2.cell 0 rfl
              have j1 := HW.out.2.2.cell 1 rfl
              have j2 := HW.out.2.2.cell 2 rfl
              go_wp2_with fail
              refine HAC.out.mono ?_
              rintro e ww ⟨rfl, rfl⟩
              go_wp2_with fail
              refine HAC.out.mono ?_
              rintro e ww ⟨rfl, rfl⟩
              go_wp2_with fail
              clear HAC
              have hE := lwrite_any l b f x M y.q y.s W HW.out.1.one HM.out.2.1 HY.out.2.1 HY.out.2.2
              rw [HPI.out.2.code1, if_pos (by rw [HM.out.2.2.2]; exact HNn.out)] at hE
              rw [(HPI.out.2.ahead (by rw [HM.out.2.2.2]; have := HNn.out; omega)).2.2] at hE
              obtain ⟨ce, hce⟩ : ∃ ce, M2.D.writeE y.q y.s = ce := ⟨_, rfl⟩
              rw [hce] at hE
              have HE := Lib.hid hE
              clear hE
              have HCE := Lib.hid hce
              clear hce
              refine HE.out.mono ?_
              rintro e wa ⟨rfl, ha, ga⟩
              rw [← (HPI.out.2.ahead (by rw [HM.out.2.2.2]; have := HNn.out; omega)).2.2] at ha
              have hact := HPI.out.2.act (fun D => D.writeTo y.q y.s)
              have hPa := HW.out.1.left ha hact.2.2.1 ga
              have hcell := hPa.frm
              have kb := HW.out.2.2.keep ga (by have := HW.out.1.o1; have := HPI.out.1.one.lt; unfold LnX; omega)
              have hE2 := lwrite_any l2 b2 f2 x2 M2 y.q y.s wa hPa.two HM.out.2.2.1 HY.out.2.1 HY.out.2.2
              rw [HPI.out.2.code2] at hE2
              rw [HCE.out] at hE2
              have HE2 := Lib.hid hE2
              have HA2 := Lib.hid (And.intro hPa (And.intro hact kb))
              clear hE2 ha ga hact hPa hcell HE
              have k1 := kb.cell 1 rfl
              have k2 := kb.cell 2 rfl
              clear kb
              go_wp2_with fail
              refine HE2.out.mono ?_
              rintro e wb ⟨rfl, hb, gb⟩
              have hPb := HA2.out.1.right hb HA2.out.2.1.2.2.2 gb
              have hacts : (M2.act ((fun D => D.writeTo y.q y.s) M2.D)).acts = N + 1 := by rw [HA2.out.2.1.2.1, HM.out.2.2.2]
              obtain ⟨M', hM'⟩ : ∃ M', M.act ((fun D => D.writeTo y.q y.s) M.D) = M' := ⟨_, rfl⟩
              obtain ⟨M2', hM2'⟩ : ∃ M2', M2.act ((fun D => D.writeTo y.q y.s) M2.D) = M2' := ⟨_, rfl⟩
              have hIb := HA2.out.2.1.1
              rw [hM', hM2'] at hIb
              rw [hM2'] at hacts
              have hPb : PairL w wb l b f x M' l2 b2 f2 x2 M2' := by rw [← hM', ← hM2']; exact hPb
              have hst := hIb.ahead (by rw [hacts]; have := HNn.out; omega)
              have hDN := ldown_any l b f x M' wb hPb.one
              rw [hst.1] at hDN
              have hAC1 := lacts_any l b f x M' wb hPb.one
              rw [hst.2.1, hacts] at hAC1
              have hAC2 := lacts_any l2 b2 f2 x2 M2' wb hPb.two
              rw [hacts] at hAC2
              have hcc : ((ce : Int) == (ce : Int)) = true := by rw [beq_iff_eq]
              have hnn : (((N + 1 : Nat) : Int) == ((N + 1 : Nat) : Int)) = true := by rw [beq_iff_eq]
              have HDN := Lib.hid hDN
              have HAC1 := Lib.hid hAC1
              have HAC2 := Lib.hid hAC2
              have HB := Lib.hid (And.intro hPb (And.intro hIb hacts))
              clear hst hDN hAC1 hAC2 hb gb hPb hacts hM' hM2' hIb HE2 HA2
              go_wp2_with fail
              refine HDN.out.mono ?_
              rintro e ww ⟨rfl, rfl⟩
              go_wp2_with fail
              refine HAC1.out.mono ?_
              rintro e ww ⟨rfl, rfl⟩
              go_wp2_with fail
              refine HAC2.out.mono ?_
              rintro e ww ⟨rfl, rfl⟩
              go_wp2_with fail
              go_roundw
              case rel => exact ⟨j + 1, by omega, by go_num, M', M2', HB.out.1, HB.out.2.1, by rw [HB.out.2.2]; omega⟩
              case measure => simp [intOf]; omega
            · clear s1 s1' s3 hm6
              have t1 : (y.k : Int) % 5 = 1 := by have := HM.out.1; omega
              have t1' : (y.k : Int).tmod 5 = 1 := by rw [Int.tmod_eq_emod_of_nonneg (by omega)]; exact t1
              have j0 := HW.out.2.2.cell 0 rfl
              have j1 := HW.out.2.2.cell 1 rfl
              have j2 := HW.out.2.2.cell 2 rfl
              go_wp2_with fail
              refine HAC.out.mono ?_
              rintro e ww ⟨rfl, rfl⟩
              go_wp2_with fail
              refine HAC.out.mono ?_
              rintro e ww ⟨rfl, rfl⟩
              go_wp2_with fail
              clear HAC
              have hE := lwrite_any l b f x M y.q y.s W HW.out.1.one HM.out.2.1 HY.out.2.1 HY.out.2.2
              rw [HPI.out.2.code1, if_pos (by rw [HM.out.2.2.2]; exact HNn.out)] at hE
              rw [(HPI.out.2.ahead (by rw [HM.out.2.2.2]; have := HNn.out; omega)).2.2] at hE
              obtain ⟨ce, hce⟩ : ∃ ce, M2.D.writeE y.q y.s = ce := ⟨_, rfl⟩
              rw [hce] at hE
              have HE := Lib.hid hE
              clear hE
              have HCE := Lib.hid hce
              clear hce
              refine HE.out.mono ?_
              rintro e wa ⟨rfl, ha, ga⟩
              rw [← (HPI.out.2.ahead (by rw [HM.out.2.2.2]; have := HNn.out; omega)).2.2] at ha
              have hact := HPI.out.2.act (fun D => D.writeTo y.q y.s)
              have hPa := HW.out.1.left ha hact.2.2.1 ga
              have hcell := hPa.frm
              have kb := HW.out.2.2.keep ga (by have := HW.out.1.o1; have := HPI.out.1.one.lt; unfold LnX; omega)
              have hE2 := lwrite_any l2 b2 f2 x2 M2 y.q y.s wa hPa.two HM.out.2.2.1 HY.out.2.1 HY.out.2.2
              rw [HPI.out.2.code2] at hE2
              rw [HCE.out] at hE2
              have HE2 := Lib.hid hE2
              have HA2 := Lib.hid (And.intro hPa (And.intro hact kb))
              clear hE2 ha ga hact hPa hcell HE
              have k1 := kb.cell 1 rfl
              have k2 := kb.cell 2 rfl
              clear kb
              go_wp2_with fail
              refine HE2.out.mono ?_
              rintro e wb ⟨rfl, hb, gb⟩
              have hPb := HA2.out.1.right hb HA2.out.2.1.2.2.2 gb
              have hacts : (M2.act ((fun D => D.writeTo y.q y.s) M2.D)).acts = N + 1 := by rw [HA2.out.2.1.2.1, HM.out.2.2.2]
              obtain ⟨M', hM'⟩ : ∃ M', M.act ((fun D => D.writeTo y.q y.s) M.D) = M' := ⟨_, rfl⟩
              obtain ⟨M2', hM2'⟩ : ∃ M2', M2.act ((fun D => D.writeTo y.q y.s) M2.D) = M2' := ⟨_, rfl⟩
              have hIb := HA2.out.2.1.1
              rw [hM', hM2'] at hIb
              rw [hM2'] at hacts
              have hPb : PairL w wb l b f x M' l2 b2 f2 x2 M2' := by rw [← hM', ← hM2']; exact hPb
              have hst := hIb.ahead (by rw [hacts]; have := HNn.out; omega)
              have hDN := ldown_any l b f x M' wb hPb.one
              rw [hst.1] at hDN
              have hAC1 := lacts_any l b f x M' wb hPb.one
              rw [hst.2.1, hacts] at hAC1
              have hAC2 := lacts_any l2 b2 f2 x2 M2' wb hPb.two
              rw [hacts] at hAC2
              have hcc : ((ce : Int) == (ce : Int)) = true := by rw [beq_iff_eq]
              have hnn : (((N + 1 : Nat) : Int) == ((N + 1 : Nat) : Int)) = true := by rw [beq_iff_eq]
              have HDN := Lib.hid hDN
              have HAC1 := Lib.hid hAC1
              have HAC2 := Lib.hid hAC2
              have HB := Lib.hid (And.intro hPb (And.intro hIb hacts))
              clear hst hDN hAC1 hAC2 hb gb hPb hacts hM' hM2' hIb HE2 HA2
              go_wp2_with fail
              refine HDN.out.mono ?_
              rintro e ww ⟨rfl, rfl⟩
              go_wp2_with fail
              refine HAC1.out.mono ?_
              rintro e ww ⟨rfl, rfl⟩
              go_wp2_with fail
              refine HAC2.out.mono ?_
              rintro e ww ⟨rfl, rfl⟩
              go_wp2_with fail
              go_roundw
              case rel => exact ⟨j + 1, by omega, by go_num, M', M2', HB.out.1, HB.out.2.1, by rw [HB.out.2.2]; omega⟩
              case measure => simp [intOf]; omega
            · clear s1 s1' s3 hm6
              have t1 : (y.k : Int) % 5 = 2 := by have := HM.out.1; omega
              have t1' : (y.k : Int).tmod 5 = 2 := by rw [Int.tmod_eq_emod_of_nonneg (by omega)]; exact t1
              have j0 := HW.out.2.2.cell 0 rfl
              have j1 := HW.out.2.2.cell 1 rfl
              have j2 := HW.out.2.2.cell 2 rfl
              go_wp2_with fail
              refine HAC.out.mono ?_
              rintro e ww ⟨rfl, rfl⟩
              go_wp2_with fail
              refine HAC.out.mono ?_
              rintro e ww ⟨rfl, rfl⟩
              go_wp2_with fail
              clear HAC
              have hE := lnflush_any l b f x M W HW.out.1.one HM.out.2.1
              rw [HPI.out.2.code1, if_pos (by rw [HM.out.2.2.2]; exact HNn.out)] at hE
              have HE := Lib.hid hE
              clear hE
              refine HE.out.mono ?_
              rintro e wa ⟨rfl, ha, ga⟩
              have hact := HPI.out.2.act (fun D => D.flush)
              have hPa := HW.out.1.left ha hact.2.2.1 ga
              have hcell := hPa.frm
              have kb := HW.out.2.2.keep ga (by have := HW.out.1.o1; have := HPI.out.1.one.lt; unfold LnX; omega)
              have hE2 := lnflush_any l2 b2 f2 x2 M2 wa hPa.two HM.out.2.2.1
              rw [HPI.out.2.code2] at hE2
              have HE2 := Lib.hid hE2
              have HA2 := Lib.hid (And.intro hPa (And.intro hact kb))
              clear hE2 ha ga hact hPa hcell HE
              clear kb
              go_wp2_with fail
              refine HE2.out.mono ?_
              rintro e wb ⟨rfl, hb, gb⟩
              have hPb := HA2.out.1.right hb HA2.out.2.1.2.2.2 gb
              have hacts : (M2.act ((fun D => D.flush) M2.D)).acts = N + 1 := by rw [HA2.out.2.1.2.1, HM.out.2.2.2]
              obtain ⟨M', hM'⟩ : ∃ M', M.act ((fun D => D.flush) M.D) = M' := ⟨_, rfl⟩
              obtain ⟨M2', hM2'⟩ : ∃ M2', M2.act ((fun D => D.flush) M2.D) = M2' := ⟨_, rfl⟩
              have hIb := HA2.out.2.1.1
              rw [hM', hM2'] at hIb
              rw [hM2'] at hacts
              have hPb : PairL w wb l b f x M' l2 b2 f2 x2 M2' := by rw [← hM', ← hM2']; exact hPb
              have hst := hIb.ahead (by rw [hacts]; have := HNn.out; omega)
              have hDN := ldown_any l b f x M' wb hPb.one
              rw [hst.1] at hDN
              have hAC1 := lacts_any l b f x M' wb hPb.one
              rw [hst.2.1, hacts] at hAC1
              have hAC2 := lacts_any l2 b2 f2 x2 M2' wb hPb.two
              rw [hacts] at hAC2
              have hnn : (((N + 1 : Nat) : Int) == ((N + 1 : Nat) : Int)) = true := by rw [beq_iff_eq]
              have HDN := Lib.hid hDN
              have HAC1 := Lib.hid hAC1
              have HAC2 := Lib.hid hAC2
              have HB := Lib.hid (And.intro hPb (And.intro hIb hacts))
              clear hst hDN hAC1 hAC2 hb gb hPb hacts hM' hM2' hIb HE2 HA2
              go_wp2_with fail
              refine HDN.out.mono ?_
              rintro e ww ⟨rfl, rfl⟩
              go_wp2_with fail
              refine HAC1.out.mono ?_
              rintro e ww ⟨rfl, rfl⟩
              go_wp2_with fail
              refine HAC2.out.mono ?_
              rintro e ww ⟨rfl, rfl⟩
              go_wp2_with fail
              go_roundw
              case rel => exact ⟨j + 1, by omega, by go_num, M', M2', HB.out.1, HB.out.2.1, by rw [HB.out.2.2]; omega⟩
              case measure => simp [intOf]; omega
            · clear s1 s1' s3 hm6
              have t1 : (y.k : Int) % 5 = 3 := by have := HM.out.1; omega
              have t1' : (y.k : Int).tmod 5 = 3 := by rw [Int.tmod_eq_emod_of_nonneg (by omega)]; exact t1
              have j0 := HW.out.2.2.cell 0 rfl
              have j1 := HW.out.2.2.cell 1 rfl
              have j2 := HW.out.2.2.cell 2 rfl
              go_wp2_with fail
              refine HAC.out.mono ?_
              rintro e ww ⟨rfl, rfl⟩
              go_wp2_with fail
              refine HAC.out.mono ?_
              rintro e ww ⟨rfl, rfl⟩
              go_wp2_with fail
              clear HAC
              have hR1 := lread_any l b f x M y.q W HW.out.1.one HY.out.2.1
              have hst := HPI.out.2.ahead (by rw [HM.out.2.2.2]; have := HNn.out; omega)
              rw [hst.1, hst.2.2] at hR1
              simp only [Bool.false_or, Bool.false_eq_true, if_false] at hR1
              obtain ⟨rs, hrs⟩ : ∃ rs, bs (if M2.D.bad y.q = true then [] else M2.D.read y.q.toNat) = rs := ⟨_, rfl⟩
              obtain ⟨re, hre⟩ : ∃ re : Int, (if M2.D.bad y.q = true then 2 else 0) = re := ⟨_, rfl⟩
              rw [hrs, hre] at hR1
              have HR1 := Lib.hid hR1
              have HRS := Lib.hid (And.intro hrs hre)
              clear hR1 hrs hre hst
              refine HR1.out.mono ?_
              rintro e wa ⟨rfl, ga⟩
              have hPa := HW.out.1.keepF ga
              have kb := HW.out.2.2.keep ga (fun h => h)
              have hR2 := lread_any l2 b2 f2 x2 M2 y.q wa hPa.two HY.out.2.1
              rw [HPI.out.2.live] at hR2
              simp only [Bool.false_or, Bool.false_eq_true, if_false] at hR2
              rw [HRS.out.1, HRS.out.2] at hR2
              have HR2 := Lib.hid hR2
              have HA2 := Lib.hid hPa
              have k1 := kb.cell 1 rfl
              clear hR2 ga hPa kb HR1
              go_wp2_with fail
              refine HR2.out.mono ?_
              rintro e wb ⟨rfl, gb⟩
              have hPb := HA2.out.keepF gb
              have hst := HPI.out.2.ahead (by rw [HM.out.2.2.2]; have := HNn.out; omega)
              have hDN := ldown_any l b f x M wb hPb.one
              rw [hst.1] at hDN
              have hAC1 := lacts_any l b f x M wb hPb.one
              rw [hst.2.1, HM.out.2.2.2] at hAC1
              have hAC2 := lacts_any l2 b2 f2 x2 M2 wb hPb.two
              rw [HM.out.2.2.2] at hAC2
              have hss : (rs.toList == rs.toList) = true := by rw [beq_iff_eq]
              have hee : (re == re) = true := by rw [beq_iff_eq]
              have hnn : ((N : Int) == (N : Int)) = true := by rw [beq_iff_eq]
              have HDN := Lib.hid hDN
              have HAC1 := Lib.hid hAC1
              have HAC2 := Lib.hid hAC2
              have HB := Lib.hid hPb
              clear hst hDN hAC1 hAC2 gb hPb HR2 HA2
              go_wp2_with fail
              refine HDN.out.mono ?_
              rintro e ww ⟨rfl, rfl⟩
              go_wp2_with fail
              refine HAC1.out.mono ?_
              rintro e ww ⟨rfl, rfl⟩
              go_wp2_with fail
              refine HAC2.out.mono ?_
              rintro e ww ⟨rfl, rfl⟩
              go_wp2_with fail
              go_roundw
              case rel => exact ⟨j + 1, by omega, by go_num, M, M2, HB.out, HPI.out.2, by rw [HM.out.2.2.2]; omega⟩
              case measure => simp [intOf]; omega
            · clear s1 s1' s3 hm6
              have t1 : (y.k : Int) % 5 = 4 := by have := HM.out.1; omega
              have t1' : (y.k : Int).tmod 5 = 4 := by rw [Int.tmod_eq_emod_of_nonneg (by omega)]; exact t1
              have j0 := HW.out.2.2.cell 0 rfl
              have j1 := HW.out.2.2.cell 1 rfl
              have j2 := HW.out.2.2.cell 2 rfl
              go_wp2_with fail
              refine HAC.out.mono ?_
              rintro e ww ⟨rfl, rfl⟩
              go_wp2_with fail
              refine HAC.out.mono ?_
              rintro e ww ⟨rfl, rfl⟩
              clear HAC
              go_wp2_with fail
              go_roundw
              case rel => exact ⟨j + 1, by omega, by go_num, M, M2, HW.out.1, HPI.out.2, by rw [HM.out.2.2.2]; omega⟩
              case measure => simp [intOf]; omega
          · -- B
            have q1 : ((N : Int) == (n : Int)) = true := by rw [beq_iff_eq]; omega
            have q2 : ¬ (n : Int) < (N : Int) := by omega
            have q3 : decide ((n : Int) < (N : Int)) = false := decide_eq_false q2
            have q4 : decide (n < N) = false := decide_eq_false (by omega)
            have HNn := Lib.hid hNn
            clear hNn
            have hm5 : m = 0 ∨ m = 1 ∨ m = 2 ∨ m = 3 ∨ m = 4 := by omega
            rcases hm5 with rfl | rfl | rfl | rfl | rfl
            · clear s1 s1' s3 hm6
              have t1 : (y.k : Int) % 5 = 0 := by have := HM.out.1; omega
              have t1' : (y.k : Int).tmod 5 = 0 := by rw [Int.tmod_eq_emod_of_nonneg (by omega)]; exact t1
              have j0 := HW.out.2.2.cell 0 rfl
              have j1 := HW.out.2.2.cell 1 rfl
              have j2 := HW.out.2.2.cell 2 rfl
              go_wp2_with fail
              refine HAC.out.mono ?_
              rintro e ww ⟨rfl, rfl⟩
              go_wp2_with fail
              clear HAC
              have hE := lwrite_any l b f x M y.q y.s W HW.out.1.one HM.out.2.1 HY.out.2.1 HY.out.2.2
              rw [HPI.out.2.code1, if_neg (by rw [HM.out.2.2.2]; have := HNn.out; omega)] at hE
              obtain ⟨ce, hce⟩ : ∃ ce, M2.D.writeE y.q y.s = ce := ⟨_, rfl⟩
              have HE := Lib.hid hE
              clear hE
              have HCE := Lib.hid hce
              clear hce
              refine HE.out.mono ?_
              rintro e wa ⟨rfl, ha, ga⟩
              have hact := HPI.out.2.act (fun D => D.writeTo y.q y.s)
              have hPa := HW.out.1.left ha hact.2.2.1 ga
              have hcell := hPa.frm
              have kb := HW.out.2.2.keep ga (by have := HW.out.1.o1; have := HPI.out.1.one.lt; unfold LnX; omega)
              have hE2 := lwrite_any l2 b2 f2 x2 M2 y.q y.s wa hPa.two HM.out.2.2.1 HY.out.2.1 HY.out.2.2
              rw [HPI.out.2.code2] at hE2
              rw [HCE.out] at hE2
              have HE2 := Lib.hid hE2
              have HA2 := Lib.hid (And.intro hPa (And.intro hact kb))
              clear hE2 ha ga hact hPa hcell HE
              have k1 := kb.cell 1 rfl
              have k2 := kb.cell 2 rfl
              clear kb
              go_wp2_with fail
              refine HE2.out.mono ?_
              rintro e wb ⟨rfl, hb, gb⟩
              have hPb := HA2.out.1.right hb HA2.out.2.1.2.2.2 gb
              have hacts : (M2.act ((fun D => D.writeTo y.q y.s) M2.D)).acts = N + 1 := by rw [HA2.out.2.1.2.1, HM.out.2.2.2]
              obtain ⟨M', hM'⟩ : ∃ M', M.act ((fun D => D.writeTo y.q y.s) M.D) = M' := ⟨_, rfl⟩
              obtain ⟨M2', hM2'⟩ : ∃ M2', M2.act ((fun D => D.writeTo y.q y.s) M2.D) = M2' := ⟨_, rfl⟩
              have hIb := HA2.out.2.1.1
              rw [hM', hM2'] at hIb
              rw [hM2'] at hacts
              have hPb : PairL w wb l b f x M' l2 b2 f2 x2 M2' := by rw [← hM', ← hM2']; exact hPb
              have hst := hIb.over (by rw [hacts]; have := HNn.out; omega)
              have hDN := ldown_any l b f x M' wb hPb.one
              rw [hst.1] at hDN
              have hAC1 := lacts_any l b f x M' wb hPb.one
              rw [hst.2, show ((n + 1 : Nat) : Int) = (n : Int) + 1 from by omega] at hAC1
              have hnn : ((n : Int) + 1 == (n : Int) + 1) = true := by rw [beq_iff_eq]
              have HDN := Lib.hid hDN
              have HAC1 := Lib.hid hAC1
              have HB := Lib.hid (And.intro hPb (And.intro hIb hacts))
              clear hst hDN hAC1 hb gb hPb hacts hM' hM2' hIb HE2 HA2
              go_wp2_with fail
              refine HDN.out.mono ?_
              rintro e ww ⟨rfl, rfl⟩
              go_wp2_with fail
              refine HAC1.out.mono ?_
              rintro e ww ⟨rfl, rfl⟩
              go_wp2_with fail
              go_roundw
              case rel => exact ⟨j + 1, by omega, by go_num, M', M2', HB.out.1, HB.out.2.1, by rw [HB.out.2.2]; omega⟩
              case measure => simp [intOf]; omega
            · clear s1 s1' s3 hm6
              have t1 : (y.k : Int) % 5 = 1 := by have := HM.out.1; omega
              have t1' : (y.k : Int).tmod 5 = 1 := by rw [Int.tmod_eq_emod_of_nonneg (by omega)]; exact t1
              have j0 := HW.out.2.2.cell 0 rfl
              have j1 := HW.out.2.2.cell 1 rfl
              have j2 := HW.out.2.2.cell 2 rfl
              go_wp2_with fail
              refine HAC.out.mono ?_
              rintro e ww ⟨rfl, rfl⟩
              go_wp2_with fail
              clear HAC
              have hE := lwrite_any l b f x M y.q y.s W HW.out.1.one HM.out.2.1 HY.out.2.1 HY.out.2.2
              rw [HPI.out.2.code1, if_neg (by rw [HM.out.2.2.2]; have := HNn.out; omega)] at hE
              obtain ⟨ce, hce⟩ : ∃ ce, M2.D.writeE y.q y.s = ce := ⟨_, rfl⟩
              have HE := Lib.hid hE
              clear hE
              have HCE := Lib.hid hce
              clear hce
              refine HE.out.mono ?_
              rintro e wa ⟨rfl, ha, ga⟩
              have hact := HPI.out.2.act (fun D => D.writeTo y.q y.s)
              have hPa := HW.out.1.left ha hact.2.2.1 ga
              have hcell := hPa.frm
              have kb := HW.out.2.2.keep ga (by have := HW.out.1.o1; have := HPI.out.1.one.lt; unfold LnX; omega)
              have hE2 := lwrite_any l2 b2 f2 x2 M2 y.q y.s wa hPa.two HM.out.2.2.1 HY.out.2.1 HY.out.2.2
              rw [HPI.out.2.code2] at hE2
              rw [HCE.out] at hE2
              have HE2 := Lib.hid hE2
              have HA2 := Lib.hid (And.intro hPa (And.intro hact kb))
              clear hE2 ha ga hact hPa hcell HE
              have k1 := kb.cell 1 rfl
              have k2 := kb.cell 2 rfl
              clear kb
              go_wp2_with fail
              refine HE2.out.mono ?_
              rintro e wb ⟨rfl, hb, gb⟩
              have hPb := HA2.out.1.right hb HA2.out.2.1.2.2.2 gb
              have hacts : (M2.act ((fun D => D.writeTo y.q y.s) M2.D)).acts = N + 1 := by rw [HA2.out.2.1.2.1, HM.out.2.2.2]
              obtain ⟨M', hM'⟩ : ∃ M', M.act ((fun D => D.writeTo y.q y.s) M.D) = M' := ⟨_, rfl⟩
              obtain ⟨M2', hM2'⟩ : ∃ M2', M2.act ((fun D => D.writeTo y.q y.s) M2.D) = M2' := ⟨_, rfl⟩
              have hIb := HA2.out.2.1.1
              rw [hM', hM2'] at hIb
              rw [hM2'] at hacts
              have hPb : PairL w wb l b f x M' l2 b2 f2 x2 M2' := by rw [← hM', ← hM2']; exact hPb
              have hst := hIb.over (by rw [hacts]; have := HNn.out; omega)
              have hDN := ldown_any l b f x M' wb hPb.one
              rw [hst.1] at hDN
              have hAC1 := lacts_any l b f x M' wb hPb.one
              rw [hst.2, show ((n + 1 : Nat) : Int) = (n : Int) + 1 from by omega] at hAC1
              have hnn : ((n : Int) + 1 == (n : Int) + 1) = true := by rw [beq_iff_eq]
              have HDN := Lib.hid hDN
              have HAC1 := Lib.hid hAC1
              have HB := Lib.hid (And.intro hPb (And.intro hIb hacts))
              clear hst hDN hAC1 hb gb hPb hacts hM' hM2' hIb HE2 HA2
              go_wp2_with fail
              refine HDN.out.mono ?_
              rintro e ww ⟨rfl, rfl⟩
              go_wp2_with fail
              refine HAC1.out.mono ?_
              rintro e ww ⟨rfl, rfl⟩
              go_wp2_with fail
              go_roundw
              case rel => exact ⟨j + 1, by omega, by go_num, M', M2', HB.out.1, HB.out.2.1, by rw [HB.out.2.2]; omega⟩
              case measure => simp [intOf]; omega
            · clear s1 s1' s3 hm6
              have t1 : (y.k : Int) % 5 = 2 := by have := HM.out.1; omega
              have t1' : (y.k : Int).tmod 5 = 2 := by rw [Int.tmod_eq_emod_of_nonneg (by omega)]; exact t1
              have j0 := HW.out.2.2.cell 0 rfl
              have j1 := HW.out.2.2.cell 1 rfl
              have j2 := HW.out.2.2.cell 2 rfl
              go_wp2_with fail
              refine HAC.out.mono ?_
              rintro e ww ⟨rfl, rfl⟩
              go_wp2_with fail
              clear HAC
              have hE := lnflush_any l b f x M W HW.out.1.one HM.out.2.1
              rw [HPI.out.2.code1, if_neg (by rw [HM.out.2.2.2]; have := HNn.out; omega)] at hE
              have HE := Lib.hid hE
              clear hE
              refine HE.out.mono ?_
              rintro e wa ⟨rfl, ha, ga⟩
              have hact := HPI.out.2.act (fun D => D.flush)
              have hPa := HW.out.1.left ha hact.2.2.1 ga
              have hcell := hPa.frm
              have kb := HW.out.2.2.keep ga (by have := HW.out.1.o1; have := HPI.out.1.one.lt; unfold LnX; omega)
              have hE2 := lnflush_any l2 b2 f2 x2 M2 wa hPa.two HM.out.2.2.1
              rw [HPI.out.2.code2] at hE2
              have HE2 := Lib.hid hE2
              have HA2 := Lib.hid (And.intro hPa (And.intro hact kb))
              clear hE2 ha ga hact hPa hcell HE
              clear kb
              go_wp2_with fail
              refine HE2.out.mono ?_
              rintro e wb ⟨rfl, hb, gb⟩
              have hPb := HA2.out.1.right hb HA2.out.2.1.2.2.2 gb
              have hacts : (M2.act ((fun D => D.flush) M2.D)).acts = N + 1 := by rw [HA2.out.2.1.2.1, HM.out.2.2.2]
              obtain ⟨M', hM'⟩ : ∃ M', M.act ((fun D => D.flush) M.D) = M' := ⟨_, rfl⟩
              obtain ⟨M2', hM2'⟩ : ∃ M2', M2.act ((fun D => D.flush) M2.D) = M2' := ⟨_, rfl⟩
              have hIb := HA2.out.2.1.1
              rw [hM', hM2'] at hIb
              rw [hM2'] at hacts
              have hPb : PairL w wb l b f x M' l2 b2 f2 x2 M2' := by rw [← hM', ← hM2']; exact hPb
              have hst := hIb.over (by rw [hacts]; have := HNn.out; omega)
              have hDN := ldown_any l b f x M' wb hPb.one
              rw [hst.1] at hDN
              have hAC1 := lacts_any l b f x M' wb hPb.one
              rw [hst.2, show ((n + 1 : Nat) : Int) = (n : Int) + 1 from by omega] at hAC1
              have hnn : ((n : Int) + 1 == (n : Int) + 1) = true := by rw [beq_iff_eq]
              have HDN := Lib.hid hDN
              have HAC1 := Lib.hid hAC1
              have HB := Lib.hid (And.intro hPb (And.intro hIb hacts))
              clear hst hDN hAC1 hb gb hPb hacts hM' hM2' hIb HE2 HA2
              go_wp2_with fail
              refine HDN.out.mono ?_
              rintro e ww ⟨rfl, rfl⟩
              go_wp2_with fail
              refine HAC1.out.mono ?_
              rintro e ww ⟨rfl, rfl⟩
              go_wp2_with fail
              go_roundw
              case rel => exact ⟨j + 1, by omega, by go_num, M', M2', HB.out.1, HB.out.2.1, by rw [HB.out.2.2]; omega⟩
              case measure => simp [intOf]; omega
            · clear s1 s1' s3 hm6
              have t1 : (y.k : Int) % 5 = 3 := by have := HM.out.1; omega
              have t1' : (y.k : Int).tmod 5 = 3 := by rw [Int.tmod_eq_emod_of_nonneg (by omega)]; exact t1
              have j0 := HW.out.2.2.cell 0 rfl
              have j1 := HW.out.2.2.cell 1 rfl
              have j2 := HW.out.2.2.cell 2 rfl
              go_wp2_with fail
              refine HAC.out.mono ?_
              rintro e ww ⟨rfl, rfl⟩
              go_wp2_with fail
              refine HAC.out.mono ?_
              rintro e ww ⟨rfl, rfl⟩
              go_wp2_with fail
              clear HAC
              have hR1 := lread_any l b f x M y.q W HW.out.1.one HY.out.2.1
              have hst := HPI.out.2.ahead (by rw [HM.out.2.2.2]; have := HNn.out; omega)
              rw [hst.1, hst.2.2] at hR1
              simp only [Bool.false_or, Bool.false_eq_true, if_false] at hR1
              obtain ⟨rs, hrs⟩ : ∃ rs, bs (if M2.D.bad y.q = true then [] else M2.D.read y.q.toNat) = rs := ⟨_, rfl⟩
              obtain ⟨re, hre⟩ : ∃ re : Int, (if M2.D.bad y.q = true then 2 else 0) = re := ⟨_, rfl⟩
              rw [hrs, hre] at hR1
              have HR1 := Lib.hid hR1
              have HRS := Lib.hid (And.intro hrs hre)
              clear hR1 hrs hre hst
              refine HR1.out.mono ?_
              rintro e wa ⟨rfl, ga⟩
              have hPa := HW.out.1.keepF ga
              have kb := HW.out.2.2.keep ga (fun h => h)
              have hR2 := lread_any l2 b2 f2 x2 M2 y.q wa hPa.two HY.out.2.1
              rw [HPI.out.2.live] at hR2
              simp only [Bool.false_or, Bool.false_eq_true, if_false] at hR2
              rw [HRS.out.1, HRS.out.2] at hR2
              have HR2 := Lib.hid hR2
              have HA2 := Lib.hid hPa
              have k1 := kb.cell 1 rfl
              clear hR2 ga hPa kb HR1
              go_wp2_with fail
              refine HR2.out.mono ?_
              rintro e wb ⟨rfl, gb⟩
              have hPb := HA2.out.keepF gb
              have hst := HPI.out.2.ahead (by rw [HM.out.2.2.2]; have := HNn.out; omega)
              have hDN := ldown_any l b f x M wb hPb.one
              rw [hst.1] at hDN
              have hAC1 := lacts_any l b f x M wb hPb.one
              rw [hst.2.1, HM.out.2.2.2] at hAC1
              have hAC2 := lacts_any l2 b2 f2 x2 M2 wb hPb.two
              rw [HM.out.2.2.2] at hAC2
              have hss : (rs.toList == rs.toList) = true := by rw [beq_iff_eq]
              have hee : (re == re) = true := by rw [beq_iff_eq]
              have hnn : ((N : Int) == (N : Int)) = true := by rw [beq_iff_eq]
              have HDN := Lib.hid hDN
              have HAC1 := Lib.hid hAC1
              have HAC2 := Lib.hid hAC2
              have HB := Lib.hid hPb
              clear hst hDN hAC1 hAC2 gb hPb HR2 HA2
              go_wp2_with fail
              refine HDN.out.mono ?_
              rintro e ww ⟨rfl, rfl⟩
              go_wp2_with fail
              refine HAC1.out.mono ?_
              rintro e ww ⟨rfl, rfl⟩
              go_wp2_with fail
              refine HAC2.out.mono ?_
              rintro e ww ⟨rfl, rfl⟩
              go_wp2_with fail
              go_roundw
              case rel => exact ⟨j + 1, by omega, by go_num, M, M2, HB.out, HPI.out.2, by rw [HM.out.2.2.2]; omega⟩
              case measure => simp [intOf]; omega
            · clear s1 s1' s3 hm6
              have t1 : (y.k : Int) % 5 = 4 := by have := HM.out.1; omega
              have t1' : (y.k : Int).tmod 5 = 4 := by rw [Int.tmod_eq_emod_of_nonneg (by omega)]; exact t1
              have j0 := HW.out.2.2.cell 0 rfl
              have j1 := HW.out.2.2.cell 1 rfl
              have j2 := HW.out.2.2.cell 2 rfl
              go_wp2_with fail
              refine HAC.out.mono ?_
              rintro e ww ⟨rfl, rfl⟩
              go_wp2_with fail
              refine HAC.out.mono ?_
              rintro e ww ⟨rfl, rfl⟩
              clear HAC
              go_wp2_with fail
              go_roundw
              case rel => exact ⟨j + 1, by omega, by go_num, M, M2, HW.out.1, HPI.out.2, by rw [HM.out.2.2.2]; omega⟩
              case measure => simp [intOf]; omega
          · -- C
            have q1 : ((N : Int) == (n : Int)) = false := by rw [beq_eq_false_iff_ne]; omega
            have q2 : (n : Int) < (N : Int) := by omega
            have q3 : decide ((n : Int) < (N : Int)) = true := decide_eq_true q2
            have q4 : decide (n < N) = true := decide_eq_true (by omega)
            have HNn := Lib.hid hNn
            clear hNn
            have hm5 : m = 0 ∨ m = 1 ∨ m = 2 ∨ m = 3 ∨ m = 4 := by omega
            rcases hm5 with rfl | rfl | rfl | rfl | rfl
            · clear s1 s1' s3 hm6
              have t1 : (y.k : Int) % 5 = 0 := by have := HM.out.1; omega
              have t1' : (y.k : Int).tmod 5 = 0 := by rw [Int.tmod_eq_emod_of_nonneg (by omega)]; exact t1
              have j0 := HW.out.2.2.cell 0 rfl
              have j1 := HW.out.2.2.cell 1 rfl
              have j2 := HW.out.2.2.cell 2 rfl
              go_wp2_with fail
              refine HAC.out.mono ?_
              rintro e ww ⟨rfl, rfl⟩
              go_wp2_with fail
              refine HAC.out.mono ?_
              rintro e ww ⟨rfl, rfl⟩
              go_wp2_with fail
              clear HAC
              have hE := lwrite_any l b f x M y.q y.s W HW.out.1.one HM.out.2.1 HY.out.2.1 HY.out.2.2
              rw [HPI.out.2.code1, if_neg (by rw [HM.out.2.2.2]; have := HNn.out; omega)] at hE
              obtain ⟨ce, hce⟩ : ∃ ce, M2.D.writeE y.q y.s = ce := ⟨_, rfl⟩
              have HE := Lib.hid hE
              clear hE
              have HCE := Lib.hid hce
              clear hce
              refine HE.out.mono ?_
              rintro e wa ⟨rfl, ha, ga⟩
              have hact := HPI.out.2.act (fun D => D.writeTo y.q y.s)
              have hPa := HW.out.1.left ha hact.2.2.1 ga
              have hcell := hPa.frm
              have kb := HW.out.2.2.keep ga (by have := HW.out.1.o1; have := HPI.out.1.one.lt; unfold LnX; omega)
              have hE2 := lwrite_any l2 b2 f2 x2 M2 y.q y.s wa hPa.two HM.out.2.2.1 HY.out.2.1 HY.out.2.2
              rw [HPI.out.2.code2] at hE2
              rw [HCE.out] at hE2
              have HE2 := Lib.hid hE2
              have HA2 := Lib.hid (And.intro hPa (And.intro hact kb))
              clear hE2 ha ga hact hPa hcell HE
              have k1 := kb.cell 1 rfl
              have k2 := kb.cell 2 rfl
              clear kb
              go_wp2_with fail
              refine HE2.out.mono ?_
              rintro e wb ⟨rfl, hb, gb⟩
              have hPb := HA2.out.1.right hb HA2.out.2.1.2.2.2 gb
              have hacts : (M2.act ((fun D => D.writeTo y.q y.s) M2.D)).acts = N + 1 := by rw [HA2.out.2.1.2.1, HM.out.2.2.2]
              obtain ⟨M', hM'⟩ : ∃ M', M.act ((fun D => D.writeTo y.q y.s) M.D) = M' := ⟨_, rfl⟩
              obtain ⟨M2', hM2'⟩ : ∃ M2', M2.act ((fun D => D.writeTo y.q y.s) M2.D) = M2' := ⟨_, rfl⟩
              have hIb := HA2.out.2.1.1
              rw [hM', hM2'] at hIb
              rw [hM2'] at hacts
              have hPb : PairL w wb l b f x M' l2 b2 f2 x2 M2' := by rw [← hM', ← hM2']; exact hPb
              have hst := hIb.over (by rw [hacts]; have := HNn.out; omega)
              have hDN := ldown_any l b f x M' wb hPb.one
              rw [hst.1] at hDN
              have hAC1 := lacts_any l b f x M' wb hPb.one
              rw [hst.2, show ((n + 1 : Nat) : Int) = (n : Int) + 1 from by omega] at hAC1
              have hnn : ((n : Int) + 1 == (n : Int) + 1) = true := by rw [beq_iff_eq]
              have HDN := Lib.hid hDN
              have HAC1 := Lib.hid hAC1
              have HB := Lib.hid (And.intro hPb (And.intro hIb hacts))
              clear hst hDN hAC1 hb gb hPb hacts hM' hM2' hIb HE2 HA2
              go_wp2_with fail
              refine HDN.out.mono ?_
              rintro e ww ⟨rfl, rfl⟩
              go_wp2_with fail
              refine HAC1.out.mono ?_
              rintro e ww ⟨rfl, rfl⟩
              go_wp2_with fail
              go_roundw
              case rel => exact ⟨j + 1, by omega, by go_num, M', M2', HB.out.1, HB.out.2.1, by rw [HB.out.2.2]; omega⟩
              case measure => simp [intOf]; omega
            · clear s1 s1' s3 hm6
              have t1 : (y.k : Int) % 5 = 1 := by have := HM.out.1; omega
              have t1' : (y.k : Int).tmod 5 = 1 := by rw [Int.tmod_eq_emod_of_nonneg (by omega)]; exact t1
              have j0 := HW.out.2.2.cell 0 rfl
              have j1 := HW.out.2.2.cell 1 rfl
              have j2 := HW.out.2.2.cell 2 rfl
              go_wp2_with fail
              refine HAC.out.mono ?_
              rintro e ww ⟨rfl, rfl⟩
              go_wp2_with fail
              refine HAC.out.mono ?_
              rintro e ww ⟨rfl, rfl⟩
              go_wp2_with fail
              clear HAC
              have hE := lwrite_any l b f x M y.q y.s W HW.out.1.one HM.out.2.1 HY.out.2.1 HY.out.2.2
              rw [HPI.out.2.code1, if_neg (by rw [HM.out.2.2.2]; have := HNn.out; omega)] at hE
              obtain ⟨ce, hce⟩ : ∃ ce, M2.D.writeE y.q y.s = ce := ⟨_, rfl⟩
              have HE := Lib.hid hE
              clear hE
              have HCE := Lib.hid hce
              clear hce
              refine HE.out.mono ?_
              rintro e wa ⟨rfl, ha, ga⟩
              have hact := HPI.out.2.act (fun D => D.writeTo y.q y.s)
              have hPa := HW.out.1.left ha hact.2.2.1 ga
              have hcell := hPa.frm
              have kb := HW.out.2.2.keep ga (by have := HW.out.1.o1; have := HPI.out.1.one.lt; unfold LnX; omega)
              have hE2 := lwrite_any l2 b2 f2 x2 M2 y.q y.s wa hPa.two HM.out.2.2.1 HY.out.2.1 HY.out.2.2
              rw [HPI.out.2.code2] at hE2
              rw [HCE.out] at hE2
              have HE2 := Lib.hid hE2
              have HA2 := Lib.hid (And.intro hPa (And.intro hact kb))
              clear hE2 ha ga hact hPa hcell HE
              have k1 := kb.cell 1 rfl
              have k2 := kb.cell 2 rfl
              clear kb
              go_wp2_with fail
              refine HE2.out.mono ?_
              rintro e wb ⟨rfl, hb, gb⟩
              have hPb := HA2.out.1.right hb HA2.out.2.1.2.2.2 gb
              have hacts : (M2.act ((fun D => D.writeTo y.q y.s) M2.D)).acts = N + 1 := by rw [HA2.out.2.1.2.1, HM.out.2.2.2]
              obtain ⟨M', hM'⟩ : ∃ M', M.act ((fun D => D.writeTo y.q y.s) M.D) = M' := ⟨_, rfl⟩
              obtain ⟨M2', hM2'⟩ : ∃ M2', M2.act ((fun D => D.writeTo y.q y.s) M2.D) = M2' := ⟨_, rfl⟩
              have hIb := HA2.out.2.1.1
              rw [hM', hM2'] at hIb
              rw [hM2'] at hacts
              have hPb : PairL w wb l b f x M' l2 b2 f2 x2 M2' := by rw [← hM', ← hM2']; exact hPb
              have hst := hIb.over (by rw [hacts]; have := HNn.out; omega)
              have hDN := ldown_any l b f x M' wb hPb.one
              rw [hst.1] at hDN
              have hAC1 := lacts_any l b f x M' wb hPb.one
              rw [hst.2, show ((n + 1 : Nat) : Int) = (n : Int) + 1 from by omega] at hAC1
              have hnn : ((n : Int) + 1 == (n : Int) + 1) = true := by rw [beq_iff_eq]
              have HDN := Lib.hid hDN
              have HAC1 := Lib.hid hAC1
              have HB := Lib.hid (And.intro hPb (And.intro hIb hacts))
              clear hst hDN hAC1 hb gb hPb hacts hM' hM2' hIb HE2 HA2
              go_wp2_with fail
              refine HDN.out.mono ?_
              rintro e ww ⟨rfl, rfl⟩
              go_wp2_with fail
              refine HAC1.out.mono ?_
              rintro e ww ⟨rfl, rfl⟩
              go_wp2_with fail
              go_roundw
              case rel => exact ⟨j + 1, by omega, by go_num, M', M2', HB.out.1, HB.out.2.1, by rw [HB.out.2.2]; omega⟩
              case measure => simp [intOf]; omega
            · clear s1 s1' s3 hm6
              have t1 : (y.k : Int) % 5 = 2 := by have := HM.out.1; omega
              have t1' : (y.k : Int).tmod 5 = 2 := by rw [Int.tmod_eq_emod_of_nonneg (by omega)]; exact t1
              have j0 := HW.out.2.2.cell 0 rfl
              have j1 := HW.out.2.2.cell 1 rfl
              have j2 := HW.out.2.2.cell 2 rfl
              go_wp2_with fail
              refine HAC.out.mono ?_
              rintro e ww ⟨rfl, rfl⟩
              go_wp2_with fail
              refine HAC.out.mono ?_
              rintro e ww ⟨rfl, rfl⟩
              go_wp2_with fail
              clear HAC
              have hE := lnflush_any l b f x M W HW.out.1.one HM.out.2.1
              rw [HPI.out.2.code1, if_neg (by rw [HM.out.2.2.2]; have := HNn.out; omega)] at hE
              have HE := Lib.hid hE
              clear hE
              refine HE.out.mono ?_
              rintro e wa ⟨rfl, ha, ga⟩
              have hact := HPI.out.2.act (fun D => D.flush)
              have hPa := HW.out.1.left ha hact.2.2.1 ga
              have hcell := hPa.frm
              have kb := HW.out.2.2.keep ga (by have := HW.out.1.o1; have := HPI.out.1.one.lt; unfold LnX; omega)
              have hE2 := lnflush_any l2 b2 f2 x2 M2 wa hPa.two HM.out.2.2.1
              rw [HPI.out.2.code2] at hE2
              have HE2 := Lib.hid hE2
              have HA2 := Lib.hid (And.intro hPa (And.intro hact kb))
              clear hE2 ha ga hact hPa hcell HE
              clear kb
              go_wp2_with fail
              refine HE2.out.mono ?_
              rintro e wb ⟨rfl, hb, gb⟩
              have hPb := HA2.out.1.right hb HA2.out.2.1.2.2.2 gb
              have hacts : (M2.act ((fun D => D.flush) M2.D)).acts = N + 1 := by rw [HA2.out.2.1.2.1, HM.out.2.2.2]
              obtain ⟨M', hM'⟩ : ∃ M', M.act ((fun D => D.flush) M.D) = M' := ⟨_, rfl⟩
              obtain ⟨M2', hM2'⟩ : ∃ M2', M2.act ((fun D => D.flush) M2.D) = M2' := ⟨_, rfl⟩
              have hIb := HA2.out.2.1.1
              rw [hM', hM2'] at hIb
              rw [hM2'] at hacts
              have hPb : PairL w wb l b f x M' l2 b2 f2 x2 M2' := by rw [← hM', ← hM2']; exact hPb
              have hst := hIb.over (by rw [hacts]; have := HNn.out; omega)
              have hDN := ldown_any l b f x M' wb hPb.one
              rw [hst.1] at hDN
              have hAC1 := lacts_any l b f x M' wb hPb.one
              rw [hst.2, show ((n + 1 : Nat) : Int) = (n : Int) + 1 from by omega] at hAC1
              have hnn : ((n : Int) + 1 == (n : Int) + 1) = true := by rw [beq_iff_eq]
              have HDN := Lib.hid hDN
              have HAC1 := Lib.hid hAC1
              have HB := Lib.hid (And.intro hPb (And.intro hIb hacts))
              clear hst hDN hAC1 hb gb hPb hacts hM' hM2' hIb HE2 HA2
              go_wp2_with fail
              refine HDN.out.mono ?_
              rintro e ww ⟨rfl, rfl⟩
              go_wp2_with fail
              refine HAC1.out.mono ?_
              rintro e ww ⟨rfl, rfl⟩
              go_wp2_with fail
              go_roundw
              case rel => exact ⟨j + 1, by omega, by go_num, M', M2', HB.out.1, HB.out.2.1, by rw [HB.out.2.2]; omega⟩
              case measure => simp [intOf]; omega
            · clear s1 s1' s3 hm6
              have t1 : (y.k : Int) % 5 = 3 := by have := HM.out.1; omega
              have t1' : (y.k : Int).tmod 5 = 3 := by rw [Int.tmod_eq_emod_of_nonneg (by omega)]; exact t1
              have j0 := HW.out.2.2.cell 0 rfl
              have j1 := HW.out.2.2.cell 1 rfl
              have j2 := HW.out.2.2.cell 2 rfl
              go_wp2_with fail
              refine HAC.out.mono ?_
              rintro e ww ⟨rfl, rfl⟩
              go_wp2_with fail
              refine HAC.out.mono ?_
              rintro e ww ⟨rfl, rfl⟩
              go_wp2_with fail
              clear HAC
              have hR1 := lread_any l b f x M y.q W HW.out.1.one HY.out.2.1
              rw [(HPI.out.2.over (by rw [HM.out.2.2.2]; exact HNn.out)).1] at hR1
              simp only [Bool.true_or, if_true] at hR1
              obtain ⟨rs, hrs⟩ : ∃ rs, bs (if M2.D.bad y.q = true then [] else M2.D.read y.q.toNat) = rs := ⟨_, rfl⟩
              obtain ⟨re, hre⟩ : ∃ re : Int, (if M2.D.bad y.q = true then 2 else 0) = re := ⟨_, rfl⟩
              have HR1 := Lib.hid hR1
              have HRS := Lib.hid (And.intro hrs hre)
              clear hR1 hrs hre
              refine HR1.out.mono ?_
              rintro e wa ⟨rfl, ga⟩
              have hPa := HW.out.1.keepF ga
              have kb := HW.out.2.2.keep ga (fun h => h)
              have hR2 := lread_any l2 b2 f2 x2 M2 y.q wa hPa.two HY.out.2.1
              rw [HPI.out.2.live] at hR2
              simp only [Bool.false_or, Bool.false_eq_true, if_false] at hR2
              rw [HRS.out.1, HRS.out.2] at hR2
              have HR2 := Lib.hid hR2
              have HA2 := Lib.hid hPa
              have k1 := kb.cell 1 rfl
              clear hR2 ga hPa kb HR1
              go_wp2_with fail
              refine HR2.out.mono ?_
              rintro e wb ⟨rfl, gb⟩
              have hPb := HA2.out.keepF gb
              have hst := HPI.out.2.over (by rw [HM.out.2.2.2]; exact HNn.out)
              have hDN := ldown_any l b f x M wb hPb.one
              rw [hst.1] at hDN
              have hAC1 := lacts_any l b f x M wb hPb.one
              rw [hst.2, show ((n + 1 : Nat) : Int) = (n : Int) + 1 from by omega] at hAC1
              have hnn : ((n : Int) + 1 == (n : Int) + 1) = true := by rw [beq_iff_eq]
              have hnl : (bs []).toList = [] := by rw [bs_toList]
              have HDN := Lib.hid hDN
              have HAC1 := Lib.hid hAC1
              have HB := Lib.hid hPb
              clear hst hDN hAC1 gb hPb HR2 HA2
              go_wp2_with fail
              refine HDN.out.mono ?_
              rintro e ww ⟨rfl, rfl⟩
              go_wp2_with fail
              refine HAC1.out.mono ?_
              rintro e ww ⟨rfl, rfl⟩
              go_wp2_with fail
              go_roundw
              case rel => exact ⟨j + 1, by omega, by go_num, M, M2, HB.out, HPI.out.2, by rw [HM.out.2.2.2]; omega⟩
              case measure => simp [intOf]; omega
            · clear s1 s1' s3 hm6
              have t1 : (y.k : Int) % 5 = 4 := by have := HM.out.1; omega
              have t1' : (y.k : Int).tmod 5 = 4 := by rw [Int.tmod_eq_emod_of_nonneg (by omega)]; exact t1
              have j0 := HW.out.2.2.cell 0 rfl
              have j1 := HW.out.2.2.cell 1 rfl
              have j2 := HW.out.2.2.cell 2 rfl
              go_wp2_with fail
              refine HAC.out.mono ?_
              rintro e ww ⟨rfl, rfl⟩
              go_wp2_with fail
              refine HAC.out.mono ?_
              rintro e ww ⟨rfl, rfl⟩
              clear HAC
              go_wp2_with fail
              go_roundw
              case rel => exact ⟨j + 1, by omega, by go_num, M, M2, HW.out.1, HPI.out.2, by rw [HM.out.2.2.2]; omega⟩
              case measure => simp [intOf]; omega
        · obtain rfl : j = A.length := by omega
          have HP := Lib.hid hP
          clear hP hI
          go_wp2_with fail
          refine (HWK.out _).mono ?_
          rintro e w9 ⟨rfl, g9⟩
          have G9 := Lib.hid (HP.out.frm.trans g9)
          clear g9
          go_wp2_with fail
          go_ret
          exact ⟨rfl, G9.out⟩
    · have h10i : (10 : Int) < (cs.length : Int) := by omega
      clear h10 hz hzz hA
      go_enter Try.func6, Try.ntmps6
      go_wp2_with fail
      refine HF.out.mono ?_
      rintro e w1 ⟨rfl, rfl⟩
      go_wp2_with fail
      refine (HWK.out _).mono ?_
      rintro e w1 ⟨rfl, g1⟩
      go_wp2_with fail
      go_ret
      exact ⟨rfl, g1⟩
end Go.Proofs.Ytdhngbfigklaoaa
