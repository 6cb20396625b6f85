/- LineCuts: the device of a line that was cut by an act is as one on which the acts ahead were done, and which crashed then. No condition. -/
import Derived.Test.YtdhngbfigklaoaaLnJ
namespace Go.Proofs.Ytdhngbfigklaoaa
open Go.RowKit Go.Shelf

theorem dev_nil2 (w : World) (a : Addr) : (binOp .eql 26 (.pointer (some a)) (.pointer none)).run Try.prog w = .ok (.bool false) w := by
  have h : ∀ d : Nat, (Op.equalIn (d + 1) 26 (.pointer (some a)) (.pointer none)).run Try.prog w = .ok false w := fun d => by
    simp [Op.equalIn, run_underlying Try.underlying26]
  simp only [binOp]
  simp [Op.equal, Op.maxDepth, h 9999]
theorem ln_nil2 (w : World) (a : Addr) : (binOp .eql 28 (.pointer (some a)) (.pointer none)).run Try.prog w = .ok (.bool false) w := by
  have h : ∀ d : Nat, (Op.equalIn (d + 1) 28 (.pointer (some a)) (.pointer none)).run Try.prog w = .ok false w := fun d => by
    simp [Op.equalIn, run_underlying Try.underlying28]
  simp only [binOp]
  simp [Op.equal, Op.maxDepth, h 9999]
theorem nil_zs {w : World} : Zs w (.slice none 0 0) [] := Sl.nil_ w 1 none 0 (by decide)
theorem crash_n (D : DV) (cs : List Int) : (D.crash cs).n = D.n := rfl
set_option maxRecDepth 100000 in
set_option maxHeartbeats 8000000 in
theorem lineCuts_any (k : Nat) (v : Value) (cs : List Int) (v2 : Value) (A : List A3) (w : World) (hk : k < 256) (hz : Zs w v cs) (hzz : ∀ z ∈ cs, Z64 z) (hA : A3L w v2 A) :
    Calls Try.prog 4 #[.int .u8 (k : Nat), v, v2] w fun e w' => e = .returned (.bool true) ∧ Frm (fun _ => False) w w' := by
  obtain ⟨a, cap, rfl, hc1, hc2⟩ := hz.slice
  unfold maxLen at hc2
  have HF := few12_any v2 A w hA
  have HWK := Lib.hid (fun W => lnWorks_any W)
  cases hfew : few3 A with
  | false =>
    rw [hfew] at HF
    have HF := Lib.hid HF
    clear hfew hz hzz hA
    go_enter Try.func4, Try.ntmps4
    go_wp2_with fail
    refine HF.out.mono ?_
    rintro e w1 ⟨rfl, rfl⟩
    go_wp2_with fail
    refine (HWK.out _).mono ?_
    rintro e w1 ⟨rfl, g1⟩
    go_wp2_with fail
    go_ret
    exact ⟨rfl, g1⟩
  | true =>
    have hlen := few3_len hfew
    rw [hfew] at HF
    have HF := Lib.hid HF
    clear hfew
    by_cases h10 : cs.length ≤ 10
    · have h10i : ¬ (10 : Int) < (cs.length : Int) := by omega
      have hcl : cs.length ≤ 1000000 := by omega
      obtain ⟨n, hn⟩ : ∃ n, k % 70 = n := ⟨_, rfl⟩
      have hn70 : n < 70 := by omega
      have t1 : (k : Int) % 70 = (n : Int) := by omega
      have t1' : (k : Int).tmod 70 = (n : Int) := by rw [Int.tmod_eq_emod_of_nonneg (by omega)]; exact t1
      have t3 : IntKind.u8.wrap (n : Int) = (n : Int) := IntWalk.u8_in _ (by omega)
      have HV := Lib.hid (And.intro hz (And.intro hzz hcl))
      have HA := Lib.hid hA
      have HN := Lib.hid (new256 w)
      clear hz hzz hA hcl hn
      go_enter Try.func4, Try.ntmps4
      go_wp2_with fail
      refine HF.out.mono ?_
      rintro e w1 ⟨rfl, rfl⟩
      go_wp2_with fail
      refine HN.out.mono ?_
      rintro e w1 ⟨_, rfl, b, f, x, rfl, hd, hb, hf, hx, g1⟩
      have H1 := Lib.hid (And.intro hd (And.intro (And.intro hb (And.intro hf hx)) g1))
      have HN2 := Lib.hid (new256 w1)
      clear hd hb hf hx g1 HN HF
      go_wp2_with fail
      refine HN2.out.mono ?_
      rintro e w2 ⟨_, rfl, b2, f2, x2, rfl, hd, hb, hf, hx, g1⟩
      have H2 := Lib.hid (And.intro hd (And.intro (And.intro hb (And.intro hf hx)) g1))
      have HL := Lib.hid (lnew_any b f x _ n _ cs w2 (H1.out.1.keepF g1) (by unfold Z64; omega) (HV.out.1.keepF (H1.out.2.2.trans g1)) HV.out.2.1 HV.out.2.2 (fun g => w2.heap.size ≤ g) (fun _ h => h))
      clear hd hb hf hx g1 HN2
      go_wp2_with fail
      refine HL.out.mono ?_
      rintro e w3 ⟨_, rfl, l, rfl, h3, hl, g3⟩
      have H3 := Lib.hid (And.intro h3 (And.intro hl g3))
      have HL := Lib.hid (lnew_any b2 f2 x2 _ (-1) _ [] w3 (H2.out.1.keepF g3) (by unfold Z64; decide) nil_zs (fun z hz => by cases hz) (by decide))
      clear h3 hl g3
      go_wp2_with fail
      refine HL.out.mono ?_
      rintro e w4 ⟨_, rfl, l2, rfl, h4, hl, g4⟩
      have HP := Lib.hid (PairL.start H1.out.1 H1.out.2.1 H1.out.2.2 H2.out.1 H2.out.2.1 H2.out.2.2 H3.out.1 H3.out.2.1 H3.out.2.2 h4 hl g4)
      clear h4 hl g4 H1 H2 H3 HL
      obtain ⟨P, hP⟩ : ∃ P, (fun g => w2.heap.size ≤ g ∧ g < w3.heap.size) = P := ⟨_, rfl⟩
      rw [hP] at HP
      clear hP
      have hq1 := dev_nil2
      have hq2 := ln_nil2
      have HR := Lib.hid (run12_any l b f x _ v2 A 100 w w4 HA.out HP.out.frm HP.out.o1 HP.out.one (Nat.zero_le _) (by decide))
      go_wp2_with fail
      refine HR.out.mono ?_
      rintro e w5 ⟨rfl, h5, g5⟩
      have hcut := run_cut n 100 (DV.new 256) cs P A (by have := cntA_le A; omega)
      have HP5 := Lib.hid (HP.out.left h5 (runA_same _ _ _).1 g5)
      obtain ⟨L, hL⟩ : ∃ L, (runA 100 (LV.new (DV.new 256) n cs P) A).1 = L := ⟨_, rfl⟩
      rw [hL] at HP5 hcut
      have hcnt := cntA_le A
      obtain ⟨N, hN⟩ : ∃ N, cntA A = N := ⟨_, rfl⟩
      rw [hN] at hcut hcnt
      rw [hcut.1]
      clear h5 g5 HR hL HP
      have hl4 := LnM.d HP5.out.one
      have hA2 := HA
      obtain ⟨aA, capA, rfl, hA1, hA2⟩ := HA.out.slice
      unfold maxLen at hA2
      by_cases hNn : N ≤ n
      · rw [if_pos hNn] at hcut
        have hNn1 : (N : Int) ≤ (n : Int) := by omega
        have HD := ldown_any l b f x L w5 HP5.out.one
        rw [hcut.2.2] at HD
        have HD := Lib.hid HD
        have HR := Lib.hid (run12_any l2 b2 f2 x2 _ _ A 100 w w5 HA.out HP5.out.frm HP5.out.o2 HP5.out.two (Nat.zero_le _) (by decide))
        have HC := Lib.hid hcut
        clear hcut hl4
        go_wp2_with fail
        refine HD.out.mono ?_
        rintro e ww ⟨rfl, rfl⟩
        go_wp2_with fail
        refine HR.out.mono ?_
        rintro e W ⟨rfl, h6, g6⟩
        have hP6 := HP5.out.right h6 (runA_same _ _ _).2.1 g6
        have hw := run_whole 100 (DV.new 256) [] (fun _ => True) A
        have hdd := hP6.two.dev
        rw [hw.1, ← HC.out.2.1] at hdd
        have HT := Lib.hid (And.intro hP6.one.dev (And.intro hdd hP6.frm))
        obtain ⟨D1, hD1⟩ : ∃ D1, L.D = D1 := ⟨_, rfl⟩
        rw [hD1] at HT
        clear h6 g6 hP6 hw hdd hD1 HP5 HC HR HD
        go_wp2_with fail
        -- the tail: both devices are alike
        go_loopw [13] (fun i wr => ∃ j : Nat, j ≤ A.length ∧ i = .int .i64 (j : Nat) ∧ Frm (fun _ => False) W wr) (fun i _ => A.length - (intOf i).toNat)
        case atStart => exact ⟨0, Nat.zero_le _, rfl, Frm.refl _ _⟩
        case round =>
          obtain ⟨j, hj, rfl, gj⟩ := hrel
          by_cases hlt : j < A.length
          · obtain ⟨p, off, rfl, hp, c0, c1, c2⟩ := A3L.elem (show A3L wr (.slice _ A.length _) A from HA.out.keepF (HT.out.2.2.trans gj)) j hlt
            have hq := A[j].hq
            obtain ⟨y, hy⟩ : ∃ y, A[j].q = y := ⟨_, rfl⟩
            rw [hy] at c1 hq
            have hR1 := read_any b f x D1 y wr (HT.out.1.keepF gj) hq
            obtain ⟨rs, hrs⟩ : ∃ rs, bs (if D1.bad y = true then [] else D1.read y.toNat) = rs := ⟨_, rfl⟩
            obtain ⟨re, hre⟩ : ∃ re : Int, (if D1.bad y = true then 2 else 0) = re := ⟨_, rfl⟩
            rw [hrs, hre] at hR1
            have HR2 : Hid (∀ W', Frm (fun _ => False) wr W' → Calls Try.prog 19 #[.pointer (some ⟨b2, 0, none⟩), .int .i64 y] W' fun e w' => e = .returned (.tuple #[.string rs, .int .i64 re]) ∧ Frm (fun _ => False) W' w') := Lib.hid fun W' g => by
              have := read_any b2 f2 x2 D1 y W' ((HT.out.2.1.keepF gj).keepF g) hq
              rw [hrs, hre] at this
              exact this
            have HR1 := Lib.hid hR1
            have hss : (rs.toList == rs.toList) = true := by rw [beq_iff_eq]
            have hee : (re == re) = true := by rw [beq_iff_eq]
            have hji : (j : Int) < (A.length : Int) := by omega
            have GJ := Lib.hid gj
            have C1 := Lib.hid c1
            clear hrs hre hR1 hy hq gj c0 c2
            go_wp2_with fail
            refine HR1.out.mono ?_
            rintro e w7 ⟨rfl, g7⟩
            have G7 := Lib.hid g7
            have c1 := dFrm_cell g7 C1.out
            clear g7
            go_wp2_with fail
            refine (HR2.out _ G7.out).mono ?_
            rintro e w8 ⟨rfl, g8⟩
            have G8 := Lib.hid ((GJ.out.trans G7.out).trans g8)
            clear g8 c1
            go_wp2_with fail
            go_roundw
            case rel => exact ⟨j + 1, by omega, by go_num, G8.out⟩
            case measure => simp [intOf]; omega
          · obtain rfl : j = A.length := by omega
            obtain ⟨m, hm⟩ : ∃ m, (List.map Int.ofNat D1.fresh).length = m := ⟨_, rfl⟩
            have hmm : ((m : Int) == (m : Int)) = true := by rw [beq_iff_eq]
            have HM := Lib.hid hm
            clear hm
            have HF1 := Lib.hid (fresh_any b f x D1 wr (HT.out.1.keepF gj))
            have GJ := Lib.hid gj
            clear gj
            go_wp2_with fail
            refine HF1.out.mono ?_
            rintro e w7 ⟨u, rfl, hu, _, g7⟩
            obtain ⟨au, cu, rfl, hu1, hu2⟩ := hu.zs.slice
            rw [HM.out]
            have HF2 := Lib.hid (fresh_any b2 f2 x2 D1 w7 ((HT.out.2.1.keepF GJ.out).keepF g7))
            have G7 := Lib.hid (GJ.out.trans g7)
            clear hu g7 hu1 hu2 HF1
            go_wp2_with fail
            refine HF2.out.mono ?_
            rintro e w8 ⟨u2, rfl, hu, _, g8⟩
            obtain ⟨au2, cu2, rfl, hu1, hu2⟩ := hu.zs.slice
            have G8 := Lib.hid (G7.out.trans g8)
            clear hu g8 hu1 hu2 HF2
            rw [HM.out]
            go_wp2_with fail
            refine (HWK.out _).mono ?_
            rintro e w9 ⟨rfl, g9⟩
            have G9 := Lib.hid (G8.out.trans g9)
            clear g9
            go_wp2_with fail
            go_ret
            exact ⟨rfl, HT.out.2.2.trans G9.out⟩
      · rw [if_neg hNn] at hcut
        have hNn1 : ¬ (N : Int) ≤ (n : Int) := by omega
        have HD := ldown_any l b f x L w5 HP5.out.one
        rw [hcut.2.2.1] at HD
        have HD := Lib.hid HD
        have HAC := lacts_any l b f x L w5 HP5.out.one
        rw [hcut.2.2.2] at HAC
        have HAC := Lib.hid HAC
        have hac : (((n + 1 : Nat) : Int) != (n : Int) + 1) = false := by simp
        have hac1 : (((n + 1 : Nat) : Int)) = (n : Int) + 1 := by omega
        rw [hac1] at HAC
        have HC := Lib.hid hcut
        clear hcut hl4 hac hac1
        have hodd : oddN cs = 0 ∧ (cs = [] ∨ ∃ q r, cs = q :: r ∧ q.tmod 2 = 0) ∨ oddN cs = 1 ∧ ∃ q r, cs = q :: r ∧ q.tmod 2 ≠ 0 := by
          cases hcs : cs with
          | nil =>
            refine .inl ⟨?_, .inl rfl⟩
            unfold oddN
            rw [if_neg (by rintro ⟨q, h, _⟩; cases h)]
          | cons q r =>
            have e2 := odd_tmod q
            by_cases ho : q % 2 ≠ 0
            · refine .inr ⟨by unfold oddN; rw [if_pos ⟨q, rfl, ho⟩], q, r, rfl, ?_⟩
              rw [decide_eq_true ho] at e2
              intro h
              rw [h] at e2
              cases e2
            · refine .inl ⟨by unfold oddN; rw [if_neg (by rintro ⟨z, h, h2⟩; cases h; exact ho h2)], .inr ⟨q, r, rfl, ?_⟩⟩
              rw [decide_eq_false ho] at e2
              by_cases h : q.tmod 2 = 0
              · exact h
              · rw [show (q.tmod 2 != 0) = true from by simp [h]] at e2; cases e2
        rcases hodd with ⟨ho, hcs | ⟨q, r, hcs, hq⟩⟩ | ⟨ho, q, r, hcs, hq⟩
        · have HO := Lib.hid ho
          have HCS := Lib.hid hcs
          clear ho hcs
          have hl0 : cs.length = 0 := by rw [HCS.out]; rfl
          have hpos : ¬ 0 < cs.length := by omega
          have hd1 : decide (0 < cs.length) = false := decide_eq_false hpos
          have hd2 : decide (0 < (cs.length : Int)) = false := decide_eq_false (by omega)
          clear hl0
          have hR := run12_any l2 b2 f2 x2 _ _ A n w w5 HA.out HP5.out.frm HP5.out.o2 HP5.out.two (Nat.zero_le _) (by omega)
          have HR := Lib.hid hR
          clear hR
          go_wp2_with fail
          refine HD.out.mono ?_
          rintro e ww ⟨rfl, rfl⟩
          go_wp2_with fail
          refine HAC.out.mono ?_
          rintro e ww ⟨rfl, rfl⟩
          go_wp2_with fail
          refine HR.out.mono ?_
          rintro e w6 ⟨rfl, h6, g6⟩
          have hP6 := HP5.out.right h6 (runA_same _ _ _).2.1 g6
          have hdd := hP6.two.dev
          rw [(run_whole n (DV.new 256) [] (fun _ => True) A).1] at hdd
          have hds : (devN n (DV.new 256) A).crash cs = L.D := by
            have := HC.out.2.1
            rw [HO.out] at this
            exact this.symm
          have HKK := crash_any b2 f2 x2 _ _ cs w6 hdd (HV.out.1.keepF hP6.frm) HV.out.2.1 HV.out.2.2 (HV.out.1.low.imp id fun h q e hq => by have := h q e; have := hP6.o2; omega)
          rw [hds] at HKK
          have HKK := Lib.hid HKK
          have H6 := Lib.hid hP6
          have HDS := Lib.hid hds
          have HDD := Lib.hid hdd
          clear h6 g6 hP6 hds hdd HR
          go_wp2_with fail
          (with_reducible refine HKK.out.mono ?_)
          rintro e W ⟨rfl, h7, g7⟩
          have h7d : DevM W b2 f2 x2 L.D := h7
          have hlt := H6.out.one.dev.lt
          obtain ⟨s1, s2, s3, s4, s5, s6, s7, s8, s9, s10, s11, s12⟩ := H6.out.s1
          have hnX : ∀ k, k ≠ f2 → k ≠ x2 → ¬ (k = f2 ∨ k = x2) := fun k h1 h2 h => h.elim h1 h2
          have h7a := H6.out.one.dev.keep g7 (hnX _ s5 s6) (hnX _ s8 s9) (hnX _ s11 s12)
          have hfr : Frm (fun _ => False) w W := H6.out.frm.next g7 fun j hj e => by have := H6.out.o2; omega
          have HT := Lib.hid (And.intro h7a (And.intro h7d hfr))
          obtain ⟨D1, hD1⟩ : ∃ D1, L.D = D1 := ⟨_, rfl⟩
          rw [hD1] at HT
          clear h7 g7 h7d hlt s1 s2 s3 s4 s5 s6 s7 s8 s9 s10 s11 s12 hnX h7a hfr hD1 HP5 HC H6 HDS HDD HKK HD HAC HO HCS
          go_wp2_with fail
          -- the tail: both devices are alike
          go_loopw [13] (fun i wr => ∃ j : Nat, j ≤ A.length ∧ i = .int .i64 (j : Nat) ∧ Frm (fun _ => False) W wr) (fun i _ => A.length - (intOf i).toNat)
          case atStart => exact ⟨0, Nat.zero_le _, rfl, Frm.refl _ _⟩
          case round =>
            obtain ⟨j, hj, rfl, gj⟩ := hrel
            by_cases hlt : j < A.length
            · obtain ⟨p, off, rfl, hp, c0, c1, c2⟩ := A3L.elem (show A3L wr (.slice _ A.length _) A from HA.out.keepF (HT.out.2.2.trans gj)) j hlt
              have hq := A[j].hq
              obtain ⟨y, hy⟩ : ∃ y, A[j].q = y := ⟨_, rfl⟩
              rw [hy] at c1 hq
              have hR1 := read_any b f x D1 y wr (HT.out.1.keepF gj) hq
              obtain ⟨rs, hrs⟩ : ∃ rs, bs (if D1.bad y = true then [] else D1.read y.toNat) = rs := ⟨_, rfl⟩
              obtain ⟨re, hre⟩ : ∃ re : Int, (if D1.bad y = true then 2 else 0) = re := ⟨_, rfl⟩
              rw [hrs, hre] at hR1
              have HR2 : Hid (∀ W', Frm (fun _ => False) wr W' → Calls Try.prog 19 #[.pointer (some ⟨b2, 0, none⟩), .int .i64 y] W' fun e w' => e = .returned (.tuple #[.string rs, .int .i64 re]) ∧ Frm (fun _ => False) W' w') := Lib.hid fun W' g => by
                have := read_any b2 f2 x2 D1 y W' ((HT.out.2.1.keepF gj).keepF g) hq
                rw [hrs, hre] at this
                exact this
              have HR1 := Lib.hid hR1
              have hss : (rs.toList == rs.toList) = true := by rw [beq_iff_eq]
              have hee : (re == re) = true := by rw [beq_iff_eq]
              have hji : (j : Int) < (A.length : Int) := by omega
              have GJ := Lib.hid gj
              have C1 := Lib.hid c1
              clear hrs hre hR1 hy hq gj c0 c2
              go_wp2_with fail
              refine HR1.out.mono ?_
              rintro e w7 ⟨rfl, g7⟩
              have G7 := Lib.hid g7
              have c1 := dFrm_cell g7 C1.out
              clear g7
              go_wp2_with fail
              refine (HR2.out _ G7.out).mono ?_
              rintro e w8 ⟨rfl, g8⟩
              have G8 := Lib.hid ((GJ.out.trans G7.out).trans g8)
              clear g8 c1
              go_wp2_with fail
              go_roundw
              case rel => exact ⟨j + 1, by omega, by go_num, G8.out⟩
              case measure => simp [intOf]; omega
            · obtain rfl : j = A.length := by omega
              obtain ⟨m, hm⟩ : ∃ m, (List.map Int.ofNat D1.fresh).length = m := ⟨_, rfl⟩
              have hmm : ((m : Int) == (m : Int)) = true := by rw [beq_iff_eq]
              have HM := Lib.hid hm
              clear hm
              have HF1 := Lib.hid (fresh_any b f x D1 wr (HT.out.1.keepF gj))
              have GJ := Lib.hid gj
              clear gj
              go_wp2_with fail
              refine HF1.out.mono ?_
              rintro e w7 ⟨u, rfl, hu, _, g7⟩
              obtain ⟨au, cu, rfl, hu1, hu2⟩ := hu.zs.slice
              rw [HM.out]
              have HF2 := Lib.hid (fresh_any b2 f2 x2 D1 w7 ((HT.out.2.1.keepF GJ.out).keepF g7))
              have G7 := Lib.hid (GJ.out.trans g7)
              clear hu g7 hu1 hu2 HF1
              go_wp2_with fail
              refine HF2.out.mono ?_
              rintro e w8 ⟨u2, rfl, hu, _, g8⟩
              obtain ⟨au2, cu2, rfl, hu1, hu2⟩ := hu.zs.slice
              have G8 := Lib.hid (G7.out.trans g8)
              clear hu g8 hu1 hu2 HF2
              rw [HM.out]
              go_wp2_with fail
              refine (HWK.out _).mono ?_
              rintro e w9 ⟨rfl, g9⟩
              have G9 := Lib.hid (G8.out.trans g9)
              clear g9
              go_wp2_with fail
              go_ret
              exact ⟨rfl, HT.out.2.2.trans G9.out⟩
        · have HO := Lib.hid ho
          have HCS := Lib.hid hcs
          clear ho hcs
          have hl0 : cs.length ≠ 0 := by rw [HCS.out]; exact Nat.succ_ne_zero _
          have hpos : 0 < cs.length := by omega
          have hd1 : decide (0 < cs.length) = true := decide_eq_true hpos
          have hd2 : decide (0 < (cs.length : Int)) = true := decide_eq_true (by omega)
          obtain ⟨g, off, rfl, hg, e0⟩ := Zs.at (HV.out.1.keepF HP5.out.frm) 0 hpos
          rw [Nat.add_zero] at e0
          have e1 : w5.cell? ⟨g, off, none⟩ = some (.int .i64 q) := by rw [e0]; simp only [HCS.out, List.getElem_cons_zero]
          have hb1 : (q.tmod 2 != 0) = false := by simp [hq]
          have hb2 : (q.tmod 2 == 0) = true := by simp [hq]
          clear hl0 e0 hg
          have hR := run12_any l2 b2 f2 x2 _ _ A n w w5 HA.out HP5.out.frm HP5.out.o2 HP5.out.two (Nat.zero_le _) (by omega)
          have HR := Lib.hid hR
          clear hR hq
          go_wp2_with fail
          refine HD.out.mono ?_
          rintro e ww ⟨rfl, rfl⟩
          go_wp2_with fail
          refine HAC.out.mono ?_
          rintro e ww ⟨rfl, rfl⟩
          go_wp2_with fail
          refine HR.out.mono ?_
          rintro e w6 ⟨rfl, h6, g6⟩
          have hP6 := HP5.out.right h6 (runA_same _ _ _).2.1 g6
          have hdd := hP6.two.dev
          rw [(run_whole n (DV.new 256) [] (fun _ => True) A).1] at hdd
          have hds : (devN n (DV.new 256) A).crash cs = L.D := by
            have := HC.out.2.1
            rw [HO.out] at this
            exact this.symm
          have HKK := crash_any b2 f2 x2 _ _ cs w6 hdd (HV.out.1.keepF hP6.frm) HV.out.2.1 HV.out.2.2 (HV.out.1.low.imp id fun h q e hq => by have := h q e; have := hP6.o2; omega)
          rw [hds] at HKK
          have HKK := Lib.hid HKK
          have H6 := Lib.hid hP6
          have HDS := Lib.hid hds
          have HDD := Lib.hid hdd
          clear h6 g6 hP6 hds hdd HR
          go_wp2_with fail
          (with_reducible refine HKK.out.mono ?_)
          rintro e W ⟨rfl, h7, g7⟩
          have h7d : DevM W b2 f2 x2 L.D := h7
          have hlt := H6.out.one.dev.lt
          obtain ⟨s1, s2, s3, s4, s5, s6, s7, s8, s9, s10, s11, s12⟩ := H6.out.s1
          have hnX : ∀ k, k ≠ f2 → k ≠ x2 → ¬ (k = f2 ∨ k = x2) := fun k h1 h2 h => h.elim h1 h2
          have h7a := H6.out.one.dev.keep g7 (hnX _ s5 s6) (hnX _ s8 s9) (hnX _ s11 s12)
          have hfr : Frm (fun _ => False) w W := H6.out.frm.next g7 fun j hj e => by have := H6.out.o2; omega
          have HT := Lib.hid (And.intro h7a (And.intro h7d hfr))
          obtain ⟨D1, hD1⟩ : ∃ D1, L.D = D1 := ⟨_, rfl⟩
          rw [hD1] at HT
          clear h7 g7 h7d hlt s1 s2 s3 s4 s5 s6 s7 s8 s9 s10 s11 s12 hnX h7a hfr hD1 HP5 HC H6 HDS HDD HKK HD HAC HO HCS
          go_wp2_with fail
          -- the tail: both devices are alike
          go_loopw [13] (fun i wr => ∃ j : Nat, j ≤ A.length ∧ i = .int .i64 (j : Nat) ∧ Frm (fun _ => False) W wr) (fun i _ => A.length - (intOf i).toNat)
          case atStart => exact ⟨0, Nat.zero_le _, rfl, Frm.refl _ _⟩
          case round =>
            obtain ⟨j, hj, rfl, gj⟩ := hrel
            by_cases hlt : j < A.length
            · obtain ⟨p, off, rfl, hp, c0, c1, c2⟩ := A3L.elem (show A3L wr (.slice _ A.length _) A from HA.out.keepF (HT.out.2.2.trans gj)) j hlt
              have hq := A[j].hq
              obtain ⟨y, hy⟩ : ∃ y, A[j].q = y := ⟨_, rfl⟩
              rw [hy] at c1 hq
              have hR1 := read_any b f x D1 y wr (HT.out.1.keepF gj) hq
              obtain ⟨rs, hrs⟩ : ∃ rs, bs (if D1.bad y = true then [] else D1.read y.toNat) = rs := ⟨_, rfl⟩
              obtain ⟨re, hre⟩ : ∃ re : Int, (if D1.bad y = true then 2 else 0) = re := ⟨_, rfl⟩
              rw [hrs, hre] at hR1
              have HR2 : Hid (∀ W', Frm (fun _ => False) wr W' → Calls Try.prog 19 #[.pointer (some ⟨b2, 0, none⟩), .int .i64 y] W' fun e w' => e = .returned (.tuple #[.string rs, .int .i64 re]) ∧ Frm (fun _ => False) W' w') := Lib.hid fun W' g => by
                have := read_any b2 f2 x2 D1 y W' ((HT.out.2.1.keepF gj).keepF g) hq
                rw [hrs, hre] at this
                exact this
              have HR1 := Lib.hid hR1
              have hss : (rs.toList == rs.toList) = true := by rw [beq_iff_eq]
              have hee : (re == re) = true := by rw [beq_iff_eq]
              have hji : (j : Int) < (A.length : Int) := by omega
              have GJ := Lib.hid gj
              have C1 := Lib.hid c1
              clear hrs hre hR1 hy hq gj c0 c2
              go_wp2_with fail
              refine HR1.out.mono ?_
              rintro e w7 ⟨rfl, g7⟩
              have G7 := Lib.hid g7
              have c1 := dFrm_cell g7 C1.out
              clear g7
              go_wp2_with fail
              refine (HR2.out _ G7.out).mono ?_
              rintro e w8 ⟨rfl, g8⟩
              have G8 := Lib.hid ((GJ.out.trans G7.out).trans g8)
              clear g8 c1
              go_wp2_with fail
              go_roundw
              case rel => exact ⟨j + 1, by omega, by go_num, G8.out⟩
              case measure => simp [intOf]; omega
            · obtain rfl : j = A.length := by omega
              obtain ⟨m, hm⟩ : ∃ m, (List.map Int.ofNat D1.fresh).length = m := ⟨_, rfl⟩
              have hmm : ((m : Int) == (m : Int)) = true := by rw [beq_iff_eq]
              have HM := Lib.hid hm
              clear hm
              have HF1 := Lib.hid (fresh_any b f x D1 wr (HT.out.1.keepF gj))
              have GJ := Lib.hid gj
              clear gj
              go_wp2_with fail
              refine HF1.out.mono ?_
              rintro e w7 ⟨u, rfl, hu, _, g7⟩
              obtain ⟨au, cu, rfl, hu1, hu2⟩ := hu.zs.slice
              rw [HM.out]
              have HF2 := Lib.hid (fresh_any b2 f2 x2 D1 w7 ((HT.out.2.1.keepF GJ.out).keepF g7))
              have G7 := Lib.hid (GJ.out.trans g7)
              clear hu g7 hu1 hu2 HF1
              go_wp2_with fail
              refine HF2.out.mono ?_
              rintro e w8 ⟨u2, rfl, hu, _, g8⟩
              obtain ⟨au2, cu2, rfl, hu1, hu2⟩ := hu.zs.slice
              have G8 := Lib.hid (G7.out.trans g8)
              clear hu g8 hu1 hu2 HF2
              rw [HM.out]
              go_wp2_with fail
              refine (HWK.out _).mono ?_
              rintro e w9 ⟨rfl, g9⟩
              have G9 := Lib.hid (G8.out.trans g9)
              clear g9
              go_wp2_with fail
              go_ret
              exact ⟨rfl, HT.out.2.2.trans G9.out⟩
        · have HO := Lib.hid ho
          have HCS := Lib.hid hcs
          clear ho hcs
          have hl0 : cs.length ≠ 0 := by rw [HCS.out]; exact Nat.succ_ne_zero _
          have hpos : 0 < cs.length := by omega
          have hd1 : decide (0 < cs.length) = true := decide_eq_true hpos
          have hd2 : decide (0 < (cs.length : Int)) = true := decide_eq_true (by omega)
          obtain ⟨g, off, rfl, hg, e0⟩ := Zs.at (HV.out.1.keepF HP5.out.frm) 0 hpos
          rw [Nat.add_zero] at e0
          have e1 : w5.cell? ⟨g, off, none⟩ = some (.int .i64 q) := by rw [e0]; simp only [HCS.out, List.getElem_cons_zero]
          have hb1 : (q.tmod 2 != 0) = true := by simp [hq]
          have hb2 : (q.tmod 2 == 0) = false := by simp [hq]
          clear hl0 e0 hg
          have hR := run12_any l2 b2 f2 x2 _ _ A (n + 1) w w5 HA.out HP5.out.frm HP5.out.o2 HP5.out.two (Nat.zero_le _) (by omega)
          rw [show ((n + 1 : Nat) : Int) = (n : Int) + 1 from by omega] at hR
          have HR := Lib.hid hR
          clear hR hq
          go_wp2_with fail
          refine HD.out.mono ?_
          rintro e ww ⟨rfl, rfl⟩
          go_wp2_with fail
          refine HAC.out.mono ?_
          rintro e ww ⟨rfl, rfl⟩
          go_wp2_with fail
          refine HR.out.mono ?_
          rintro e w6 ⟨rfl, h6, g6⟩
          have hP6 := HP5.out.right h6 (runA_same _ _ _).2.1 g6
          have hdd := hP6.two.dev
          rw [(run_whole (n + 1) (DV.new 256) [] (fun _ => True) A).1] at hdd
          have hds : (devN (n + 1) (DV.new 256) A).crash cs = L.D := by
            have := HC.out.2.1
            rw [HO.out] at this
            exact this.symm
          have HKK := crash_any b2 f2 x2 _ _ cs w6 hdd (HV.out.1.keepF hP6.frm) HV.out.2.1 HV.out.2.2 (HV.out.1.low.imp id fun h q e hq => by have := h q e; have := hP6.o2; omega)
          rw [hds] at HKK
          have HKK := Lib.hid HKK
          have H6 := Lib.hid hP6
          have HDS := Lib.hid hds
          have HDD := Lib.hid hdd
          clear h6 g6 hP6 hds hdd HR
          go_wp2_with fail
          (with_reducible refine HKK.out.mono ?_)
          rintro e W ⟨rfl, h7, g7⟩
          have h7d : DevM W b2 f2 x2 L.D := h7
          have hlt := H6.out.one.dev.lt
          obtain ⟨s1, s2, s3, s4, s5, s6, s7, s8, s9, s10, s11, s12⟩ := H6.out.s1
          have hnX : ∀ k, k ≠ f2 → k ≠ x2 → ¬ (k = f2 ∨ k = x2) := fun k h1 h2 h => h.elim h1 h2
          have h7a := H6.out.one.dev.keep g7 (hnX _ s5 s6) (hnX _ s8 s9) (hnX _ s11 s12)
          have hfr : Frm (fun _ => False) w W := H6.out.frm.next g7 fun j hj e => by have := H6.out.o2; omega
          have HT := Lib.hid (And.intro h7a (And.intro h7d hfr))
          obtain ⟨D1, hD1⟩ : ∃ D1, L.D = D1 := ⟨_, rfl⟩
          rw [hD1] at HT
          clear h7 g7 h7d hlt s1 s2 s3 s4 s5 s6 s7 s8 s9 s10 s11 s12 hnX h7a hfr hD1 HP5 HC H6 HDS HDD HKK HD HAC HO HCS
          go_wp2_with fail
          -- the tail: both devices are alike
          go_loopw [13] (fun i wr => ∃ j : Nat, j ≤ A.length ∧ i = .int .i64 (j : Nat) ∧ Frm (fun _ => False) W wr) (fun i _ => A.length - (intOf i).toNat)
          case atStart => exact ⟨0, Nat.zero_le _, rfl, Frm.refl _ _⟩
          case round =>
            obtain ⟨j, hj, rfl, gj⟩ := hrel
            by_cases hlt : j < A.length
            · obtain ⟨p, off, rfl, hp, c0, c1, c2⟩ := A3L.elem (show A3L wr (.slice _ A.length _) A from HA.out.keepF (HT.out.2.2.trans gj)) j hlt
              have hq := A[j].hq
              obtain ⟨y, hy⟩ : ∃ y, A[j].q = y := ⟨_, rfl⟩
              rw [hy] at c1 hq
              have hR1 := read_any b f x D1 y wr (HT.out.1.keepF gj) hq
              obtain ⟨rs, hrs⟩ : ∃ rs, bs (if D1.bad y = true then [] else D1.read y.toNat) = rs := ⟨_, rfl⟩
              obtain ⟨re, hre⟩ : ∃ re : Int, (if D1.bad y = true then 2 else 0) = re := ⟨_, rfl⟩
              rw [hrs, hre] at hR1
              have HR2 : Hid (∀ W', Frm (fun _ => False) wr W' → Calls Try.prog 19 #[.pointer (some ⟨b2, 0, none⟩), .int .i64 y] W' fun e w' => e = .returned (.tuple #[.string rs, .int .i64 re]) ∧ Frm (fun _ => False) W' w') := Lib.hid fun W' g => by
                have := read_any b2 f2 x2 D1 y W' ((HT.out.2.1.keepF gj).keepF g) hq
                rw [hrs, hre] at this
                exact this
              have HR1 := Lib.hid hR1
              have hss : (rs.toList == rs.toList) = true := by rw [beq_iff_eq]
              have hee : (re == re) = true := by rw [beq_iff_eq]
              have hji : (j : Int) < (A.length : Int) := by omega
              have GJ := Lib.hid gj
              have C1 := Lib.hid c1
              clear hrs hre hR1 hy hq gj c0 c2
              go_wp2_with fail
              refine HR1.out.mono ?_
              rintro e w7 ⟨rfl, g7⟩
              have G7 := Lib.hid g7
              have c1 := dFrm_cell g7 C1.out
              clear g7
              go_wp2_with fail
              refine (HR2.out _ G7.out).mono ?_
              rintro e w8 ⟨rfl, g8⟩
              have G8 := Lib.hid ((GJ.out.trans G7.out).trans g8)
              clear g8 c1
              go_wp2_with fail
              go_roundw
              case rel => exact ⟨j + 1, by omega, by go_num, G8.out⟩
              case measure => simp [intOf]; omega
            · obtain rfl : j = A.length := by omega
              obtain ⟨m, hm⟩ : ∃ m, (List.map Int.ofNat D1.fresh).length = m := ⟨_, rfl⟩
              have hmm : ((m : Int) == (m : Int)) = true := by rw [beq_iff_eq]
              have HM := Lib.hid hm
              clear hm
              have HF1 := Lib.hid (fresh_any b f x D1 wr (HT.out.1.keepF gj))
              have GJ := Lib.hid gj
              clear gj
              go_wp2_with fail
              refine HF1.out.mono ?_
              rintro e w7 ⟨u, rfl, hu, _, g7⟩
              obtain ⟨au, cu, rfl, hu1, hu2⟩ := hu.zs.slice
              rw [HM.out]
              have HF2 := Lib.hid (fresh_any b2 f2 x2 D1 w7 ((HT.out.2.1.keepF GJ.out).keepF g7))
              have G7 := Lib.hid (GJ.out.trans g7)
              clear hu g7 hu1 hu2 HF1
              go_wp2_with fail
              refine HF2.out.mono ?_
              rintro e w8 ⟨u2, rfl, hu, _, g8⟩
              obtain ⟨au2, cu2, rfl, hu1, hu2⟩ := hu.zs.slice
              have G8 := Lib.hid (G7.out.trans g8)
              clear hu g8 hu1 hu2 HF2
              rw [HM.out]
              go_wp2_with fail
              refine (HWK.out _).mono ?_
              rintro e w9 ⟨rfl, g9⟩
              have G9 := Lib.hid (G8.out.trans g9)
              clear g9
              go_wp2_with fail
              go_ret
              exact ⟨rfl, HT.out.2.2.trans G9.out⟩
    · have h10i : (10 : Int) < (cs.length : Int) := by omega
      clear h10 hz hzz hA
      go_enter Try.func4, Try.ntmps4
      go_wp2_with fail
      refine HF.out.mono ?_
      rintro e w1 ⟨rfl, rfl⟩
      go_wp2_with fail
      refine (HWK.out _).mono ?_
      rintro e w1 ⟨rfl, g1⟩
      go_wp2_with fail
      go_ret
      exact ⟨rfl, g1⟩
end Go.Proofs.Ytdhngbfigklaoaa
