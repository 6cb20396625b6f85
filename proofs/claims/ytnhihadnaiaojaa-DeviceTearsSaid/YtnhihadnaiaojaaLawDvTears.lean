/- DeviceTears answers true, of any acts, any choices. No condition. -/
import Derived.Test.YtnhihadnaiaojaaLawDvHolds
import Derived.Test.YtnhihadnaiaojaaDvP
import Derived.BigQuiet
namespace Go.Proofs.Ytnhihadnaiaojaa
open Go.RowKit Go.Shelf

set_option maxRecDepth 100000 in
set_option maxHeartbeats 16000000 in
theorem deviceTears_any (v : Value) (L : List ActD) (v1 : Value) (cs : List Int) (w : World) (hA : Acs w v L) (hZ : Zs w v1 cs) (hz : ∀ z ∈ cs, Z64 z) :
    Calls Try.prog 5 #[v, v1] w fun e w' => e = .returned (.bool true) ∧ Frm (fun _ => False) w w' := by
  obtain ⟨az, cz, rfl, hz1, hz2⟩ := hZ.slice
  unfold maxLen at hz2
  have HN := Lib.hid (new256 w)
  have HA := Lib.hid hA
  have HZ := Lib.hid (And.intro hZ hz)
  have HW := Lib.hid awake_any
  clear hA hZ hz
  go_enter Try.func5, Try.ntmps5
  go_wp2_with fail
  refine HN.out.mono ?_
  rintro e w1 ⟨_, rfl, b, f, x, rfl, hd, hb, hf, hx, g1⟩
  have HF := Lib.hid (few11_any v L w1 (HA.out.keepF g1))
  have H1 := Lib.hid (And.intro hd g1)
  clear hd g1
  cases hfew : fewD L with
  | false =>
    rw [hfew] at HF
    clear hfew
    go_wp2_with fail
    refine HF.out.mono ?_
    rintro e w2 ⟨rfl, rfl⟩
    go_wp2_with fail
    refine (HW.out _).mono ?_
    rintro e w3 ⟨rfl, g3⟩
    have G3 := Lib.hid (H1.out.2.trans g3)
    clear g3
    go_wp2_with fail
    go_ret
    exact ⟨rfl, G3.out⟩
  | true =>
    rw [hfew] at HF
    have HFE := Lib.hid hfew
    clear hfew
    by_cases hl : cs.length ≤ 20
    · have hl2 : ¬ (20 : Int) < (cs.length : Int) := by omega
      go_wp2_with fail
      refine HF.out.mono ?_
      rintro e w2 ⟨rfl, rfl⟩
      have HR := Lib.hid (run_any b f x (DV.new 256) v L w w1 HA.out H1.out.2 hf hx H1.out.1 (fewD_cs HFE.out))
      go_wp2_with fail
      refine HR.out.mono ?_
      rintro e w2 ⟨rfl, hd2, g2⟩
      obtain ⟨D1, hD1⟩ : ∃ D1, (DV.new 256).acts L = D1 := ⟨_, rfl⟩
      have hn1 : D1.n = 256 := by rw [← hD1, DV.acts_n]; rfl
      rw [hD1] at hd2
      have H2 := Lib.hid (And.intro hd2 (H1.out.2.addTwo g2 hf hx))
      have HN1 := Lib.hid (And.intro hn1 hd2.ok)
      have HC := Lib.hid (copy_any b f x D1 w2 hd2)
      have hlt2 := hd2.lt
      clear hd2 g2 HR hD1 hn1 HN HF
      go_wp2_with fail
      refine HC.out.mono ?_
      rintro e w3 ⟨_, rfl, b2, f2, x2, rfl, hd3, hb2, hf2, hx2, g3⟩
      have h3 := H2.out.1.keepF g3
      have HFR := Lib.hid (fresh_any b f x D1 w3 h3)
      have H3 := Lib.hid (And.intro h3 (And.intro hd3 (H2.out.2.trans g3)))
      have hlt3 := hd3.lt
      clear h3 hd3 g3 HC
      go_wp2_with fail
      refine HFR.out.mono ?_
      rintro e w4 ⟨u, rfl, hu, hub, g4⟩
      have hlen : (D1.fresh.map Int.ofNat).length = D1.fresh.length := by rw [List.length_map]
      obtain ⟨au, cu, rfl, hc1, hc2⟩ := hu.zs.slice
      rw [hlen] at hc1 hub hu ⊢
      unfold maxLen at hc2
      have hfl := D1.fresh_len
      obtain ⟨N, hN⟩ : ∃ N, D1.fresh.length = N := ⟨_, rfl⟩
      rw [hN, HN1.out.1] at hfl
      rw [hN] at hc1 hub hu ⊢
      have h4 := H3.out.1.keepF g4
      have hZ4 := HZ.out.1.keepF (H3.out.2.2.trans g4)
      have HK := Lib.hid (crash_any b f x D1 _ cs w4 h4 hZ4 HZ.out.2 (by omega) (HZ.out.1.low.imp id fun h q e => by have := h q e; omega))
      have H4 := Lib.hid (And.intro h4 (And.intro (H3.out.2.1.keepF g4) (And.intro (H3.out.2.2.trans g4) (And.intro hu (And.intro hub hN)))))
      have hs4 := g4.size
      have hs3 := H2.out.2.size
      clear h4 hZ4 hu hub hN g4 hlen HFR
      go_wp2_with fail
      refine HK.out.mono ?_
      rintro e w5 ⟨rfl, hd5, g5⟩
      have h5b := H4.out.2.1.keep g5 (by omega) (by omega) (by omega)
      have hu5 : Zs w5 (.slice au N cu) (D1.fresh.map Int.ofNat) := Zs.keepN H4.out.2.2.2.1.zs g5 (.inr fun g hg hq => by
        cases au with
        | none => cases hg
        | some a => have := H4.out.2.2.2.2.1 g hg; omega)
      have H5 := Lib.hid (And.intro hd5 (And.intro h5b (And.intro (H4.out.2.2.1.addTwo g5 hf hx) (And.intro hu5 H4.out.2.2.2.2.2))))
      clear hd5 g5 h5b hu5 HK
      go_wp2_with fail
      go_loopw [8, 9] (fun kk i wr => ∃ k : Nat, k ≤ 256 ∧ i = .int .i64 k ∧ kk = .int .i64 (D1.rank k : Nat) ∧ Frm (fun _ => False) w5 wr) (fun _ i _ => 256 - (intOf i).toNat)
      case atStart => exact ⟨0, Nat.zero_le _, rfl, rfl, Frm.refl _ _⟩
      case round =>
        obtain ⟨k, hk, rfl, rfl, gr⟩ := hrel
        by_cases hlt : k < 256
        · have hki : (k : Int) < 256 := by omega
          have hz : Z64 (k : Int) := by unfold Z64; omega
          have hbad : D1.bad (k : Int) = false := decide_eq_false (by have := HN1.out; omega)
          have hkk : D1.rank k ≤ k := by
            have := List.length_filter_le (fun j => (D1.X j).isSome) (List.range k)
            rw [List.length_range] at this
            exact this
          obtain ⟨old, hold⟩ : ∃ old, D1.F k = old := ⟨_, rfl⟩
          obtain ⟨seen, hseen⟩ : ∃ seen, D1.read k = seen := ⟨_, rfl⟩
          obtain ⟨now, hnow⟩ : ∃ now, D1.left cs k = now := ⟨_, rfl⟩
          have lold : old.length = 64 := by rw [← hold]; exact HN1.out.2.fl k
          have lseen : seen.length = 64 := by rw [← hseen]; exact HN1.out.2.rlen k
          have lnow : now.length = 64 := by rw [← hnow]; exact HN1.out.2.llen cs k
          have hR1 : ∀ W, Frm (fun _ => False) w5 W → Calls Try.prog 22 #[.pointer (some ⟨b2, 0, none⟩), .int .i64 (k : Int)] W fun e w' => e = .returned (.tuple #[.string (bs old), .int .i64 0]) ∧ Frm (fun _ => False) W w' := fun W g => by
            have := firm_any b2 f2 x2 D1 (k : Int) W (H5.out.2.1.keepF g) hz
            rw [hbad] at this
            rw [← hold]
            exact this
          have hR2 : ∀ W, Frm (fun _ => False) w5 W → Calls Try.prog 26 #[.pointer (some ⟨b2, 0, none⟩), .int .i64 (k : Int)] W fun e w' => e = .returned (.tuple #[.string (bs seen), .int .i64 0]) ∧ Frm (fun _ => False) W w' := fun W g => by
            have := read_any b2 f2 x2 D1 (k : Int) W (H5.out.2.1.keepF g) hz
            rw [hbad] at this
            rw [← hseen]
            exact this
          have hR3 : ∀ W, Frm (fun _ => False) w5 W → Calls Try.prog 26 #[.pointer (some ⟨b, 0, none⟩), .int .i64 (k : Int)] W fun e w' => e = .returned (.tuple #[.string (bs now), .int .i64 0]) ∧ Frm (fun _ => False) W w' := fun W g => by
            have := read_any b f x (D1.crash cs) (k : Int) W (H5.out.1.keepF g) hz
            rw [show (D1.crash cs).bad (k : Int) = false from hbad] at this
            rw [← hnow]
            exact this
          have hR4 : ∀ W, Frm (fun _ => False) w5 W → Calls Try.prog 22 #[.pointer (some ⟨b, 0, none⟩), .int .i64 (k : Int)] W fun e w' => e = .returned (.tuple #[.string (bs now), .int .i64 0]) ∧ Frm (fun _ => False) W w' := fun W g => by
            have := firm_any b f x (D1.crash cs) (k : Int) W (H5.out.1.keepF g) hz
            rw [show (D1.crash cs).bad (k : Int) = false from hbad] at this
            rw [← hnow]
            exact this
          have GR := Lib.hid gr
          have HR1 := Lib.hid (hR1 wr gr)
          have HR2 := Lib.hid hR2
          have HR3 := Lib.hid hR3
          have HR4 := Lib.hid hR4
          have HO := Lib.hid (And.intro hold (And.intro hseen hnow))
          have zold : ((bs old).size : Int) = 64 := by rw [bs_size]; omega
          have zseen : ((bs seen).size : Int) = 64 := by rw [bs_size]; omega
          have znow : ((bs now).size : Int) = 64 := by rw [bs_size]; omega
          have yold : (bs old).size = 64 := by rw [bs_size]; omega
          have yseen : (bs seen).size = 64 := by rw [bs_size]; omega
          have ynow : (bs now).size = 64 := by rw [bs_size]; omega
          obtain ⟨R, hR⟩ : ∃ R, D1.rank k = R := ⟨_, rfl⟩
          rw [hR] at hkk ⊢
          have HRK := Lib.hid hR
          clear hR1 hR2 hR3 hR4 gr hbad hz hold hseen hnow hR
          go_wp2_with fail
          refine HR1.out.mono ?_
          rintro e w6 ⟨rfl, g6⟩
          have G6 := Lib.hid (GR.out.trans g6)
          clear g6
          go_wp2_with fail
          refine (HR2.out _ G6.out).mono ?_
          rintro e w7 ⟨rfl, g7⟩
          have G7 := Lib.hid (G6.out.trans g7)
          clear g7
          go_wp2_with fail
          refine (HR3.out _ G7.out).mono ?_
          rintro e w8 ⟨rfl, g8⟩
          have G8 := Lib.hid (G7.out.trans g8)
          clear g8
          go_wp2_with fail
          refine (HR4.out _ G8.out).mono ?_
          rintro e w9 ⟨rfl, g9⟩
          have G9 := Lib.hid (G8.out.trans g9)
          clear g9
          clear HR1 HR2 HR3 HR4
          go_wp2_with fail
          go_loopw [18] (fun i wr => ∃ n : Nat, n ≤ 64 ∧ i = .int .i64 n ∧ Frm (fun _ => False) w9 wr) (fun i _ => 64 - (intOf i).toNat)
          case atStart => exact ⟨0, Nat.zero_le _, rfl, Frm.refl _ _⟩
          case round =>
            obtain ⟨n, hn, rfl, gn⟩ := hrel
            have hn0 : (0 : Int) ≤ (n : Int) := by omega
            have GN := Lib.hid gn
            clear gn
            by_cases hlt3 : n < 64
            · have hni : (n : Int) < 64 := by omega
              have hnd : decide ((n : Int) < 64) = true := decide_eq_true hni
              have hn1 : n < (bs now).size := by omega
              have hn2 : n < (bs seen).size := by omega
              have hq1 : now[n]? = some ((bs now)[n]'hn1) := by
                rw [List.getElem?_eq_getElem (by omega)]
                rfl
              have hq2 : seen[n]? = some ((bs seen)[n]'hn2) := by
                rw [List.getElem?_eq_getElem (by omega)]
                rfl
              by_cases heq : now[n]? = seen[n]?
              · have hbb : ((((bs now)[n]'hn1).toNat : Int) == (((bs seen)[n]'hn2).toNat : Int)) = true := by
                  rw [hq1, hq2] at heq
                  rw [Option.some.inj heq]
                  simp
                clear heq hq1 hq2
                go_wp2_with fail
                go_quiet (fail)
                go_wp2_with fail
                go_roundw
                case rel => exact ⟨n + 1, by omega, by go_num, GN.out.drewN _⟩
                case measure => simp [intOf]; omega
              · have hdrop : now.drop n = old.drop n := by
                  have := DV.left_drop HN1.out.2 cs k n (.inr (by rw [HO.out.2.2, HO.out.2.1]; exact heq))
                  rw [HO.out.2.2, HO.out.1] at this
                  exact this
                have hbb : ((((bs now)[n]'hn1).toNat : Int) == (((bs seen)[n]'hn2).toNat : Int)) = false := by
                  rw [beq_eq_false_iff_ne]
                  intro e
                  apply heq
                  have e2 : (bs now)[n]'hn1 = (bs seen)[n]'hn2 := UInt8.toNat_inj.1 (by omega)
                  rw [hq1, hq2, e2]
                clear heq hq1 hq2
                go_wp2_with fail
                go_quiet (fail)
                go_wp2_with fail
                obtain ⟨wd, hwd⟩ : ∃ wd, wr.drewN nq = wd := ⟨_, rfl⟩
                have gd := GN.out.drewN nq
                rw [hwd] at gd ⊢
                have GD := Lib.hid gd
                clear gd hwd
                have hni2 : (n : Int) ≤ 64 := by omega
                have hex : (((bs now).extract n 64).toList == ((bs old).extract n 64).toList) = true := by
                  rw [bs_ext2 now n 64 (by omega), bs_ext2 old n 64 (by omega), List.take_of_length_le (by omega), List.take_of_length_le (by omega), hdrop]
                  simp
                clear hdrop
                go_quiet (fail)
                obtain ⟨we, hwe⟩ : ∃ we, wd.drewN nq = we := ⟨_, rfl⟩
                have ge := GD.out.drewN nq
                rw [hwe] at ge ⊢
                have GE := Lib.hid (G9.out.trans ge)
                clear ge hwe hex
                cases hsome : (D1.X k).isSome with
                | true =>
                  have hat := DV.at_rank HN1.out.2 hsome
                  have hsuc := DV.rank_succ D1 k
                  rw [hsome, if_pos rfl] at hsuc
                  rw [HRK.out] at hat hsuc
                  obtain ⟨hRl, hRe⟩ := List.getElem?_eq_some_iff.1 hat
                  have hRN : R < N := by rw [H5.out.2.2.2.2] at hRl; exact hRl
                  obtain ⟨g, off, rfl, hg, c00⟩ := H5.out.2.2.2.1.at R (by rw [List.length_map]; exact hRl)
                  have c0 : we.cell? ⟨g, off + R, none⟩ = some (.int .i64 (k : Int)) := by
                    rw [World.cell?_of_block (a := ⟨g, off + R, none⟩) (GE.out.block g hg (fun h => h)), c00, List.getElem_map, hRe]
                    rfl
                  have hri : (R : Int) < (N : Int) := by omega
                  have hr0 : (0 : Int) ≤ (R : Int) := by omega
                  have HSU := Lib.hid hsuc
                  clear hat hsuc c00 hRe hsome
                  go_wp2_with fail
                  go_roundw
                  case rel => exact ⟨k + 1, by omega, by go_num, by rw [HSU.out]; go_num, GE.out⟩
                  case measure => simp [intOf]; omega
                | false =>
                  have hXn : D1.X k = none := by
                    cases e : D1.X k with
                    | none => rfl
                    | some y => rw [e] at hsome; cases hsome
                  have e1 : now = old := by rw [← HO.out.2.2, ← HO.out.1]; exact DV.left_none hXn cs
                  have e2 : seen = old := by rw [← HO.out.2.1, ← HO.out.1]; exact DV.read_none hXn
                  have q1 : ((bs now).toList == (bs old).toList) = true := by rw [e1]; simp
                  have q2 : ((bs seen).toList == (bs old).toList) = true := by rw [e2]; simp
                  have hsuc := DV.rank_succ D1 k
                  rw [hsome, if_neg (by decide), HRK.out] at hsuc
                  have hnr := DV.not_rank HN1.out.2 hsome (i := R)
                  have HSU := Lib.hid hsuc
                  clear e1 e2 hsuc hXn hsome
                  by_cases hRN : R < N
                  · have hRl : R < D1.fresh.length := by rw [H5.out.2.2.2.2]; exact hRN
                    obtain ⟨m, hm⟩ : ∃ m, D1.fresh[R] = m := ⟨_, rfl⟩
                    have hmk : m ≠ k := fun e => hnr (by rw [List.getElem?_eq_getElem hRl, hm, e])
                    obtain ⟨g, off, rfl, hg, c00⟩ := H5.out.2.2.2.1.at R (by rw [List.length_map]; exact hRl)
                    have c0 : we.cell? ⟨g, off + R, none⟩ = some (.int .i64 (m : Int)) := by
                      rw [World.cell?_of_block (a := ⟨g, off + R, none⟩) (GE.out.block g hg (fun h => h)), c00, List.getElem_map, hm]
                      rfl
                    have hri : (R : Int) < (N : Int) := by omega
                    have hr0 : (0 : Int) ≤ (R : Int) := by omega
                    have hmki : ((m : Int) == (k : Int)) = false := by rw [beq_eq_false_iff_ne]; omega
                    have hmkj : ¬ (m : Int) = (k : Int) := by omega
                    clear hnr c00 hm
                    go_wp2_with fail
                    go_roundw
                    case rel => exact ⟨k + 1, by omega, by go_num, by rw [HSU.out, Nat.add_zero], GE.out⟩
                    case measure => simp [intOf]; omega
                  · have hri : ¬ (R : Int) < (N : Int) := by omega
                    clear hnr
                    go_wp2_with fail
                    go_roundw
                    case rel => exact ⟨k + 1, by omega, by go_num, by rw [HSU.out, Nat.add_zero], GE.out⟩
                    case measure => simp [intOf]; omega
            · have hdrop : now.drop n = old.drop n := by rw [List.drop_of_length_le (by omega), List.drop_of_length_le (by omega)]
              have hnd : decide ((n : Int) < 64) = false := decide_eq_false (by omega)
              go_wp2_with fail
              go_quiet (fail)
              go_wp2_with fail
              obtain ⟨wd, hwd⟩ : ∃ wd, wr.drewN nq = wd := ⟨_, rfl⟩
              have gd := GN.out.drewN nq
              rw [hwd] at gd ⊢
              have GD := Lib.hid gd
              clear gd hwd
              have hni2 : (n : Int) ≤ 64 := by omega
              have hex : (((bs now).extract n 64).toList == ((bs old).extract n 64).toList) = true := by
                rw [bs_ext2 now n 64 (by omega), bs_ext2 old n 64 (by omega), List.take_of_length_le (by omega), List.take_of_length_le (by omega), hdrop]
                simp
              clear hdrop
              go_quiet (fail)
              obtain ⟨we, hwe⟩ : ∃ we, wd.drewN nq = we := ⟨_, rfl⟩
              have ge := GD.out.drewN nq
              rw [hwe] at ge ⊢
              have GE := Lib.hid (G9.out.trans ge)
              clear ge hwe hex
              cases hsome : (D1.X k).isSome with
              | true =>
                have hat := DV.at_rank HN1.out.2 hsome
                have hsuc := DV.rank_succ D1 k
                rw [hsome, if_pos rfl] at hsuc
                rw [HRK.out] at hat hsuc
                obtain ⟨hRl, hRe⟩ := List.getElem?_eq_some_iff.1 hat
                have hRN : R < N := by rw [H5.out.2.2.2.2] at hRl; exact hRl
                obtain ⟨g, off, rfl, hg, c00⟩ := H5.out.2.2.2.1.at R (by rw [List.length_map]; exact hRl)
                have c0 : we.cell? ⟨g, off + R, none⟩ = some (.int .i64 (k : Int)) := by
                  rw [World.cell?_of_block (a := ⟨g, off + R, none⟩) (GE.out.block g hg (fun h => h)), c00, List.getElem_map, hRe]
                  rfl
                have hri : (R : Int) < (N : Int) := by omega
                have hr0 : (0 : Int) ≤ (R : Int) := by omega
                have HSU := Lib.hid hsuc
                clear hat hsuc c00 hRe hsome
                go_wp2_with fail
                go_roundw
                case rel => exact ⟨k + 1, by omega, by go_num, by rw [HSU.out]; go_num, GE.out⟩
                case measure => simp [intOf]; omega
              | false =>
                have hXn : D1.X k = none := by
                  cases e : D1.X k with
                  | none => rfl
                  | some y => rw [e] at hsome; cases hsome
                have e1 : now = old := by rw [← HO.out.2.2, ← HO.out.1]; exact DV.left_none hXn cs
                have e2 : seen = old := by rw [← HO.out.2.1, ← HO.out.1]; exact DV.read_none hXn
                have q1 : ((bs now).toList == (bs old).toList) = true := by rw [e1]; simp
                have q2 : ((bs seen).toList == (bs old).toList) = true := by rw [e2]; simp
                have hsuc := DV.rank_succ D1 k
                rw [hsome, if_neg (by decide), HRK.out] at hsuc
                have hnr := DV.not_rank HN1.out.2 hsome (i := R)
                have HSU := Lib.hid hsuc
                clear e1 e2 hsuc hXn hsome
                by_cases hRN : R < N
                · have hRl : R < D1.fresh.length := by rw [H5.out.2.2.2.2]; exact hRN
                  obtain ⟨m, hm⟩ : ∃ m, D1.fresh[R] = m := ⟨_, rfl⟩
                  have hmk : m ≠ k := fun e => hnr (by rw [List.getElem?_eq_getElem hRl, hm, e])
                  obtain ⟨g, off, rfl, hg, c00⟩ := H5.out.2.2.2.1.at R (by rw [List.length_map]; exact hRl)
                  have c0 : we.cell? ⟨g, off + R, none⟩ = some (.int .i64 (m : Int)) := by
                    rw [World.cell?_of_block (a := ⟨g, off + R, none⟩) (GE.out.block g hg (fun h => h)), c00, List.getElem_map, hm]
                    rfl
                  have hri : (R : Int) < (N : Int) := by omega
                  have hr0 : (0 : Int) ≤ (R : Int) := by omega
                  have hmki : ((m : Int) == (k : Int)) = false := by rw [beq_eq_false_iff_ne]; omega
                  have hmkj : ¬ (m : Int) = (k : Int) := by omega
                  clear hnr c00 hm
                  go_wp2_with fail
                  go_roundw
                  case rel => exact ⟨k + 1, by omega, by go_num, by rw [HSU.out, Nat.add_zero], GE.out⟩
                  case measure => simp [intOf]; omega
                · have hri : ¬ (R : Int) < (N : Int) := by omega
                  clear hnr
                  go_wp2_with fail
                  go_roundw
                  case rel => exact ⟨k + 1, by omega, by go_num, by rw [HSU.out, Nat.add_zero], GE.out⟩
                  case measure => simp [intOf]; omega
        · obtain rfl : k = 256 := by omega
          have hrk : D1.rank 256 = N := by
            have := D1.rank_all
            rw [HN1.out.1, H5.out.2.2.2.2] at this
            exact this
          rw [hrk]
          have GR := Lib.hid gr
          have HFL := Lib.hid (flush_any b2 f2 x2 D1 wr (H5.out.2.1.keepF gr))
          clear gr hrk
          go_wp2_with fail
          refine HFL.out.mono ?_
          rintro e w6 ⟨rfl, hd6, g6⟩
          have gw := H5.out.2.2.1.trans GR.out
          have hda := H5.out.1.keepF GR.out
          have hsz := gw.size
          have HC := Lib.hid (copy_any b2 f2 x2 D1.flush w6 hd6)
          have H6 := Lib.hid (And.intro (hda.keep g6 (by omega) (by omega) (by omega)) (And.intro hd6 (gw.addTwo g6 (by omega) (by omega))))
          have hlt6 := hd6.lt
          clear hd6 g6 gw hda HFL hsz
          go_wp2_with fail
          refine HC.out.mono ?_
          rintro e w7 ⟨_, rfl, b3, f3, x3, rfl, hd7, hb3, hf3, hx3, g7⟩
          have h7 := H6.out.2.1.keepF g7
          have hg7 := H6.out.2.2.trans g7
          have HK := Lib.hid (crash_any b2 f2 x2 D1.flush _ cs w7 h7 (HZ.out.1.keepF hg7) HZ.out.2 (by omega) (HZ.out.1.low.imp id fun h q e => by have := h q e; omega))
          have H7 := Lib.hid (And.intro (H6.out.1.keepF g7) (And.intro hd7 hg7))
          clear hd7 g7 h7 hg7 HC
          go_wp2_with fail
          refine HK.out.mono ?_
          rintro e w8 ⟨rfl, hd8, g8⟩
          have H8 := Lib.hid (And.intro (H7.out.1.keep g8 (by omega) (by omega) (by omega)) (And.intro hd8 (And.intro (H7.out.2.1.keep g8 (by omega) (by omega) (by omega)) (H7.out.2.2.addTwo g8 (by omega) (by omega)))))
          clear hd8 g8 HK
          go_wp2_with fail
          go_loopw [20] (fun i wq => ∃ k : Nat, k ≤ 256 ∧ i = .int .i64 k ∧ Frm (fun _ => False) w8 wq) (fun i _ => 256 - (intOf i).toNat)
          case atStart => exact ⟨0, Nat.zero_le _, rfl, Frm.refl _ _⟩
          case round =>
            obtain ⟨k, hk, rfl, gq⟩ := hrel
            by_cases hlt : k < 256
            · have hki : (k : Int) < 256 := by omega
              have hz : Z64 (k : Int) := by unfold Z64; omega
              have hbad : D1.bad (k : Int) = false := decide_eq_false (by have := HN1.out; omega)
              have hR1 : ∀ W, Frm (fun _ => False) w8 W → Calls Try.prog 26 #[.pointer (some ⟨b2, 0, none⟩), .int .i64 (k : Int)] W fun e w' => e = .returned (.tuple #[.string (bs (D1.read k)), .int .i64 0]) ∧ Frm (fun _ => False) W w' := fun W g => by
                have := read_any b2 f2 x2 (D1.flush.crash cs) (k : Int) W (H8.out.2.1.keepF g) hz
                rw [show (D1.flush.crash cs).bad (k : Int) = false from hbad] at this
                exact this
              have hR2 : ∀ W, Frm (fun _ => False) w8 W → Calls Try.prog 26 #[.pointer (some ⟨b3, 0, none⟩), .int .i64 (k : Int)] W fun e w' => e = .returned (.tuple #[.string (bs (D1.read k)), .int .i64 0]) ∧ Frm (fun _ => False) W w' := fun W g => by
                have := read_any b3 f3 x3 D1.flush (k : Int) W (H8.out.2.2.1.keepF g) hz
                rw [show D1.flush.bad (k : Int) = false from hbad] at this
                exact this
              obtain ⟨r, hr⟩ : ∃ r, D1.read k = r := ⟨_, rfl⟩
              rw [hr] at hR1 hR2
              have GQ := Lib.hid gq
              have HR1 := Lib.hid (hR1 wr gq)
              have HR2 := Lib.hid hR2
              clear hR1 hR2 hr gq hbad hz
              go_wp2_with fail
              refine HR1.out.mono ?_
              rintro e w9 ⟨rfl, g9⟩
              have G9 := Lib.hid (GQ.out.trans g9)
              clear g9
              go_wp2_with fail
              refine (HR2.out _ G9.out).mono ?_
              rintro e w10 ⟨rfl, g10⟩
              have G10 := Lib.hid (G9.out.trans g10)
              clear g10
              go_wp2_with fail
              go_roundw
              case rel => exact ⟨k + 1, by omega, by go_num, G10.out⟩
              case measure => simp [intOf]; omega
            · obtain rfl : k = 256 := by omega
              have GQ := Lib.hid gq
              have HFR := Lib.hid (fresh_any b f x (D1.crash cs) wr (H8.out.1.keepF gq))
              clear gq
              go_wp2_with fail
              refine HFR.out.mono ?_
              rintro e w9 ⟨u, rfl, hu, _, g9⟩
              rw [DV.crash_fresh] at hu
              obtain ⟨aq, cq, rfl, hq1, hq2⟩ := hu.zs.slice
              have G9 := Lib.hid (GQ.out.trans g9)
              clear hu g9
              go_wp2_with fail
              refine (HW.out _).mono ?_
              rintro e w10 ⟨rfl, g10⟩
              have G10 := Lib.hid ((H8.out.2.2.2.trans G9.out).trans g10)
              clear g10
              go_wp2_with fail
              go_ret
              exact ⟨rfl, G10.out⟩
    · have hl2 : (20 : Int) < (cs.length : Int) := by omega
      go_wp2_with fail
      refine HF.out.mono ?_
      rintro e w2 ⟨rfl, rfl⟩
      go_wp2_with fail
      refine (HW.out _).mono ?_
      rintro e w3 ⟨rfl, g3⟩
      have G3 := Lib.hid (H1.out.2.trans g3)
      clear g3
      go_wp2_with fail
      go_ret
      exact ⟨rfl, G3.out⟩
end Go.Proofs.Ytnhihadnaiaojaa
